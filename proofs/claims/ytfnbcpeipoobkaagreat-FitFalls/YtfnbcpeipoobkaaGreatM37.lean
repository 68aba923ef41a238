/- The first statement's walk: forms, order, the direction across. The document's own Twice: the first error of a list of directions. The document's own Katz: sums of steps. Slices of directions; two of them alike. -/
import Derived.Test.YtfnbcpeipoobkaaGreatM22
import Derived.Deep.RegionHeld3
import Derived.Test.YtfnbcpeipoobkaaGreatM36
import Derived.BigQuiet
namespace Go.Proofs.YtfnbcpeipoobkaaGreat
open Go.RowKit

theorem fix_normal : normalS (-4) (-6) = ((2, 3), 0) := by decide +kernel
theorem fix_check : checkS 0 0 = 60 := by decide +kernel

theorem below_on {w0 w w' : World} (h : Below w0.heap.size w0 w) (hb : Below w.heap.size w w') : Below w0.heap.size w0 w' := h.trans (hb.mono h.size)
theorem below_alloc (w : World) (o : Obj) : Below w.heap.size w (w.alloc o) := (Below.refl _ _).alloc (Nat.le_refl _) _

/-- A direction in a box of its own. -/
structure BoxD (w : World) (b : Nat) (x y : Int) : Prop where
  one : w.cell? ⟨b, 0, none⟩ = some (.int .i64 x)
  two : w.cell? ⟨b, 1, none⟩ = some (.int .i64 y)
  lt : b < w.heap.size

theorem boxD_below {w w' : World} {b : Nat} {x y : Int} (h : BoxD w b x y) (hb : Below w.heap.size w w') : BoxD w' b x y :=
  ⟨(hb.cell h.lt).trans h.one, (hb.cell h.lt).trans h.two, Nat.lt_of_lt_of_le h.lt hb.size⟩
theorem boxD_new (w : World) (x y : Int) : BoxD (w.alloc (.cells #[.int .i64 x, .int .i64 y] 38)) w.heap.size x y := ⟨by simp [go_sem], by simp [go_sem], by simp⟩

end Go.Proofs.YtfnbcpeipoobkaaGreat

namespace Go.Proofs.YtfnbcpeipoobkaaGreat
open Go.RowKit

/-- The first error of a list, what stands ahead of it seen. -/
def twiceFrom : List (Int × Int) → List (Int × Int) → Int
  | _, [] => 0
  | seen, d :: r => if okD d.1 d.2 then (if d ∈ seen then 3 else twiceFrom (seen ++ [d]) r) else 60
def twiceS (L : List (Int × Int)) : Int := twiceFrom [] L

theorem twice_end {L : List (Int × Int)} : twiceFrom (L.take L.length) (L.drop L.length) = 0 := by
  rw [List.drop_length]
  rfl
theorem twice_bad {L : List (Int × Int)} {i : Nat} {d : Int × Int} (hd : L[i]? = some d) (h : okD d.1 d.2 = false) : twiceFrom (L.take i) (L.drop i) = 60 := by
  have hi := (List.getElem?_eq_some_iff.1 hd).1
  have e := (List.getElem?_eq_some_iff.1 hd).2
  rw [List.drop_eq_getElem_cons hi, e]
  unfold twiceFrom
  rw [if_neg (by rw [h]; decide)]
theorem twice_seen {L : List (Int × Int)} {i k : Nat} {d : Int × Int} (hd : L[i]? = some d) (h : okD d.1 d.2 = true) (hk : k < i) (he : L[k]? = some d) : twiceFrom (L.take i) (L.drop i) = 3 := by
  have hi := (List.getElem?_eq_some_iff.1 hd).1
  have e := (List.getElem?_eq_some_iff.1 hd).2
  rw [List.drop_eq_getElem_cons hi, e]
  unfold twiceFrom
  have hm : d ∈ L.take i := by
    refine List.mem_of_getElem? (i := k) ?_
    rw [List.getElem?_take, if_pos hk]
    exact he
  rw [if_pos h, if_pos hm]
theorem twice_on {L : List (Int × Int)} {i : Nat} {d : Int × Int} (hd : L[i]? = some d) (h : okD d.1 d.2 = true) (hk : ∀ k, k < i → L[k]? ≠ some d) : twiceFrom (L.take i) (L.drop i) = twiceFrom (L.take (i + 1)) (L.drop (i + 1)) := by
  have hi := (List.getElem?_eq_some_iff.1 hd).1
  have e := (List.getElem?_eq_some_iff.1 hd).2
  have hm : ¬ d ∈ L.take i := by
    intro hm
    obtain ⟨k, hk2⟩ := List.mem_iff_getElem?.1 hm
    rw [List.getElem?_take] at hk2
    by_cases c : k < i
    · rw [if_pos c] at hk2
      exact hk k c hk2
    · rw [if_neg c] at hk2
      cases hk2
  rw [List.drop_eq_getElem_cons hi, e, List.take_succ_eq_append_getElem hi, e]
  show (if okD d.1 d.2 then (if d ∈ L.take i then 3 else twiceFrom (L.take i ++ [d]) (L.drop (i + 1))) else 60) = _
  rw [if_pos h, if_neg hm]

theorem pairs2_get {L : List (Int × Int)} {i : Nat} (hi : i < L.length) : ∃ x y, L[i]? = some (x, y) := ⟨L[i].1, L[i].2, List.getElem?_eq_getElem hi⟩

/-- Directions, each of ints. -/
def All64 (L : List (Int × Int)) : Prop := ∀ (i : Nat) (d : Int × Int), L[i]? = some d → Dir64 d

end Go.Proofs.YtfnbcpeipoobkaaGreat

namespace Go.Proofs.YtfnbcpeipoobkaaGreat
open Go.RowKit

def sumP : List (Int × Int) → Int
  | [] => 0
  | d :: r => d.1.natAbs + sumP r
def sumQ : List (Int × Int) → Int
  | [] => 0
  | d :: r => d.2 + sumQ r
theorem sumP_snoc (L : List (Int × Int)) (d : Int × Int) : sumP (L ++ [d]) = sumP L + d.1.natAbs := by
  induction L with
  | nil => simp [sumP]
  | cons a l ih => simp only [List.cons_append, sumP, ih]; omega
theorem sumQ_snoc (L : List (Int × Int)) (d : Int × Int) : sumQ (L ++ [d]) = sumQ L + d.2 := by
  induction L with
  | nil => simp [sumQ]
  | cons a l ih => simp only [List.cons_append, sumQ, ih]; omega
theorem sum_small {L : List (Int × Int)} (h : ∀ d, d ∈ L → okD d.1 d.2 = true) : 0 ≤ sumP L ∧ sumP L ≤ 16 * L.length ∧ 0 ≤ sumQ L ∧ sumQ L ≤ 16 * L.length := by
  induction L with
  | nil => exact ⟨by decide, by decide, by decide, by decide⟩
  | cons a l ih =>
    have h1 := ih fun d hd => h d (List.mem_cons_of_mem _ hd)
    have h2 := okD_bounds (h a (List.mem_cons_self ..))
    simp only [sumP, sumQ, List.length_cons]
    omega

theorem twice_good {seen L : List (Int × Int)} (h : twiceFrom seen L = 0) : (∀ d, d ∈ L → okD d.1 d.2 = true) ∧ L.Nodup ∧ ∀ d, d ∈ L → ¬ d ∈ seen := by
  induction L generalizing seen with
  | nil => exact ⟨fun d hd => (by cases hd), List.nodup_nil, fun d hd => (by cases hd)⟩
  | cons a l ih =>
    unfold twiceFrom at h
    by_cases c1 : okD a.1 a.2 = true
    · rw [if_pos c1] at h
      by_cases c2 : a ∈ seen
      · rw [if_pos c2] at h
        exact absurd h (by decide)
      · rw [if_neg c2] at h
        obtain ⟨i1, i2, i3⟩ := ih h
        refine ⟨fun d hd => ?_, ?_, fun d hd => ?_⟩
        · rcases List.mem_cons.1 hd with rfl | hd
          · exact c1
          · exact i1 d hd
        · exact List.nodup_cons.2 ⟨fun hm => i3 a hm (by simp), i2⟩
        · rcases List.mem_cons.1 hd with rfl | hd
          · exact c2
          · exact fun hm => i3 d hd (by simp [hm])
    · rw [if_neg c1] at h
      exact absurd h (by decide)

theorem nodup_le {L M : List (Int × Int)} (h : L.Nodup) (hs : ∀ d, d ∈ L → d ∈ M) : L.length ≤ M.length := by
  induction L generalizing M with
  | nil => exact Nat.zero_le _
  | cons a l ih =>
    obtain ⟨h1, h2⟩ := List.nodup_cons.1 h
    have hm : a ∈ M := hs a (List.mem_cons_self ..)
    have hl : l.length ≤ (M.erase a).length := by
      refine ih h2 fun d hd => ?_
      have hne : d ≠ a := fun e => h1 (e ▸ hd)
      exact (List.mem_erase_of_ne hne).2 (hs d (List.mem_cons_of_mem _ hd))
    have := List.length_erase_of_mem hm
    have := List.length_pos_of_mem hm
    simp only [List.length_cons]
    omega

def allDirs : List (Int × Int) := (List.range 33).flatMap fun (i : Nat) => (List.range 17).map fun (j : Nat) => ((i : Int) - 16, (j : Int))
theorem allDirs_len : allDirs.length = 561 := by decide +kernel
theorem mem_allDirs {P Q : Int} (h : okD P Q = true) : (P, Q) ∈ allDirs := by
  obtain ⟨b1, b2, b3⟩ := okD_bounds h
  unfold allDirs
  refine List.mem_flatMap.2 ⟨(P + 16).toNat, List.mem_range.2 (by omega), List.mem_map.2 ⟨Q.toNat, List.mem_range.2 (by omega), ?_⟩⟩
  refine Prod.ext ?_ ?_
  · show ((P + 16).toNat : Int) - 16 = P
    omega
  · show (Q.toNat : Int) = Q
    omega
theorem twice_len {L : List (Int × Int)} (h : twiceS L = 0) : L.length ≤ 561 := by
  obtain ⟨h1, h2, _⟩ := twice_good h
  rw [← allDirs_len]
  exact nodup_le h2 fun d hd => mem_allDirs (h1 d hd)

def katzS (n : Int) (L : List (Int × Int)) : Bool × Int := if n < 1 ∨ 64 < n then (false, 1) else if twiceS L ≠ 0 then (false, twiceS L) else (decide (n ≤ sumP L ∨ n ≤ sumQ L), 0)

end Go.Proofs.YtfnbcpeipoobkaaGreat

namespace Go.Proofs.YtfnbcpeipoobkaaGreat
open Go.RowKit

/-- A slice of directions in memory. -/
structure Dirs (w : World) (a : Option Addr) (g o : Nat) (L : List (Int × Int)) : Prop where
  at_ : 0 < L.length → a = some ⟨g, o, none⟩ ∧ g < w.heap.size
  cell : ∀ i c, L[i]? = some c → w.cell? ⟨g, o + i * 2, none⟩ = some (.int .i64 c.1) ∧ w.cell? ⟨g, o + i * 2 + 1, none⟩ = some (.int .i64 c.2)

theorem dirs_below {w w' : World} {a : Option Addr} {g o : Nat} {L : List (Int × Int)} (h : Dirs w a g o L) (hb : Below w.heap.size w w') : Dirs w' a g o L := by
  refine ⟨fun hl => ⟨(h.at_ hl).1, Nat.lt_of_lt_of_le (h.at_ hl).2 hb.size⟩, fun i c hi => ?_⟩
  have hl : 0 < L.length := by
    have := (List.getElem?_eq_some_iff.1 hi).1
    omega
  exact ⟨(hb.cell (h.at_ hl).2).trans (h.cell i c hi).1, (hb.cell (h.at_ hl).2).trans (h.cell i c hi).2⟩

theorem dirs_owns {w : World} {B : Nat} {v : Value} {L : List (Int × Int)} (h : w.ownsRow B 38 2 v L.length (flat2 L)) : ∃ a cap g, v = .slice a L.length cap ∧ Dirs w a g 0 L := by
  rcases h.2 with ⟨h1, h2⟩ | ⟨g, cap, cur, h1, h2, h3, h4, h5, h6, h7⟩
  · refine ⟨none, 0, 0, by rw [h2]; exact h1, ⟨fun hl => by omega, fun i c hi => ?_⟩⟩
    have := (List.getElem?_eq_some_iff.1 hi).1
    omega
  · refine ⟨_, cap, g, h1, ⟨fun _ => ⟨rfl, (Array.getElem?_eq_some_iff.1 h3).1⟩, fun i c hi => ?_⟩⟩
    have hlt := (List.getElem?_eq_some_iff.1 hi).1
    obtain ⟨f1, f2⟩ := flat2_get hi
    rw [← h7, List.getElem?_take, if_pos (by omega)] at f1 f2
    rw [Nat.zero_add]
    refine ⟨?_, ?_⟩
    · simp [World.cell?, h3]
      simpa using f1
    · simp [World.cell?, h3]
      simpa using f2

theorem infoDir : ((barP Tryz.prog).info? 38).map (fun i => (i.zero, i.size, i.bytes)) = some (some (.agg #[.int .i64 0, .int .i64 0]), 2, 16) := by kernel_rfl

theorem flat2_at {L : List (Int × Int)} {j : Nat} {u : Value} (h : (flat2 L)[j]? = some u) : ∃ i c, L[i]? = some c ∧ ((j = i * 2 ∧ u = .int .i64 c.1) ∨ (j = i * 2 + 1 ∧ u = .int .i64 c.2)) := by
  have hj := (List.getElem?_eq_some_iff.1 h).1
  rw [flat2_length] at hj
  obtain ⟨x, y, hc⟩ := pairs2_get (L := L) (i := j / 2) (by omega)
  obtain ⟨f1, f2⟩ := flat2_get hc
  by_cases c : j % 2 = 0
  · have e : j = j / 2 * 2 := by omega
    rw [← e, h] at f1
    exact ⟨j / 2, (x, y), hc, Or.inl ⟨e, by simpa using f1⟩⟩
  · have e : j = j / 2 * 2 + 1 := by omega
    rw [← e, h] at f2
    exact ⟨j / 2, (x, y), hc, Or.inr ⟨e, by simpa using f2⟩⟩

theorem addr_plus (g o j : Nat) : (⟨g, o, none⟩ : Addr).add j = ⟨g, o + j, none⟩ := by unfold Addr.add; split <;> simp_all

end Go.Proofs.YtfnbcpeipoobkaaGreat
