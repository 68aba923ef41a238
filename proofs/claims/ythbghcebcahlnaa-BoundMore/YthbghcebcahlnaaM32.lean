/- The worker's counter. The first statement's walk: forms, order, the direction across. The document's own Twice: the first error of a list of directions. The document's own Katz: sums of steps. -/
import Derived.Test.YthbghcebcahlnaaM31
import Derived.Test.YthbghcebcahlnaaM23
import Derived.Deep.RegionHeld3
import Derived.Test.YthbghcebcahlnaaM24
import Derived.BigQuiet
namespace Go.Proofs.Ythbghcebcahlnaa
open Go.RowKit

/-- The counter, one up. -/
theorem run_addInt64 (w : World) (g : Nat) (t d : Int) (hc : w.cell? ⟨g, 0, none⟩ = some (.int .i64 t)) (hf : w.frozen? ⟨g, 0, none⟩ = false) : (callFunc 42 #[.pointer (some ⟨g, 0, none⟩), .int .i64 d]).run (barP Try.prog) w = .ok (.value (.int .i64 (IntKind.i64.wrap (t + d)))) (w.setCell ⟨g, 0, none⟩ (.int .i64 (IntKind.i64.wrap (t + d)))) := by
  rw [run_callFunc_extern (e := Extern.Atomic.update (Op.intArith .add) .i64 true) Bar.func42 (by kernel_rfl) (by kernel_rfl) (by kernel_rfl) (by kernel_rfl)]
  have : (Extern.Atomic.update (Op.intArith .add) .i64 true #[.pointer (some ⟨g, 0, none⟩), .int .i64 d]).run (barP Try.prog) w = .ok (.int .i64 (IntKind.i64.wrap (t + d))) (w.setCell ⟨g, 0, none⟩ (.int .i64 (IntKind.i64.wrap (t + d)))) := by
    show (asAddr (.pointer (some ⟨g, 0, none⟩)) >>= fun a => Extern.Atomic.read (.int .i64) a >>= fun old => asInt old >>= fun x => asInt (.int .i64 d) >>= fun y => Op.intArith .add .i64 x y >>= fun new => store a new .atomic >>= fun _ => pure new).run (barP Try.prog) w = _
    simp [Extern.Atomic.read, asAddr, asInt, asIntOf, Op.intArith, go_sem, hc, hf]
  rw [this]
  rfl
theorem wrap_up (t : Nat) (ht : t ≤ 1000) : IntKind.i64.wrap ((t : Int) + 1) = (t : Int) + 1 := by rw [IntKind.wrap_i64]; omega
theorem wrap_dn (t : Nat) (ht : t ≤ 1000) : IntKind.i64.wrap ((t : Int) + 1 - 1) = (t : Int) := by rw [IntKind.wrap_i64]; omega
set_option maxRecDepth 100000 in
set_option maxHeartbeats 3200000 in
theorem intAdd (w : World) (g t : Nat) (ht : t ≤ 1000) (hc : w.cell? ⟨g, 0, none⟩ = some (.int .i64 (t : Int))) (hf : w.frozen? ⟨g, 0, none⟩ = false) : Calls (barP Try.prog) 26 #[.pointer (some ⟨g, 0, none⟩), .int .i64 1] w fun e w' => e = .returned (.int .i64 ((t : Int) + 1)) ∧ w' = w.setCell ⟨g, 0, none⟩ (.int .i64 ((t : Int) + 1)) := by
  have k := run_addInt64 w g t 1 hc hf
  rw [wrap_up t ht] at k
  go_enter Bar.func26, Bar.ntmps26
  go_wp2_with fail
  go_ret
  exact ⟨rfl, rfl⟩
set_option maxRecDepth 100000 in
set_option maxHeartbeats 3200000 in
/-- next(): the next direction that none has taken. -/
theorem nextOk (w : World) (g t : Nat) (ht : t ≤ 1000) (hc : w.cell? ⟨g, 0, none⟩ = some (.int .i64 (t : Int))) (hf : w.frozen? ⟨g, 0, none⟩ = false) : Calls (barP Try.prog) 25 #[.pointer (some ⟨g, 0, none⟩)] w fun e w' => e = .returned (.int .i64 (t : Int)) ∧ w' = w.setCell ⟨g, 0, none⟩ (.int .i64 ((t : Int) + 1)) := by
  have hd := wrap_dn t ht
  go_enter Bar.func25, Bar.ntmps25
  go_wp2_with fail
  refine (intAdd w g t ht hc hf).mono ?_
  rintro e w' ⟨rfl, rfl⟩
  go_wp2_with fail
  go_ret
  exact ⟨rfl, rfl⟩
end Go.Proofs.Ythbghcebcahlnaa

namespace Go.Proofs.Ythbghcebcahlnaa
open Go.RowKit

theorem fix_normal : normalS (-4) (-6) = ((2, 3), 0) := by decide +kernel
theorem fix_check : checkS 0 0 = 60 := by decide +kernel

theorem below_on {w0 w w' : World} (h : Below w0.heap.size w0 w) (hb : Below w.heap.size w w') : Below w0.heap.size w0 w' := h.trans (hb.mono h.size)
theorem below_alloc (w : World) (o : Obj) : Below w.heap.size w (w.alloc o) := (Below.refl _ _).alloc (Nat.le_refl _) _

/-- A direction in a box of its own. -/
structure BoxD (w : World) (b : Nat) (x y : Int) : Prop where
  one : w.cell? ⟨b, 0, none⟩ = some (.int .i64 x)
  two : w.cell? ⟨b, 1, none⟩ = some (.int .i64 y)
  lt : b < w.heap.size

theorem boxD_below {w w' : World} {b : Nat} {x y : Int} (h : BoxD w b x y) (hb : Below w.heap.size w w') : BoxD w' b x y :=
  ⟨(hb.cell h.lt).trans h.one, (hb.cell h.lt).trans h.two, Nat.lt_of_lt_of_le h.lt hb.size⟩
theorem boxD_new (w : World) (x y : Int) : BoxD (w.alloc (.cells #[.int .i64 x, .int .i64 y] 47)) w.heap.size x y := ⟨by simp [go_sem], by simp [go_sem], by simp⟩

end Go.Proofs.Ythbghcebcahlnaa

namespace Go.Proofs.Ythbghcebcahlnaa
open Go.RowKit

/-- The first error of a list, what stands ahead of it seen. -/
def twiceFrom : List (Int × Int) → List (Int × Int) → Int
  | _, [] => 0
  | seen, d :: r => if okD d.1 d.2 then (if d ∈ seen then 3 else twiceFrom (seen ++ [d]) r) else 60
def twiceS (L : List (Int × Int)) : Int := twiceFrom [] L

theorem twice_end {L : List (Int × Int)} : twiceFrom (L.take L.length) (L.drop L.length) = 0 := by
  rw [List.drop_length]
  rfl
theorem twice_bad {L : List (Int × Int)} {i : Nat} {d : Int × Int} (hd : L[i]? = some d) (h : okD d.1 d.2 = false) : twiceFrom (L.take i) (L.drop i) = 60 := by
  have hi := (List.getElem?_eq_some_iff.1 hd).1
  have e := (List.getElem?_eq_some_iff.1 hd).2
  rw [List.drop_eq_getElem_cons hi, e]
  unfold twiceFrom
  rw [if_neg (by rw [h]; decide)]
theorem twice_seen {L : List (Int × Int)} {i k : Nat} {d : Int × Int} (hd : L[i]? = some d) (h : okD d.1 d.2 = true) (hk : k < i) (he : L[k]? = some d) : twiceFrom (L.take i) (L.drop i) = 3 := by
  have hi := (List.getElem?_eq_some_iff.1 hd).1
  have e := (List.getElem?_eq_some_iff.1 hd).2
  rw [List.drop_eq_getElem_cons hi, e]
  unfold twiceFrom
  have hm : d ∈ L.take i := by
    refine List.mem_of_getElem? (i := k) ?_
    rw [List.getElem?_take, if_pos hk]
    exact he
  rw [if_pos h, if_pos hm]
theorem twice_on {L : List (Int × Int)} {i : Nat} {d : Int × Int} (hd : L[i]? = some d) (h : okD d.1 d.2 = true) (hk : ∀ k, k < i → L[k]? ≠ some d) : twiceFrom (L.take i) (L.drop i) = twiceFrom (L.take (i + 1)) (L.drop (i + 1)) := by
  have hi := (List.getElem?_eq_some_iff.1 hd).1
  have e := (List.getElem?_eq_some_iff.1 hd).2
  have hm : ¬ d ∈ L.take i := by
    intro hm
    obtain ⟨k, hk2⟩ := List.mem_iff_getElem?.1 hm
    rw [List.getElem?_take] at hk2
    by_cases c : k < i
    · rw [if_pos c] at hk2
      exact hk k c hk2
    · rw [if_neg c] at hk2
      cases hk2
  rw [List.drop_eq_getElem_cons hi, e, List.take_succ_eq_append_getElem hi, e]
  show (if okD d.1 d.2 then (if d ∈ L.take i then 3 else twiceFrom (L.take i ++ [d]) (L.drop (i + 1))) else 60) = _
  rw [if_pos h, if_neg hm]

theorem pairs2_get {L : List (Int × Int)} {i : Nat} (hi : i < L.length) : ∃ x y, L[i]? = some (x, y) := ⟨L[i].1, L[i].2, List.getElem?_eq_getElem hi⟩

/-- Directions, each of ints. -/
def All64 (L : List (Int × Int)) : Prop := ∀ (i : Nat) (d : Int × Int), L[i]? = some d → Dir64 d

end Go.Proofs.Ythbghcebcahlnaa

namespace Go.Proofs.Ythbghcebcahlnaa
open Go.RowKit

def sumP : List (Int × Int) → Int
  | [] => 0
  | d :: r => d.1.natAbs + sumP r
def sumQ : List (Int × Int) → Int
  | [] => 0
  | d :: r => d.2 + sumQ r
theorem sumP_snoc (L : List (Int × Int)) (d : Int × Int) : sumP (L ++ [d]) = sumP L + d.1.natAbs := by
  induction L with
  | nil => simp [sumP]
  | cons a l ih => simp only [List.cons_append, sumP, ih]; omega
theorem sumQ_snoc (L : List (Int × Int)) (d : Int × Int) : sumQ (L ++ [d]) = sumQ L + d.2 := by
  induction L with
  | nil => simp [sumQ]
  | cons a l ih => simp only [List.cons_append, sumQ, ih]; omega
theorem sum_small {L : List (Int × Int)} (h : ∀ d, d ∈ L → okD d.1 d.2 = true) : 0 ≤ sumP L ∧ sumP L ≤ 16 * L.length ∧ 0 ≤ sumQ L ∧ sumQ L ≤ 16 * L.length := by
  induction L with
  | nil => exact ⟨by decide, by decide, by decide, by decide⟩
  | cons a l ih =>
    have h1 := ih fun d hd => h d (List.mem_cons_of_mem _ hd)
    have h2 := okD_bounds (h a (List.mem_cons_self ..))
    simp only [sumP, sumQ, List.length_cons]
    omega

theorem twice_good {seen L : List (Int × Int)} (h : twiceFrom seen L = 0) : (∀ d, d ∈ L → okD d.1 d.2 = true) ∧ L.Nodup ∧ ∀ d, d ∈ L → ¬ d ∈ seen := by
  induction L generalizing seen with
  | nil => exact ⟨fun d hd => (by cases hd), List.nodup_nil, fun d hd => (by cases hd)⟩
  | cons a l ih =>
    unfold twiceFrom at h
    by_cases c1 : okD a.1 a.2 = true
    · rw [if_pos c1] at h
      by_cases c2 : a ∈ seen
      · rw [if_pos c2] at h
        exact absurd h (by decide)
      · rw [if_neg c2] at h
        obtain ⟨i1, i2, i3⟩ := ih h
        refine ⟨fun d hd => ?_, ?_, fun d hd => ?_⟩
        · rcases List.mem_cons.1 hd with rfl | hd
          · exact c1
          · exact i1 d hd
        · exact List.nodup_cons.2 ⟨fun hm => i3 a hm (by simp), i2⟩
        · rcases List.mem_cons.1 hd with rfl | hd
          · exact c2
          · exact fun hm => i3 d hd (by simp [hm])
    · rw [if_neg c1] at h
      exact absurd h (by decide)

theorem nodup_le {L M : List (Int × Int)} (h : L.Nodup) (hs : ∀ d, d ∈ L → d ∈ M) : L.length ≤ M.length := by
  induction L generalizing M with
  | nil => exact Nat.zero_le _
  | cons a l ih =>
    obtain ⟨h1, h2⟩ := List.nodup_cons.1 h
    have hm : a ∈ M := hs a (List.mem_cons_self ..)
    have hl : l.length ≤ (M.erase a).length := by
      refine ih h2 fun d hd => ?_
      have hne : d ≠ a := fun e => h1 (e ▸ hd)
      exact (List.mem_erase_of_ne hne).2 (hs d (List.mem_cons_of_mem _ hd))
    have := List.length_erase_of_mem hm
    have := List.length_pos_of_mem hm
    simp only [List.length_cons]
    omega

def allDirs : List (Int × Int) := (List.range 33).flatMap fun (i : Nat) => (List.range 17).map fun (j : Nat) => ((i : Int) - 16, (j : Int))
theorem allDirs_len : allDirs.length = 561 := by decide +kernel
theorem mem_allDirs {P Q : Int} (h : okD P Q = true) : (P, Q) ∈ allDirs := by
  obtain ⟨b1, b2, b3⟩ := okD_bounds h
  unfold allDirs
  refine List.mem_flatMap.2 ⟨(P + 16).toNat, List.mem_range.2 (by omega), List.mem_map.2 ⟨Q.toNat, List.mem_range.2 (by omega), ?_⟩⟩
  refine Prod.ext ?_ ?_
  · show ((P + 16).toNat : Int) - 16 = P
    omega
  · show (Q.toNat : Int) = Q
    omega
theorem twice_len {L : List (Int × Int)} (h : twiceS L = 0) : L.length ≤ 561 := by
  obtain ⟨h1, h2, _⟩ := twice_good h
  rw [← allDirs_len]
  exact nodup_le h2 fun d hd => mem_allDirs (h1 d hd)

def katzS (n : Int) (L : List (Int × Int)) : Bool × Int := if n < 1 ∨ 64 < n then (false, 1) else if twiceS L ≠ 0 then (false, twiceS L) else (decide (n ≤ sumP L ∨ n ≤ sumQ L), 0)

end Go.Proofs.Ythbghcebcahlnaa
