/- The document's own Bins, Start, Index. The document's own Line. Lists of ints in memory; the document's SameInts and Width. The document's Wide and Certain. -/
import Derived.Test.YthbghcebcahlnaaM19
import Derived.Deep.RegionHeld3
import Derived.Laws.AppendOwn
import Derived.Laws.OwnMore
import Derived.OwnWalk
import Derived.Deep.Onto
import Derived.Deep.RegionLaw
import Derived.Deep.OwnRows
namespace Go.Proofs.Ythbghcebcahlnaa
open Go.RowKit

theorem bins_small {n P Q : Int} (h1 : 1 ≤ n) (h2 : n ≤ 64) (h3 : P.natAbs ≤ 16) (h4 : 0 ≤ Q) (h5 : Q ≤ 16) : 0 ≤ (n - 1) * (P.natAbs + Q) ∧ (n - 1) * (P.natAbs + Q) ≤ 2016 := by
  have a1 : (n - 1) * (P.natAbs + Q) ≤ 63 * 32 := Int.mul_le_mul (by omega) (by omega) (by omega) (by omega)
  exact ⟨Int.mul_nonneg (by omega) (by omega), a1⟩

theorem start_small {n P Q : Int} (h1 : 1 ≤ n) (h2 : n ≤ 64) (h3 : P.natAbs ≤ 16) : 0 ≤ startS n (P, Q) ∧ startS n (P, Q) ≤ 1008 := by
  unfold startS
  dsimp only
  by_cases c : P < 0
  · rw [if_pos c, Int.zero_mul]
    exact ⟨by decide, by decide⟩
  · rw [if_neg c]
    have a1 : P * (n - 1) ≤ 16 * 63 := Int.mul_le_mul (by omega) (by omega) (by omega) (by omega)
    exact ⟨Int.mul_nonneg (by omega) (by omega), a1⟩

theorem cell_prod {x n Q : Int} (h1 : 0 ≤ x) (h2 : x < n) (h3 : n ≤ 64) (h4 : Q.natAbs ≤ 16) : (Q * x).natAbs ≤ 1008 := by
  rw [Int.natAbs_mul]
  exact Nat.mul_le_mul h4 (by omega : x.natAbs ≤ 63)

theorem binsS_bad {n : Int} {a : Int × Int} (h : (binsS n a).2 ≠ 0) (x y : Int) : indexS n a x y = (0, (binsS n a).2) := by unfold indexS; rw [if_pos h]
theorem binsS_ok {n : Int} {a : Int × Int} (h : (binsS n a).2 = 0) : 1 ≤ n ∧ n ≤ 64 ∧ okD a.1 a.2 = true := by
  unfold binsS at h
  by_cases c1 : n < 1 ∨ 64 < n
  · rw [if_pos c1] at h
    exact absurd h (by decide)
  · rw [if_neg c1] at h
    cases c2 : okD a.1 a.2
    · rw [c2, if_neg (by decide)] at h
      exact absurd h (by decide)
    · exact ⟨by omega, by omega, rfl⟩

end Go.Proofs.Ythbghcebcahlnaa

namespace Go.Proofs.Ythbghcebcahlnaa
open Go.RowKit

/-- Pairs of ints, cell by cell. -/
def flat2 (L : List (Int × Int)) : List Value := L.flatMap fun c => [.int .i64 c.1, .int .i64 c.2]
theorem flat2_length (L : List (Int × Int)) : (flat2 L).length = L.length * 2 := by
  unfold flat2
  induction L with
  | nil => rfl
  | cons a l ih => simp [List.flatMap_cons, ih]; omega
theorem flat2_snoc (L : List (Int × Int)) (x y : Int) : flat2 (L ++ [(x, y)]) = flat2 L ++ [.int .i64 x, .int .i64 y] := by
  unfold flat2
  simp [List.flatMap_append]

/-- The cells of a line, of the first k cells of a grid of side n, row by row. -/
def onLine (P Q st bin : Int) (n i : Nat) : Bool := decide (Q * ((i % n : Nat) : Int) - P * ((i / n : Nat) : Int) + st = bin)
def lineL (P Q st bin : Int) (n k : Nat) : List (Int × Int) := ((List.range k).filter (onLine P Q st bin n)).map fun i => (((i % n : Nat) : Int), ((i / n : Nat) : Int))

theorem lineL_zero (P Q st bin : Int) (n : Nat) : lineL P Q st bin n 0 = [] := rfl
theorem place_div {n y x : Nat} (hx : x < n) : (y * n + x) / n = y ∧ (y * n + x) % n = x := by
  constructor
  · rw [Nat.mul_comm, Nat.mul_add_div (by omega), Nat.div_eq_of_lt hx, Nat.add_zero]
  · rw [Nat.mul_comm, Nat.mul_add_mod, Nat.mod_eq_of_lt hx]
theorem lineL_yes {P Q st bin : Int} {n y x : Nat} (hx : x < n) (h : Q * (x : Int) - P * (y : Int) + st = bin) : lineL P Q st bin n (y * n + (x + 1)) = lineL P Q st bin n (y * n + x) ++ [((x : Int), (y : Int))] := by
  obtain ⟨e1, e2⟩ := place_div (y := y) hx
  unfold lineL
  rw [← Nat.add_assoc, List.range_succ, List.filter_append, List.map_append]
  have : onLine P Q st bin n (y * n + x) = true := by
    unfold onLine
    rw [e1, e2]
    exact decide_eq_true h
  have h2 : List.filter (onLine P Q st bin n) [y * n + x] = [y * n + x] := by simp [this]
  rw [h2]
  show _ ++ [((((y * n + x) % n : Nat) : Int), (((y * n + x) / n : Nat) : Int))] = _
  rw [e1, e2]
theorem lineL_no {P Q st bin : Int} {n y x : Nat} (hx : x < n) (h : ¬ Q * (x : Int) - P * (y : Int) + st = bin) : lineL P Q st bin n (y * n + (x + 1)) = lineL P Q st bin n (y * n + x) := by
  obtain ⟨e1, e2⟩ := place_div (y := y) hx
  unfold lineL
  rw [← Nat.add_assoc, List.range_succ, List.filter_append, List.map_append]
  have : onLine P Q st bin n (y * n + x) = false := by
    unfold onLine
    rw [e1, e2]
    exact decide_eq_false h
  simp [this]
theorem lineL_len (P Q st bin : Int) (n k : Nat) : (lineL P Q st bin n k).length ≤ k := by
  unfold lineL
  rw [List.length_map]
  exact Nat.le_trans (List.length_filter_le _ _) (by simp)

def lineS (n : Int) (a : Int × Int) (bin : Int) : List (Int × Int) × Int :=
  if (binsS n a).2 ≠ 0 then ([], (binsS n a).2) else if bin < 0 ∨ (binsS n a).1 ≤ bin then ([], 1) else (lineL a.1 a.2 (startS n a) bin n.toNat (n.toNat * n.toNat), 0)

theorem owns_below {w w' : World} {base : Nat} {e : TypeId} {size : Nat} {v : Value} {n : Nat} {xs : List Value} (h : w.ownsRow base e size v n xs) (hb : Below w.heap.size w w') : w'.ownsRow base e size v n xs := by
  have hg : w.grownBy w' none := ⟨hb.os, hb.tape, hb.output, hb.size, fun k hk _ => hb.block k hk⟩
  by_cases c : v.ownBlock = none
  · exact h.kept hg (Or.inl c)
  · exact h.kept hg (Or.inr c)

theorem infoCell : ((barP Try.prog).info? 92).map (fun i => (i.zero, i.size, i.bytes)) = some (some (.agg #[.int .i64 0, .int .i64 0]), 2, 16) := by kernel_rfl
theorem info_parts {e : TypeId} {z : Value} {s b : Nat} (h : ((barP Try.prog).info? e).map (fun i => (i.zero, i.size, i.bytes)) = some (some z, s, b)) : ∃ i, (barP Try.prog).info? e = some i ∧ i.zero = some z ∧ i.size = s ∧ i.bytes = b := by
  cases hq : (barP Try.prog).info? e with
  | none => rw [hq] at h; cases h
  | some i =>
    rw [hq] at h
    simp at h
    exact ⟨i, rfl, h.1, h.2.1, h.2.2⟩
theorem news_two (w : World) (x y : Value) (t : TypeId) : ∀ j u, [x, y][j]? = some u → (w.alloc (.cells #[x, y] t)).cell? ((⟨w.heap.size, 0, none⟩ : Addr).add j) = some u := by
  intro j u hj
  rw [addr_add]
  match j, hj with
  | 0, hj => simp at hj; subst hj; simp [go_sem]
  | 1, hj => simp at hj; subst hj; simp [go_sem]

end Go.Proofs.Ythbghcebcahlnaa

namespace Go.Proofs.Ythbghcebcahlnaa
open Go.RowKit

structure IntsAt (w : World) (a : Option Addr) (g o : Nat) (L : List Int) : Prop where
  at_ : 0 < L.length → a = some ⟨g, o, none⟩ ∧ g < w.heap.size
  cell : ∀ i c, L[i]? = some c → w.cell? ⟨g, o + i, none⟩ = some (.int .i64 c)

def Ints (w : World) (v : Value) (L : List Int) : Prop := ∃ a cap g o, v = .slice a L.length cap ∧ IntsAt w a g o L

theorem IntsAt.below {w w' : World} {a : Option Addr} {g o : Nat} {L : List Int} (h : IntsAt w a g o L) (hb : Below w.heap.size w w') : IntsAt w' a g o L := by
  refine ⟨fun hl => ⟨(h.at_ hl).1, Nat.lt_of_lt_of_le (h.at_ hl).2 hb.size⟩, fun i c hi => ?_⟩
  have hl : 0 < L.length := by
    have := (List.getElem?_eq_some_iff.1 hi).1
    omega
  exact (hb.cell (p := ⟨g, o + i, none⟩) (h.at_ hl).2).trans (h.cell i c hi)

theorem ints_below {w w' : World} {v : Value} {L : List Int} (h : Ints w v L) (hb : Below w.heap.size w w') : Ints w' v L := by
  obtain ⟨a, cap, g, o, h1, h2⟩ := h
  exact ⟨a, cap, g, o, h1, h2.below hb⟩
theorem ints_none (w : World) : Ints w (.slice none 0 0) [] := ⟨none, 0, 0, 0, rfl, ⟨fun h => absurd h (by simp), fun i c h => by simp at h⟩⟩

theorem IntsAt.get {w : World} {a : Option Addr} {g o : Nat} {L : List Int} (h : IntsAt w a g o L) {i : Nat} (hi : i < L.length) : w.cell? ⟨g, o + i, none⟩ = some (.int .i64 (L.getD i 0)) := by
  refine h.cell i _ ?_
  rw [List.getD_eq_getElem?_getD, List.getElem?_eq_getElem hi]
  rfl

theorem heapCell {w w' : World} (h : w'.heap = w.heap) (p : Addr) : w'.cell? p = w.cell? p := by unfold World.cell?; rw [h]

set_option maxHeartbeats 1600000 in
/-- Two lists that are the same. -/
theorem sameYes {u v : Value} {L : List Int} (hL : L.length ≤ 9223372036854775807) (w : World) (hu : Ints w u L) (hv : Ints w v L) :
    Calls (barP Try.prog) 12 #[u, v] w fun e w' => e = .returned (.bool true) ∧ Below w.heap.size w w' := by
  obtain ⟨a1, cap1, g1, o1, rfl, h1⟩ := hu
  obtain ⟨a2, cap2, g2, o2, rfl, h2⟩ := hv
  have s1 := hide h1.at_
  have s2 := hide h2.at_
  have t1 := hide (fun i (hi : i < L.length) => h1.get hi)
  have t2 := hide (fun i (hi : i < L.length) => h2.get hi)
  clear h1 h2
  go_enter Bar.func12, Bar.ntmps12
  go_wp2_with fail
  go_loopw [5] (fun iv wr => ∃ i : Nat, i ≤ L.length ∧ iv = .int .i64 i ∧ Hid (wr.heap = w.heap) ∧ Hid (Below w.heap.size w wr)) (fun iv _ => L.length - (intOf iv).toNat)
  case atStart => exact ⟨0, Nat.zero_le _, rfl, rfl, Below.refl _ _⟩
  case round =>
    obtain ⟨i, hi, rfl, hh, hB⟩ := hrel
    by_cases c : i < L.length
    · have q1 : ((i : Int) < (L.length : Int)) = True := by simp; omega
      have k1 := (heapCell (unhide hh) _).trans (unhide t1 i c)
      have k2 := (heapCell (unhide hh) _).trans (unhide t2 i c)
      rw [(unhide s1 (by omega)).1, (unhide s2 (by omega)).1]
      generalize L.length = N at *
      generalize L.getD i 0 = x at *
      go_wp2_with fail
      go_quiet (fail)
      go_wp2_with fail
      have hb := unhide hB
      exact ⟨⟨i + 1, c, by go_num, unhide hh, ⟨hb.os, hb.tape, hb.output, hb.size, hb.block⟩⟩, by simp [intOf]; omega⟩
    · have q1 : ((i : Int) < (L.length : Int)) = False := by simp; omega
      generalize L.length = N at *
      go_wp2_with fail
      go_ret
      exact ⟨rfl, unhide hB⟩

/-- How wide the first k bounds are together. -/
def widK (A B : List Int) : Nat → Int
  | 0 => 0
  | k + 1 => wrap64 (widK A B k + wrap64 (B.getD k 0 - A.getD k 0))
def widS (A B : List Int) : Int := widK A B (min A.length B.length)

def WidthOk (f : Nat) : Prop := ∀ (A B : List Int) (u v : Value) (w : World), A.length ≤ 9223372036854775807 → B.length ≤ 9223372036854775807 → Ints w u A → Ints w v B →
  Calls (barP Try.prog) f #[u, v] w fun e w' => e = .returned (.int .i64 (widS A B)) ∧ Below w.heap.size w w'

end Go.Proofs.Ythbghcebcahlnaa

namespace Go.Proofs.Ythbghcebcahlnaa
open Go.RowKit

def wideLo (n : Int) : List Int := if n < 1 ∨ 16 < n then [] else List.replicate (n.toNat * n.toNat) 0
def wideHi (n : Int) : List Int := if n < 1 ∨ 16 < n then [] else List.replicate (n.toNat * n.toNat) 255
def wideE (n : Int) : Int := if n < 1 ∨ 16 < n then 1 else 0

def WideOk (f : Nat) : Prop := ∀ (n : Int) (w : World), Calls (barP Try.prog) f #[.int .i64 n] w fun e w' =>
  ∃ u v, e = .returned (.tuple #[u, v, .int .i64 (wideE n)]) ∧ Ints w' u (wideLo n) ∧ Ints w' v (wideHi n) ∧ Below w.heap.size w w'

theorem infoInt : ((barP Try.prog).info? 3).map (fun i => (i.zero, i.size, i.bytes)) = some (some (.int .i64 0), 1, 8) := by kernel_rfl
theorem infoBool : ((barP Try.prog).info? 4).map (fun i => (i.zero, i.size, i.bytes)) = some (some (.bool false), 1, 1) := by kernel_rfl

/-- A row of cells. -/
def VRow (w : World) (t : TypeId) (g n : Nat) (f : Nat → Value) : Prop := ∃ cur : Array Value, w.heap[g]? = some (.cells cur t (0, 0)) ∧ n ≤ cur.size ∧ ∀ i, i < n → cur[i]? = some (f i)
theorem vrow_at {w : World} {t : TypeId} {g n : Nat} {f : Nat → Value} (h : VRow w t g n f) {i : Nat} (hi : i < n) : w.cell? ⟨g, i, none⟩ = some (f i) := by
  obtain ⟨cur, h1, h2, h3⟩ := h
  simp [World.cell?, h1, h3 i hi]
theorem vrow_lt {w : World} {t : TypeId} {g n : Nat} {f : Nat → Value} (h : VRow w t g n f) : g < w.heap.size := by
  obtain ⟨cur, h1, _⟩ := h
  exact (Array.getElem?_eq_some_iff.1 h1).1
theorem vrow_keep {w w' : World} {t : TypeId} {g n : Nat} {f : Nat → Value} (h : VRow w t g n f) (hb : w'.heap[g]? = w.heap[g]?) : VRow w' t g n f := by
  obtain ⟨cur, h1, h2, h3⟩ := h
  exact ⟨cur, by rw [hb]; exact h1, h2, h3⟩
theorem vrow_ext {w : World} {t : TypeId} {g n : Nat} {f f' : Nat → Value} (h : VRow w t g n f) (he : ∀ i, i < n → f' i = f i) : VRow w t g n f' := by
  obtain ⟨cur, h1, h2, h3⟩ := h
  exact ⟨cur, h1, h2, fun i hi => by rw [he i hi]; exact h3 i hi⟩
theorem vrow_frozen {w : World} {t : TypeId} {g n : Nat} {f : Nat → Value} (h : VRow w t g n f) (i : Nat) : w.frozen? ⟨g, i, none⟩ = false := by
  obtain ⟨cur, h1, _⟩ := h
  exact frozen_of_row w _ i cur _ h1
theorem vrow_set {w : World} {t : TypeId} {g n : Nat} {f : Nat → Value} (h : VRow w t g n f) (k : Nat) (v : Value) : VRow (w.setCell ⟨g, k, none⟩ v) t g n (fun i => if i = k then v else f i) := by
  obtain ⟨cur, h1, h2, h3⟩ := h
  refine ⟨cur.setIfInBounds k v, heap_setCell_same w g k cur _ _ h1, by simpa using h2, fun i hi => ?_⟩
  dsimp only
  by_cases c : i = k
  · subst c
    rw [if_pos rfl, Array.getElem?_setIfInBounds_self_of_lt (by omega)]
  · rw [if_neg c, Array.getElem?_setIfInBounds_ne (by omega)]
    exact h3 i hi
theorem vrow_new (w : World) (z : Value) (n : Nat) (t : TypeId) : VRow (w.alloc (.cells (madeCells #[z] n) t)) t w.heap.size n (fun _ => z) := by
  have e : (madeCells #[z] n).toList.length = n := by rw [toList_madeCells_one, List.length_replicate]
  refine ⟨_, heap_alloc_new w _, by rw [Array.length_toList] at e; omega, fun i hi => ?_⟩
  have : (madeCells #[z] n).toList[i]? = some z := by rw [toList_madeCells_one, List.getElem?_replicate, if_pos hi]
  simpa using this
theorem vrow_ints {w : World} {g n : Nat} {x : Int} (h : VRow w 3 g n (fun _ => .int .i64 x)) : Ints w (.slice (some ⟨g, 0, none⟩) n n) (List.replicate n x) := by
  refine ⟨some ⟨g, 0, none⟩, n, g, 0, by rw [List.length_replicate], ⟨fun _ => ⟨rfl, vrow_lt h⟩, fun i c hi => ?_⟩⟩
  rw [List.getElem?_replicate] at hi
  split at hi
  · next hlt =>
    rw [Nat.zero_add]
    obtain rfl := Option.some.inj hi
    exact vrow_at h hlt
  · cases hi

end Go.Proofs.Ythbghcebcahlnaa
