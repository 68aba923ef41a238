/- The document's own Line. -/
import Derived.Test.YthbghcebcahlnaaDI
import Derived.Laws.AppendOwn
import Derived.Laws.OwnMore
import Derived.OwnWalk
import Derived.Deep.Onto
namespace Go.Proofs.Ythbghcebcahlnaa
open Go.RowKit

/-- Pairs of ints, cell by cell. -/
def flat2 (L : List (Int × Int)) : List Value := L.flatMap fun c => [.int .i64 c.1, .int .i64 c.2]
theorem flat2_length (L : List (Int × Int)) : (flat2 L).length = L.length * 2 := by
  unfold flat2
  induction L with
  | nil => rfl
  | cons a l ih => simp [List.flatMap_cons, ih]; omega
theorem flat2_snoc (L : List (Int × Int)) (x y : Int) : flat2 (L ++ [(x, y)]) = flat2 L ++ [.int .i64 x, .int .i64 y] := by
  unfold flat2
  simp [List.flatMap_append]

/-- The cells of a line, of the first k cells of a grid of side n, row by row. -/
def onLine (P Q st bin : Int) (n i : Nat) : Bool := decide (Q * ((i % n : Nat) : Int) - P * ((i / n : Nat) : Int) + st = bin)
def lineL (P Q st bin : Int) (n k : Nat) : List (Int × Int) := ((List.range k).filter (onLine P Q st bin n)).map fun i => (((i % n : Nat) : Int), ((i / n : Nat) : Int))

theorem lineL_zero (P Q st bin : Int) (n : Nat) : lineL P Q st bin n 0 = [] := rfl
theorem place_div {n y x : Nat} (hx : x < n) : (y * n + x) / n = y ∧ (y * n + x) % n = x := by
  constructor
  · rw [Nat.mul_comm, Nat.mul_add_div (by omega), Nat.div_eq_of_lt hx, Nat.add_zero]
  · rw [Nat.mul_comm, Nat.mul_add_mod, Nat.mod_eq_of_lt hx]
theorem lineL_yes {P Q st bin : Int} {n y x : Nat} (hx : x < n) (h : Q * (x : Int) - P * (y : Int) + st = bin) : lineL P Q st bin n (y * n + (x + 1)) = lineL P Q st bin n (y * n + x) ++ [((x : Int), (y : Int))] := by
  obtain ⟨e1, e2⟩ := place_div (y := y) hx
  unfold lineL
  rw [← Nat.add_assoc, List.range_succ, List.filter_append, List.map_append]
  have : onLine P Q st bin n (y * n + x) = true := by
    unfold onLine
    rw [e1, e2]
    exact decide_eq_true h
  have h2 : List.filter (onLine P Q st bin n) [y * n + x] = [y * n + x] := by simp [this]
  rw [h2]
  show _ ++ [((((y * n + x) % n : Nat) : Int), (((y * n + x) / n : Nat) : Int))] = _
  rw [e1, e2]
theorem lineL_no {P Q st bin : Int} {n y x : Nat} (hx : x < n) (h : ¬ Q * (x : Int) - P * (y : Int) + st = bin) : lineL P Q st bin n (y * n + (x + 1)) = lineL P Q st bin n (y * n + x) := by
  obtain ⟨e1, e2⟩ := place_div (y := y) hx
  unfold lineL
  rw [← Nat.add_assoc, List.range_succ, List.filter_append, List.map_append]
  have : onLine P Q st bin n (y * n + x) = false := by
    unfold onLine
    rw [e1, e2]
    exact decide_eq_false h
  simp [this]
theorem lineL_len (P Q st bin : Int) (n k : Nat) : (lineL P Q st bin n k).length ≤ k := by
  unfold lineL
  rw [List.length_map]
  exact Nat.le_trans (List.length_filter_le _ _) (by simp)

def lineS (n : Int) (a : Int × Int) (bin : Int) : List (Int × Int) × Int :=
  if (binsS n a).2 ≠ 0 then ([], (binsS n a).2) else if bin < 0 ∨ (binsS n a).1 ≤ bin then ([], 1) else (lineL a.1 a.2 (startS n a) bin n.toNat (n.toNat * n.toNat), 0)

theorem owns_below {w w' : World} {base : Nat} {e : TypeId} {size : Nat} {v : Value} {n : Nat} {xs : List Value} (h : w.ownsRow base e size v n xs) (hb : Below w.heap.size w w') : w'.ownsRow base e size v n xs := by
  have hg : w.grownBy w' none := ⟨hb.os, hb.tape, hb.output, hb.size, fun k hk _ => hb.block k hk⟩
  by_cases c : v.ownBlock = none
  · exact h.kept hg (Or.inl c)
  · exact h.kept hg (Or.inr c)

theorem infoCell : ((barP Try.prog).info? 92).map (fun i => (i.zero, i.size, i.bytes)) = some (some (.agg #[.int .i64 0, .int .i64 0]), 2, 16) := by kernel_rfl
theorem info_parts {e : TypeId} {z : Value} {s b : Nat} (h : ((barP Try.prog).info? e).map (fun i => (i.zero, i.size, i.bytes)) = some (some z, s, b)) : ∃ i, (barP Try.prog).info? e = some i ∧ i.zero = some z ∧ i.size = s ∧ i.bytes = b := by
  cases hq : (barP Try.prog).info? e with
  | none => rw [hq] at h; cases h
  | some i =>
    rw [hq] at h
    simp at h
    exact ⟨i, rfl, h.1, h.2.1, h.2.2⟩
theorem news_two (w : World) (x y : Value) (t : TypeId) : ∀ j u, [x, y][j]? = some u → (w.alloc (.cells #[x, y] t)).cell? ((⟨w.heap.size, 0, none⟩ : Addr).add j) = some u := by
  intro j u hj
  rw [addr_add]
  match j, hj with
  | 0, hj => simp at hj; subst hj; simp [go_sem]
  | 1, hj => simp at hj; subst hj; simp [go_sem]

end Go.Proofs.Ythbghcebcahlnaa
