/- The document's own Cmp, Across, Bins, Index. -/
import Derived.Test.YthbghcebcahlnaaDB
namespace Go.Proofs.Ythbghcebcahlnaa
open Go.RowKit

structure Dir64 (a : Int × Int) : Prop where
  one : I64 a.1
  two : I64 a.2

theorem okD_bounds {P Q : Int} (h : okD P Q = true) : P.natAbs ≤ 16 ∧ 0 ≤ Q ∧ Q ≤ 16 := by
  unfold okD at h
  simp only [decide_eq_true_eq] at h
  exact ⟨h.2.2.1, h.1, h.2.1⟩

theorem checkS_ok {P Q : Int} (h : okD P Q = true) : checkS P Q = 0 := by unfold checkS; rw [if_pos h]
theorem checkS_bad {P Q : Int} (h : okD P Q = false) : checkS P Q = 60 := by unfold checkS; rw [if_neg (by rw [h]; decide)]

theorem prod_small {x y : Int} (hx : x.natAbs ≤ 16) (hy : y.natAbs ≤ 16) : (x * y).natAbs ≤ 256 := by
  rw [Int.natAbs_mul]
  exact Nat.mul_le_mul hx hy

theorem two_cells (w : World) (a b : Value) (t : TypeId) {w' : World} (hb : Below (w.heap.size + 1) (w.alloc (.cells #[a, b] t)) w') : w'.cell? ⟨w.heap.size, 0, none⟩ = some a ∧ w'.cell? ⟨w.heap.size, 1, none⟩ = some b := by
  refine ⟨?_, ?_⟩
  · rw [hb.cell (p := ⟨w.heap.size, 0, none⟩) (Nat.lt_succ_self _)]; simp [go_sem]
  · rw [hb.cell (p := ⟨w.heap.size, 1, none⟩) (Nat.lt_succ_self _)]; simp [go_sem]

/-- The direction across; how many lines; the first line's number; a cell's line. -/
def acrossS (a : Int × Int) : (Int × Int) × Int := if okD a.1 a.2 then normalS (-a.2) a.1 else ((0, 0), 60)
def binsS (n : Int) (a : Int × Int) : Int × Int := if n < 1 ∨ 64 < n then (0, 1) else if okD a.1 a.2 then ((n - 1) * (a.1.natAbs + a.2) + 1, 0) else (0, 60)
def startS (n : Int) (a : Int × Int) : Int := (if a.1 < 0 then 0 else a.1) * (n - 1)
def indexS (n : Int) (a : Int × Int) (x y : Int) : Int × Int := if (binsS n a).2 ≠ 0 then (0, (binsS n a).2) else if x < 0 ∨ n ≤ x ∨ y < 0 ∨ n ≤ y then (0, 1) else (a.2 * x - a.1 * y + startS n a, 0)

theorem neg_i64 {x : Int} (h1 : 0 ≤ x) (h2 : x ≤ 16) : I64 (-x) := by unfold I64; omega

end Go.Proofs.Ythbghcebcahlnaa
