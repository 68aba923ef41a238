/- The first statement's walk: forms, order, the direction across. -/
import Derived.Test.YthbghcebcahlnaaDX
import Derived.Deep.RegionHeld3
namespace Go.Proofs.Ythbghcebcahlnaa
open Go.RowKit

theorem fix_normal : normalS (-4) (-6) = ((2, 3), 0) := by decide +kernel
theorem fix_check : checkS 0 0 = 60 := by decide +kernel

theorem below_on {w0 w w' : World} (h : Below w0.heap.size w0 w) (hb : Below w.heap.size w w') : Below w0.heap.size w0 w' := h.trans (hb.mono h.size)
theorem below_alloc (w : World) (o : Obj) : Below w.heap.size w (w.alloc o) := (Below.refl _ _).alloc (Nat.le_refl _) _

/-- A direction in a box of its own. -/
structure BoxD (w : World) (b : Nat) (x y : Int) : Prop where
  one : w.cell? ⟨b, 0, none⟩ = some (.int .i64 x)
  two : w.cell? ⟨b, 1, none⟩ = some (.int .i64 y)
  lt : b < w.heap.size

theorem boxD_below {w w' : World} {b : Nat} {x y : Int} (h : BoxD w b x y) (hb : Below w.heap.size w w') : BoxD w' b x y :=
  ⟨(hb.cell h.lt).trans h.one, (hb.cell h.lt).trans h.two, Nat.lt_of_lt_of_le h.lt hb.size⟩
theorem boxD_new (w : World) (x y : Int) : BoxD (w.alloc (.cells #[.int .i64 x, .int .i64 y] 47)) w.heap.size x y := ⟨by simp [go_sem], by simp [go_sem], by simp⟩

end Go.Proofs.Ythbghcebcahlnaa
