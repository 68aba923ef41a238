/- The fixed fact of layer 21. -/
import Derived.Test.YtpmbgjoilfdkaaaKAL
import Derived.Test.YtpmbgjoilfdkaaaKPK
import Derived.Test.YtpmbgjoilfdkaaaKI
namespace Go.Proofs.Ytpmbgjoilfdkaaa
open Go.RowKit Fl Ieee

theorem row31 (w : World) : Row (w.alloc (.cells #[.complex .f64 4613937818241073152 13830554455654793216] 40)) w.heap.size 1 f31 :=
  ⟨_, heap_alloc_new w _, Nat.le_refl _, fun i hi => by
    obtain rfl : i = 0 := by omega
    rfl⟩
theorem bits31 : ∀ i, i < 1 * 1 → (f31 i).1 < 18446744073709551616 ∧ (f31 i).2 < 18446744073709551616 := fun _ _ => ⟨by show 4613937818241073152 < 18446744073709551616; decide, by show 13830554455654793216 < 18446744073709551616; decide⟩
theorem bat31 (w : World) : BAt (w.alloc (.cells #[.int .u8 2, .int .u8 1, .int .u8 6, .int .u8 1] 5)) (some ⟨w.heap.size, 0, none⟩) w.heap.size 0 [2, 1, 6, 1] := by
  refine ⟨fun i => ?_, fun _ => ⟨rfl, by rw [World.size_alloc]; omega⟩, fun i hi => ?_⟩
  · match i with
    | 0 => decide
    | 1 => decide
    | 2 => decide
    | 3 => decide
    | n + 4 => simp
  · rw [Nat.zero_add, cell_of_row _ _ i _ _ (0, 0) (heap_alloc_new w _)]
    match i, hi with
    | 0, _ => rfl
    | 1, _ => rfl
    | 2, _ => rfl
    | 3, _ => rfl

end Go.Proofs.Ytpmbgjoilfdkaaa
