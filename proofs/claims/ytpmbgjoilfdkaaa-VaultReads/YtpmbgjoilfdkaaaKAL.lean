/- The field of the fixed facts: one cell, 3 - 1i. -/
import Derived.Test.YtpmbgjoilfdkaaaM5
import Derived.Test.YtpmbgjoilfdkaaaM5
namespace Go.Proofs.Ytpmbgjoilfdkaaa
open Go.RowKit Fl Ieee

def f31 : Nat → Nat × Nat := fun _ => (4613937818241073152, 13830554455654793216)
theorem iv_three : IV 4613937818241073152 3 := by
  have h : floatOfInt .f64 (3 : Int) = 4613937818241073152 := by kernel_rfl
  rw [← h]
  exact nearest_iv false 3 (by decide)
theorem iv_mone : IV 13830554455654793216 (-1) := by
  have h : floatOfInt .f64 (-1 : Int) = 13830554455654793216 := by kernel_rfl
  rw [← h]
  exact nearest_iv true 1 (by decide)
theorem wh31 : Wh 2147483648 4613937818241073152 ∧ Wh 2147483648 13830554455654793216 := ⟨⟨3, iv_three, fun h => by omega, by omega⟩, ⟨-1, iv_mone, fun h => by omega, by omega⟩⟩
theorem can31 : Can 2 1 f31 := fun _ _ => .inr (.inr ⟨rfl, wh31⟩)
theorem nar_three : Nar 4613937818241073152 1077936128 := ⟨by kernel_rfl, by kernel_rfl⟩
theorem nar_mone : Nar 13830554455654793216 3212836864 := ⟨by kernel_rfl, by kernel_rfl⟩
theorem nar31 : Can 1 1 f31 := fun _ _ => .inr (.inl ⟨rfl, ⟨1077936128, nar_three⟩, ⟨3212836864, nar_mone⟩⟩)
theorem len31 : (byL 0 1 1 f31).length = 18 ∧ (byL 1 1 1 f31).length = 10 := by
  unfold byL cellsL cellsL cellL
  simp [high_len]
theorem by31 : byL 2 1 1 f31 = [2, 1, 6, 1] := by
  have e1 : valZ (f31 0).1 = 3 := valZ_iv iv_three
  have e2 : valZ (f31 0).2 = -1 := valZ_iv iv_mone
  have e0 : valZ 0 = 0 := by kernel_rfl
  unfold byL cellsL cellsL cellL aheadC
  simp only [if_true, e1, e2, e0]
  decide
theorem sh31 : Sh 1 1 f31 2 := ⟨1, .inl ⟨rfl, nar31, by rw [len31.1, len31.2]; decide⟩, .inl ⟨rfl, can31, by rw [len31.2, by31]; decide⟩⟩
theorem good31 : Good [2, 1, 6, 1] f31 := by
  refine ⟨⟨by decide, by decide, by decide, by decide⟩, fun j hj => ?_, 2, sh31, by31⟩
  have hj0 : j = 0 := by
    have : side [2, 1, 6, 1] * side [2, 1, 6, 1] = 1 := by decide
    omega
  subst hj0
  refine .inr (.inr ⟨rfl, ?_⟩)
  have e1 : (stU [2, 1, 6, 1] 2 1).2.1 = 3 := by decide
  have e2 : (stU [2, 1, 6, 1] 2 1).2.2 = -1 := by decide
  show f31 0 = (floatOfInt .f64 (stU [2, 1, 6, 1] 2 1).2.1, floatOfInt .f64 (stU [2, 1, 6, 1] 2 1).2.2)
  rw [e1, e2]
  kernel_rfl
end Go.Proofs.Ytpmbgjoilfdkaaa
