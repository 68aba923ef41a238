/- The fixed fact that the statement asks first. -/
import Derived.Test.YtjmdlgekheehgaaYV
namespace Go.Proofs.Ytjmdlgekheehgaa
open Go.RowKit Fl

def x4 (i : Nat) : Nat × Nat := ([4607182418800017408, 4611686018427387904, 4613937818241073152, 4616189618054758400].getD i 0, 0)
def z4 (i : Nat) : Int × Int := ((i : Int) + 1, 0)

theorem cell4 (j : Nat) (hj : j < 2 * 2) : Cell (x4 j) (z4 j) 4 := by
  rcases (by omega : j = 0 ∨ j = 1 ∨ j = 2 ∨ j = 3) with rfl | rfl | rfl | rfl
  · exact ⟨⟨iv_of 1 (by decide) (by decide +kernel), iv_zero⟩, by decide, by decide, by decide, by decide, by decide, by decide⟩
  · exact ⟨⟨iv_of 2 (by decide) (by decide +kernel), iv_zero⟩, by decide, by decide, by decide, by decide, by decide, by decide⟩
  · exact ⟨⟨iv_of 3 (by decide) (by decide +kernel), iv_zero⟩, by decide, by decide, by decide, by decide, by decide, by decide⟩
  · exact ⟨⟨iv_of 4 (by decide) (by decide +kernel), iv_zero⟩, by decide, by decide, by decide, by decide, by decide, by decide⟩

theorem row4 (w : World) : Row (w.alloc (.cells #[.complex .f64 4607182418800017408 0, .complex .f64 4611686018427387904 0, .complex .f64 4613937818241073152 0, .complex .f64 4616189618054758400 0] 37)) w.heap.size (2 * 2) x4 := by
  refine ⟨_, heap_alloc_new w _, by decide, fun i hi => ?_⟩
  rcases (by omega : i = 0 ∨ i = 1 ∨ i = 2 ∨ i = 3) with rfl | rfl | rfl | rfl <;> rfl

theorem bins3 : binsS ((2 : Nat) : Int) (1, 1) = (3, 0) := by decide +kernel
theorem acc4 : accZ (ixN 2 (1, 1)) z4 (2 * 2) 0 = (3, 0) ∧ accZ (ixN 2 (1, 1)) z4 (2 * 2) 1 = (5, 0) := by decide +kernel

set_option maxHeartbeats 1600000 in
theorem aliveAny (w : World) : Calls Try.prog 4 #[] w fun e w' => e = .returned (.bool true) ∧ Below w.heap.size w w' := by
  have hP := hide (projectAny (a := (1, 1)) (g := w.heap.size) (c := 4) (n := 2) _ (by decide) (by decide) ⟨by unfold I64; decide, by unfold I64; decide⟩ (by decide +kernel) (row4 w) cell4 (by decide))
  unfold gridV dirV at hP
  dsimp only at hP
  go_enter Try.func4, Try.ntmps4
  go_wp2_with fail
  refine (unhide hP).mono ?_
  rintro e w1 ⟨g1, B, f1, rfl, hB, hg1, hR1, hI1, hB1⟩
  rw [bins3] at hB
  obtain rfl : B = 3 := by
    have := congrArg Prod.fst hB
    dsimp only at this
    omega
  have i0 := hI1 0 (by decide)
  have i1 := hI1 1 (by decide)
  rw [acc4.1] at i0
  rw [acc4.2] at i1
  have c0 := row_at hR1 (i := 0) (by decide)
  have c1 := row_at hR1 (i := 1) (by decide)
  have o3 := iv_same i0.one (iv_of (b := 4613937818241073152) 3 (by decide) (by decide +kernel))
  have o0 := iv_same i0.two iv_zero
  have o5 := iv_same i1.one (iv_of (b := 4617315517961601024) 5 (by decide) (by decide +kernel))
  have o0' := iv_same i1.two iv_zero
  have hlt := row_lt hR1
  have hB2 : Hid (Below w.heap.size w w1) := ((Below.refl _ _).alloc (Nat.le_refl _) _).trans (hB1.mono (by simp))
  generalize f1 0 = p at *
  generalize f1 1 = q at *
  obtain ⟨p1, p2⟩ := p
  obtain ⟨p3, p4⟩ := q
  unfold cv at c0 c1
  dsimp only at *
  have hne : ¬ g1 = w1.heap.size := by omega
  clear hI1 hR1 hB1 hB i0 i1
  go_wp2_with fail
  go_ret
  exact ⟨rfl, (unhide hB2).alloc (unhide hB2).size _⟩
end Go.Proofs.Ytjmdlgekheehgaa
