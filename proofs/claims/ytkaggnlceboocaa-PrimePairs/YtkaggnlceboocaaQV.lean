/- The fixed fact of layer 15. -/
import Derived.Test.YtkaggnlceboocaaQF
namespace Go.Proofs.Ytkaggnlceboocaa
open Go.RowKit Fl

theorem two_p : isP ((2 : Nat) : Int) = true := by decide +kernel
theorem sum7 : sumZ z4 2 0 1 2 = (7, 0) := by decide +kernel
theorem sum5 : sumZ z4 2 1 0 2 = (5, 0) := by decide +kernel
theorem is61 : isP 61 = true := by decide +kernel
theorem is1 : isP 1 = false := by decide +kernel

set_option maxRecDepth 100000 in
set_option maxHeartbeats 3200000 in
theorem aliveOk : AliveOk := by
  intro w
  have hP := hide (forwardAny (g := w.heap.size) (c := 4) (N := 2) _ two_p (row4 w) cell4 (by decide))
  have kI := hide (fun W => primeIsAny 61 W)
  have kJ := hide (fun W => primeIsAny 1 W)
  rw [is61] at kI
  rw [is1] at kJ
  have hB0 := hide ((Below.refl w.heap.size w).alloc (Nat.le_refl _) (.cells #[.complex .f64 4607182418800017408 0, .complex .f64 4611686018427387904 0, .complex .f64 4613937818241073152 0, .complex .f64 4616189618054758400 0] 36))
  unfold gridV at hP
  go_enter Try.func5, Try.ntmps5
  go_wp2_with fail
  refine (unhide hP).mono ?_
  rintro e w1 ⟨gl, xs, rfl, ho, hr, hb⟩
  obtain ⟨g0, f0, a0, r0, i0⟩ := hr 0 (by decide)
  obtain ⟨g1, f1, a1, r1, i1⟩ := hr 1 (by decide)
  have i0 := i0 1 (by decide)
  have i1 := i1 0 (by decide)
  rw [sum7] at i0
  rw [sum5] at i1
  have c0 := row_at r0 (i := 1) (by decide)
  have c1 := row_at r1 (i := 0) (by decide)
  have l0 := (ho.cellAt 0 (by decide)).trans a0
  have l1 := (ho.cellAt 1 (by decide)).trans a1
  have o7 := iv_same i0.one (iv_of (b := 4619567317775286272) 7 (by decide) (by decide +kernel))
  have o0 := iv_same i0.two iv_zero
  have o5 := iv_same i1.one (iv_of (b := 4617315517961601024) 5 (by decide) (by decide +kernel))
  have o0' := iv_same i1.two iv_zero
  have hB1 := hide ((unhide hB0).trans (hb.mono (unhide hB0).size))
  generalize f0 1 = p at *
  generalize f1 0 = q at *
  obtain ⟨p1, p2⟩ := p
  obtain ⟨p3, p4⟩ := q
  unfold cv at c0 c1
  dsimp only at *
  clear i0 i1 a0 a1 r0 r1 hr ho hb hP hB0
  go_wp2_with fail
  refine (unhide kI _).mono ?_
  rintro e w' ⟨rfl, hw⟩
  obtain rfl := hw.symm
  clear kI
  go_wp2_with fail
  refine (unhide kJ _).mono ?_
  rintro e w' ⟨rfl, hw⟩
  obtain rfl := hw.symm
  clear kJ
  go_wp2_with fail
  go_ret
  exact ⟨rfl, unhide hB1⟩
end Go.Proofs.Ytkaggnlceboocaa
