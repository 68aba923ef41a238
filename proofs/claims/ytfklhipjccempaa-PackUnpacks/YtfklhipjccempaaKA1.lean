/- The fixed fact of layer 21. -/
import Derived.Test.YtfklhipjccempaaKAL
import Derived.Test.YtfklhipjccempaaKPK
import Derived.Test.YtfklhipjccempaaKI
namespace Go.Proofs.Ytfklhipjccempaa
open Go.RowKit Fl Ieee

theorem row31 (w : World) : Row (w.alloc (.cells #[.complex .f64 4613937818241073152 13830554455654793216] 34)) w.heap.size 1 f31 :=
  ⟨_, heap_alloc_new w _, Nat.le_refl _, fun i hi => by
    obtain rfl : i = 0 := by omega
    rfl⟩
theorem bits31 : ∀ i, i < 1 * 1 → (f31 i).1 < 18446744073709551616 ∧ (f31 i).2 < 18446744073709551616 := fun _ _ => ⟨by show 4613937818241073152 < 18446744073709551616; decide, by show 13830554455654793216 < 18446744073709551616; decide⟩
theorem bat31 (w : World) : BAt (w.alloc (.cells #[.int .u8 2, .int .u8 1, .int .u8 6, .int .u8 1] 5)) (some ⟨w.heap.size, 0, none⟩) w.heap.size 0 [2, 1, 6, 1] := by
  refine ⟨fun i => ?_, fun _ => ⟨rfl, by rw [World.size_alloc]; omega⟩, fun i hi => ?_⟩
  · match i with
    | 0 => decide
    | 1 => decide
    | 2 => decide
    | 3 => decide
    | n + 4 => simp
  · rw [Nat.zero_add, cell_of_row _ _ i _ _ (0, 0) (heap_alloc_new w _)]
    match i, hi with
    | 0, _ => rfl
    | 1, _ => rfl
    | 2, _ => rfl
    | 3, _ => rfl

set_option maxRecDepth 100000 in
set_option maxHeartbeats 3200000 in
theorem alive21 (hP : PackOk 8) (hU : UnpOk 5) (w : World) : Calls Try.prog 4 #[] w fun e w' => e = .returned (.bool true) ∧ Below w.heap.size w w' := by
  have b1 : Below w.heap.size w (w.alloc (.cells #[.complex .f64 4613937818241073152 13830554455654793216] 34)) := (Below.refl _ _).alloc (Nat.le_refl _) _
  have k1 : Hid (Calls Try.prog 8 #[.agg #[.int .i64 1, .slice (some ⟨w.heap.size, 0, none⟩) 1 1]] (w.alloc (.cells #[.complex .f64 4613937818241073152 13830554455654793216] 34)) fun r w' => ∃ g' c' : Nat, r = .returned (.tuple #[.slice (some ⟨g', 0, none⟩) 4 c', .int .i64 0]) ∧ BAt w' (some ⟨g', 0, none⟩) g' 0 [2, 1, 6, 1] ∧ Below w.heap.size w w') := by
    refine (hP 1 w.heap.size 1 f31 _ (by decide) (by decide) bits31 (row31 w)).mono ?_
    rintro r w' ⟨a, g', c', rfl, hS, hO, hB⟩
    obtain rfl := sh_one sh31 hS
    have e : byL 2 1 (1 * 1) f31 = [2, 1, 6, 1] := by31
    rw [e] at hO ⊢
    refine ⟨g', c', rfl, ?_, b1.trans (hB.mono b1.size)⟩
    exact ⟨(bat31 w).lt, fun _ => ⟨rfl, (hO.lt g' rfl).2⟩, fun i hi => own_cellsB hO i hi⟩
  have k2 : Hid (∀ W : World, Calls Try.prog 5 #[.slice (some ⟨W.heap.size, 0, none⟩) 4 4] (W.alloc (.cells #[.int .u8 2, .int .u8 1, .int .u8 6, .int .u8 1] 5)) fun r w' => ∃ gz cz : Nat, r = .returned (.tuple #[.agg #[.int .i64 1, .slice (some ⟨gz, 0, none⟩) 1 cz], .int .i64 0]) ∧ Row w' gz 1 f31 ∧ Below W.heap.size W w') := by
    intro W
    have b2 : Below W.heap.size W (W.alloc (.cells #[.int .u8 2, .int .u8 1, .int .u8 6, .int .u8 1] 5)) := (Below.refl _ _).alloc (Nat.le_refl _) _
    refine (hU _ W.heap.size 0 4 [2, 1, 6, 1] _ (by decide) (by decide) (bat31 W)).mono ?_
    rintro r w' ⟨⟨f, gz, cz, hG, rfl, hR, _⟩ | ⟨hno, _⟩, hB⟩
    · refine ⟨gz, cz, rfl, row_ext hR fun j hj => ?_, b2.trans (hB.mono b2.size)⟩
      exact good_same good31 hG.2.1 j hj
    · exact absurd good31 (hno f31)
  clear b1
  go_enter Try.func4, Try.ntmps4
  go_wp2_with fail
  refine (unhide k1).mono ?_
  rintro e w1 ⟨g1, c1, rfl, hT, hB⟩
  have T1 := hide hT
  have B1 := hide hB
  clear hT hB k1
  go_wp2_with fail
  refine (unhide k2 w1).mono ?_
  rintro e w2 ⟨g2, c2, rfl, hR, hB⟩
  have B2 := hide ((unhide B1).trans (hB.mono (unhide B1).size))
  have bx : Below w2.heap.size w2 (w2.alloc (.cells #[.int .i64 1, .slice (some ⟨g2, 0, none⟩) 1 c2] 26)) := (Below.refl _ _).alloc (Nat.le_refl _) _
  have r2 := row_at (row_below hR bx (row_lt hR)) (i := 0) (by decide)
  have e1 : (convert 22 9 (.slice (some ⟨g1, 0, none⟩) 4 c1)).run Try.prog (w2.alloc (.cells #[.int .i64 1, .slice (some ⟨g2, 0, none⟩) 1 c2] 26)) = .ok (.string (strB [2, 1, 6, 1])) (w2.alloc (.cells #[.int .i64 1, .slice (some ⟨g2, 0, none⟩) 1 c2] 26)) := run_strAny (cap := c1) (bat_keep (bat_keep (unhide T1) hB) bx)
  obtain ⟨z, hz⟩ : ∃ z, z = strB [2, 1, 6, 1] := ⟨_, rfl⟩
  rw [← hz] at e1
  have ec : (z.toList == [2, 1, 6, 1]) = true := by
    rw [hz, ByteArray.toList_eq]
    decide
  have o1 : (FloatKind.f64.format.order 4613937818241073152 4613937818241073152 == some Ordering.eq) = true := by kernel_rfl
  have o2 : (FloatKind.f64.format.order 13830554455654793216 13830554455654793216 == some Ordering.eq) = true := by kernel_rfl
  clear hz
  unfold cv f31 at r2
  have B3 := hide ((unhide B2).trans (bx.mono (unhide B2).size))
  clear hB hR bx k2 T1 B1 B2
  go_wp2_with fail
  go_ret
  exact ⟨rfl, unhide B3⟩
end Go.Proofs.Ytfklhipjccempaa
