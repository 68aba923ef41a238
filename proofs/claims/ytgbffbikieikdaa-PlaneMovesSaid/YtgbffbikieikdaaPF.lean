/- The law's own: the fixed fact, fields of whole numbers, cells compared. -/
import Derived.Test.YtgbffbikieikdaaPE
import Derived.Test.YtgbffbikieikdaaG5
import Derived.Test.YtgbffbikieikdaaN0
import Derived.BigQuiet
namespace Go.Proofs.Ytgbffbikieikdaa
open Go.RowKit Fl
attribute [local go_sem] store_complex

def f22 (j i : Nat) : Nat × Nat := x4 (j * 2 + i)
theorem p22 : planeB 1 f22 0 0 = (4621819117588971520, 0) ∧ planeB 1 f22 1 0 = (13839561654909534208, 0) := by decide +kernel

theorem field_ints {l : Nat} {f : Nat → Nat → Nat × Nat} {v : Nat → Nat → Int × Int} (q b : Nat) (hq : q = 1074) (hb : b = 1095) (h : ∀ j, j < 2 ^ l → Ints (2 ^ l) (f j) (v j)) : Field (2 ^ l) b f (fun j i => ((v j i).1 * 2 ^ q, (v j i).2 * 2 ^ q)) := by
  refine ⟨fun j hj i hi => cv_ic ((h j hj).ic i hi) q hq, fun j hj i hi => ?_⟩
  rw [show b = q + 21 by omega]
  exact n2_whole q ((h j hj).le i hi).1 ((h j hj).le i hi).2

theorem field22 : ∃ F, Field (2 ^ 1) 1095 f22 F := by
  refine ⟨_, field_ints (v := fun j i => (((j * 2 + i : Nat) : Int) + 1, 0)) 1074 1095 rfl rfl fun j hj => ⟨fun i hi => ?_, fun i hi => ?_, fun i hi => ?_⟩⟩
  · exact ints4.ic (j * 2 + i) (by omega)
  · exact ints4.le (j * 2 + i) (by omega)
  · exact ints4.w2 (j * 2 + i) (by omega)

set_option maxHeartbeats 1600000 in
theorem aliveAny (w : World) : Calls Try.prog 4 #[] w fun e w' => e = .returned (.bool true) ∧ Below w.heap.size w w' := by
  obtain ⟨F, hF⟩ := field22
  have hR : Row (w.alloc (.cells #[.complex .f64 4607182418800017408 0, .complex .f64 4611686018427387904 0, .complex .f64 4613937818241073152 0, .complex .f64 4616189618054758400 0] 28)) w.heap.size (2 * 2) (flat 2 f22) := by
    refine row_ext (row4 w) fun i hi => ?_
    unfold flat f22
    congr 1
    omega
  have hC := hide (planeForwardAny (L := 1) (n := 2) (b := 1095) (g := w.heap.size) (cap := 4) ⟨by decide, rfl⟩ (by decide) (by decide) hF _ hR)
  have o0 : FloatKind.f64.format.order 0 0 = some .eq := by decide +kernel
  have o10 : FloatKind.f64.format.order 4621819117588971520 4621819117588971520 = some .eq := by decide +kernel
  have om4 : FloatKind.f64.format.order 13839561654909534208 13839561654909534208 = some .eq := by decide +kernel
  unfold gridV at hC
  clear hR hF
  go_enter Try.func4, Try.ntmps4
  go_wp2_with fail
  refine (unhide hC).mono ?_
  rintro e w1 ⟨g1, rfl, hg1, hR1, hB1⟩
  have hz : Hid (g1 < w1.heap.size) := row_lt hR1
  have hR2 : Row (w1.alloc (.cells #[.int .i64 2, .slice (some ⟨g1, 0, none⟩) 4 4] 26)) g1 (2 * 2) (flat 2 (planeB 1 f22)) := row_keep hR1 (Below.heap_alloc _ _ _ (row_lt hR1))
  have c1 := row_at hR1 (i := 0) (by decide)
  have c2 := row_at hR1 (i := 2) (by decide)
  have e0 : flat 2 (planeB 1 f22) 0 = (4621819117588971520, 0) := p22.1
  have e2 : flat 2 (planeB 1 f22) 2 = (13839561654909534208, 0) := p22.2
  rw [e0] at c1
  rw [e2] at c2
  unfold cv at c1 c2
  have hB : Hid (Below w.heap.size w w1) := ((Below.refl _ _).alloc (Nat.le_refl _) _).trans (hB1.mono (by simp))
  have hne : ¬ g1 = w1.heap.size := by have := unhide hz; omega
  have hlt : g1 < w1.heap.size := unhide hz
  clear hR1 hR2 hB1 e0 e2 hC
  go_wp2_with fail
  go_ret
  exact ⟨rfl, (unhide hB).alloc (unhide hB).size _⟩

set_option maxHeartbeats 1600000 in
theorem nearAny {n m ga gb ca cb c : Nat} {f h : Nat → Nat × Nat} (hf : ∀ i, i < m → FarC c (f i) (h i)) (w : World) (hA : Row w ga m f) (hB : Row w gb m h) (hm : m ≤ 4096) :
    Calls Try.prog 10 #[gridV n ga m ca, gridV n gb m cb, .float .f64 c] w fun e w' => e = .returned (.bool true) ∧ Below w.heap.size w w' := by
  have cA := hide fun i (hi : i < m) => row_at hA hi
  have cB := hide fun i (hi : i < m) => row_at hB hi
  have hgA := hide (row_lt hA)
  have hgB := hide (row_lt hB)
  have hf := hide hf
  unfold gridV
  obtain ⟨w1, hw1⟩ : ∃ w1, w1 = (w.alloc (.cells #[.int .i64 n, .slice (some ⟨ga, 0, none⟩) m ca] 26)).alloc (.cells #[.int .i64 n, .slice (some ⟨gb, 0, none⟩) m cb] 26) := ⟨_, rfl⟩
  have b1 : Hid (w1.cell? ⟨w.heap.size, 1, none⟩ = some (.slice (some ⟨ga, 0, none⟩) m ca) ∧ w1.cell? ⟨w.heap.size + 1, 1, none⟩ = some (.slice (some ⟨gb, 0, none⟩) m cb)) := by
    rw [hw1]
    exact ⟨by simp [go_sem], by simp [go_sem]⟩
  have hbel : Hid (Below w.heap.size w w1) := by
    rw [hw1]
    exact ((Below.refl _ _).alloc (Nat.le_refl _) _).alloc (by simp) _
  clear hA hB
  go_enter Try.func10, Try.ntmps10
  go_wp2_with fail
  go_loopw [7] (fun ix wr => ∃ i : Nat, i ≤ m ∧ ix = .int .i64 i ∧ Hid (wr.heap = w1.heap) ∧ Below w.heap.size w wr) (fun ix _ => m - (intOf ix).toNat)
  case atStart => exact ⟨0, Nat.zero_le _, rfl, by rw [← hw1]; exact rfl, by rw [← hw1]; exact unhide hbel⟩
  case round =>
    obtain ⟨i, hi, rfl, hh, hbl⟩ := hrel
    have a1 := (cell_heap (unhide hh) _).trans (unhide b1).1
    have a2 := (cell_heap (unhide hh) _).trans (unhide b1).2
    by_cases hc : i < m
    · have h1 : wr.cell? ⟨ga, i, none⟩ = some (.complex .f64 (f i).1 (f i).2) := (hbl.cell (p := ⟨ga, i, none⟩) (unhide hgA)).trans (unhide cA i hc)
      have h2 : wr.cell? ⟨gb, i, none⟩ = some (.complex .f64 (h i).1 (h i).2) := (hbl.cell (p := ⟨gb, i, none⟩) (unhide hgB)).trans (unhide cB i hc)
      have hI : ((i : Int) < (m : Int)) = True := by simp; omega
      obtain ⟨d, e, k1, k2, k3, k4, k5, k6⟩ := (unhide hf i hc).ex
      have hF := hide (fun w => farAny _ _ _ _ d e w k1 k2 k3 k4)
      have k7 : FloatKind.f64.format.order (maxB (d % 9223372036854775808) (e % 9223372036854775808)) c = some .lt := by
        unfold maxB
        split
        · exact k6
        · exact k5
      clear k1 k2 k3 k4 k5 k6
      generalize maxB (d % 9223372036854775808) (e % 9223372036854775808) = D at hF k7
      generalize (f i).1 = x at h1 hF
      generalize (f i).2 = y at h1 hF
      generalize (h i).1 = x' at h2 hF
      generalize (h i).2 = y' at h2 hF
      go_wp2_with fail
      go_quiet (first | (go_at_call 16; refine Calls.quiet_of_same (unhide hF _)))
      go_wp2_with fail
      go_roundw
      case rel => exact ⟨i + 1, hc, by go_num, unhide hh, below_drewN hbl _⟩
      case measure => simp [intOf]; omega
    · have hI : ((i : Int) < (m : Int)) = False := by simp; omega
      go_wp2_with fail
      go_ret
      exact ⟨rfl, hbl⟩
end Go.Proofs.Ytgbffbikieikdaa
