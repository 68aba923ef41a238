/- Whole numbers as the transform takes them; the fixed fact. -/
import Derived.Test.YtnmcdlechmaggaaDoorLC
namespace Go.Proofs.YtnmcdlechmaggaaDoor
open Go.RowKit Fl

theorem n2_whole {a : Int × Int} (q : Nat) (h1 : a.1.natAbs ≤ 1048576) (h2 : a.2.natAbs ≤ 1048576) : N2 (a.1 * 2 ^ q, a.2 * 2 ^ q) (2 ^ (q + 21)) := by
  unfold N2
  have e : ((2 ^ (q + 21) : Nat) : Int) = 2097152 * 2 ^ q := by rw [Nat.pow_add, Int.natCast_mul, Int.natCast_pow, Int.mul_comm]; rfl
  rw [e]
  have s1 : a.1 * a.1 ≤ 1048576 * 1048576 := by
    have := Nat.mul_le_mul h1 h1
    rw [← Int.natAbs_mul] at this
    omega
  have s2 : a.2 * a.2 ≤ 1048576 * 1048576 := by
    have := Nat.mul_le_mul h2 h2
    rw [← Int.natAbs_mul] at this
    omega
  have hG : 0 ≤ (2 : Int) ^ q * 2 ^ q := by
    have : 0 ≤ (2 : Int) ^ q := Int.pow_nonneg (by decide)
    exact Int.mul_nonneg this this
  have h3 : (a.1 * a.1 + a.2 * a.2) * ((2 : Int) ^ q * 2 ^ q) ≤ (2097152 * 2097152) * ((2 : Int) ^ q * 2 ^ q) := Int.mul_le_mul_of_nonneg_right (by omega) hG
  generalize (2 : Int) ^ q = G at h3
  have e1 : a.1 * G * (a.1 * G) + a.2 * G * (a.2 * G) = (a.1 * a.1 + a.2 * a.2) * (G * G) := by grind
  have e2 : 2097152 * G * (2097152 * G) = (2097152 * 2097152) * (G * G) := by grind
  rw [e1, e2]
  exact h3

/-- A list of whole numbers, as bits. -/
structure Ints (n : Nat) (x : Nat → Nat × Nat) (v : Nat → Int × Int) : Prop where
  ic : ∀ j, j < n → IC (x j) (v j)
  le : ∀ j, j < n → (v j).1.natAbs ≤ 1048576 ∧ (v j).2.natAbs ≤ 1048576
  w2 : ∀ j, j < n → W2 (x j)

theorem cv_ic {b : Nat × Nat} {z : Int × Int} (h : IC b z) (q : Nat) (hq : q = 1074) : CV b (z.1 * 2 ^ q, z.2 * 2 ^ q) := by
  obtain ⟨q1, e1, f1⟩ := h.one
  obtain ⟨q2, e2, f2⟩ := h.two
  have : q1 = q := by omega
  subst this
  have : q2 = q1 := by omega
  subst this
  exact ⟨f1, f2⟩

theorem nums_ints {n : Nat} {x : Nat → Nat × Nat} {v : Nat → Int × Int} (h : Ints n x v) (b : Nat) (hb : b = 1095) : Nums b n x := by
  obtain ⟨q, hq⟩ : ∃ q, q = 1074 := ⟨_, rfl⟩
  refine ⟨fun j => ((v j).1 * 2 ^ q, (v j).2 * 2 ^ q), fun j hj => cv_ic (h.ic j hj) q hq, fun j hj => ?_⟩
  rw [show b = q + 21 by omega]
  exact n2_whole q (h.le j hj).1 (h.le j hj).2

theorem iv_of {b : Nat} (n : Int) (hn : n.natAbs < 2 ^ 53) (h : floatOfInt .f64 n = b) : IV b n := by
  rw [← h]
  exact iv_ofInt n hn

def x4 (i : Nat) : Nat × Nat := ([4607182418800017408, 4611686018427387904, 4613937818241073152, 4616189618054758400].getD i 0, 0)
def x2 (i : Nat) : Nat × Nat := ([4611686018427387904, 0].getD i 0, 0)
theorem f4 : fft 2 4095 x4 0 = (4621819117588971520, 0) ∧ fft 2 4095 x4 2 = (13835058055282163712, 0) := by decide +kernel
theorem f2 : fft 1 1 x2 0 = (4611686018427387904, 0) ∧ fft 1 1 x2 1 = (4611686018427387904, 0) := by decide +kernel

theorem ints4 : Ints 4 x4 (fun j => ((j : Int) + 1, 0)) := by
  refine ⟨fun j hj => ?_, fun j hj => ⟨by show ((j : Int) + 1).natAbs ≤ _; omega, Nat.zero_le _⟩, fun j hj => ?_⟩
  · rcases (by omega : j = 0 ∨ j = 1 ∨ j = 2 ∨ j = 3) with rfl | rfl | rfl | rfl
    · exact ⟨iv_of 1 (by decide) (by decide +kernel), iv_zero⟩
    · exact ⟨iv_of 2 (by decide) (by decide +kernel), iv_zero⟩
    · exact ⟨iv_of 3 (by decide) (by decide +kernel), iv_zero⟩
    · exact ⟨iv_of 4 (by decide) (by decide +kernel), iv_zero⟩
  · rcases (by omega : j = 0 ∨ j = 1 ∨ j = 2 ∨ j = 3) with rfl | rfl | rfl | rfl <;> exact ⟨by decide, by decide⟩

theorem ints2 : Ints 2 x2 (fun j => (if j = 0 then 2 else 0, 0)) := by
  refine ⟨fun j hj => ?_, fun j hj => ⟨by show (if j = 0 then (2 : Int) else 0).natAbs ≤ _; split <;> decide, Nat.zero_le _⟩, fun j hj => ?_⟩
  · rcases (by omega : j = 0 ∨ j = 1) with rfl | rfl
    · exact ⟨iv_of 2 (by decide) (by decide +kernel), iv_zero⟩
    · exact ⟨iv_zero, iv_zero⟩
  · rcases (by omega : j = 0 ∨ j = 1) with rfl | rfl <;> exact ⟨by decide, by decide⟩

/-- Two halved: 1. -/
theorem ld_two : ∃ r, LdTo 1 4611686018427387904 r ∧ IV r 1 := by
  obtain ⟨q, hq, f⟩ := iv_of (b := 4611686018427387904) 2 (by decide) (by decide +kernel)
  obtain ⟨r, R, h1, _, h2, h3⟩ := ld_any (p := 1) (by decide) (by decide) f (by
    rw [Int.natAbs_mul, pow_abs]
    show 2 * 2 ^ q < _
    rw [hq]
    decide +kernel)
  refine ⟨r, h1, q, hq, ?_⟩
  unfold Near1 at h3
  have : R = 1 * 2 ^ q := by
    generalize (2 : Int) ^ q = G at h3 ⊢
    omega
  rw [← this]
  exact h2

theorem ld_nought : ∃ r, LdTo 1 0 r ∧ IV r 0 := by
  obtain ⟨r, R, h1, _, h2, h3⟩ := ld_any (p := 1) (b := 0) (by decide) (by decide) fv_nought (by decide +kernel)
  unfold Near1 at h3
  have : R = 0 := by omega
  subst this
  exact ⟨r, h1, 1074, rfl, by rw [Int.zero_mul]; exact h2⟩

theorem iv_same {a b : Nat} {n : Int} (ha : IV a n) (hb : IV b n) : FloatKind.f64.format.order a b = some .eq := by
  rw [show FloatKind.f64.format.order a b = _ from iv_order ha hb, Int.compare_eq_eq.2 rfl]

theorem row4 (w : World) : Row (w.alloc (.cells #[.complex .f64 4607182418800017408 0, .complex .f64 4611686018427387904 0, .complex .f64 4613937818241073152 0, .complex .f64 4616189618054758400 0] 31)) w.heap.size 4 x4 := by
  refine ⟨_, heap_alloc_new w _, by decide, fun i hi => ?_⟩
  rcases (by omega : i = 0 ∨ i = 1 ∨ i = 2 ∨ i = 3) with rfl | rfl | rfl | rfl <;> rfl
theorem row2 (w : World) : Row (w.alloc (.cells #[.complex .f64 4611686018427387904 0, .complex .f64 0 0] 31)) w.heap.size 2 x2 := by
  refine ⟨_, heap_alloc_new w _, by decide, fun i hi => ?_⟩
  rcases (by omega : i = 0 ∨ i = 1) with rfl | rfl <;> rfl

set_option maxHeartbeats 1600000 in
theorem aliveAny (w : World) (hD : Deb w) : Calls Tryd.prog 4 #[] w fun e w' => e = .returned (.bool true) ∧ Below w.heap.size w w' := by
  obtain ⟨r1, l1, i1⟩ := ld_two
  obtain ⟨r0, l0, i0⟩ := ld_nought
  have hF := hide (fun w => forwardAny (b := 1095) (L := 2) (n := 4) (gx := w.heap.size) (cx := 4) (by decide) (by decide) (by decide) rfl (nums_ints ints4 1095 rfl) (Nat.le_refl _) _ (row4 w))
  have hS : ∀ k, k < 2 → LdTo 1 (fft 1 1 x2 k).1 r1 ∧ LdTo 1 (fft 1 1 x2 k).2 r0 := by
    intro k hk
    rcases (by omega : k = 0 ∨ k = 1) with rfl | rfl
    · rw [f2.1]; exact ⟨l1, l0⟩
    · rw [f2.2]; exact ⟨l1, l0⟩
  have hG := hide (fun w (h : Deb w) => backAny (b := 1095) (L := 1) (n := 2) (gx := w.heap.size) (cx := 2) (sc := fun _ => (r1, r0)) (by decide) (by decide) (by decide) rfl (nums_ints ints2 1095 rfl) (Nat.le_refl _) hS _ (deb_below h ((Below.refl _ _).alloc (Nat.le_refl _) _) (deb_lt h)) (row2 w))
  have o0 : FloatKind.f64.format.order 0 0 = some .eq := by decide +kernel
  have o10 : FloatKind.f64.format.order 4621819117588971520 4621819117588971520 = some .eq := by decide +kernel
  have om2 : FloatKind.f64.format.order 13835058055282163712 13835058055282163712 = some .eq := by decide +kernel
  have or1 : FloatKind.f64.format.order r1 4607182418800017408 = some .eq := iv_same i1 one_iv
  have or0 : FloatKind.f64.format.order r0 0 = some .eq := iv_same i0 iv_zero
  have hD := hide hD
  clear l1 l0 i1 i0 hS
  go_enter Tryd.func4, Tryd.ntmps4
  go_wp2_with fail
  refine (unhide hF w).mono ?_
  rintro e w1 ⟨g1, rfl, hg1, hR1, hB1⟩
  have hB1' : Hid (Below w.heap.size w w1) := ((Below.refl _ _).alloc (Nat.le_refl _) _).trans (hB1.mono (by simp))
  have hD1 := hide (unhide hG w1 (deb_below (unhide hD) (unhide hB1') (deb_lt (unhide hD))))
  have hR1 := hide hR1
  clear hB1 hG hF
  go_wp2_with fail
  refine (unhide hD1).mono ?_
  rintro e w2 ⟨g2, rfl, hg2, hR2, hB2⟩
  have hB3 : Below w1.heap.size w1 w2 := ((Below.refl _ _).alloc (Nat.le_refl _) _).trans (hB2.mono (by simp))
  have hR1' := row_below (unhide hR1) hB3 (row_lt (unhide hR1))
  have c1 := row_at hR1' (i := 0) (by decide)
  have c2 := row_at hR1' (i := 2) (by decide)
  rw [f4.1] at c1
  rw [f4.2] at c2
  have c3 := row_at hR2 (i := 0) (by decide)
  unfold cv at c1 c2 c3
  have hB4 : Hid (Below w.heap.size w w2) := (unhide hB1').trans (hB3.mono (unhide hB1').size)
  clear hB3 hB2 hR1' hR2 hR1 hD1 hB1' hg1 hg2
  go_wp2_with fail
  go_ret
  exact ⟨rfl, unhide hB4⟩
end Go.Proofs.YtnmcdlechmaggaaDoor
