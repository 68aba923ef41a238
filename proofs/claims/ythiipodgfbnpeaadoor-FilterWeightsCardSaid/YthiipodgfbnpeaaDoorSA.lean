/- Whole numbers as the transform takes them. -/
import Derived.Test.YthiipodgfbnpeaaDoorM3
import Derived.Test.YthiipodgfbnpeaaDoorLB
namespace Go.Proofs.YthiipodgfbnpeaaDoor
open Go.RowKit Fl

theorem n2_whole {a : Int × Int} (q : Nat) (h1 : a.1.natAbs ≤ 1048576) (h2 : a.2.natAbs ≤ 1048576) : N2 (a.1 * 2 ^ q, a.2 * 2 ^ q) (2 ^ (q + 21)) := by
  unfold N2
  have e : ((2 ^ (q + 21) : Nat) : Int) = 2097152 * 2 ^ q := by rw [Nat.pow_add, Int.natCast_mul, Int.natCast_pow, Int.mul_comm]; rfl
  rw [e]
  have s1 : a.1 * a.1 ≤ 1048576 * 1048576 := by
    have := Nat.mul_le_mul h1 h1
    rw [← Int.natAbs_mul] at this
    omega
  have s2 : a.2 * a.2 ≤ 1048576 * 1048576 := by
    have := Nat.mul_le_mul h2 h2
    rw [← Int.natAbs_mul] at this
    omega
  have hG : 0 ≤ (2 : Int) ^ q * 2 ^ q := by
    have : 0 ≤ (2 : Int) ^ q := Int.pow_nonneg (by decide)
    exact Int.mul_nonneg this this
  have h3 : (a.1 * a.1 + a.2 * a.2) * ((2 : Int) ^ q * 2 ^ q) ≤ (2097152 * 2097152) * ((2 : Int) ^ q * 2 ^ q) := Int.mul_le_mul_of_nonneg_right (by omega) hG
  generalize (2 : Int) ^ q = G at h3
  have e1 : a.1 * G * (a.1 * G) + a.2 * G * (a.2 * G) = (a.1 * a.1 + a.2 * a.2) * (G * G) := by grind
  have e2 : 2097152 * G * (2097152 * G) = (2097152 * 2097152) * (G * G) := by grind
  rw [e1, e2]
  exact h3

/-- A list of whole numbers, as bits. -/
structure Ints (n : Nat) (x : Nat → Nat × Nat) (v : Nat → Int × Int) : Prop where
  ic : ∀ j, j < n → IC (x j) (v j)
  le : ∀ j, j < n → (v j).1.natAbs ≤ 1048576 ∧ (v j).2.natAbs ≤ 1048576
  w2 : ∀ j, j < n → W2 (x j)

theorem cv_ic {b : Nat × Nat} {z : Int × Int} (h : IC b z) (q : Nat) (hq : q = 1074) : CV b (z.1 * 2 ^ q, z.2 * 2 ^ q) := by
  obtain ⟨q1, e1, f1⟩ := h.one
  obtain ⟨q2, e2, f2⟩ := h.two
  have : q1 = q := by omega
  subst this
  have : q2 = q1 := by omega
  subst this
  exact ⟨f1, f2⟩

theorem nums_ints {n : Nat} {x : Nat → Nat × Nat} {v : Nat → Int × Int} (h : Ints n x v) (b : Nat) (hb : b = 1095) : Nums b n x := by
  obtain ⟨q, hq⟩ : ∃ q, q = 1074 := ⟨_, rfl⟩
  refine ⟨fun j => ((v j).1 * 2 ^ q, (v j).2 * 2 ^ q), fun j hj => cv_ic (h.ic j hj) q hq, fun j hj => ?_⟩
  rw [show b = q + 21 by omega]
  exact n2_whole q (h.le j hj).1 (h.le j hj).2

theorem iv_of {b : Nat} (n : Int) (hn : n.natAbs < 2 ^ 53) (h : floatOfInt .f64 n = b) : IV b n := by
  rw [← h]
  exact iv_ofInt n hn

def x4 (i : Nat) : Nat × Nat := ([4607182418800017408, 4611686018427387904, 4613937818241073152, 4616189618054758400].getD i 0, 0)

theorem f4 : fft 2 4095 x4 0 = (4621819117588971520, 0) ∧ fft 2 4095 x4 2 = (13835058055282163712, 0) := by decide +kernel

theorem ints4 : Ints 4 x4 (fun j => ((j : Int) + 1, 0)) := by
  refine ⟨fun j hj => ?_, fun j hj => ⟨by show ((j : Int) + 1).natAbs ≤ _; omega, Nat.zero_le _⟩, fun j hj => ?_⟩
  · rcases (by omega : j = 0 ∨ j = 1 ∨ j = 2 ∨ j = 3) with rfl | rfl | rfl | rfl
    · exact ⟨iv_of 1 (by decide) (by decide +kernel), iv_zero⟩
    · exact ⟨iv_of 2 (by decide) (by decide +kernel), iv_zero⟩
    · exact ⟨iv_of 3 (by decide) (by decide +kernel), iv_zero⟩
    · exact ⟨iv_of 4 (by decide) (by decide +kernel), iv_zero⟩
  · rcases (by omega : j = 0 ∨ j = 1 ∨ j = 2 ∨ j = 3) with rfl | rfl | rfl | rfl <;> exact ⟨by decide, by decide⟩

theorem iv_same {a b : Nat} {n : Int} (ha : IV a n) (hb : IV b n) : FloatKind.f64.format.order a b = some .eq := by
  rw [show FloatKind.f64.format.order a b = _ from iv_order ha hb, Int.compare_eq_eq.2 rfl]

theorem row4 (w : World) : Row (w.alloc (.cells #[.complex .f64 4607182418800017408 0, .complex .f64 4611686018427387904 0, .complex .f64 4613937818241073152 0, .complex .f64 4616189618054758400 0] 33)) w.heap.size 4 x4 := by
  refine ⟨_, heap_alloc_new w _, by decide, fun i hi => ?_⟩
  rcases (by omega : i = 0 ∨ i = 1 ∨ i = 2 ∨ i = 3) with rfl | rfl | rfl | rfl <;> rfl
end Go.Proofs.YthiipodgfbnpeaaDoor
