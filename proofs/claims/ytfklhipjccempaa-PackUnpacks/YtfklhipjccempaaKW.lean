/- Which bits are those of a whole number. -/
import Derived.Test.YtfklhipjccempaaYC
namespace Go.Proofs.Ytfklhipjccempaa
open Go.RowKit Fl Ieee

theorem read_any {b : Nat} : (∃ (s : Bool) (m k : Nat), double.read b = .number s m (-1074 + (k : Int)) ∧ m < 9007199254740992 ∧ k ≤ 2045) ∨ (∃ s, double.read b = .infinity s) ∨ ∃ s f, double.read b = .nan s f := by
  unfold Format.read
  dsimp only
  rw [sw, bn, ir, lp]
  by_cases c0 : b % 9223372036854775808 < 4503599627370496
  · rw [if_pos c0]
    exact Or.inl ⟨_, _, 0, rfl, by omega, by omega⟩
  · rw [if_neg c0]
    by_cases c1 : b % 9223372036854775808 < 9218868437227405312
    · rw [if_pos c1]
      exact Or.inl ⟨_, _, _, rfl, by omega, by omega⟩
    · rw [if_neg c1]
      by_cases c2 : b % 9223372036854775808 = 9218868437227405312
      · rw [if_pos c2]
        exact Or.inr (Or.inl ⟨_, rfl⟩)
      · rw [if_neg c2]
        exact Or.inr (Or.inr ⟨_, _, rfl⟩)

theorem fv_of {b : Nat} {s : Bool} {m k : Nat} (h : double.read b = .number s m (-1074 + (k : Int))) : FV b (signed s m k) := ⟨s, m, k, h, rfl⟩

def truncB (b : Nat) : Nat := FloatKind.f64.encode ((FloatKind.f64.decode b).integral .zero)

theorem nearest_iv (s : Bool) (N : Nat) (hN : N < 2 ^ 53) : IV (double.nearest s N 0) (signed s N 0) := by
  refine ⟨1074, rfl, ?_⟩
  generalize hq : (1074 : Nat) = q
  have := nearest_fv s (N * 2 ^ (q + q)) q (-1074 - (q : Int)) N q rfl rfl hN (by have := log2_le_of_lt hN; omega)
  have hsq : signed s N q = signed s N 0 * 2 ^ q := by
    have := signed_split s N 0 q
    rw [Nat.zero_add] at this
    exact this
  rw [hsq] at this
  by_cases h0 : N = 0
  · subst h0
    have hz : signed s 0 0 = 0 := by cases s <;> rfl
    rw [hz, Int.zero_mul]
    refine ⟨s, 0, 0, ?_, hz⟩
    unfold Format.nearest
    rw [if_pos rfl]
    exact read_zero _
  · rw [nearest_scale _ _ _ _ (by omega), show -1074 - (q : Int) + ((q + q : Nat) : Int) = 0 by omega] at this
    exact this

theorem trunc_fv {b : Nat} {v : Int} (h : FV b v) (q : Nat) (hq : q = 1074) : ∃ s : Bool, truncB b = double.nearest s (v.natAbs / 2 ^ q) 0 := by
  obtain ⟨s, m, k, e, rfl⟩ := h
  refine ⟨s, ?_⟩
  show double.write ((double.read b).integral .zero) = _
  rw [e, signed_natAbs]
  unfold Datum.integral
  dsimp only
  rw [cut_zero, Nat.shiftLeft_eq]
  show double.nearest _ _ _ = _
  congr 1
  by_cases c : q ≤ k
  · rw [show (-(-1074 + (k : Int))).toNat = 0 by omega, Nat.pow_zero, Nat.div_one, show (-1074 + (k : Int)).toNat = k - q by omega]
    conv => rhs; rw [show k = (k - q) + q by omega, Nat.pow_add, ← Nat.mul_assoc, Nat.mul_div_cancel _ (Nat.two_pow_pos _)]
  · rw [show (-1074 + (k : Int)).toNat = 0 by omega, Nat.pow_zero, Nat.mul_one, show (-(-1074 + (k : Int))).toNat = q - k by omega]
    conv => rhs; rw [show q = (q - k) + k by omega, Nat.pow_add, Nat.mul_div_mul_right _ _ (Nat.two_pow_pos _)]

theorem fv_abs {b : Nat} {v : Int} (h : FV b v) : FV (b % 9223372036854775808) v.natAbs := by
  obtain ⟨s, m, k, e, rfl⟩ := h
  refine ⟨false, m, k, read_mod b s m _ e, ?_⟩
  rw [signed_natAbs, signed_eq]
  rfl

/-- What is a whole number of at most M, and no nought with a sign. -/
def Wh (M b : Nat) : Prop := ∃ n : Int, IV b n ∧ (n = 0 → b = 0) ∧ n.natAbs ≤ M

theorem cmp_eq {x y : Int} : (some (compare x y) == some Ordering.eq) = decide (x = y) := by
  by_cases c : x = y
  · subst c
    rw [show compare x x = .eq from Int.compare_eq_eq.2 rfl]
    simp
  · rw [decide_eq_false c, beq_eq_false_iff_ne]
    intro h
    exact c (Int.compare_eq_eq.1 (Option.some.inj h))

/-- A finite number is held against its whole part. -/
theorem whole_trunc {b : Nat} {v : Int} (h : FV b v) (q : Nat) (hq : q = 1074) (hN : v.natAbs / 2 ^ q < 2 ^ 53) :
    (double.order b (truncB b) = some .eq) ↔ ∃ n : Int, IV b n := by
  constructor
  · intro ho
    obtain ⟨s, hs⟩ := trunc_fv h q hq
    obtain ⟨q', hq', hT⟩ := nearest_iv s _ hN
    rw [← hs] at hT
    rw [fv_order h hT] at ho
    have := Int.compare_eq_eq.1 (Option.some.inj ho)
    exact ⟨_, q', hq', this ▸ h⟩
  · rintro ⟨n, hn⟩
    obtain ⟨q', hq', hf⟩ := hn
    have e : v = n * 2 ^ q' := fv_unique h hf
    have e2 : v.natAbs / 2 ^ q = n.natAbs := by
      rw [e, natAbs_scale, hq', ← hq]
      exact Nat.mul_div_cancel _ (Nat.two_pow_pos _)
    rw [e2] at hN
    have hT := iv_trunc ⟨q', hq', hf⟩ hN
    rw [show double.order b (truncB b) = _ from iv_order ⟨q', hq', hf⟩ hT]
    rw [show compare n n = .eq from Int.compare_eq_eq.2 rfl]

theorem iv_le {b : Nat} {n : Int} {M : Nat} (h : IV b n) (hM : M < 2 ^ 53) : double.order (b % 9223372036854775808) (floatOfInt .f64 (M : Int)) = some (compare (n.natAbs : Int) M) :=
  iv_order (iv_abs h) (iv_ofInt M (by rw [Int.natAbs_natCast]; exact hM))

theorem fv_big {b : Nat} {v : Int} {M : Nat} (h : FV b v) (q : Nat) (hq : q = 1074) (hN : ¬ v.natAbs / 2 ^ q < 2 ^ 53) (hM : M < 2 ^ 53) : double.order (b % 9223372036854775808) (floatOfInt .f64 (M : Int)) = some .gt ∧ ¬ Wh M b := by
  have hp := Nat.two_pow_pos q
  have hlt : M * 2 ^ q < v.natAbs := by
    have h1 : M < v.natAbs / 2 ^ q := by omega
    have h2 : (M + 1) * 2 ^ q ≤ v.natAbs := (Nat.le_div_iff_mul_le hp).1 h1
    rw [Nat.add_mul, Nat.one_mul] at h2
    omega
  constructor
  · obtain ⟨q', hq', hf⟩ := iv_ofInt (M : Int) (by rw [Int.natAbs_natCast]; exact hM)
    obtain rfl : q' = q := by omega
    rw [fv_order (fv_abs h) hf]
    congr 1
    refine Int.compare_eq_gt.2 ?_
    have : ((M * 2 ^ q' : Nat) : Int) < (v.natAbs : Int) := by exact_mod_cast hlt
    rw [Int.natCast_mul, Int.natCast_pow] at this
    exact this
  · rintro ⟨n, ⟨q', hq', hf⟩, _, hle⟩
    have e : v = n * 2 ^ q' := fv_unique h hf
    obtain rfl : q' = q := by omega
    rw [e, natAbs_scale] at hlt
    have := Nat.lt_of_mul_lt_mul_right hlt
    omega
end Go.Proofs.Ytfklhipjccempaa
