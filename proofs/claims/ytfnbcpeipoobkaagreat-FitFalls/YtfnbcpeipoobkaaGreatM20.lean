/- The fields of a float64: sign, exponent, rest; what clearing and laying the exponent gives. -/
import Derived.Test.YtfnbcpeipoobkaaGreatM19
import Derived.Laws.BitsAllLaws
namespace Go.Proofs.YtfnbcpeipoobkaaGreat
open Fl Ieee

theorem pow_abs (k : Nat) : ((2 : Int) ^ k).natAbs = 2 ^ k := by rw [Int.natAbs_pow]; rfl


theorem low12 : ∀ s : Nat, s < 2 → ∀ a : Nat, a < 64 → ∀ b : Nat, b < 32 → (s * 2048 + (32 * a + b)) &&& 2048 = s * 2048 ∧ (s * 2048) ||| (32 * a + b) = s * 2048 + (32 * a + b) := by decide +kernel
theorem low12' {s e : Nat} (hs : s < 2) (he : e < 2048) : (s * 2048 + e) &&& 2048 = s * 2048 ∧ (s * 2048) ||| e = s * 2048 + e := by
  have h := low12 s hs (e / 32) (by omega) (e % 32) (by omega)
  rwa [Nat.div_add_mod] at h

theorem clear_exp {s e m : Nat} (hs : s < 2) (he : e < 2048) (hm : m < 4503599627370496) :
    (s * 9223372036854775808 + e * 4503599627370496 + m) &&& 9227875636482146303 = s * 9223372036854775808 + m := by
  obtain ⟨x, hx⟩ : ∃ x, x = s * 9223372036854775808 + e * 4503599627370496 + m := ⟨_, rfl⟩
  rw [← hx]
  have h1 : (x &&& 9227875636482146303) / 2 ^ 52 = x / 2 ^ 52 &&& 9227875636482146303 / 2 ^ 52 := Nat.and_div_two_pow
  have h2 : (x &&& 9227875636482146303) % 2 ^ 52 = x % 2 ^ 52 &&& 9227875636482146303 % 2 ^ 52 := Nat.and_mod_two_pow
  rw [show x / 2 ^ 52 = s * 2048 + e by omega, show (9227875636482146303 : Nat) / 2 ^ 52 = 2048 by decide, (low12' hs he).1] at h1
  rw [show x % 2 ^ 52 = m by omega, show (9227875636482146303 : Nat) % 2 ^ 52 = 2 ^ 52 - 1 by decide, Nat.and_two_pow_sub_one_eq_mod, Nat.mod_eq_of_lt (a := m) (b := 2 ^ 52) (by omega)] at h2
  generalize x &&& 9227875636482146303 = y at h1 h2 ⊢
  omega

theorem lay_exp {s e m : Nat} (hs : s < 2) (he : e < 2048) (hm : m < 4503599627370496) :
    (s * 9223372036854775808 + m) ||| (e * 4503599627370496) = s * 9223372036854775808 + e * 4503599627370496 + m := by
  obtain ⟨x, hx⟩ : ∃ x, x = s * 9223372036854775808 + m := ⟨_, rfl⟩
  obtain ⟨z, hz⟩ : ∃ z, z = e * 4503599627370496 := ⟨_, rfl⟩
  rw [← hx, ← hz]
  have h1 : (x ||| z) / 2 ^ 52 = x / 2 ^ 52 ||| z / 2 ^ 52 := Nat.or_div_two_pow
  have h2 : (x ||| z) % 2 ^ 52 = x % 2 ^ 52 ||| z % 2 ^ 52 := Nat.or_mod_two_pow
  rw [show x / 2 ^ 52 = s * 2048 by omega, show z / 2 ^ 52 = e by omega, (low12' hs he).2] at h1
  rw [show x % 2 ^ 52 = m by omega, show z % 2 ^ 52 = 0 by omega, Nat.or_zero] at h2
  generalize x ||| z = y at h1 h2 ⊢
  omega

/-- A normal float64 by its fields. -/
structure Normal (r : Nat) (V : Int) (s e m : Nat) : Prop where
  eq : r = s * 9223372036854775808 + e * 4503599627370496 + m
  s2 : s < 2
  e1 : 1 ≤ e
  e2 : e ≤ 2046
  m2 : m < 4503599627370496
  val : V = signed (s == 1) (4503599627370496 + m) (e - 1)

theorem word_of {s r : Nat} (hs : s < 2) : s * 9223372036854775808 + r = double.word (s == 1) r := by
  unfold Format.word
  rw [sw]
  rcases (by omega : s = 0 ∨ s = 1) with rfl | rfl
  · rw [if_neg (by decide), Nat.zero_mul, Nat.zero_add]
  · rw [if_pos (by decide), Nat.one_mul]

theorem normal_of {r : Nat} {V : Int} (h : FV r V) (hr : r < 18446744073709551616) (hV : 4503599627370496 ≤ V.natAbs) : ∃ s e m, Normal r V s e m := by
  obtain ⟨t, M, k, he, hv⟩ := h
  have hr2 : r = r / 9223372036854775808 * 9223372036854775808 + r % 9223372036854775808 := by omega
  have hs : r / 9223372036854775808 < 2 := by omega
  generalize r / 9223372036854775808 = s at hr2 hs
  have hlt : r % 9223372036854775808 < 9223372036854775808 := Nat.mod_lt _ (by decide)
  generalize r % 9223372036854775808 = y at hr2 hlt
  have hN := congrArg Int.natAbs hv
  rw [signed_natAbs] at hN
  rw [hr2, word_of hs, read_word _ y hlt] at he
  split at he
  · injection he with h1 h2 h3
    have : k = 0 := by omega
    subst this
    omega
  · split at he
    · injection he with h1 h2 h3
      have hk : k = y / 4503599627370496 - 1 := by omega
      obtain ⟨e, hE⟩ : ∃ e, e = y / 4503599627370496 := ⟨_, rfl⟩
      obtain ⟨m, hM⟩ : ∃ m, m = y % 4503599627370496 := ⟨_, rfl⟩
      rw [← hE] at hk
      rw [← hM] at h2
      have hy : y = e * 4503599627370496 + m := by omega
      exact ⟨s, e, m, by rw [hr2, hy, Nat.add_assoc], hs, by omega, by omega, by omega, by rw [← hv, ← h1, ← h2, hk]⟩
    · split at he <;> cases he

theorem fv_normal {s e m : Nat} (hs : s < 2) (he : 1 ≤ e) (he2 : e ≤ 2046) (hm : m < 4503599627370496) : FV (s * 9223372036854775808 + e * 4503599627370496 + m) (signed (s == 1) (4503599627370496 + m) (e - 1)) := by
  refine ⟨s == 1, 4503599627370496 + m, e - 1, ?_, rfl⟩
  rw [Nat.add_assoc, word_of hs, read_word _ _ (by omega), if_neg (by omega), if_pos (by omega)]
  rw [show (e * 4503599627370496 + m) % 4503599627370496 = m by omega, show (e * 4503599627370496 + m) / 4503599627370496 - 1 = e - 1 by omega]

theorem fb_lt (op : BinOp) (a b : Nat) : (floatBits op .f64 a b).getD 0 < 18446744073709551616 := by
  cases h : floatBits op .f64 a b with
  | none => decide
  | some r => exact of_decide_eq_true (floatBits_wf h)

theorem signed_pow (t : Bool) (m k j : Nat) : signed t m (k + j) = signed t m k * ((2 ^ j : Nat) : Int) := by
  rw [signed_eq, signed_eq, Nat.pow_add, ← Nat.mul_assoc]
  cases t
  · rw [if_neg (by decide), if_neg (by decide), Int.natCast_mul]
  · rw [if_pos rfl, if_pos rfl, Int.natCast_mul, Int.neg_mul]

/-- 1, and 2 to the -53, to the 52. -/
theorem fv_one (q : Nat) (hq : q = 1074) : FV 4607182418800017408 (2 ^ q) := by
  subst hq
  exact ⟨false, 4503599627370496, 1022, by decide +kernel, by decide +kernel⟩
theorem fv_m53 (q : Nat) (hq : q = 1021) : FV 4368491638549381120 (2 ^ q) := by
  subst hq
  exact ⟨false, 4503599627370496, 969, by decide +kernel, by decide +kernel⟩
theorem fv_p52 (q : Nat) (hq : q = 1126) : FV 4841369599423283200 (2 ^ q) := by
  subst hq
  exact ⟨false, 4503599627370496, 1074, by decide +kernel, by decide +kernel⟩
theorem fv_least : FV 4503599627370496 4503599627370496 := ⟨false, 4503599627370496, 0, by decide +kernel, by decide +kernel⟩
theorem fv_most : ∃ M : Int, FV 9218868437227405311 M ∧ ((2 ^ 2000 : Nat) : Int) ≤ M := ⟨_, ⟨false, 9007199254740991, 2045, by decide +kernel, rfl⟩, by decide +kernel⟩
theorem fv_nought2 : FV 0 0 := ⟨false, 0, 0, rfl, rfl⟩
theorem fv_nought2' : FV 9223372036854775808 0 := ⟨true, 0, 0, by decide +kernel, by decide +kernel⟩

/-- What the scaling leaves: R is the number nearest to Z / 2^p, in whole units. -/
def Near1 (Z R : Int) (p : Nat) : Prop := 2 * (R * ((2 ^ p : Nat) : Int) - Z).natAbs ≤ 2 ^ p

/-- The exponent stays in range: nothing is lost. -/
theorem one_times {s e m : Nat} (hs : s < 2) (he : 1 ≤ e) (he2 : e ≤ 2046) (hm : m < 4503599627370496) :
    ∃ r, floatBits .mul .f64 4607182418800017408 (s * 9223372036854775808 + e * 4503599627370496 + m) = some r ∧ FV r (signed (s == 1) (4503599627370496 + m) (e - 1)) := by
  obtain ⟨q, hq⟩ : ∃ q, q = 1074 := ⟨_, rfl⟩
  exact mul_fv q hq (fv_one q hq) (fv_normal hs he he2 hm) (Int.mul_comm _ _) (M := 4503599627370496 + m) (k := e - 1) (signed_natAbs _ _ _) (by omega) (by
    have : (4503599627370496 + m).log2 ≤ 52 := log2_le_of_lt (by omega)
    omega)

/-- The exponent falls below the range: one rounding. -/
theorem small_times {s e m : Nat} (hs : s < 2) (he : 1 ≤ e) (he2 : e ≤ 53) (hm : m < 4503599627370496) :
    ∃ r R, floatBits .mul .f64 4368491638549381120 (s * 9223372036854775808 + e * 4503599627370496 + m) = some r ∧ FV r R ∧ Near1 (signed (s == 1) (4503599627370496 + m) (e - 1)) R 53 := by
  obtain ⟨q, hq⟩ : ∃ q, q = 1074 := ⟨_, rfl⟩
  obtain ⟨t, ht⟩ : ∃ t, t = 1021 := ⟨_, rfl⟩
  have hqt : q = 53 + t := by omega
  have hX : (signed (s == 1) (4503599627370496 + m) (e - 1)).natAbs < 2 ^ 106 := by
    rw [signed_natAbs]
    have h1 : 2 ^ (e - 1) ≤ 2 ^ 52 := Nat.pow_le_pow_right (by decide) (by omega)
    have h2 : (4503599627370496 + m) * 2 ^ (e - 1) ≤ (4503599627370496 + m) * 2 ^ 52 := Nat.mul_le_mul_left _ h1
    omega
  obtain ⟨r, R, e1, f1, g1⟩ := mul_err q hq (fv_m53 t ht) (fv_normal hs he (by omega) hm) (T := 53) (by decide) (by decide) (by
    rw [Int.natAbs_mul, pow_abs, Nat.mul_comm]
    have h3 : (2 : Nat) ^ (53 + q) = 2 ^ 106 * 2 ^ t := by rw [hqt, ← Nat.add_assoc, Nat.pow_add]
    rw [h3]
    exact Nat.mul_lt_mul_of_pos_right hX (Nat.two_pow_pos t))
  refine ⟨r, R, e1, f1, ?_⟩
  unfold Near1
  generalize signed (s == 1) (4503599627370496 + m) (e - 1) = X at g1
  have e2 : R * 2 ^ q - 2 ^ t * X = (R * ((2 ^ 53 : Nat) : Int) - X) * 2 ^ t := by
    rw [hqt, Int.pow_add, show ((2 ^ 53 : Nat) : Int) = (2 : Int) ^ 53 by decide]
    generalize (2 : Int) ^ t = G
    generalize (2 : Int) ^ 53 = H
    grind
  rw [e2, Int.natAbs_mul, pow_abs, show 53 - 53 + q = 53 + t by omega, Nat.pow_add, ← Nat.mul_assoc] at g1
  exact Nat.le_of_mul_le_mul_right g1 (Nat.two_pow_pos t)
end Go.Proofs.YtfnbcpeipoobkaaGreat
