/- The squares of a root's parts, rounded, and how far their sum is from 1; what is not above a bound. -/
import Derived.Test.YtgbffbikieikdaaNB
namespace Go.Proofs.Ytgbffbikieikdaa
open Fl

def sqB (a : Int × Int) : Bool := decide ((a.1 * a.1 + a.2 * a.2 - 340282366920938463463374607431768211456).natAbs ≤ 302231454903657293676544)
theorem sq0 : ∀ a : Nat, a < 32 → ∀ b : Nat, b < 32 → sqB (vq (32 * a + b)) = true := by decide +kernel

theorem sq_rot {a : Int × Int} (h : sqB a = true) : sqB (rotI a) = true := by
  unfold sqB at h ⊢
  rw [decide_eq_true_eq] at h ⊢
  show (-a.2 * -a.2 + a.1 * a.1 - 340282366920938463463374607431768211456).natAbs ≤ _
  rw [Int.neg_mul_neg, Int.add_comm (a.2 * a.2)]
  exact h

theorem sq_vz (i : Nat) : sqB (vz i) = true := by
  unfold vz
  generalize i / 1024 = c
  induction c with
  | zero =>
    have := sq0 (i % 1024 / 32) (by omega) (i % 1024 % 32) (by omega)
    rw [show 32 * (i % 1024 / 32) + i % 1024 % 32 = i % 1024 by omega] at this
    exact this
  | succ c ih => exact sq_rot ih

structure SqTo (a b : Nat) : Prop where
  ex : ∃ aa bb s d : Nat, ∃ u : Int, floatBits .mul .f64 a a = some aa ∧ floatBits .mul .f64 b b = some bb ∧ floatBits .add .f64 aa bb = some s ∧ floatBits .sub .f64 s 4607182418800017408 = some d ∧ FV d u ∧ u.natAbs ≤ 2 ^ 1028

theorem one_dv : DV 4607182418800017408 18446744073709551616 := dv_pos (by decide +kernel)

theorem sq_lin {K : Nat} {v1 v2 P1 P2 w Y t : Int} (hK : 0 < K) (h1 : (v1 - P1).natAbs ≤ 37778931862957161709568 * K) (h2 : (v2 - P2).natAbs ≤ 37778931862957161709568 * K)
    (h3 : 2 * (w - (v1 + v2)).natAbs ≤ 151115727451828646838272 * K) (ht : t.natAbs ≤ 302231454903657293676544 * K) (hid : P1 + P2 - Y = t) : (w - Y).natAbs < 1208925819614629174706176 * K := by
  omega

theorem last_one {r : Nat} {w : Int} (k : Nat) (hk : k = 946) (hr : FV r w) (h : (w - 18446744073709551616 * (18446744073709551616 * ((2 ^ k : Nat) : Int))).natAbs < 1208925819614629174706176 * 2 ^ k) :
    ∃ d u, floatBits .sub .f64 r 4607182418800017408 = some d ∧ FV d u ∧ u.natAbs ≤ 2 ^ (82 + k) := by
  obtain ⟨q, hq, fx⟩ := one_dv
  have e : (18446744073709551616 : Int) * (2 : Int) ^ q = 18446744073709551616 * (18446744073709551616 * ((2 ^ k : Nat) : Int)) := by
    rw [pow_cast, show q = 64 + k by omega, Int.pow_add]
    rfl
  have hz : (w - 18446744073709551616 * 2 ^ q).natAbs < 2 ^ (80 + k) := by
    rw [e, Nat.pow_add]
    exact h
  obtain ⟨d, u, e1, fd, hd⟩ := sub_err hr fx (T := 80 + k) (by omega) (by omega) hz
  refine ⟨d, u, e1, fd, ?_⟩
  have h1 : 2 ^ (80 + k - 53) ≤ 2 ^ (80 + k) := Nat.pow_le_pow_right (by decide) (by omega)
  have h2 : 2 ^ (82 + k) = 4 * 2 ^ (80 + k) := by rw [show 82 + k = 2 + (80 + k) by omega, Nat.pow_add]
  rw [h2]
  generalize 2 ^ (80 + k) = P at *
  omega

theorem sq_of {a b : Nat} {A B : Int} (ha : DV a A) (hb : DV b B) (sA : smallB (A, B) = true) (hs : sqB (A, B) = true) : SqTo a b := by
  rw [small_iff] at sA
  unfold sqB at hs
  rw [decide_eq_true_eq] at hs
  obtain ⟨k, hk⟩ : ∃ k : Nat, k = 946 := ⟨_, rfl⟩
  obtain ⟨aa, v1, e1, f1, g1⟩ := dmul k hk ha ha sA.1 sA.1
  obtain ⟨bb, v2, e2, f2, g2⟩ := dmul k hk hb hb sA.2 sA.2
  rw [← pow_cast] at g1 g2
  have hKpos : 0 < 2 ^ k := Nat.two_pow_pos k
  have p1 := bound_P (K := 2 ^ k) sA.1 sA.1
  have p2 := bound_P (K := 2 ^ k) sA.2 sA.2
  have q2 := (sum_small hKpos g1 g2 p1 p2).2
  have h130 : (1361129467683753853853498429727072845824 : Nat) * 2 ^ k = 2 ^ 1076 := by
    rw [show (1361129467683753853853498429727072845824 : Nat) = 2 ^ 130 from rfl, ← Nat.pow_add, show 130 + k = 1076 by omega]
  rw [h130] at q2
  obtain ⟨s, w2, e6, f6, g6⟩ := add_err f1 f2 (T := 1076) (by decide) (by decide) q2
  have h77 : (2 : Nat) ^ (1076 - 53) = 151115727451828646838272 * 2 ^ k := by
    rw [show (151115727451828646838272 : Nat) = 2 ^ 77 from rfl, ← Nat.pow_add, show 77 + k = 1076 - 53 by omega]
  rw [h77] at g6
  have t2 : ((A * A + B * B - 340282366920938463463374607431768211456) * ((2 ^ k : Nat) : Int)).natAbs ≤ 302231454903657293676544 * 2 ^ k := by
    rw [Int.natAbs_mul, Int.natAbs_natCast]; exact Nat.mul_le_mul_right _ hs
  have l2 : (w2 - 18446744073709551616 * (18446744073709551616 * ((2 ^ k : Nat) : Int))).natAbs < 1208925819614629174706176 * 2 ^ k := by
    refine sq_lin hKpos g1 g2 g6 t2 ?_
    generalize ((2 ^ k : Nat) : Int) = K
    grind
  obtain ⟨d2, u2, e8, f8, g8⟩ := last_one k hk f6 l2
  rw [show 82 + k = 1028 by omega] at g8
  exact ⟨aa, bb, s, d2, u2, e1, e2, e6, e8, f8, g8⟩

theorem sq_full {i : Nat} (hi : i < 4096) : SqTo (full i).1 (full i).2 := by
  have h1 := dv_full hi
  exact sq_of h1.1 h1.2 (small_vz i) (sq_vz i)

theorem fv_abs {b : Nat} {v : Int} (h : FV b v) : FV (b % 9223372036854775808) (v.natAbs : Int) := by
  obtain ⟨s, m, k, e, rfl⟩ := h
  refine ⟨false, m, k, read_mod b s m _ e, ?_⟩
  rw [signed_natAbs, signed_eq]
  rfl

/-- 2 to the -44, and to the -46. -/
theorem fv_44 (q : Nat) (hq : q = 1030) : FV 4409024035195715584 (2 ^ q) := by
  subst hq
  exact ⟨false, 4503599627370496, 978, by decide +kernel, by decide +kernel⟩
theorem fv_46 (q : Nat) (hq : q = 1028) : FV 4400016835940974592 (2 ^ q) := by
  subst hq
  exact ⟨false, 4503599627370496, 976, by decide +kernel, by decide +kernel⟩

theorem not_above {a b : Nat} {x y : Int} (ha : FV a x) (hb : FV b y) (h : x ≤ y) : FloatKind.f64.format.order a b = some .lt ∨ FloatKind.f64.format.order a b = some .eq := by
  rw [show FloatKind.f64.format.order a b = _ from fv_order ha hb]
  by_cases c : x = y
  · right; rw [Int.compare_eq_eq.2 c]
  · left; rw [Int.compare_eq_lt.2 (by omega)]

theorem fv_self {a : Nat} {x : Int} (ha : FV a x) : FloatKind.f64.format.order a a = some .eq := by
  rw [show FloatKind.f64.format.order a a = _ from fv_order ha ha, Int.compare_eq_eq.2 rfl]

end Go.Proofs.Ytgbffbikieikdaa
