/- The rounded products of roots, and how far they are from roots. -/
import Derived.Test.YtgbffbikieikdaaNA
namespace Go.Proofs.Ytgbffbikieikdaa
open Fl

theorem dv_pos {b : Nat} {z : Int} (h : fvB b z = true) : DV b z := by
  have := dv_word false h
  rwa [word_false] at this

theorem dv_neg {b : Nat} {z : Int} (h : fvB b z = true) : DV (nB b) (-z) := by
  by_cases c : b = 0
  · subst c
    have hz : z = 0 := by
      unfold fvB at h
      rw [Bool.or_eq_true] at h
      rcases h with h | h
      · rw [Bool.and_eq_true, beq_iff_eq, beq_iff_eq] at h
        exact h.2
      · rw [Bool.and_eq_true, Bool.and_eq_true, decide_eq_true_eq] at h
        exact absurd h.1.1 (by decide)
    subst hz
    exact dv_pos h
  · have := dv_word true h
    rw [word_true] at this
    have e : nB b = b + 9223372036854775808 := if_neg (by rw [beq_iff_eq]; exact c)
    rw [e]
    exact this

theorem dv_full {i : Nat} (hi : i < 4096) : DV (full i).1 (vz i).1 ∧ DV (full i).2 (vz i).2 := by
  have hl := link0 (i % 1024 / 32) (by omega) (i % 1024 % 32) (by omega)
  rw [show 32 * (i % 1024 / 32) + i % 1024 % 32 = i % 1024 by omega] at hl
  rw [full_four hi]
  unfold vz
  generalize (qd (i % 1024)).1 = p at *
  generalize (qd (i % 1024)).2 = q at *
  generalize vq (i % 1024) = v at *
  have hc : i / 1024 = 0 ∨ i / 1024 = 1 ∨ i / 1024 = 2 ∨ i / 1024 = 3 := by omega
  obtain ⟨h1, h2⟩ := hl
  rcases hc with hc | hc | hc | hc <;> rw [hc]
  · exact ⟨dv_pos h1, dv_pos h2⟩
  · exact ⟨dv_neg h2, dv_pos h1⟩
  · exact ⟨dv_neg h1, dv_neg h2⟩
  · refine ⟨?_, dv_neg h1⟩
    show DV q (- - v.2)
    rw [Int.neg_neg]
    exact dv_pos h2

theorem pow_cast (k : Nat) : ((2 ^ k : Nat) : Int) = (2 : Int) ^ k := by rw [Int.natCast_pow]; rfl
theorem pow_abs (k : Nat) : ((2 : Int) ^ k).natAbs = 2 ^ k := by rw [Int.natAbs_pow]; rfl

/-- A product of two parts, rounded; K: 2 to the 946. -/
theorem dmul {a c : Nat} {A C : Int} (k : Nat) (hk : k = 946) (ha : DV a A) (hc : DV c C) (hA : A.natAbs ≤ 18446744073709551616) (hC : C.natAbs ≤ 18446744073709551616) :
    ∃ r v, floatBits .mul .f64 a c = some r ∧ FV r v ∧ (v - A * C * 2 ^ k).natAbs ≤ 37778931862957161709568 * 2 ^ k := by
  obtain ⟨q, hq, fa⟩ := ha
  obtain ⟨q', hq', fc⟩ := hc
  have hqq : q' = q := by omega
  subst hqq
  obtain ⟨u, hu⟩ : ∃ u : Nat, u = 1074 := ⟨_, rfl⟩
  have hAC := mul_le' hA hC
  have hpow : (A * 2 ^ q' * (C * 2 ^ q')) = A * C * 2 ^ k * 2 ^ u := by
    have e : (2 : Int) ^ q' * 2 ^ q' = 2 ^ k * 2 ^ u := by rw [← Int.pow_add, ← Int.pow_add]; congr 1; omega
    generalize (2 : Int) ^ q' = L at *
    generalize (2 : Int) ^ k = K at *
    generalize (2 : Int) ^ u = U at *
    grind
  have hz : (A * 2 ^ q' * (C * 2 ^ q')).natAbs < 2 ^ (1075 + u) := by
    rw [hpow, Int.natAbs_mul, Int.natAbs_mul, pow_abs, pow_abs]
    have h1 : (A * C).natAbs * 2 ^ k < 2 ^ 129 * 2 ^ k := (Nat.mul_lt_mul_right (Nat.two_pow_pos _)).2 (Nat.lt_of_le_of_lt hAC (by decide))
    have h2 := (Nat.mul_lt_mul_right (Nat.two_pow_pos u)).2 h1
    rw [← Nat.pow_add, ← Nat.pow_add, show 129 + k + u = 1075 + u by omega] at h2
    exact h2
  obtain ⟨r, v, e, fv, hd⟩ := mul_err u hu fa fc (T := 1075) (by decide) (by decide) hz
  refine ⟨r, v, e, fv, ?_⟩
  rw [hpow, ← Int.sub_mul, Int.natAbs_mul, pow_abs, Nat.pow_add, ← Nat.mul_assoc] at hd
  have hd' := Nat.le_of_mul_le_mul_right hd (Nat.two_pow_pos u)
  rw [show 1075 - 53 = 76 + k by omega, Nat.pow_add] at hd'
  have h76 : (2 : Nat) ^ 76 = 75557863725914323419136 := rfl
  rw [h76] at hd'
  generalize 2 ^ k = K at *
  omega

theorem fin_lin {K : Nat} {v1 v2 P1 P2 w Y t : Int} (h1 : (v1 - P1).natAbs ≤ 37778931862957161709568 * K) (h2 : (v2 - P2).natAbs ≤ 37778931862957161709568 * K)
    (h3 : 2 * (w - (v1 - v2)).natAbs ≤ 151115727451828646838272 * K) (ht : t.natAbs ≤ 13 * 302231454903657293676544 * K) (hid : P1 - P2 - Y = t) : (w - Y).natAbs < 4835703278458516698824704 * K ∨ K = 0 := by
  omega
theorem fin_lin' {K : Nat} {v1 v2 P1 P2 w Y t : Int} (h1 : (v1 - P1).natAbs ≤ 37778931862957161709568 * K) (h2 : (v2 - P2).natAbs ≤ 37778931862957161709568 * K)
    (h3 : 2 * (w - (v1 + v2)).natAbs ≤ 151115727451828646838272 * K) (ht : t.natAbs ≤ 13 * 302231454903657293676544 * K) (hid : P1 + P2 - Y = t) : (w - Y).natAbs < 4835703278458516698824704 * K ∨ K = 0 := by
  omega

theorem sum_small {K : Nat} {v1 v2 P1 P2 : Int} (hK : 0 < K) (h1 : (v1 - P1).natAbs ≤ 37778931862957161709568 * K) (h2 : (v2 - P2).natAbs ≤ 37778931862957161709568 * K)
    (b1 : P1.natAbs ≤ 340282366920938463463374607431768211456 * K) (b2 : P2.natAbs ≤ 340282366920938463463374607431768211456 * K) :
    (v1 - v2).natAbs < 1361129467683753853853498429727072845824 * K ∧ (v1 + v2).natAbs < 1361129467683753853853498429727072845824 * K := by
  omega

theorem bound_P {A C : Int} {K : Nat} (hA : A.natAbs ≤ 18446744073709551616) (hC : C.natAbs ≤ 18446744073709551616) : (A * C * (K : Int)).natAbs ≤ 340282366920938463463374607431768211456 * K := by
  rw [Int.natAbs_mul, Int.natAbs_natCast]
  exact Nat.mul_le_mul_right _ (mul_le' hA hC)

/-- The difference of a rounded part and a root's, rounded: not above 2 to the -44. -/
theorem last_sub {r x : Nat} {w X : Int} (k : Nat) (hk : k = 946) (hr : FV r w) (hx : DV x X) (h : (w - X * (18446744073709551616 * ((2 ^ k : Nat) : Int))).natAbs < 4835703278458516698824704 * 2 ^ k) :
    ∃ d u, floatBits .sub .f64 r x = some d ∧ FV d u ∧ u.natAbs ≤ 2 ^ (84 + k) := by
  obtain ⟨q, hq, fx⟩ := hx
  have e : X * (2 : Int) ^ q = X * (18446744073709551616 * ((2 ^ k : Nat) : Int)) := by
    rw [pow_cast, show q = 64 + k by omega, Int.pow_add]
    rfl
  have hz : (w - X * 2 ^ q).natAbs < 2 ^ (82 + k) := by
    rw [e, Nat.pow_add]
    exact h
  obtain ⟨d, u, e1, fd, hd⟩ := sub_err hr fx (T := 82 + k) (by omega) (by omega) hz
  refine ⟨d, u, e1, fd, ?_⟩
  have h1 : 2 ^ (82 + k - 53) ≤ 2 ^ (82 + k) := Nat.pow_le_pow_right (by decide) (by omega)
  have h2 : 2 ^ (84 + k) = 4 * 2 ^ (82 + k) := by rw [show 84 + k = 2 + (82 + k) by omega, Nat.pow_add]
  rw [h2]
  generalize 2 ^ (82 + k) = P at *
  omega

/-- All that the statement's product and its distance come to. -/
structure FarTo (a b c d x y : Nat) : Prop where
  ex : ∃ ac bd ad bc r s d1 d2 : Nat, ∃ u1 u2 : Int, (floatBits .mul .f64 a c = some ac ∧ floatBits .mul .f64 b d = some bd ∧ floatBits .mul .f64 a d = some ad ∧ floatBits .mul .f64 b c = some bc ∧ floatBits .sub .f64 ac bd = some r ∧ floatBits .add .f64 ad bc = some s) ∧
    floatBits .sub .f64 r x = some d1 ∧ floatBits .sub .f64 s y = some d2 ∧ FV d1 u1 ∧ FV d2 u2 ∧ u1.natAbs ≤ 2 ^ 1030 ∧ u2.natAbs ≤ 2 ^ 1030

theorem far_of {a b c d x y : Nat} {A B C D X Y : Int} (ha : DV a A) (hb : DV b B) (hc : DV c C) (hd : DV d D) (hx : DV x X) (hy : DV y Y)
    (sA : smallB (A, B) = true) (sC : smallB (C, D) = true) (hn : Near (13 * 302231454903657293676544) (gm (A, B) (C, D)) (X, Y)) : FarTo a b c d x y := by
  rw [small_iff] at sA sC
  obtain ⟨k, hk⟩ : ∃ k : Nat, k = 946 := ⟨_, rfl⟩
  obtain ⟨ac, v1, e1, f1, g1⟩ := dmul k hk ha hc sA.1 sC.1
  obtain ⟨bd, v2, e2, f2, g2⟩ := dmul k hk hb hd sA.2 sC.2
  obtain ⟨ad, v3, e3, f3, g3⟩ := dmul k hk ha hd sA.1 sC.2
  obtain ⟨bc, v4, e4, f4, g4⟩ := dmul k hk hb hc sA.2 sC.1
  rw [← pow_cast] at g1 g2 g3 g4
  have hKpos : 0 < 2 ^ k := Nat.two_pow_pos k
  have p1 := bound_P (K := 2 ^ k) sA.1 sC.1
  have p2 := bound_P (K := 2 ^ k) sA.2 sC.2
  have p3 := bound_P (K := 2 ^ k) sA.1 sC.2
  have p4 := bound_P (K := 2 ^ k) sA.2 sC.1
  have q1 := (sum_small hKpos g1 g2 p1 p2).1
  have q2 := (sum_small hKpos g3 g4 p3 p4).2
  have h130 : (1361129467683753853853498429727072845824 : Nat) * 2 ^ k = 2 ^ 1076 := by
    rw [show (1361129467683753853853498429727072845824 : Nat) = 2 ^ 130 from rfl, ← Nat.pow_add, show 130 + k = 1076 by omega]
  rw [h130] at q1 q2
  obtain ⟨r, w1, e5, f5, g5⟩ := sub_err f1 f2 (T := 1076) (by decide) (by decide) q1
  obtain ⟨s, w2, e6, f6, g6⟩ := add_err f3 f4 (T := 1076) (by decide) (by decide) q2
  have h77 : (2 : Nat) ^ (1076 - 53) = 151115727451828646838272 * 2 ^ k := by
    rw [show (151115727451828646838272 : Nat) = 2 ^ 77 from rfl, ← Nat.pow_add, show 77 + k = 1076 - 53 by omega]
  rw [h77] at g5 g6
  obtain ⟨n1, n2⟩ := hn
  have t1 : ((A * C - B * D - 18446744073709551616 * X) * ((2 ^ k : Nat) : Int)).natAbs ≤ 13 * 302231454903657293676544 * 2 ^ k := by
    rw [Int.natAbs_mul, Int.natAbs_natCast]; exact Nat.mul_le_mul_right _ n1
  have t2 : ((A * D + B * C - 18446744073709551616 * Y) * ((2 ^ k : Nat) : Int)).natAbs ≤ 13 * 302231454903657293676544 * 2 ^ k := by
    rw [Int.natAbs_mul, Int.natAbs_natCast]; exact Nat.mul_le_mul_right _ n2
  have l1 : (w1 - X * (18446744073709551616 * ((2 ^ k : Nat) : Int))).natAbs < 4835703278458516698824704 * 2 ^ k := by
    refine (fin_lin g1 g2 g5 t1 ?_).resolve_right (by omega)
    generalize ((2 ^ k : Nat) : Int) = K
    grind
  have l2 : (w2 - Y * (18446744073709551616 * ((2 ^ k : Nat) : Int))).natAbs < 4835703278458516698824704 * 2 ^ k := by
    refine (fin_lin' g3 g4 g6 t2 ?_).resolve_right (by omega)
    generalize ((2 ^ k : Nat) : Int) = K
    grind
  obtain ⟨d1, u1, e7, f7, g7⟩ := last_sub k hk f5 hx l1
  obtain ⟨d2, u2, e8, f8, g8⟩ := last_sub k hk f6 hy l2
  rw [show 84 + k = 1030 by omega] at g7 g8
  exact ⟨ac, bd, ad, bc, r, s, d1, d2, u1, u2, ⟨e1, e2, e3, e4, e5, e6⟩, e7, e8, f7, f8, g7, g8⟩

theorem far_full {i j : Nat} (hi : i < 4096) (hj : j < 4096) : FarTo (full i).1 (full i).2 (full j).1 (full j).2 (full ((i + j) % 4096)).1 (full ((i + j) % 4096)).2 := by
  have h1 := dv_full hi
  have h2 := dv_full hj
  have h3 := dv_full (Nat.mod_lt (i + j) (by decide : 4096 > 0))
  exact far_of h1.1 h1.2 h2.1 h2.2 h3.1 h3.2 (small_vz i) (small_vz j) (near_mod hi hj)
end Go.Proofs.Ytgbffbikieikdaa
