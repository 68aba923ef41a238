/- Products of any two roots are near to the root at the sum of their places. The rounded products of roots, and how far they are from roots. The squares of a root's parts, rounded, and how far their sum is from 1; what is not above a bound. Complex whole numbers and their lengths; products of roots near to roots, by length. Sums of complex whole numbers; the transform by its definition, and by halves. One butterfly, rounded, and how far it is from the exact one. The transform by halves, rounded, is near to the transform by its definition. There and back: the two transforms, rounded, bring a list back but for little. There and back, summed up; the number at place 0; a list that is nought but at place 0. The transform by its definition, rounded; products and sums the other way round. -/
import Derived.Test.YthiipodgfbnpeaaDoorNV
import Derived.Test.YthiipodgfbnpeaaDoorS
namespace Go.Proofs.YthiipodgfbnpeaaDoor

theorem ident1 (a1 a2 b1 b2 c1 c2 e1 e2 x1 x2 y1 y2 z1 z2 t1 t2 v1 M : Int) :
    M * M * (x1 * y1 - x2 * y2 - M * v1) = M * M * (z1 * t1 - z2 * t2 - M * v1) + M * (z1 * (b1 * e1 - b2 * e2 - M * t1) - z2 * (b1 * e2 + b2 * e1 - M * t2))
      + ((b1 * e1 - b2 * e2) * (a1 * c1 - a2 * c2 - M * z1) - (b1 * e2 + b2 * e1) * (a1 * c2 + a2 * c1 - M * z2))
      - ((a1 * b1 - a2 * b2) * (c1 * e1 - c2 * e2 - M * y1) - (a1 * b2 + a2 * b1) * (c1 * e2 + c2 * e1 - M * y2))
      - M * (y1 * (a1 * b1 - a2 * b2 - M * x1) - y2 * (a1 * b2 + a2 * b1 - M * x2)) := by grind

theorem ident2 (a1 a2 b1 b2 c1 c2 e1 e2 x1 x2 y1 y2 z1 z2 t1 t2 v2 M : Int) :
    M * M * (x1 * y2 + x2 * y1 - M * v2) = M * M * (z1 * t2 + z2 * t1 - M * v2) + M * (z1 * (b1 * e2 + b2 * e1 - M * t2) + z2 * (b1 * e1 - b2 * e2 - M * t1))
      + ((b1 * e1 - b2 * e2) * (a1 * c2 + a2 * c1 - M * z2) + (b1 * e2 + b2 * e1) * (a1 * c1 - a2 * c2 - M * z1))
      - ((a1 * b1 - a2 * b2) * (c1 * e2 + c2 * e1 - M * y2) + (a1 * b2 + a2 * b1) * (c1 * e1 - c2 * e2 - M * y1))
      - M * (y1 * (a1 * b2 + a2 * b1 - M * x2) + y2 * (a1 * b1 - a2 * b2 - M * x1)) := by grind

theorem mul_le' {x u : Int} {A B : Nat} (hx : x.natAbs ≤ A) (hu : u.natAbs ≤ B) : (x * u).natAbs ≤ A * B := by
  rw [Int.natAbs_mul]; exact Nat.mul_le_mul hx hu
theorem two_sub {x y u v : Int} {A B : Nat} (hx : x.natAbs ≤ A) (hy : y.natAbs ≤ A) (hu : u.natAbs ≤ B) (hv : v.natAbs ≤ B) : (x * u - y * v).natAbs ≤ 2 * (A * B) := by
  have h1 := mul_le' hx hu
  have h2 := mul_le' hy hv
  omega
theorem two_add {x y u v : Int} {A B : Nat} (hx : x.natAbs ≤ A) (hy : y.natAbs ≤ A) (hu : u.natAbs ≤ B) (hv : v.natAbs ≤ B) : (x * u + y * v).natAbs ≤ 2 * (A * B) := by
  have h1 := mul_le' hx hu
  have h2 := mul_le' hy hv
  omega

theorem five {K D : Nat} {M T a b c d e : Int} (hM : M.natAbs = K) (hK : 0 < K) (h : M * M * T = M * M * a + M * b + c - d - M * e)
    (ha : a.natAbs ≤ D) (hb : b.natAbs ≤ 2 * (K * D)) (hc : c.natAbs ≤ 2 * (2 * (K * K) * D)) (hd : d.natAbs ≤ 2 * (2 * (K * K) * D)) (he : e.natAbs ≤ 2 * (K * D)) : T.natAbs ≤ 13 * D := by
  have h1 : (M * M * T).natAbs = K * K * T.natAbs := by rw [Int.natAbs_mul, Int.natAbs_mul, hM]
  have h2 : (M * M * a).natAbs ≤ K * K * D := by rw [Int.natAbs_mul, Int.natAbs_mul, hM]; exact Nat.mul_le_mul_left _ ha
  have h3 : (M * b).natAbs ≤ 2 * (K * K * D) := by
    rw [Int.natAbs_mul, hM]
    have := Nat.mul_le_mul_left K hb
    rw [Nat.mul_left_comm, ← Nat.mul_assoc K K D] at this
    exact this
  have h4 : (M * e).natAbs ≤ 2 * (K * K * D) := by
    rw [Int.natAbs_mul, hM]
    have := Nat.mul_le_mul_left K he
    rw [Nat.mul_left_comm, ← Nat.mul_assoc K K D] at this
    exact this
  rw [Nat.mul_assoc 2 (K * K) D] at hc hd
  have h5 : K * K * T.natAbs ≤ K * K * (13 * D) := by
    rw [← h1, h, Nat.mul_left_comm]
    generalize K * K * D = W at *
    omega
  exact Nat.le_of_mul_le_mul_left h5 (Nat.mul_pos hK hK)

/-- Four small factors and what they make. -/
theorem chain {D : Nat} {a b c e x y z t v : Int × Int} (ha : smallB a = true) (hb : smallB b = true) (he : smallB e = true) (hy : smallB y = true) (hz : smallB z = true)
    (h1 : Near D (gm a b) x) (h2 : Near D (gm c e) y) (h3 : Near D (gm a c) z) (h4 : Near D (gm b e) t) (h5 : Near D (gm z t) v) : Near (13 * D) (gm x y) v := by
  simp only [smallB, Bool.and_eq_true, decide_eq_true_eq] at ha hb he hy hz
  have hM : (18446744073709551616 : Int).natAbs = 18446744073709551616 := rfl
  have be1 := two_sub hb.1 hb.2 he.1 he.2
  have be2 := two_add hb.1 hb.2 he.2 he.1
  have ab1 := two_sub ha.1 ha.2 hb.1 hb.2
  have ab2 := two_add ha.1 ha.2 hb.2 hb.1
  constructor
  · exact five hM (by decide) (ident1 a.1 a.2 b.1 b.2 c.1 c.2 e.1 e.2 x.1 x.2 y.1 y.2 z.1 z.2 t.1 t.2 v.1 18446744073709551616) h5.1 (two_sub hz.1 hz.2 h4.1 h4.2)
      (two_sub be1 be2 h3.1 h3.2) (two_sub ab1 ab2 h2.1 h2.2) (two_sub hy.1 hy.2 h1.1 h1.2)
  · exact five hM (by decide) (ident2 a.1 a.2 b.1 b.2 c.1 c.2 e.1 e.2 x.1 x.2 y.1 y.2 z.1 z.2 t.1 t.2 v.2 18446744073709551616) h5.2 (two_add hz.1 hz.2 h4.2 h4.1)
      (two_add be1 be2 h3.2 h3.1) (two_add ab1 ab2 h2.2 h2.1) (two_add hy.1 hy.2 h1.2 h1.1)

theorem vz_turn (i : Nat) : vz (i + 1024) = rotI (vz i) := by
  unfold vz
  rw [show (i + 1024) / 1024 = i / 1024 + 1 by omega, show (i + 1024) % 1024 = i % 1024 by omega]
  rfl

theorem small_iff (a : Int × Int) : smallB a = true ↔ a.1.natAbs ≤ 18446744073709551616 ∧ a.2.natAbs ≤ 18446744073709551616 := by
  unfold smallB
  rw [Bool.and_eq_true, decide_eq_true_eq, decide_eq_true_eq]

theorem small_rot {a : Int × Int} (h : smallB a = true) : smallB (rotI a) = true := by
  rw [small_iff] at h ⊢
  refine ⟨?_, h.1⟩
  show (-a.2).natAbs ≤ _
  rw [Int.natAbs_neg]
  exact h.2

theorem small_vz (i : Nat) : smallB (vz i) = true := by
  unfold vz
  generalize i / 1024 = c
  induction c with
  | zero =>
    have := small0 (i % 1024 / 32) (by omega) (i % 1024 % 32) (by omega)
    rw [show 32 * (i % 1024 / 32) + i % 1024 % 32 = i % 1024 by omega] at this
    exact this
  | succ c ih => exact small_rot ih

theorem near_quarter {i j : Nat} (hi : i < 1024) (hj : j < 1024) : Near (13 * 302231454903657293676544) (gm (vz i) (vz j)) (vz (i + j)) := by
  have h1 := near_of (near1 (i / 32) (by omega) (i % 32) (by omega))
  have h2 := near_of (near1 (j / 32) (by omega) (j % 32) (by omega))
  have h3 := near_of (near2 (i / 32) (by omega) (j / 32) (by omega))
  have h4 := near_of (near3 (i % 32) (by omega) (j % 32) (by omega))
  have h5 := near_of (near1 (i / 32 + j / 32) (by omega) (i % 32 + j % 32) (by omega))
  rw [show 32 * (i / 32) + i % 32 = i by omega] at h1
  rw [show 32 * (j / 32) + j % 32 = j by omega] at h2
  rw [show 32 * (i / 32) + 32 * (j / 32) = 32 * (i / 32 + j / 32) by omega] at h3
  rw [show 32 * (i / 32 + j / 32) + (i % 32 + j % 32) = i + j by omega] at h5
  exact chain (small_vz _) (small_vz _) (small_vz _) (small_vz _) (small_vz _) h1 h2 h3 h4 h5

theorem near_rot {D : Nat} {a c : Int × Int} (h : Near D a c) : Near D (rotI a) (rotI c) := by
  obtain ⟨h1, h2⟩ := h
  refine ⟨?_, h1⟩
  show (-a.2 - 18446744073709551616 * -c.2).natAbs ≤ D
  omega

theorem gm_rot_left (a b : Int × Int) : gm (rotI a) b = rotI (gm a b) := by
  unfold gm rotI
  refine Prod.ext ?_ ?_
  · show -a.2 * b.1 - a.1 * b.2 = -(a.1 * b.2 + a.2 * b.1)
    grind
  · show -a.2 * b.2 + a.1 * b.1 = a.1 * b.1 - a.2 * b.2
    grind
theorem gm_rot_right (a b : Int × Int) : gm a (rotI b) = rotI (gm a b) := by
  unfold gm rotI
  refine Prod.ext ?_ ?_
  · show a.1 * -b.2 - a.2 * b.1 = -(a.1 * b.2 + a.2 * b.1)
    grind
  · show a.1 * b.1 + a.2 * -b.2 = a.1 * b.1 - a.2 * b.2
    grind

theorem near_left (c : Nat) : ∀ i j : Nat, i < 1024 * (c + 1) → j < 1024 → Near (13 * 302231454903657293676544) (gm (vz i) (vz j)) (vz (i + j)) := by
  induction c with
  | zero => intro i j hi hj; exact near_quarter (by omega) hj
  | succ c ih =>
    intro i j hi hj
    by_cases h : i < 1024
    · exact near_quarter h hj
    · obtain ⟨i', rfl⟩ : ∃ i', i = i' + 1024 := ⟨i - 1024, by omega⟩
      rw [show i' + 1024 + j = i' + j + 1024 by omega, vz_turn, vz_turn, gm_rot_left]
      exact near_rot (ih i' j (by omega) hj)

theorem near_all (c : Nat) : ∀ i j : Nat, i < 4096 → j < 1024 * (c + 1) → Near (13 * 302231454903657293676544) (gm (vz i) (vz j)) (vz (i + j)) := by
  induction c with
  | zero => intro i j hi hj; exact near_left 3 i j (by omega) (by omega)
  | succ c ih =>
    intro i j hi hj
    by_cases h : j < 1024
    · exact near_left 3 i j (by omega) h
    · obtain ⟨j', rfl⟩ : ∃ j', j = j' + 1024 := ⟨j - 1024, by omega⟩
      rw [← Nat.add_assoc, vz_turn, vz_turn, gm_rot_right]
      exact near_rot (ih i j' hi (by omega))

theorem rot_four (a : Int × Int) : rotI (rotI (rotI (rotI a))) = a := by
  unfold rotI
  refine Prod.ext ?_ ?_
  · show - - a.1 = a.1
    omega
  · show - - a.2 = a.2
    omega

theorem vz_round (i : Nat) : vz (i + 4096) = vz i := by
  rw [show i + 4096 = i + 1024 + 1024 + 1024 + 1024 by omega, vz_turn, vz_turn, vz_turn, vz_turn, rot_four]

theorem near_mod {i j : Nat} (hi : i < 4096) (hj : j < 4096) : Near (13 * 302231454903657293676544) (gm (vz i) (vz j)) (vz ((i + j) % 4096)) := by
  have h := near_all 3 i j hi (by omega)
  by_cases c : i + j < 4096
  · rwa [Nat.mod_eq_of_lt c]
  · obtain ⟨l, hl⟩ : ∃ l, i + j = l + 4096 := ⟨i + j - 4096, by omega⟩
    rw [hl, vz_round] at h
    rwa [hl, show (l + 4096) % 4096 = l by omega]

open Fl

/-- Bits and units of 2 to the -64. -/
def DV (b : Nat) (z : Int) : Prop := ∃ q : Nat, q = 1010 ∧ FV b (z * 2 ^ q)

theorem dv_word (neg : Bool) {b : Nat} {z : Int} (h : fvB b z = true) : DV (Ieee.double.word neg b) (if neg then -z else z) := by
  unfold fvB at h
  rw [Bool.or_eq_true] at h
  obtain ⟨q, hq⟩ : ∃ q : Nat, q = 1010 := ⟨_, rfl⟩
  refine ⟨q, hq, ?_⟩
  rcases h with h | h
  · rw [Bool.and_eq_true, beq_iff_eq, beq_iff_eq] at h
    obtain ⟨rfl, rfl⟩ := h
    refine ⟨neg, 0, 0, read_zero neg, ?_⟩
    rw [signed_eq, Nat.zero_mul]
    cases neg
    · exact (Int.zero_mul _).symm
    · exact (Int.zero_mul _).symm
  · rw [Bool.and_eq_true, Bool.and_eq_true, beq_iff_eq, decide_eq_true_eq, decide_eq_true_eq] at h
    obtain ⟨⟨h1, h2⟩, rfl⟩ := h
    refine ⟨neg, 4503599627370496 + b % 4503599627370496, b / 4503599627370496 - 1, ?_, ?_⟩
    · rw [read_word neg b (by omega), if_neg (by omega), if_pos (by omega)]
    · rw [signed_eq, show b / 4503599627370496 - 1 = b / 4503599627370496 - 1011 + q by omega, Nat.pow_add, ← Nat.mul_assoc]
      generalize (4503599627370496 + b % 4503599627370496) * 2 ^ (b / 4503599627370496 - 1011) = X
      have hc : ((X * 2 ^ q : Nat) : Int) = (X : Int) * 2 ^ q := by rw [Int.natCast_mul, Int.natCast_pow]; rfl
      rw [hc]
      generalize (2 : Int) ^ q = P
      cases neg
      · rfl
      · show -((X : Int) * P) = -(X : Int) * P
        rw [Int.neg_mul]

theorem word_false (b : Nat) : Ieee.double.word false b = b := by
  unfold Ieee.Format.word
  simp
theorem word_true (b : Nat) : Ieee.double.word true b = b + 9223372036854775808 := by
  unfold Ieee.Format.word
  rw [sw]
  simp
  omega
end Go.Proofs.YthiipodgfbnpeaaDoor

namespace Go.Proofs.YthiipodgfbnpeaaDoor
open Fl

theorem dv_pos {b : Nat} {z : Int} (h : fvB b z = true) : DV b z := by
  have := dv_word false h
  rwa [word_false] at this

theorem dv_neg {b : Nat} {z : Int} (h : fvB b z = true) : DV (nB b) (-z) := by
  by_cases c : b = 0
  · subst c
    have hz : z = 0 := by
      unfold fvB at h
      rw [Bool.or_eq_true] at h
      rcases h with h | h
      · rw [Bool.and_eq_true, beq_iff_eq, beq_iff_eq] at h
        exact h.2
      · rw [Bool.and_eq_true, Bool.and_eq_true, decide_eq_true_eq] at h
        exact absurd h.1.1 (by decide)
    subst hz
    exact dv_pos h
  · have := dv_word true h
    rw [word_true] at this
    have e : nB b = b + 9223372036854775808 := if_neg (by rw [beq_iff_eq]; exact c)
    rw [e]
    exact this

theorem dv_full {i : Nat} (hi : i < 4096) : DV (full i).1 (vz i).1 ∧ DV (full i).2 (vz i).2 := by
  have hl := link0 (i % 1024 / 32) (by omega) (i % 1024 % 32) (by omega)
  rw [show 32 * (i % 1024 / 32) + i % 1024 % 32 = i % 1024 by omega] at hl
  rw [full_four hi]
  unfold vz
  generalize (qd (i % 1024)).1 = p at *
  generalize (qd (i % 1024)).2 = q at *
  generalize vq (i % 1024) = v at *
  have hc : i / 1024 = 0 ∨ i / 1024 = 1 ∨ i / 1024 = 2 ∨ i / 1024 = 3 := by omega
  obtain ⟨h1, h2⟩ := hl
  rcases hc with hc | hc | hc | hc <;> rw [hc]
  · exact ⟨dv_pos h1, dv_pos h2⟩
  · exact ⟨dv_neg h2, dv_pos h1⟩
  · exact ⟨dv_neg h1, dv_neg h2⟩
  · refine ⟨?_, dv_neg h1⟩
    show DV q (- - v.2)
    rw [Int.neg_neg]
    exact dv_pos h2

theorem pow_cast (k : Nat) : ((2 ^ k : Nat) : Int) = (2 : Int) ^ k := by rw [Int.natCast_pow]; rfl
theorem pow_abs (k : Nat) : ((2 : Int) ^ k).natAbs = 2 ^ k := by rw [Int.natAbs_pow]; rfl

/-- A product of two parts, rounded; K: 2 to the 946. -/
theorem dmul {a c : Nat} {A C : Int} (k : Nat) (hk : k = 946) (ha : DV a A) (hc : DV c C) (hA : A.natAbs ≤ 18446744073709551616) (hC : C.natAbs ≤ 18446744073709551616) :
    ∃ r v, floatBits .mul .f64 a c = some r ∧ FV r v ∧ (v - A * C * 2 ^ k).natAbs ≤ 37778931862957161709568 * 2 ^ k := by
  obtain ⟨q, hq, fa⟩ := ha
  obtain ⟨q', hq', fc⟩ := hc
  have hqq : q' = q := by omega
  subst hqq
  obtain ⟨u, hu⟩ : ∃ u : Nat, u = 1074 := ⟨_, rfl⟩
  have hAC := mul_le' hA hC
  have hpow : (A * 2 ^ q' * (C * 2 ^ q')) = A * C * 2 ^ k * 2 ^ u := by
    have e : (2 : Int) ^ q' * 2 ^ q' = 2 ^ k * 2 ^ u := by rw [← Int.pow_add, ← Int.pow_add]; congr 1; omega
    generalize (2 : Int) ^ q' = L at *
    generalize (2 : Int) ^ k = K at *
    generalize (2 : Int) ^ u = U at *
    grind
  have hz : (A * 2 ^ q' * (C * 2 ^ q')).natAbs < 2 ^ (1075 + u) := by
    rw [hpow, Int.natAbs_mul, Int.natAbs_mul, pow_abs, pow_abs]
    have h1 : (A * C).natAbs * 2 ^ k < 2 ^ 129 * 2 ^ k := (Nat.mul_lt_mul_right (Nat.two_pow_pos _)).2 (Nat.lt_of_le_of_lt hAC (by decide))
    have h2 := (Nat.mul_lt_mul_right (Nat.two_pow_pos u)).2 h1
    rw [← Nat.pow_add, ← Nat.pow_add, show 129 + k + u = 1075 + u by omega] at h2
    exact h2
  obtain ⟨r, v, e, fv, hd⟩ := mul_err u hu fa fc (T := 1075) (by decide) (by decide) hz
  refine ⟨r, v, e, fv, ?_⟩
  rw [hpow, ← Int.sub_mul, Int.natAbs_mul, pow_abs, Nat.pow_add, ← Nat.mul_assoc] at hd
  have hd' := Nat.le_of_mul_le_mul_right hd (Nat.two_pow_pos u)
  rw [show 1075 - 53 = 76 + k by omega, Nat.pow_add] at hd'
  have h76 : (2 : Nat) ^ 76 = 75557863725914323419136 := rfl
  rw [h76] at hd'
  generalize 2 ^ k = K at *
  omega

theorem fin_lin {K : Nat} {v1 v2 P1 P2 w Y t : Int} (h1 : (v1 - P1).natAbs ≤ 37778931862957161709568 * K) (h2 : (v2 - P2).natAbs ≤ 37778931862957161709568 * K)
    (h3 : 2 * (w - (v1 - v2)).natAbs ≤ 151115727451828646838272 * K) (ht : t.natAbs ≤ 13 * 302231454903657293676544 * K) (hid : P1 - P2 - Y = t) : (w - Y).natAbs < 4835703278458516698824704 * K ∨ K = 0 := by
  omega
theorem fin_lin' {K : Nat} {v1 v2 P1 P2 w Y t : Int} (h1 : (v1 - P1).natAbs ≤ 37778931862957161709568 * K) (h2 : (v2 - P2).natAbs ≤ 37778931862957161709568 * K)
    (h3 : 2 * (w - (v1 + v2)).natAbs ≤ 151115727451828646838272 * K) (ht : t.natAbs ≤ 13 * 302231454903657293676544 * K) (hid : P1 + P2 - Y = t) : (w - Y).natAbs < 4835703278458516698824704 * K ∨ K = 0 := by
  omega

theorem sum_small {K : Nat} {v1 v2 P1 P2 : Int} (hK : 0 < K) (h1 : (v1 - P1).natAbs ≤ 37778931862957161709568 * K) (h2 : (v2 - P2).natAbs ≤ 37778931862957161709568 * K)
    (b1 : P1.natAbs ≤ 340282366920938463463374607431768211456 * K) (b2 : P2.natAbs ≤ 340282366920938463463374607431768211456 * K) :
    (v1 - v2).natAbs < 1361129467683753853853498429727072845824 * K ∧ (v1 + v2).natAbs < 1361129467683753853853498429727072845824 * K := by
  omega

theorem bound_P {A C : Int} {K : Nat} (hA : A.natAbs ≤ 18446744073709551616) (hC : C.natAbs ≤ 18446744073709551616) : (A * C * (K : Int)).natAbs ≤ 340282366920938463463374607431768211456 * K := by
  rw [Int.natAbs_mul, Int.natAbs_natCast]
  exact Nat.mul_le_mul_right _ (mul_le' hA hC)

/-- The difference of a rounded part and a root's, rounded: not above 2 to the -44. -/
theorem last_sub {r x : Nat} {w X : Int} (k : Nat) (hk : k = 946) (hr : FV r w) (hx : DV x X) (h : (w - X * (18446744073709551616 * ((2 ^ k : Nat) : Int))).natAbs < 4835703278458516698824704 * 2 ^ k) :
    ∃ d u, floatBits .sub .f64 r x = some d ∧ FV d u ∧ u.natAbs ≤ 2 ^ (84 + k) := by
  obtain ⟨q, hq, fx⟩ := hx
  have e : X * (2 : Int) ^ q = X * (18446744073709551616 * ((2 ^ k : Nat) : Int)) := by
    rw [pow_cast, show q = 64 + k by omega, Int.pow_add]
    rfl
  have hz : (w - X * 2 ^ q).natAbs < 2 ^ (82 + k) := by
    rw [e, Nat.pow_add]
    exact h
  obtain ⟨d, u, e1, fd, hd⟩ := sub_err hr fx (T := 82 + k) (by omega) (by omega) hz
  refine ⟨d, u, e1, fd, ?_⟩
  have h1 : 2 ^ (82 + k - 53) ≤ 2 ^ (82 + k) := Nat.pow_le_pow_right (by decide) (by omega)
  have h2 : 2 ^ (84 + k) = 4 * 2 ^ (82 + k) := by rw [show 84 + k = 2 + (82 + k) by omega, Nat.pow_add]
  rw [h2]
  generalize 2 ^ (82 + k) = P at *
  omega

/-- All that the statement's product and its distance come to. -/
structure FarTo (a b c d x y : Nat) : Prop where
  ex : ∃ ac bd ad bc r s d1 d2 : Nat, ∃ u1 u2 : Int, (floatBits .mul .f64 a c = some ac ∧ floatBits .mul .f64 b d = some bd ∧ floatBits .mul .f64 a d = some ad ∧ floatBits .mul .f64 b c = some bc ∧ floatBits .sub .f64 ac bd = some r ∧ floatBits .add .f64 ad bc = some s) ∧
    floatBits .sub .f64 r x = some d1 ∧ floatBits .sub .f64 s y = some d2 ∧ FV d1 u1 ∧ FV d2 u2 ∧ u1.natAbs ≤ 2 ^ 1030 ∧ u2.natAbs ≤ 2 ^ 1030

theorem far_of {a b c d x y : Nat} {A B C D X Y : Int} (ha : DV a A) (hb : DV b B) (hc : DV c C) (hd : DV d D) (hx : DV x X) (hy : DV y Y)
    (sA : smallB (A, B) = true) (sC : smallB (C, D) = true) (hn : Near (13 * 302231454903657293676544) (gm (A, B) (C, D)) (X, Y)) : FarTo a b c d x y := by
  rw [small_iff] at sA sC
  obtain ⟨k, hk⟩ : ∃ k : Nat, k = 946 := ⟨_, rfl⟩
  obtain ⟨ac, v1, e1, f1, g1⟩ := dmul k hk ha hc sA.1 sC.1
  obtain ⟨bd, v2, e2, f2, g2⟩ := dmul k hk hb hd sA.2 sC.2
  obtain ⟨ad, v3, e3, f3, g3⟩ := dmul k hk ha hd sA.1 sC.2
  obtain ⟨bc, v4, e4, f4, g4⟩ := dmul k hk hb hc sA.2 sC.1
  rw [← pow_cast] at g1 g2 g3 g4
  have hKpos : 0 < 2 ^ k := Nat.two_pow_pos k
  have p1 := bound_P (K := 2 ^ k) sA.1 sC.1
  have p2 := bound_P (K := 2 ^ k) sA.2 sC.2
  have p3 := bound_P (K := 2 ^ k) sA.1 sC.2
  have p4 := bound_P (K := 2 ^ k) sA.2 sC.1
  have q1 := (sum_small hKpos g1 g2 p1 p2).1
  have q2 := (sum_small hKpos g3 g4 p3 p4).2
  have h130 : (1361129467683753853853498429727072845824 : Nat) * 2 ^ k = 2 ^ 1076 := by
    rw [show (1361129467683753853853498429727072845824 : Nat) = 2 ^ 130 from rfl, ← Nat.pow_add, show 130 + k = 1076 by omega]
  rw [h130] at q1 q2
  obtain ⟨r, w1, e5, f5, g5⟩ := sub_err f1 f2 (T := 1076) (by decide) (by decide) q1
  obtain ⟨s, w2, e6, f6, g6⟩ := add_err f3 f4 (T := 1076) (by decide) (by decide) q2
  have h77 : (2 : Nat) ^ (1076 - 53) = 151115727451828646838272 * 2 ^ k := by
    rw [show (151115727451828646838272 : Nat) = 2 ^ 77 from rfl, ← Nat.pow_add, show 77 + k = 1076 - 53 by omega]
  rw [h77] at g5 g6
  obtain ⟨n1, n2⟩ := hn
  have t1 : ((A * C - B * D - 18446744073709551616 * X) * ((2 ^ k : Nat) : Int)).natAbs ≤ 13 * 302231454903657293676544 * 2 ^ k := by
    rw [Int.natAbs_mul, Int.natAbs_natCast]; exact Nat.mul_le_mul_right _ n1
  have t2 : ((A * D + B * C - 18446744073709551616 * Y) * ((2 ^ k : Nat) : Int)).natAbs ≤ 13 * 302231454903657293676544 * 2 ^ k := by
    rw [Int.natAbs_mul, Int.natAbs_natCast]; exact Nat.mul_le_mul_right _ n2
  have l1 : (w1 - X * (18446744073709551616 * ((2 ^ k : Nat) : Int))).natAbs < 4835703278458516698824704 * 2 ^ k := by
    refine (fin_lin g1 g2 g5 t1 ?_).resolve_right (by omega)
    generalize ((2 ^ k : Nat) : Int) = K
    grind
  have l2 : (w2 - Y * (18446744073709551616 * ((2 ^ k : Nat) : Int))).natAbs < 4835703278458516698824704 * 2 ^ k := by
    refine (fin_lin' g3 g4 g6 t2 ?_).resolve_right (by omega)
    generalize ((2 ^ k : Nat) : Int) = K
    grind
  obtain ⟨d1, u1, e7, f7, g7⟩ := last_sub k hk f5 hx l1
  obtain ⟨d2, u2, e8, f8, g8⟩ := last_sub k hk f6 hy l2
  rw [show 84 + k = 1030 by omega] at g7 g8
  exact ⟨ac, bd, ad, bc, r, s, d1, d2, u1, u2, ⟨e1, e2, e3, e4, e5, e6⟩, e7, e8, f7, f8, g7, g8⟩

theorem far_full {i j : Nat} (hi : i < 4096) (hj : j < 4096) : FarTo (full i).1 (full i).2 (full j).1 (full j).2 (full ((i + j) % 4096)).1 (full ((i + j) % 4096)).2 := by
  have h1 := dv_full hi
  have h2 := dv_full hj
  have h3 := dv_full (Nat.mod_lt (i + j) (by decide : 4096 > 0))
  exact far_of h1.1 h1.2 h2.1 h2.2 h3.1 h3.2 (small_vz i) (small_vz j) (near_mod hi hj)
end Go.Proofs.YthiipodgfbnpeaaDoor

namespace Go.Proofs.YthiipodgfbnpeaaDoor
open Fl

def sqB (a : Int × Int) : Bool := decide ((a.1 * a.1 + a.2 * a.2 - 340282366920938463463374607431768211456).natAbs ≤ 302231454903657293676544)
theorem sq0 : ∀ a : Nat, a < 32 → ∀ b : Nat, b < 32 → sqB (vq (32 * a + b)) = true := by decide +kernel

theorem sq_rot {a : Int × Int} (h : sqB a = true) : sqB (rotI a) = true := by
  unfold sqB at h ⊢
  rw [decide_eq_true_eq] at h ⊢
  show (-a.2 * -a.2 + a.1 * a.1 - 340282366920938463463374607431768211456).natAbs ≤ _
  rw [Int.neg_mul_neg, Int.add_comm (a.2 * a.2)]
  exact h

theorem sq_vz (i : Nat) : sqB (vz i) = true := by
  unfold vz
  generalize i / 1024 = c
  induction c with
  | zero =>
    have := sq0 (i % 1024 / 32) (by omega) (i % 1024 % 32) (by omega)
    rw [show 32 * (i % 1024 / 32) + i % 1024 % 32 = i % 1024 by omega] at this
    exact this
  | succ c ih => exact sq_rot ih

structure SqTo (a b : Nat) : Prop where
  ex : ∃ aa bb s d : Nat, ∃ u : Int, floatBits .mul .f64 a a = some aa ∧ floatBits .mul .f64 b b = some bb ∧ floatBits .add .f64 aa bb = some s ∧ floatBits .sub .f64 s 4607182418800017408 = some d ∧ FV d u ∧ u.natAbs ≤ 2 ^ 1028

theorem one_dv : DV 4607182418800017408 18446744073709551616 := dv_pos (by decide +kernel)

theorem sq_lin {K : Nat} {v1 v2 P1 P2 w Y t : Int} (hK : 0 < K) (h1 : (v1 - P1).natAbs ≤ 37778931862957161709568 * K) (h2 : (v2 - P2).natAbs ≤ 37778931862957161709568 * K)
    (h3 : 2 * (w - (v1 + v2)).natAbs ≤ 151115727451828646838272 * K) (ht : t.natAbs ≤ 302231454903657293676544 * K) (hid : P1 + P2 - Y = t) : (w - Y).natAbs < 1208925819614629174706176 * K := by
  omega

theorem last_one {r : Nat} {w : Int} (k : Nat) (hk : k = 946) (hr : FV r w) (h : (w - 18446744073709551616 * (18446744073709551616 * ((2 ^ k : Nat) : Int))).natAbs < 1208925819614629174706176 * 2 ^ k) :
    ∃ d u, floatBits .sub .f64 r 4607182418800017408 = some d ∧ FV d u ∧ u.natAbs ≤ 2 ^ (82 + k) := by
  obtain ⟨q, hq, fx⟩ := one_dv
  have e : (18446744073709551616 : Int) * (2 : Int) ^ q = 18446744073709551616 * (18446744073709551616 * ((2 ^ k : Nat) : Int)) := by
    rw [pow_cast, show q = 64 + k by omega, Int.pow_add]
    rfl
  have hz : (w - 18446744073709551616 * 2 ^ q).natAbs < 2 ^ (80 + k) := by
    rw [e, Nat.pow_add]
    exact h
  obtain ⟨d, u, e1, fd, hd⟩ := sub_err hr fx (T := 80 + k) (by omega) (by omega) hz
  refine ⟨d, u, e1, fd, ?_⟩
  have h1 : 2 ^ (80 + k - 53) ≤ 2 ^ (80 + k) := Nat.pow_le_pow_right (by decide) (by omega)
  have h2 : 2 ^ (82 + k) = 4 * 2 ^ (80 + k) := by rw [show 82 + k = 2 + (80 + k) by omega, Nat.pow_add]
  rw [h2]
  generalize 2 ^ (80 + k) = P at *
  omega

theorem sq_of {a b : Nat} {A B : Int} (ha : DV a A) (hb : DV b B) (sA : smallB (A, B) = true) (hs : sqB (A, B) = true) : SqTo a b := by
  rw [small_iff] at sA
  unfold sqB at hs
  rw [decide_eq_true_eq] at hs
  obtain ⟨k, hk⟩ : ∃ k : Nat, k = 946 := ⟨_, rfl⟩
  obtain ⟨aa, v1, e1, f1, g1⟩ := dmul k hk ha ha sA.1 sA.1
  obtain ⟨bb, v2, e2, f2, g2⟩ := dmul k hk hb hb sA.2 sA.2
  rw [← pow_cast] at g1 g2
  have hKpos : 0 < 2 ^ k := Nat.two_pow_pos k
  have p1 := bound_P (K := 2 ^ k) sA.1 sA.1
  have p2 := bound_P (K := 2 ^ k) sA.2 sA.2
  have q2 := (sum_small hKpos g1 g2 p1 p2).2
  have h130 : (1361129467683753853853498429727072845824 : Nat) * 2 ^ k = 2 ^ 1076 := by
    rw [show (1361129467683753853853498429727072845824 : Nat) = 2 ^ 130 from rfl, ← Nat.pow_add, show 130 + k = 1076 by omega]
  rw [h130] at q2
  obtain ⟨s, w2, e6, f6, g6⟩ := add_err f1 f2 (T := 1076) (by decide) (by decide) q2
  have h77 : (2 : Nat) ^ (1076 - 53) = 151115727451828646838272 * 2 ^ k := by
    rw [show (151115727451828646838272 : Nat) = 2 ^ 77 from rfl, ← Nat.pow_add, show 77 + k = 1076 - 53 by omega]
  rw [h77] at g6
  have t2 : ((A * A + B * B - 340282366920938463463374607431768211456) * ((2 ^ k : Nat) : Int)).natAbs ≤ 302231454903657293676544 * 2 ^ k := by
    rw [Int.natAbs_mul, Int.natAbs_natCast]; exact Nat.mul_le_mul_right _ hs
  have l2 : (w2 - 18446744073709551616 * (18446744073709551616 * ((2 ^ k : Nat) : Int))).natAbs < 1208925819614629174706176 * 2 ^ k := by
    refine sq_lin hKpos g1 g2 g6 t2 ?_
    generalize ((2 ^ k : Nat) : Int) = K
    grind
  obtain ⟨d2, u2, e8, f8, g8⟩ := last_one k hk f6 l2
  rw [show 82 + k = 1028 by omega] at g8
  exact ⟨aa, bb, s, d2, u2, e1, e2, e6, e8, f8, g8⟩

theorem sq_full {i : Nat} (hi : i < 4096) : SqTo (full i).1 (full i).2 := by
  have h1 := dv_full hi
  exact sq_of h1.1 h1.2 (small_vz i) (sq_vz i)

theorem fv_abs {b : Nat} {v : Int} (h : FV b v) : FV (b % 9223372036854775808) (v.natAbs : Int) := by
  obtain ⟨s, m, k, e, rfl⟩ := h
  refine ⟨false, m, k, read_mod b s m _ e, ?_⟩
  rw [signed_natAbs, signed_eq]
  rfl

/-- 2 to the -44, and to the -46. -/
theorem fv_44 (q : Nat) (hq : q = 1030) : FV 4409024035195715584 (2 ^ q) := by
  subst hq
  exact ⟨false, 4503599627370496, 978, by decide +kernel, by decide +kernel⟩
theorem fv_46 (q : Nat) (hq : q = 1028) : FV 4400016835940974592 (2 ^ q) := by
  subst hq
  exact ⟨false, 4503599627370496, 976, by decide +kernel, by decide +kernel⟩

theorem not_above {a b : Nat} {x y : Int} (ha : FV a x) (hb : FV b y) (h : x ≤ y) : FloatKind.f64.format.order a b = some .lt ∨ FloatKind.f64.format.order a b = some .eq := by
  rw [show FloatKind.f64.format.order a b = _ from fv_order ha hb]
  by_cases c : x = y
  · right; rw [Int.compare_eq_eq.2 c]
  · left; rw [Int.compare_eq_lt.2 (by omega)]

theorem fv_self {a : Nat} {x : Int} (ha : FV a x) : FloatKind.f64.format.order a a = some .eq := by
  rw [show FloatKind.f64.format.order a a = _ from fv_order ha ha, Int.compare_eq_eq.2 rfl]

end Go.Proofs.YthiipodgfbnpeaaDoor

namespace Go.Proofs.YthiipodgfbnpeaaDoor

def ca (a b : Int × Int) : Int × Int := (a.1 + b.1, a.2 + b.2)
def cs (a b : Int × Int) : Int × Int := (a.1 - b.1, a.2 - b.2)
def sm (c : Int) (a : Int × Int) : Int × Int := (c * a.1, c * a.2)

/-- The length of z is at most B. -/
def N2 (z : Int × Int) (B : Nat) : Prop := z.1 * z.1 + z.2 * z.2 ≤ (B : Int) * (B : Int)

theorem sq_le {t s : Int} (h : t * t ≤ s * s) (hs : 0 ≤ s) : t ≤ s := by
  by_cases c : t ≤ s
  · exact c
  · have h1 : (s + 1) * (s + 1) ≤ t * t := Int.mul_le_mul (by omega) (by omega) (by omega) (by omega)
    have h2 : (s + 1) * (s + 1) = s * s + 2 * s + 1 := by grind
    omega

theorem sq_nonneg (a : Int) : 0 ≤ a * a := by
  rcases Int.le_total 0 a with h | h
  · exact Int.mul_nonneg h h
  · exact Int.mul_nonneg_of_nonpos_of_nonpos h h

theorem n2_add {x y : Int × Int} {A B : Nat} (hx : N2 x A) (hy : N2 y B) : N2 (ca x y) (A + B) := by
  unfold N2 at *
  have hA : (0 : Int) ≤ (A : Int) := Int.natCast_nonneg A
  have hB : (0 : Int) ≤ (B : Int) := Int.natCast_nonneg B
  rw [Int.natCast_add]
  generalize (A : Int) = a at *
  generalize (B : Int) = b at *
  have hc : x.1 * y.1 + x.2 * y.2 ≤ a * b := by
    refine sq_le ?_ (Int.mul_nonneg hA hB)
    have h1 : (x.1 * y.1 + x.2 * y.2) * (x.1 * y.1 + x.2 * y.2) = (x.1 * x.1 + x.2 * x.2) * (y.1 * y.1 + y.2 * y.2) - (x.1 * y.2 - x.2 * y.1) * (x.1 * y.2 - x.2 * y.1) := by grind
    have h2 := sq_nonneg (x.1 * y.2 - x.2 * y.1)
    have h3 : (x.1 * x.1 + x.2 * x.2) * (y.1 * y.1 + y.2 * y.2) ≤ a * a * (b * b) :=
      Int.mul_le_mul hx hy (Int.add_nonneg (sq_nonneg _) (sq_nonneg _)) (sq_nonneg a)
    have h4 : a * b * (a * b) = a * a * (b * b) := by grind
    rw [h1, h4]
    omega
  show (x.1 + y.1) * (x.1 + y.1) + (x.2 + y.2) * (x.2 + y.2) ≤ (a + b) * (a + b)
  have h1 : (x.1 + y.1) * (x.1 + y.1) + (x.2 + y.2) * (x.2 + y.2) = (x.1 * x.1 + x.2 * x.2) + (y.1 * y.1 + y.2 * y.2) + 2 * (x.1 * y.1 + x.2 * y.2) := by grind
  have h2 : (a + b) * (a + b) = a * a + b * b + 2 * (a * b) := by grind
  rw [h1, h2]
  omega

theorem n2_neg {x : Int × Int} {A : Nat} (hx : N2 x A) : N2 (-x.1, -x.2) A := by
  unfold N2 at *
  show -x.1 * -x.1 + -x.2 * -x.2 ≤ _
  rw [Int.neg_mul_neg, Int.neg_mul_neg]
  exact hx

theorem n2_sub {x y : Int × Int} {A B : Nat} (hx : N2 x A) (hy : N2 y B) : N2 (cs x y) (A + B) := by
  have := n2_add hx (n2_neg hy)
  unfold ca at this
  unfold cs
  rw [Int.sub_eq_add_neg, Int.sub_eq_add_neg]
  exact this

theorem n2_mul {x y : Int × Int} {A B : Nat} (hx : N2 x A) (hy : N2 y B) : N2 (gm x y) (A * B) := by
  unfold N2 at *
  rw [Int.natCast_mul]
  generalize (A : Int) = a at *
  generalize (B : Int) = b at *
  show (x.1 * y.1 - x.2 * y.2) * (x.1 * y.1 - x.2 * y.2) + (x.1 * y.2 + x.2 * y.1) * (x.1 * y.2 + x.2 * y.1) ≤ a * b * (a * b)
  have h1 : (x.1 * y.1 - x.2 * y.2) * (x.1 * y.1 - x.2 * y.2) + (x.1 * y.2 + x.2 * y.1) * (x.1 * y.2 + x.2 * y.1) = (x.1 * x.1 + x.2 * x.2) * (y.1 * y.1 + y.2 * y.2) := by grind
  have h3 : (x.1 * x.1 + x.2 * x.2) * (y.1 * y.1 + y.2 * y.2) ≤ a * a * (b * b) :=
    Int.mul_le_mul hx hy (Int.add_nonneg (sq_nonneg _) (sq_nonneg _)) (sq_nonneg a)
  have h4 : a * b * (a * b) = a * a * (b * b) := by grind
  rw [h1, h4]
  exact h3

theorem n2_mono {x : Int × Int} {A B : Nat} (hx : N2 x A) (h : A ≤ B) : N2 x B := by
  unfold N2 at *
  have : (A : Int) * A ≤ (B : Int) * B := Int.mul_le_mul (by omega) (by omega) (by omega) (by omega)
  omega

theorem n2_sm {x : Int × Int} {A : Nat} (c : Nat) (hx : N2 x A) : N2 (sm c x) (c * A) := by
  unfold N2 at *
  rw [Int.natCast_mul]
  show (c : Int) * x.1 * ((c : Int) * x.1) + (c : Int) * x.2 * ((c : Int) * x.2) ≤ _
  have h1 : (c : Int) * x.1 * ((c : Int) * x.1) + (c : Int) * x.2 * ((c : Int) * x.2) = (c : Int) * c * (x.1 * x.1 + x.2 * x.2) := by grind
  have h2 : (c : Int) * (A : Int) * ((c : Int) * (A : Int)) = (c : Int) * c * ((A : Int) * A) := by grind
  rw [h1, h2]
  exact Int.mul_le_mul_of_nonneg_left hx (sq_nonneg _)

theorem n2_div {x : Int × Int} {A : Nat} (c : Nat) (hc : 0 < c) (hx : N2 (sm c x) (c * A)) : N2 x A := by
  unfold N2 at *
  rw [Int.natCast_mul] at hx
  have h1 : (c : Int) * x.1 * ((c : Int) * x.1) + (c : Int) * x.2 * ((c : Int) * x.2) = (c : Int) * c * (x.1 * x.1 + x.2 * x.2) := by grind
  have h2 : (c : Int) * (A : Int) * ((c : Int) * (A : Int)) = (c : Int) * c * ((A : Int) * A) := by grind
  have h3 : (c : Int) * x.1 * ((c : Int) * x.1) + (c : Int) * x.2 * ((c : Int) * x.2) ≤ (c : Int) * (A : Int) * ((c : Int) * (A : Int)) := hx
  rw [h1, h2] at h3
  exact Int.le_of_mul_le_mul_left h3 (Int.mul_pos (by omega) (by omega))

theorem n2_fst {x : Int × Int} {A : Nat} (hx : N2 x A) : x.1.natAbs ≤ A ∧ x.2.natAbs ≤ A := by
  unfold N2 at hx
  have a1 := sq_nonneg x.1
  have a2 := sq_nonneg x.2
  have h1 : x.1 ≤ A := sq_le (by omega) (by omega)
  have h2 : -x.1 ≤ A := sq_le (by rw [Int.neg_mul_neg]; omega) (by omega)
  have h3 : x.2 ≤ A := sq_le (by omega) (by omega)
  have h4 : -x.2 ≤ A := sq_le (by rw [Int.neg_mul_neg]; omega) (by omega)
  omega

theorem abs_sq {x : Int} {A : Nat} (h : x.natAbs ≤ A) : x * x ≤ (A : Int) * A := by
  have h1 : x * x = (x.natAbs : Int) * x.natAbs := by
    rcases Int.natAbs_eq x with e | e
    · rw [← e]
    · generalize (x.natAbs : Int) = a at *
      subst e
      rw [Int.neg_mul_neg]
  rw [h1]
  exact Int.mul_le_mul (by omega) (by omega) (by omega) (by omega)

/-- Two parts of at most 2 A: a length of at most 3 A. -/
theorem n2_parts {x : Int × Int} {A : Nat} (h1 : x.1.natAbs ≤ 2 * A) (h2 : x.2.natAbs ≤ 2 * A) : N2 x (3 * A) := by
  unfold N2
  have a1 := abs_sq h1
  have a2 := abs_sq h2
  rw [Int.natCast_mul] at *
  have e1 : ((2 : Nat) : Int) * (A : Int) * (((2 : Nat) : Int) * (A : Int)) = 4 * ((A : Int) * A) := by grind
  have e2 : ((3 : Nat) : Int) * (A : Int) * (((3 : Nat) : Int) * (A : Int)) = 9 * ((A : Int) * A) := by grind
  rw [e1] at a1 a2
  rw [e2]
  have := sq_nonneg (A : Int)
  omega

/-- The length of a root, in units of 2 to the -64. -/
theorem n2_vz (i : Nat) : N2 (vz i) 18446744073709559808 := by
  have h := sq_vz i
  unfold sqB at h
  rw [decide_eq_true_eq] at h
  unfold N2
  omega

theorem near_n2 {i j : Nat} (h : nearB i j = true) : N2 (cs (gm (vz i) (vz j)) (sm 18446744073709551616 (vz (i + j)))) (3 * 151115727451828646838272) := by
  obtain ⟨h1, h2⟩ := near_of h
  exact n2_parts h1 h2

theorem identC (a b c e x y z t v : Int × Int) (M : Int) :
    sm (M * M) (cs (gm x y) (sm M v)) =
      cs (cs (ca (ca (sm (M * M) (cs (gm z t) (sm M v))) (sm M (gm z (cs (gm b e) (sm M t))))) (gm (gm b e) (cs (gm a c) (sm M z))))
        (gm (gm a b) (cs (gm c e) (sm M y)))) (sm M (gm y (cs (gm a b) (sm M x)))) := by
  unfold sm cs ca gm
  refine Prod.ext ?_ ?_
  · exact (ident1 a.1 a.2 b.1 b.2 c.1 c.2 e.1 e.2 x.1 x.2 y.1 y.2 z.1 z.2 t.1 t.2 v.1 M)
  · exact (ident2 a.1 a.2 b.1 b.2 c.1 c.2 e.1 e.2 x.1 x.2 y.1 y.2 z.1 z.2 t.1 t.2 v.2 M)

/-- The bound: 6 times 3 times 2 to the 77. -/
theorem chain2 {a b c e x y z t v : Int × Int} (ha : N2 a 18446744073709559808) (hb : N2 b 18446744073709559808) (he : N2 e 18446744073709559808) (hy : N2 y 18446744073709559808) (hz : N2 z 18446744073709559808)
    (h1 : N2 (cs (gm a b) (sm 18446744073709551616 x)) (3 * 151115727451828646838272)) (h2 : N2 (cs (gm c e) (sm 18446744073709551616 y)) (3 * 151115727451828646838272))
    (h3 : N2 (cs (gm a c) (sm 18446744073709551616 z)) (3 * 151115727451828646838272)) (h4 : N2 (cs (gm b e) (sm 18446744073709551616 t)) (3 * 151115727451828646838272))
    (h5 : N2 (cs (gm z t) (sm 18446744073709551616 v)) (3 * 151115727451828646838272)) : N2 (cs (gm x y) (sm 18446744073709551616 v)) 2720083094132915643088896 := by
  have k1 := n2_sm (18446744073709551616 * 18446744073709551616) h5
  have k2 := n2_sm 18446744073709551616 (n2_mul hz h4)
  have k3 := n2_mul (n2_mul hb he) h3
  have k4 := n2_mul (n2_mul ha hb) h2
  have k5 := n2_sm 18446744073709551616 (n2_mul hy h1)
  have k := n2_sub (n2_sub (n2_add (n2_add k1 k2) k3) k4) k5
  have e := identC a b c e x y z t v 18446744073709551616
  refine n2_div (18446744073709551616 * 18446744073709551616) (by decide) ?_
  show N2 (sm (18446744073709551616 * 18446744073709551616) _) _
  rw [e]
  exact n2_mono k (by decide)

theorem near2_quarter {i j : Nat} (hi : i < 1024) (hj : j < 1024) : N2 (cs (gm (vz i) (vz j)) (sm 18446744073709551616 (vz (i + j)))) 2720083094132915643088896 := by
  have h1 := near_n2 (near1 (i / 32) (by omega) (i % 32) (by omega))
  have h2 := near_n2 (near1 (j / 32) (by omega) (j % 32) (by omega))
  have h3 := near_n2 (near2 (i / 32) (by omega) (j / 32) (by omega))
  have h4 := near_n2 (near3 (i % 32) (by omega) (j % 32) (by omega))
  have h5 := near_n2 (near1 (i / 32 + j / 32) (by omega) (i % 32 + j % 32) (by omega))
  rw [show 32 * (i / 32) + i % 32 = i by omega] at h1
  rw [show 32 * (j / 32) + j % 32 = j by omega] at h2
  rw [show 32 * (i / 32) + 32 * (j / 32) = 32 * (i / 32 + j / 32) by omega] at h3
  rw [show 32 * (i / 32 + j / 32) + (i % 32 + j % 32) = i + j by omega] at h5
  exact chain2 (n2_vz _) (n2_vz _) (n2_vz _) (n2_vz _) (n2_vz _) h1 h2 h3 h4 h5

theorem n2_rot {a : Int × Int} {A : Nat} (h : N2 a A) : N2 (rotI a) A := by
  unfold N2 at *
  show -a.2 * -a.2 + a.1 * a.1 ≤ _
  rw [Int.neg_mul_neg, Int.add_comm]
  exact h

theorem cs_rot (a b : Int × Int) : cs (rotI a) (sm 18446744073709551616 (rotI b)) = rotI (cs a (sm 18446744073709551616 b)) := by
  unfold cs sm rotI
  refine Prod.ext ?_ rfl
  show -a.2 - 18446744073709551616 * -b.2 = -(a.2 - 18446744073709551616 * b.2)
  omega

theorem near2_left (c : Nat) : ∀ i j : Nat, i < 1024 * (c + 1) → j < 1024 → N2 (cs (gm (vz i) (vz j)) (sm 18446744073709551616 (vz (i + j)))) 2720083094132915643088896 := by
  induction c with
  | zero => intro i j hi hj; exact near2_quarter (by omega) hj
  | succ c ih =>
    intro i j hi hj
    by_cases h : i < 1024
    · exact near2_quarter h hj
    · obtain ⟨i', rfl⟩ : ∃ i', i = i' + 1024 := ⟨i - 1024, by omega⟩
      rw [show i' + 1024 + j = i' + j + 1024 by omega, vz_turn, vz_turn, gm_rot_left, cs_rot]
      exact n2_rot (ih i' j (by omega) hj)

theorem near2_right (c : Nat) : ∀ i j : Nat, j < 1024 * (c + 1) → N2 (cs (gm (vz i) (vz j)) (sm 18446744073709551616 (vz (i + j)))) 2720083094132915643088896 := by
  induction c with
  | zero => intro i j hj; exact near2_left (i / 1024) i j (by omega) (by omega)
  | succ c ih =>
    intro i j hj
    by_cases h : j < 1024
    · exact near2_left (i / 1024) i j (by omega) h
    · obtain ⟨j', rfl⟩ : ∃ j', j = j' + 1024 := ⟨j - 1024, by omega⟩
      rw [← Nat.add_assoc, vz_turn, vz_turn, gm_rot_right, cs_rot]
      exact n2_rot (ih i j' (by omega))

/-- The product of two roots and the root at the sum of their places, whatever the places. -/
theorem near2_all (i j : Nat) : N2 (cs (gm (vz i) (vz j)) (sm 18446744073709551616 (vz (i + j)))) 2720083094132915643088896 := near2_right (j / 1024) i j (by omega)

theorem vz_opp (i : Nat) : vz (i + 2048) = (-(vz i).1, -(vz i).2) := by
  rw [show i + 2048 = i + 1024 + 1024 by omega, vz_turn, vz_turn]
  rfl

theorem vz_rounds (i c : Nat) : vz (i + 4096 * c) = vz i := by
  induction c with
  | zero => rfl
  | succ c ih => rw [show i + 4096 * (c + 1) = i + 4096 * c + 4096 by omega, vz_round, ih]

theorem vz_mod (i : Nat) : vz (i % 4096) = vz i := by
  have := vz_rounds (i % 4096) (i / 4096)
  rw [show i % 4096 + 4096 * (i / 4096) = i by omega] at this
  exact this.symm
end Go.Proofs.YthiipodgfbnpeaaDoor

namespace Go.Proofs.YthiipodgfbnpeaaDoor

def csum : Nat → (Nat → Int × Int) → Int × Int
  | 0, _ => (0, 0)
  | n + 1, f => ca (csum n f) (f n)

theorem ca_assoc (a b c : Int × Int) : ca (ca a b) c = ca a (ca b c) := Prod.ext (Int.add_assoc _ _ _) (Int.add_assoc _ _ _)
theorem ca_comm (a b : Int × Int) : ca a b = ca b a := Prod.ext (Int.add_comm _ _) (Int.add_comm _ _)

theorem csum_congr {n : Nat} {f g : Nat → Int × Int} (h : ∀ j, j < n → f j = g j) : csum n f = csum n g := by
  induction n with
  | zero => rfl
  | succ n ih =>
    show ca (csum n f) (f n) = ca (csum n g) (g n)
    rw [ih (fun j hj => h j (by omega)), h n (by omega)]

theorem csum_split (h : Nat) (f : Nat → Int × Int) : csum (2 * h) f = ca (csum h (fun j => f (2 * j))) (csum h (fun j => f (2 * j + 1))) := by
  induction h with
  | zero => rfl
  | succ h ih =>
    rw [show 2 * (h + 1) = 2 * h + 1 + 1 by omega]
    show ca (ca (csum (2 * h) f) (f (2 * h))) (f (2 * h + 1)) = ca (ca (csum h (fun j => f (2 * j))) (f (2 * h))) (ca (csum h (fun j => f (2 * j + 1))) (f (2 * h + 1)))
    rw [ih]
    refine Prod.ext ?_ ?_
    · simp only [ca]; omega
    · simp only [ca]; omega

theorem gm_ca (w a b : Int × Int) : gm w (ca a b) = ca (gm w a) (gm w b) := by
  refine Prod.ext ?_ ?_
  · simp only [gm, ca]; grind
  · simp only [gm, ca]; grind

theorem csum_gm (w : Int × Int) (n : Nat) (f : Nat → Int × Int) : gm w (csum n f) = csum n (fun j => gm w (f j)) := by
  induction n with
  | zero =>
    refine Prod.ext ?_ ?_
    · simp [gm, csum]
    · simp [gm, csum]
  | succ n ih =>
    show gm w (ca (csum n f) (f n)) = ca (csum n (fun j => gm w (f j))) (gm w (f n))
    rw [gm_ca, ih]

theorem sm_ca (c : Int) (a b : Int × Int) : sm c (ca a b) = ca (sm c a) (sm c b) := Prod.ext (Int.mul_add _ _ _) (Int.mul_add _ _ _)

theorem csum_sm (c : Int) (n : Nat) (f : Nat → Int × Int) : sm c (csum n f) = csum n (fun j => sm c (f j)) := by
  induction n with
  | zero => exact Prod.ext (Int.mul_zero _) (Int.mul_zero _)
  | succ n ih =>
    show sm c (ca (csum n f) (f n)) = ca (csum n (fun j => sm c (f j))) (sm c (f n))
    rw [sm_ca, ih]

theorem csum_cs (n : Nat) (f g : Nat → Int × Int) : cs (csum n f) (csum n g) = csum n (fun j => cs (f j) (g j)) := by
  induction n with
  | zero => rfl
  | succ n ih =>
    show cs (ca (csum n f) (f n)) (ca (csum n g) (g n)) = ca (csum n (fun j => cs (f j) (g j))) (cs (f n) (g n))
    rw [← ih]
    refine Prod.ext ?_ ?_
    · simp only [cs, ca]; omega
    · simp only [cs, ca]; omega

theorem csum_neg (n : Nat) (f : Nat → Int × Int) : csum n (fun j => (-(f j).1, -(f j).2)) = (-(csum n f).1, -(csum n f).2) := by
  induction n with
  | zero => rfl
  | succ n ih =>
    show ca (csum n (fun j => (-(f j).1, -(f j).2))) (-(f n).1, -(f n).2) = (-(ca (csum n f) (f n)).1, -(ca (csum n f) (f n)).2)
    rw [ih]
    refine Prod.ext ?_ ?_
    · simp only [ca]; omega
    · simp only [ca]; omega

theorem n2_zero (B : Nat) : N2 (0, 0) B := by
  show (0 : Int) * 0 + 0 * 0 ≤ _
  exact sq_nonneg _

theorem n2_csum {n B : Nat} {f : Nat → Int × Int} (h : ∀ j, j < n → N2 (f j) B) : N2 (csum n f) (n * B) := by
  induction n with
  | zero => exact n2_zero _
  | succ n ih =>
    rw [Nat.add_mul, Nat.one_mul]
    exact n2_add (ih fun j hj => h j (by omega)) (h n (by omega))

/-- The transform by its definition, in units of 2 to the -64 of the list's; c: which way round. -/
def dsum (l c : Nat) (x : Nat → Int × Int) (k : Nat) : Int × Int := csum (2 ^ l) (fun j => gm (x j) (vz (c * (j * k) * 2 ^ (12 - l))))

theorem n2_dsum {l c k B : Nat} {x : Nat → Int × Int} (h : ∀ j, j < 2 ^ l → N2 (x j) B) : N2 (dsum l c x k) (2 ^ l * (B * 18446744073709559808)) :=
  n2_csum fun j hj => n2_mul (h j hj) (n2_vz _)

/-- What the odd places bring, at the place k of twice the length. -/
def osum (l c : Nat) (x : Nat → Int × Int) (k : Nat) : Int × Int := csum (2 ^ l) (fun j => gm (x (2 * j + 1)) (vz (c * ((2 * j + 1) * k) * 2 ^ (11 - l))))

theorem pow11 {l : Nat} (hl : l ≤ 11) : 2 ^ (12 - l) = 2 * 2 ^ (11 - l) := by
  rw [show 12 - l = 11 - l + 1 by omega, Nat.pow_succ]; omega

theorem pow_2048 {l : Nat} (hl : l ≤ 11) : 2 ^ l * 2 ^ (11 - l) = 2048 := by
  rw [← Nat.pow_add, show l + (11 - l) = 11 by omega]

theorem dsum_low {l c : Nat} (hl : l ≤ 11) (x : Nat → Int × Int) (k : Nat) :
    dsum (l + 1) c x k = ca (dsum l c (fun j => x (2 * j)) k) (osum l c x k) := by
  unfold dsum osum
  rw [Nat.pow_succ, Nat.mul_comm (2 ^ l) 2, csum_split, show 12 - (l + 1) = 11 - l by omega]
  congr 1
  refine csum_congr fun j _ => ?_
  have : c * (2 * j * k) * 2 ^ (11 - l) = c * (j * k) * 2 ^ (12 - l) := by
    rw [pow11 hl]
    generalize 2 ^ (11 - l) = P
    grind
  rw [this]

theorem gm_neg_right (a b : Int × Int) : gm a (-b.1, -b.2) = (-(gm a b).1, -(gm a b).2) := by
  refine Prod.ext ?_ ?_
  · simp only [gm]; grind
  · simp only [gm]; grind

theorem dsum_high {l c : Nat} (hl : l ≤ 11) (hc : c % 2 = 1) (x : Nat → Int × Int) (k : Nat) :
    dsum (l + 1) c x (k + 2 ^ l) = cs (dsum l c (fun j => x (2 * j)) k) (osum l c x k) := by
  have hp := pow_2048 hl
  unfold dsum osum
  rw [Nat.pow_succ, Nat.mul_comm (2 ^ l) 2, csum_split, show 12 - (l + 1) = 11 - l by omega]
  have e1 : csum (2 ^ l) (fun j => gm (x (2 * j)) (vz (c * (2 * j * (k + 2 ^ l)) * 2 ^ (11 - l)))) = csum (2 ^ l) (fun j => gm (x (2 * j)) (vz (c * (j * k) * 2 ^ (12 - l)))) := by
    refine csum_congr fun j _ => ?_
    have : c * (2 * j * (k + 2 ^ l)) * 2 ^ (11 - l) = c * (j * k) * 2 ^ (12 - l) + 4096 * (c * j) := by
      rw [pow11 hl]
      generalize 2 ^ (11 - l) = P at *
      generalize 2 ^ l = Q at *
      grind
    rw [this, vz_rounds]
  have e2 : csum (2 ^ l) (fun j => gm (x (2 * j + 1)) (vz (c * ((2 * j + 1) * (k + 2 ^ l)) * 2 ^ (11 - l)))) =
      csum (2 ^ l) (fun j => (-(gm (x (2 * j + 1)) (vz (c * ((2 * j + 1) * k) * 2 ^ (11 - l)))).1, -(gm (x (2 * j + 1)) (vz (c * ((2 * j + 1) * k) * 2 ^ (11 - l)))).2)) := by
    refine csum_congr fun j _ => ?_
    obtain ⟨d, rfl⟩ : ∃ d, c = 2 * d + 1 := ⟨c / 2, by omega⟩
    have : (2 * d + 1) * ((2 * j + 1) * (k + 2 ^ l)) * 2 ^ (11 - l) = (2 * d + 1) * ((2 * j + 1) * k) * 2 ^ (11 - l) + 2048 + 4096 * (d * (2 * j + 1) + j) := by
      generalize 2 ^ (11 - l) = P at *
      generalize 2 ^ l = Q at *
      grind
    rw [this, vz_rounds, vz_opp, gm_neg_right]
  rw [e1, e2, csum_neg]
  refine Prod.ext ?_ ?_
  · simp only [cs, ca]; omega
  · simp only [cs, ca]; omega

theorem gm_assoc_l (w a b : Int × Int) : gm w (gm a b) = gm a (gm w b) := by
  refine Prod.ext ?_ ?_
  · simp only [gm]; grind
  · simp only [gm]; grind
theorem gm_cs (w a b : Int × Int) : gm w (cs a b) = cs (gm w a) (gm w b) := by
  refine Prod.ext ?_ ?_
  · simp only [gm, cs]; grind
  · simp only [gm, cs]; grind
theorem gm_sm (c : Int) (w a : Int × Int) : gm w (sm c a) = sm c (gm w a) := by
  refine Prod.ext ?_ ?_
  · simp only [gm, sm]; grind
  · simp only [gm, sm]; grind

/-- The root at the place, times the odd half's transform, is near to what the odd places bring. -/
theorem odd_near {l c k B : Nat} (hl : l ≤ 11) {x : Nat → Int × Int} (h : ∀ j, j < 2 ^ l → N2 (x (2 * j + 1)) B) :
    N2 (cs (gm (vz (c * k * 2 ^ (11 - l))) (dsum l c (fun j => x (2 * j + 1)) k)) (sm 18446744073709551616 (osum l c x k))) (2 ^ l * (B * 2720083094132915643088896)) := by
  unfold dsum osum
  rw [csum_gm, csum_sm, csum_cs]
  refine n2_csum fun j hj => ?_
  rw [gm_assoc_l, ← gm_sm, ← gm_cs]
  refine n2_mul (h j hj) ?_
  have e : c * ((2 * j + 1) * k) * 2 ^ (11 - l) = c * k * 2 ^ (11 - l) + c * (j * k) * 2 ^ (12 - l) := by
    rw [pow11 hl]
    generalize 2 ^ (11 - l) = P
    grind
  rw [e]
  exact near2_all _ _
end Go.Proofs.YthiipodgfbnpeaaDoor

namespace Go.Proofs.YthiipodgfbnpeaaDoor
open Fl

def addC (a b : Nat × Nat) : Nat × Nat := ((floatBits .add .f64 a.1 b.1).getD 0, (floatBits .add .f64 a.2 b.2).getD 0)
def subC (a b : Nat × Nat) : Nat × Nat := ((floatBits .sub .f64 a.1 b.1).getD 0, (floatBits .sub .f64 a.2 b.2).getD 0)
def mulC (a b : Nat × Nat) : Nat × Nat :=
  ((floatBits .sub .f64 ((floatBits .mul .f64 a.1 b.1).getD 0) ((floatBits .mul .f64 a.2 b.2).getD 0)).getD 0,
   (floatBits .add .f64 ((floatBits .mul .f64 a.1 b.2).getD 0) ((floatBits .mul .f64 a.2 b.1).getD 0)).getD 0)

structure AddTo (a b r : Nat × Nat) : Prop where
  one : floatBits .add .f64 a.1 b.1 = some r.1
  two : floatBits .add .f64 a.2 b.2 = some r.2
structure SubTo (a b r : Nat × Nat) : Prop where
  one : floatBits .sub .f64 a.1 b.1 = some r.1
  two : floatBits .sub .f64 a.2 b.2 = some r.2

/-- The bits are those of two finite numbers, in units of 2 to the -1074. -/
structure CV (b : Nat × Nat) (z : Int × Int) : Prop where
  one : FV b.1 z.1
  two : FV b.2 z.2

theorem pmul {a c t : Nat} {A C : Int} (ht : 60 ≤ t) (ht2 : t ≤ 2000) (ha : DV a A) (hc : FV c C) (hA : A.natAbs ≤ 18446744073709551616) (hC : C.natAbs ≤ 2 ^ t) :
    ∃ r v, floatBits .mul .f64 a c = some r ∧ FV r v ∧ (18446744073709551616 * v - A * C).natAbs ≤ 2 ^ (t + 11) := by
  obtain ⟨q, hq, fa⟩ := ha
  obtain ⟨u, hu⟩ : ∃ u : Nat, u = 1074 := ⟨_, rfl⟩
  have hAC := mul_le' hA hC
  have hz : (A * 2 ^ q * C).natAbs < 2 ^ (t + 1 + u) := by
    have e : A * 2 ^ q * C = A * C * 2 ^ q := by generalize (2 : Int) ^ q = G; grind
    rw [e, Int.natAbs_mul, pow_abs]
    have h1 : (A * C).natAbs * 2 ^ q ≤ 18446744073709551616 * 2 ^ t * 2 ^ q := Nat.mul_le_mul_right _ hAC
    have h2 : 18446744073709551616 * 2 ^ t * 2 ^ q = 2 ^ (t + u) := by
      rw [show (18446744073709551616 : Nat) = 2 ^ 64 from rfl, ← Nat.pow_add, ← Nat.pow_add]; congr 1; omega
    have h3 : 2 ^ (t + u) < 2 ^ (t + 1 + u) := Nat.pow_lt_pow_right (by decide) (by omega)
    omega
  obtain ⟨r, v, e, fv, hd⟩ := mul_err u hu fa hc (T := t + 1) (by omega) (by omega) hz
  refine ⟨r, v, e, fv, ?_⟩
  have e2 : v * 2 ^ u - A * 2 ^ q * C = (18446744073709551616 * v - A * C) * 2 ^ q := by
    have : (2 : Int) ^ u = 18446744073709551616 * 2 ^ q := by
      rw [show u = 64 + q by omega, Int.pow_add]; rfl
    rw [this]
    generalize (2 : Int) ^ q = G
    grind
  rw [e2, Int.natAbs_mul, pow_abs, show t + 1 - 53 + u = t + 12 + q by omega, Nat.pow_add, ← Nat.mul_assoc] at hd
  have hd' := Nat.le_of_mul_le_mul_right hd (Nat.two_pow_pos q)
  have h12 : 2 ^ (t + 12) = 2 * 2 ^ (t + 11) := by rw [show t + 12 = t + 11 + 1 by omega, Nat.pow_succ]; omega
  omega

theorem val_small {P Z : Nat} {v p : Int} (h1 : (18446744073709551616 * v - p).natAbs ≤ Z) (h2 : p.natAbs ≤ 18446744073709551616 * P) (hZ : Z < 18446744073709551616 * P) : v.natAbs < 2 * P := by omega

theorem lin_sub {Z R : Nat} {v1 v2 p1 p2 r : Int} (h1 : (18446744073709551616 * v1 - p1).natAbs ≤ Z) (h2 : (18446744073709551616 * v2 - p2).natAbs ≤ Z) (h3 : 2 * (r - (v1 - v2)).natAbs ≤ R)
    (hR : 18446744073709551616 * R = 4 * Z) : (18446744073709551616 * r - (p1 - p2)).natAbs ≤ 4 * Z := by omega
theorem lin_add {Z R : Nat} {v1 v2 p1 p2 r : Int} (h1 : (18446744073709551616 * v1 - p1).natAbs ≤ Z) (h2 : (18446744073709551616 * v2 - p2).natAbs ≤ Z) (h3 : 2 * (r - (v1 + v2)).natAbs ≤ R)
    (hR : 18446744073709551616 * R = 4 * Z) : (18446744073709551616 * r - (p1 + p2)).natAbs ≤ 4 * Z := by omega

theorem pows {t : Nat} (ht : 60 ≤ t) : 18446744073709551616 * 2 ^ (t + 2 - 53) = 4 * 2 ^ (t + 11) ∧ 2 ^ (t + 11) < 18446744073709551616 * 2 ^ t ∧ 2 ^ (t + 2) = 4 * 2 ^ t := by
  refine ⟨?_, ?_, ?_⟩
  · rw [show (18446744073709551616 : Nat) = 2 ^ 64 from rfl, show (4 : Nat) = 2 ^ 2 from rfl, ← Nat.pow_add, ← Nat.pow_add]; congr 1; omega
  · rw [show (18446744073709551616 : Nat) = 2 ^ 64 from rfl, ← Nat.pow_add]; exact Nat.pow_lt_pow_right (by decide) (by omega)
  · rw [Nat.pow_add]; omega

theorem bmul {t : Nat} (ht : 60 ≤ t) (ht2 : t ≤ 2000) {w o : Nat × Nat} {W O : Int × Int} (hw1 : DV w.1 W.1) (hw2 : DV w.2 W.2) (sW : smallB W = true) (ho : CV o O) (hO : N2 O (2 ^ t)) :
    ∃ T, MulTo w.1 w.2 o.1 o.2 (mulC w o).1 (mulC w o).2 ∧ CV (mulC w o) T ∧ N2 (cs (sm 18446744073709551616 T) (gm W O)) (3 * (2 * 2 ^ (t + 11))) := by
  rw [small_iff] at sW
  obtain ⟨o1, o2⟩ := n2_fst hO
  obtain ⟨z1, z2, z3⟩ := pows ht
  obtain ⟨ac, v1, e1, f1, g1⟩ := pmul ht ht2 hw1 ho.one sW.1 o1
  obtain ⟨bd, v2, e2, f2, g2⟩ := pmul ht ht2 hw2 ho.two sW.2 o2
  obtain ⟨ad, v3, e3, f3, g3⟩ := pmul ht ht2 hw1 ho.two sW.1 o2
  obtain ⟨bc, v4, e4, f4, g4⟩ := pmul ht ht2 hw2 ho.one sW.2 o1
  have b1 := val_small g1 (mul_le' sW.1 o1) z2
  have b2 := val_small g2 (mul_le' sW.2 o2) z2
  have b3 := val_small g3 (mul_le' sW.1 o2) z2
  have b4 := val_small g4 (mul_le' sW.2 o1) z2
  obtain ⟨r, x1, e5, f5, g5⟩ := sub_err f1 f2 (T := t + 2) (by omega) (by omega) (by rw [z3]; omega)
  obtain ⟨s, x2, e6, f6, g6⟩ := add_err f3 f4 (T := t + 2) (by omega) (by omega) (by rw [z3]; omega)
  have d5 : floatBits .sub .f64 ac bd = some r := e5
  have d6 : floatBits .add .f64 ad bc = some s := e6
  have hm : mulC w o = (r, s) := by
    unfold mulC
    rw [e1, e2, e3, e4]
    simp only [Option.getD_some]
    rw [d5, d6]
    rfl
  rw [hm]
  refine ⟨(x1, x2), ⟨ac, bd, ad, bc, e1, e2, e3, e4, d5, d6⟩, ⟨f5, f6⟩, ?_⟩
  refine n2_parts ?_ ?_
  · have := lin_sub g1 g2 g5 z1
    show (18446744073709551616 * x1 - (W.1 * O.1 - W.2 * O.2)).natAbs ≤ _
    omega
  · have := lin_add g3 g4 g6 z1
    show (18446744073709551616 * x2 - (W.1 * O.2 + W.2 * O.1)).natAbs ≤ _
    omega

theorem lin_one {Z R : Nat} {r p : Int} (h3 : 2 * (r - p).natAbs ≤ R) (hR : 18446744073709551616 * R = 4 * Z) : (18446744073709551616 * r - 18446744073709551616 * p).natAbs ≤ 2 * Z := by omega

theorem badd {t : Nat} (ht : 60 ≤ t) (ht2 : t ≤ 2000) {e u : Nat × Nat} {E T : Int × Int} (he : CV e E) (hu : CV u T) (hE : N2 E (2 ^ t)) (hT : N2 T (2 * 2 ^ t)) :
    ∃ Y, AddTo e u (addC e u) ∧ CV (addC e u) Y ∧ N2 (cs (sm 18446744073709551616 Y) (sm 18446744073709551616 (ca E T))) (3 * 2 ^ (t + 11)) := by
  obtain ⟨o1, o2⟩ := n2_fst hE
  obtain ⟨p1, p2⟩ := n2_fst hT
  obtain ⟨z1, z2, z3⟩ := pows ht
  have hp : 0 < 2 ^ t := Nat.two_pow_pos t
  obtain ⟨r, x1, e5, f5, g5⟩ := add_err he.one hu.one (T := t + 2) (by omega) (by omega) (by rw [z3]; omega)
  obtain ⟨s, x2, e6, f6, g6⟩ := add_err he.two hu.two (T := t + 2) (by omega) (by omega) (by rw [z3]; omega)
  have d5 : floatBits .add .f64 e.1 u.1 = some r := e5
  have d6 : floatBits .add .f64 e.2 u.2 = some s := e6
  have hm : addC e u = (r, s) := by
    unfold addC
    rw [d5, d6]
    rfl
  rw [hm]
  exact ⟨(x1, x2), ⟨d5, d6⟩, ⟨f5, f6⟩, n2_parts (lin_one g5 z1) (lin_one g6 z1)⟩

theorem bsub {t : Nat} (ht : 60 ≤ t) (ht2 : t ≤ 2000) {e u : Nat × Nat} {E T : Int × Int} (he : CV e E) (hu : CV u T) (hE : N2 E (2 ^ t)) (hT : N2 T (2 * 2 ^ t)) :
    ∃ Y, SubTo e u (subC e u) ∧ CV (subC e u) Y ∧ N2 (cs (sm 18446744073709551616 Y) (sm 18446744073709551616 (cs E T))) (3 * 2 ^ (t + 11)) := by
  obtain ⟨o1, o2⟩ := n2_fst hE
  obtain ⟨p1, p2⟩ := n2_fst hT
  obtain ⟨z1, z2, z3⟩ := pows ht
  have hp : 0 < 2 ^ t := Nat.two_pow_pos t
  obtain ⟨r, x1, e5, f5, g5⟩ := sub_err he.one hu.one (T := t + 2) (by omega) (by omega) (by rw [z3]; omega)
  obtain ⟨s, x2, e6, f6, g6⟩ := sub_err he.two hu.two (T := t + 2) (by omega) (by omega) (by rw [z3]; omega)
  have d5 : floatBits .sub .f64 e.1 u.1 = some r := e5
  have d6 : floatBits .sub .f64 e.2 u.2 = some s := e6
  have hm : subC e u = (r, s) := by
    unfold subC
    rw [d5, d6]
    rfl
  rw [hm]
  exact ⟨(x1, x2), ⟨d5, d6⟩, ⟨f5, f6⟩, n2_parts (lin_one g5 z1) (lin_one g6 z1)⟩
end Go.Proofs.YthiipodgfbnpeaaDoor

namespace Go.Proofs.YthiipodgfbnpeaaDoor
open Fl

/-- The root by which the place k of a list of 2^l numbers is turned; c: which way round. -/
def wB (c l k : Nat) : Nat × Nat := full (c * k * 2 ^ (12 - l) % 4096)

theorem wB_dv (c l k : Nat) : DV (wB c l k).1 (vz (c * k * 2 ^ (12 - l))).1 ∧ DV (wB c l k).2 (vz (c * k * 2 ^ (12 - l))).2 := by
  have h := dv_full (Nat.mod_lt (c * k * 2 ^ (12 - l)) (by decide : 4096 > 0))
  rwa [vz_mod] at h

def fft : Nat → Nat → (Nat → Nat × Nat) → Nat → Nat × Nat
  | 0, _, x, _ => x 0
  | l + 1, c, x, k =>
    if k < 2 ^ l then addC (fft l c (fun i => x (2 * i)) k) (mulC (wB c (l + 1) k) (fft l c (fun i => x (2 * i + 1)) k))
    else subC (fft l c (fun i => x (2 * i)) (k - 2 ^ l)) (mulC (wB c (l + 1) (k - 2 ^ l)) (fft l c (fun i => x (2 * i + 1)) (k - 2 ^ l)))

theorem identA (E T Y O SE SO S W : Int × Int) (M : Int) :
    sm M (cs (sm M Y) (ca SE S)) = ca (ca (ca (ca (sm M (cs (sm M Y) (sm M (ca E T)))) (sm M (cs (sm M E) SE))) (sm M (cs (sm M T) (gm W O)))) (gm W (cs (sm M O) SO))) (cs (gm W SO) (sm M S)) := by
  refine Prod.ext ?_ ?_
  · simp only [sm, cs, ca, gm]; grind
  · simp only [sm, cs, ca, gm]; grind
theorem identS (E T Y O SE SO S W : Int × Int) (M : Int) :
    sm M (cs (sm M Y) (cs SE S)) = cs (cs (cs (ca (sm M (cs (sm M Y) (sm M (cs E T)))) (sm M (cs (sm M E) SE))) (sm M (cs (sm M T) (gm W O)))) (gm W (cs (sm M O) SO))) (cs (gm W SO) (sm M S)) := by
  refine Prod.ext ?_ ?_
  · simp only [sm, cs, ca, gm]; grind
  · simp only [sm, cs, ca, gm]; grind

theorem budget {e Q Z : Nat} (he : e ≤ 1572864 * Q) (hZ : Z = 4096 * Q) :
    18446744073709551616 * (3 * Z) + 18446744073709551616 * e + 18446744073709551616 * (3 * (2 * Z)) + 18446744073709559808 * e + Q * 2720083094132915643088896 ≤ 18446744073709551616 * (2 * e + 262144 * Q) := by
  omega

theorem t_small {t : Nat} {T O W : Int × Int} (hW : N2 W 18446744073709559808) (hO : N2 O (2 ^ t)) (h : N2 (cs (sm 18446744073709551616 T) (gm W O)) (3 * (2 * 2 ^ (t + 11)))) : N2 T (2 * 2 ^ t) := by
  have e : sm 18446744073709551616 T = ca (cs (sm 18446744073709551616 T) (gm W O)) (gm W O) := by
    refine Prod.ext ?_ ?_
    · simp only [sm, cs, ca]; omega
    · simp only [sm, cs, ca]; omega
  have k := n2_add h (n2_mul hW hO)
  rw [← e] at k
  refine n2_div 18446744073709551616 (by decide) (n2_mono k ?_)
  have : 2 ^ (t + 11) = 2048 * 2 ^ t := by rw [Nat.pow_add]; omega
  omega

/-- What one butterfly gives. -/
structure Fly (w e o : Nat × Nat) : Prop where
  mul : MulTo w.1 w.2 o.1 o.2 (mulC w o).1 (mulC w o).2
  add : AddTo e (mulC w o) (addC e (mulC w o))
  sub : SubTo e (mulC w o) (subC e (mulC w o))

theorem fly {t er Q : Nat} (ht : 60 ≤ t) (ht2 : t ≤ 2000) {w e o : Nat × Nat} {W E O SE SO S : Int × Int} (hw1 : DV w.1 W.1) (hw2 : DV w.2 W.2) (sW : smallB W = true) (nW : N2 W 18446744073709559808)
    (he : CV e E) (ho : CV o O) (nE : N2 E (2 ^ t)) (nO : N2 O (2 ^ t)) (hE : N2 (cs (sm 18446744073709551616 E) SE) er) (hO : N2 (cs (sm 18446744073709551616 O) SO) er)
    (hS : N2 (cs (gm W SO) (sm 18446744073709551616 S)) (Q * 2720083094132915643088896)) (her : er ≤ 1572864 * Q) (hQ : 2 ^ t = 2 * Q) :
    Fly w e o ∧ (∃ Y, CV (addC e (mulC w o)) Y ∧ N2 (cs (sm 18446744073709551616 Y) (ca SE S)) (2 * er + 262144 * Q)) ∧
      (∃ Y, CV (subC e (mulC w o)) Y ∧ N2 (cs (sm 18446744073709551616 Y) (cs SE S)) (2 * er + 262144 * Q)) := by
  obtain ⟨T, m1, cT, nT⟩ := bmul ht ht2 hw1 hw2 sW ho nO
  have sT := t_small nW nO nT
  obtain ⟨Y1, a1, c1, n1⟩ := badd ht ht2 he cT nE sT
  obtain ⟨Y2, a2, c2, n2⟩ := bsub ht ht2 he cT nE sT
  have hZ : 2 ^ (t + 11) = 4096 * Q := by rw [Nat.pow_add, hQ]; omega
  have hb := budget (Z := 2 ^ (t + 11)) her hZ
  refine ⟨⟨m1, a1, a2⟩, ⟨Y1, c1, ?_⟩, ⟨Y2, c2, ?_⟩⟩
  · refine n2_div 18446744073709551616 (by decide) ?_
    show N2 (sm 18446744073709551616 _) _
    rw [identA E T Y1 O SE SO S W]
    exact n2_mono (n2_add (n2_add (n2_add (n2_add (n2_sm 18446744073709551616 n1) (n2_sm 18446744073709551616 hE)) (n2_sm 18446744073709551616 nT)) (n2_mul nW hO)) hS) hb
  · refine n2_div 18446744073709551616 (by decide) ?_
    show N2 (sm 18446744073709551616 _) _
    rw [identS E T Y2 O SE SO S W]
    exact n2_mono (n2_sub (n2_sub (n2_sub (n2_add (n2_sm 18446744073709551616 n2) (n2_sm 18446744073709551616 hE)) (n2_sm 18446744073709551616 nT)) (n2_mul nW hO)) hS) hb

/-- How far: l levels of a list whose numbers are not longer than 2^b. -/
def errOf (l b : Nat) : Nat := l * (131072 * (2 ^ l * 2 ^ b))

theorem y_small {l c b k : Nat} (hl : l ≤ 12) {X : Nat → Int × Int} (hX : ∀ j, j < 2 ^ l → N2 (X j) (2 ^ b)) {Y : Int × Int} (h : N2 (cs (sm 18446744073709551616 Y) (dsum l c X k)) (errOf l b)) : N2 Y (2 ^ (b + l + 1)) := by
  have e : sm 18446744073709551616 Y = ca (cs (sm 18446744073709551616 Y) (dsum l c X k)) (dsum l c X k) := by
    refine Prod.ext ?_ ?_
    · simp only [sm, cs, ca]; omega
    · simp only [sm, cs, ca]; omega
  have kk := n2_add h (n2_dsum (c := c) (k := k) hX)
  rw [← e] at kk
  refine n2_div 18446744073709551616 (by decide) (n2_mono kk ?_)
  have e1 : 2 ^ (b + l + 1) = 2 * (2 ^ l * 2 ^ b) := by rw [Nat.pow_succ, Nat.pow_add, Nat.mul_comm (2 ^ b)]; omega
  have e2 : 2 ^ l * (2 ^ b * 18446744073709559808) = 18446744073709559808 * (2 ^ l * 2 ^ b) := by rw [← Nat.mul_assoc, Nat.mul_comm]
  unfold errOf
  rw [e1, e2]
  generalize 2 ^ l * 2 ^ b = Q
  have h3 : l * (131072 * Q) ≤ 12 * (131072 * Q) := Nat.mul_le_mul_right _ hl
  omega

theorem fft_near (c : Nat) (hc : c % 2 = 1) (b : Nat) (hb : 60 ≤ b) (hb2 : b ≤ 1900) (l : Nat) : l ≤ 12 → ∀ (x : Nat → Nat × Nat) (X : Nat → Int × Int), (∀ j, j < 2 ^ l → CV (x j) (X j)) → (∀ j, j < 2 ^ l → N2 (X j) (2 ^ b)) →
    ∀ k, k < 2 ^ l → ∃ Y, CV (fft l c x k) Y ∧ N2 (cs (sm 18446744073709551616 Y) (dsum l c X k)) (errOf l b) := by
  induction l with
  | zero =>
    intro _ x X hx _ k hk
    have hk0 : k = 0 := by rw [Nat.pow_zero] at hk; omega
    subst hk0
    refine ⟨X 0, hx 0 (by decide), ?_⟩
    have : cs (sm 18446744073709551616 (X 0)) (dsum 0 c X 0) = (0, 0) := by
      have hz : vz (c * (0 * 0) * 2 ^ (12 - 0)) = (18446744073709551616, 0) := by
        rw [show c * (0 * 0) * 2 ^ (12 - 0) = 0 by simp]
        decide +kernel
      show cs (sm 18446744073709551616 (X 0)) (ca (0, 0) (gm (X 0) (vz (c * (0 * 0) * 2 ^ (12 - 0))))) = (0, 0)
      rw [hz]
      refine Prod.ext ?_ ?_
      · simp only [cs, sm, ca, gm]; omega
      · simp only [cs, sm, ca, gm]; omega
    rw [this]
    exact n2_zero _
  | succ l ih =>
    intro hl x X hx hX k hk
    have hl11 : l ≤ 11 := by omega
    have hp2 : 2 ^ (l + 1) = 2 * 2 ^ l := by rw [Nat.pow_succ]; omega
    have key : ∀ m, m < 2 ^ l → (∃ Y, CV (addC (fft l c (fun i => x (2 * i)) m) (mulC (wB c (l + 1) m) (fft l c (fun i => x (2 * i + 1)) m))) Y ∧ N2 (cs (sm 18446744073709551616 Y) (ca (dsum l c (fun j => X (2 * j)) m) (osum l c X m))) (errOf (l + 1) b)) ∧
        (∃ Y, CV (subC (fft l c (fun i => x (2 * i)) m) (mulC (wB c (l + 1) m) (fft l c (fun i => x (2 * i + 1)) m))) Y ∧ N2 (cs (sm 18446744073709551616 Y) (cs (dsum l c (fun j => X (2 * j)) m) (osum l c X m))) (errOf (l + 1) b)) := by
      intro m hm
      obtain ⟨E, cE, nE⟩ := ih (by omega) (fun i => x (2 * i)) (fun j => X (2 * j)) (fun j hj => hx _ (by omega)) (fun j hj => hX _ (by omega)) m hm
      obtain ⟨O, cO, nO⟩ := ih (by omega) (fun i => x (2 * i + 1)) (fun j => X (2 * j + 1)) (fun j hj => hx _ (by omega)) (fun j hj => hX _ (by omega)) m hm
      have sE := y_small (by omega) (fun j hj => hX (2 * j) (by omega)) nE
      have sO := y_small (by omega) (fun j hj => hX (2 * j + 1) (by omega)) nO
      have hodd := odd_near (c := c) (k := m) (B := 2 ^ b) hl11 (x := X) (fun j hj => hX (2 * j + 1) (by omega))
      rw [← Nat.mul_assoc] at hodd
      have hw := wB_dv c (l + 1) m
      rw [show 12 - (l + 1) = 11 - l by omega] at hw
      have he : errOf (l + 1) b = 2 * errOf l b + 262144 * (2 ^ l * 2 ^ b) := by
        unfold errOf
        rw [hp2, Nat.mul_assoc 2]
        generalize 2 ^ l * 2 ^ b = Q
        grind
      have hel : errOf l b ≤ 1572864 * (2 ^ l * 2 ^ b) := by
        unfold errOf
        generalize 2 ^ l * 2 ^ b = Q
        have h3 : l * (131072 * Q) ≤ 12 * (131072 * Q) := Nat.mul_le_mul_right _ (by omega)
        omega
      have hQ : 2 ^ (b + l + 1) = 2 * (2 ^ l * 2 ^ b) := by rw [Nat.pow_succ, Nat.pow_add, Nat.mul_comm (2 ^ b)]; omega
      rw [he]
      exact (fly (t := b + l + 1) (by omega) (by omega) hw.1 hw.2 (small_vz _) (n2_vz _) cE cO sE sO nE nO hodd hel hQ).2
    by_cases h : k < 2 ^ l
    · have e1 : fft (l + 1) c x k = addC (fft l c (fun i => x (2 * i)) k) (mulC (wB c (l + 1) k) (fft l c (fun i => x (2 * i + 1)) k)) := if_pos h
      rw [e1, dsum_low hl11]
      exact (key k h).1
    · obtain ⟨m, rfl⟩ : ∃ m, k = m + 2 ^ l := ⟨k - 2 ^ l, by omega⟩
      have e1 : fft (l + 1) c x (m + 2 ^ l) = subC (fft l c (fun i => x (2 * i)) m) (mulC (wB c (l + 1) m) (fft l c (fun i => x (2 * i + 1)) m)) := by
        show (if m + 2 ^ l < 2 ^ l then _ else _) = _
        rw [if_neg h, Nat.add_sub_cancel]
      rw [e1, dsum_high hl11 hc]
      exact (key m (by omega)).2

/-- Every butterfly of the transform has an answer. -/
theorem fft_fly (c : Nat) (hc : c % 2 = 1) (b : Nat) (hb : 60 ≤ b) (hb2 : b ≤ 1900) {l : Nat} (hl : l ≤ 11) (x : Nat → Nat × Nat) (X : Nat → Int × Int) (hx : ∀ j, j < 2 ^ (l + 1) → CV (x j) (X j)) (hX : ∀ j, j < 2 ^ (l + 1) → N2 (X j) (2 ^ b))
    (m : Nat) (hm : m < 2 ^ l) : Fly (wB c (l + 1) m) (fft l c (fun i => x (2 * i)) m) (fft l c (fun i => x (2 * i + 1)) m) := by
  have hp2 : 2 ^ (l + 1) = 2 * 2 ^ l := by rw [Nat.pow_succ]; omega
  obtain ⟨E, cE, nE⟩ := fft_near c hc b hb hb2 l (by omega) (fun i => x (2 * i)) (fun j => X (2 * j)) (fun j hj => hx _ (by omega)) (fun j hj => hX _ (by omega)) m hm
  obtain ⟨O, cO, nO⟩ := fft_near c hc b hb hb2 l (by omega) (fun i => x (2 * i + 1)) (fun j => X (2 * j + 1)) (fun j hj => hx _ (by omega)) (fun j hj => hX _ (by omega)) m hm
  have sE := y_small (by omega) (fun j hj => hX (2 * j) (by omega)) nE
  have sO := y_small (by omega) (fun j hj => hX (2 * j + 1) (by omega)) nO
  have hodd := odd_near (c := c) (k := m) (B := 2 ^ b) hl (x := X) (fun j hj => hX (2 * j + 1) (by omega))
  rw [← Nat.mul_assoc] at hodd
  have hw := wB_dv c (l + 1) m
  rw [show 12 - (l + 1) = 11 - l by omega] at hw
  have hel : errOf l b ≤ 1572864 * (2 ^ l * 2 ^ b) := by
    unfold errOf
    generalize 2 ^ l * 2 ^ b = Q
    have h3 : l * (131072 * Q) ≤ 12 * (131072 * Q) := Nat.mul_le_mul_right _ (by omega)
    omega
  have hQ : 2 ^ (b + l + 1) = 2 * (2 ^ l * 2 ^ b) := by rw [Nat.pow_succ, Nat.pow_add, Nat.mul_comm (2 ^ b)]; omega
  exact (fly (t := b + l + 1) (by omega) (by omega) hw.1 hw.2 (small_vz _) (n2_vz _) cE cO sE sO nE nO hodd hel hQ).1
end Go.Proofs.YthiipodgfbnpeaaDoor

namespace Go.Proofs.YthiipodgfbnpeaaDoor
open Fl

theorem csum_halves (h : Nat) (f : Nat → Int × Int) : ∀ n, csum (h + n) f = ca (csum h f) (csum n (fun k => f (h + k))) := by
  intro n
  induction n with
  | zero => exact Prod.ext (Int.add_zero _).symm (Int.add_zero _).symm
  | succ n ih =>
    show ca (csum (h + n) f) (f (h + n)) = ca (csum h f) (ca (csum n (fun k => f (h + k))) (f (h + n)))
    rw [ih, ca_assoc]

theorem csum_ca (n : Nat) (f g : Nat → Int × Int) : ca (csum n f) (csum n g) = csum n (fun j => ca (f j) (g j)) := by
  induction n with
  | zero => rfl
  | succ n ih =>
    show ca (ca (csum n f) (f n)) (ca (csum n g) (g n)) = ca (csum n (fun j => ca (f j) (g j))) (ca (f n) (g n))
    rw [← ih]
    refine Prod.ext ?_ ?_
    · simp only [ca]; omega
    · simp only [ca]; omega

theorem csum_swap (m n : Nat) (f : Nat → Nat → Int × Int) : csum m (fun k => csum n (fun j => f k j)) = csum n (fun j => csum m (fun k => f k j)) := by
  induction m with
  | zero =>
    induction n with
    | zero => rfl
    | succ n ih =>
      show (0, 0) = ca (csum n (fun j => csum 0 (fun k => f k j))) (0, 0)
      rw [← ih]
      rfl
  | succ m ih =>
    show ca (csum m (fun k => csum n (fun j => f k j))) (csum n (fun j => f m j)) = csum n (fun j => ca (csum m (fun k => f k j)) (f m j))
    rw [ih, csum_ca]

theorem vz_zero : vz 0 = (18446744073709551616, 0) := by decide +kernel

/-- The roots of one at all multiples of a place add up to nought, or are all 1. -/
theorem orth {l : Nat} (hl : l ≤ 12) : ∀ a, a % 2 ^ l ≠ 0 → csum (2 ^ l) (fun k => vz (a * k * 2 ^ (12 - l))) = (0, 0) := by
  induction l with
  | zero => intro a h; exact absurd (Nat.mod_one a) h
  | succ l ih =>
    intro a h
    have hp := pow_2048 (show l ≤ 11 by omega)
    rw [show 2 ^ (l + 1) = 2 ^ l + 2 ^ l by rw [Nat.pow_succ]; omega, csum_halves, show 12 - (l + 1) = 11 - l by omega]
    by_cases ho : a % 2 = 1
    · have e : csum (2 ^ l) (fun k => vz (a * (2 ^ l + k) * 2 ^ (11 - l))) = csum (2 ^ l) (fun k => (-(vz (a * k * 2 ^ (11 - l))).1, -(vz (a * k * 2 ^ (11 - l))).2)) := by
        refine csum_congr fun k _ => ?_
        obtain ⟨d, rfl⟩ : ∃ d, a = 2 * d + 1 := ⟨a / 2, by omega⟩
        have : (2 * d + 1) * (2 ^ l + k) * 2 ^ (11 - l) = (2 * d + 1) * k * 2 ^ (11 - l) + 2048 + 4096 * d := by
          generalize 2 ^ (11 - l) = P at *
          generalize 2 ^ l = Q at *
          grind
        rw [this, vz_rounds, vz_opp]
      rw [e, csum_neg]
      refine Prod.ext ?_ ?_
      · simp only [ca]; omega
      · simp only [ca]; omega
    · obtain ⟨d, rfl⟩ : ∃ d, a = 2 * d := ⟨a / 2, by omega⟩
      have hd : d % 2 ^ l ≠ 0 := by
        intro c
        apply h
        rw [Nat.pow_succ, Nat.mul_comm (2 ^ l) 2, Nat.mul_mod_mul_left, c]
      have h0 := ih (by omega) d hd
      have e1 : csum (2 ^ l) (fun k => vz (2 * d * k * 2 ^ (11 - l))) = (0, 0) := by
        rw [← h0]
        refine csum_congr fun k _ => ?_
        have : 2 * d * k * 2 ^ (11 - l) = d * k * 2 ^ (12 - l) := by
          rw [pow11 (by omega)]
          generalize 2 ^ (11 - l) = P
          grind
        rw [this]
      have e2 : csum (2 ^ l) (fun k => vz (2 * d * (2 ^ l + k) * 2 ^ (11 - l))) = (0, 0) := by
        rw [← h0]
        refine csum_congr fun k _ => ?_
        have : 2 * d * (2 ^ l + k) * 2 ^ (11 - l) = d * k * 2 ^ (12 - l) + 4096 * d := by
          rw [pow11 (by omega)]
          generalize 2 ^ (11 - l) = P at *
          generalize 2 ^ l = Q at *
          grind
        rw [this, vz_rounds]
      rw [e1, e2]
      rfl

theorem csum_const (n : Nat) (v : Int × Int) : csum n (fun _ => v) = sm (n : Int) v := by
  induction n with
  | zero => exact Prod.ext (Int.zero_mul _).symm (Int.zero_mul _).symm
  | succ n ih =>
    show ca (csum n (fun _ => v)) v = sm ((n + 1 : Nat) : Int) v
    rw [ih]
    refine Prod.ext ?_ ?_
    · simp only [ca, sm]; rw [Int.natCast_add, Int.add_mul]; simp
    · simp only [ca, sm]; rw [Int.natCast_add, Int.add_mul]; simp

theorem pow_4096 {l : Nat} (hl : l ≤ 12) : 2 ^ l * 2 ^ (12 - l) = 4096 := by
  rw [← Nat.pow_add, show l + (12 - l) = 12 by omega]

theorem orth_one {l : Nat} (hl : l ≤ 12) (a : Nat) (h : a % 2 ^ l = 0) : csum (2 ^ l) (fun k => vz (a * k * 2 ^ (12 - l))) = sm ((2 ^ l : Nat) : Int) (18446744073709551616, 0) := by
  rw [← csum_const]
  refine csum_congr fun k _ => ?_
  obtain ⟨d, rfl⟩ : ∃ d, a = 2 ^ l * d := ⟨a / 2 ^ l, by rw [Nat.mul_div_cancel' (Nat.dvd_of_mod_eq_zero h)]⟩
  have hp := pow_4096 hl
  have : 2 ^ l * d * k * 2 ^ (12 - l) = 0 + 4096 * (d * k) := by
    generalize 2 ^ (12 - l) = P at *
    generalize 2 ^ l = Q at *
    grind
  rw [this, vz_rounds, vz_zero]

/-- Of the places j and m of a list of 2^l: round there and back only the same one stays. -/
theorem place_same {l j m : Nat} (hl : l ≤ 12) (hj : j < 2 ^ l) (hm : m < 2 ^ l) : (4095 * j + m) % 2 ^ l = 0 ↔ j = m := by
  have hp := pow_4096 hl
  have e : 4095 * j + m = 4096 * j + m - j := by omega
  have hd : 4096 * j = 2 ^ l * (2 ^ (12 - l) * j) := by rw [← Nat.mul_assoc, hp]
  have key : (4095 * j + m + j) % 2 ^ l = m := by
    rw [show 4095 * j + m + j = m + 2 ^ l * (2 ^ (12 - l) * j) by omega, Nat.add_mul_mod_self_left, Nat.mod_eq_of_lt hm]
  constructor
  · intro h
    have h2 : (4095 * j + m + j) % 2 ^ l = j := by
      rw [Nat.add_mod, h, Nat.zero_add, Nat.mod_mod, Nat.mod_eq_of_lt hj]
    omega
  · intro h
    subst h
    have h2 : 4095 * j + j = 2 ^ l * (2 ^ (12 - l) * j) := by omega
    rw [h2, Nat.mul_mod_right]

theorem gm_zero (a : Int × Int) : gm a (0, 0) = (0, 0) := by
  refine Prod.ext ?_ ?_
  · simp [gm]
  · simp [gm]

/-- Only one place counts. -/
theorem csum_single {n m : Nat} (hm : m < n) (f : Nat → Int × Int) (h : ∀ j, j < n → j ≠ m → f j = (0, 0)) : csum n f = f m := by
  induction n with
  | zero => omega
  | succ n ih =>
    show ca (csum n f) (f n) = f m
    by_cases c : m = n
    · subst c
      have : csum m f = (0, 0) := by
        have : csum m f = csum m (fun _ => (0, 0)) := csum_congr fun j hj => h j (by omega) (by omega)
        rw [this, csum_const]
        exact Prod.ext (Int.mul_zero _) (Int.mul_zero _)
      rw [this]
      exact Prod.ext (Int.zero_add _) (Int.zero_add _)
    · rw [ih (by omega) (fun j hj hne => h j (by omega) hne), h n (by omega) (fun e => c e.symm)]
      exact Prod.ext (Int.add_zero _) (Int.add_zero _)

/-- The exact sums there and back, but for the products of two roots. -/
theorem exact_back {l m : Nat} (hl : l ≤ 12) (hm : m < 2 ^ l) (X : Nat → Int × Int) :
    csum (2 ^ l) (fun k => csum (2 ^ l) (fun j => gm (X j) (vz (4095 * (j * k) * 2 ^ (12 - l) + 1 * (k * m) * 2 ^ (12 - l))))) = sm ((2 ^ l : Nat) : Int) (sm 18446744073709551616 (X m)) := by
  rw [csum_swap]
  have e : ∀ j, j < 2 ^ l → csum (2 ^ l) (fun k => gm (X j) (vz (4095 * (j * k) * 2 ^ (12 - l) + 1 * (k * m) * 2 ^ (12 - l)))) = gm (X j) (csum (2 ^ l) (fun k => vz ((4095 * j + m) * k * 2 ^ (12 - l)))) := by
    intro j _
    rw [csum_gm]
    refine csum_congr fun k _ => ?_
    have : 4095 * (j * k) * 2 ^ (12 - l) + 1 * (k * m) * 2 ^ (12 - l) = (4095 * j + m) * k * 2 ^ (12 - l) := by
      generalize 2 ^ (12 - l) = P
      grind
    rw [this]
  rw [csum_congr e, csum_single hm]
  · rw [orth_one hl _ ((place_same hl hm hm).2 rfl)]
    refine Prod.ext ?_ ?_
    · simp only [gm, sm]; generalize ((2 ^ l : Nat) : Int) = Q; grind
    · simp only [gm, sm]; generalize ((2 ^ l : Nat) : Int) = Q; grind
  · intro j hj hne
    rw [orth hl _ (fun c => hne ((place_same hl hj hm).1 c)), gm_zero]

theorem gm_assoc (a b c : Int × Int) : gm (gm a b) c = gm a (gm b c) := by
  refine Prod.ext ?_ ?_
  · simp only [gm]; grind
  · simp only [gm]; grind
theorem gm_csum (n : Nat) (f : Nat → Int × Int) (w : Int × Int) : gm (csum n f) w = csum n (fun j => gm (f j) w) := by
  induction n with
  | zero =>
    refine Prod.ext ?_ ?_
    · simp [gm, csum]
    · simp [gm, csum]
  | succ n ih =>
    show gm (ca (csum n f) (f n)) w = ca (csum n (fun j => gm (f j) w)) (gm (f n) w)
    rw [← ih]
    refine Prod.ext ?_ ?_
    · simp only [gm, ca]; grind
    · simp only [gm, ca]; grind

/-- The way back of the exact transform is near to the list, 2^l times as great. -/
theorem dsum_back {l m B : Nat} (hl : l ≤ 12) (hm : m < 2 ^ l) {X : Nat → Int × Int} (hX : ∀ j, j < 2 ^ l → N2 (X j) B) :
    N2 (cs (dsum l 1 (fun k => dsum l 4095 X k) m) (sm 18446744073709551616 (sm ((2 ^ l : Nat) : Int) (sm 18446744073709551616 (X m))))) (2 ^ l * (2 ^ l * (B * 2720083094132915643088896))) := by
  rw [← exact_back hl hm X, csum_sm]
  unfold dsum
  rw [csum_cs]
  refine n2_csum fun k _ => ?_
  rw [gm_csum, csum_sm, csum_cs]
  refine n2_csum fun j hj => ?_
  rw [gm_assoc, ← gm_sm, ← gm_cs]
  exact n2_mul (hX j hj) (near2_all _ _)

theorem identB (Z : Int × Int) (D1 D2 X : Int × Int) (M q : Int) :
    sm (M * M) (cs Z (sm q X)) = ca (ca (sm M (cs (sm M Z) D1)) (cs (sm M D1) D2)) (cs D2 (sm M (sm q (sm M X)))) := by
  refine Prod.ext ?_ ?_
  · simp only [sm, cs, ca]; grind
  · simp only [sm, cs, ca]; grind

theorem dsum_err {l c m e : Nat} {Y S : Nat → Int × Int} (h : ∀ k, k < 2 ^ l → N2 (cs (sm 18446744073709551616 (Y k)) (S k)) e) : N2 (cs (sm 18446744073709551616 (dsum l c Y m)) (dsum l c S m)) (2 ^ l * (e * 18446744073709559808)) := by
  unfold dsum
  rw [csum_sm, csum_cs]
  refine n2_csum fun k hk => ?_
  have e1 : cs (sm 18446744073709551616 (gm (Y k) (vz (c * (k * m) * 2 ^ (12 - l))))) (gm (S k) (vz (c * (k * m) * 2 ^ (12 - l)))) = gm (cs (sm 18446744073709551616 (Y k)) (S k)) (vz (c * (k * m) * 2 ^ (12 - l))) := by
    refine Prod.ext ?_ ?_
    · simp only [gm, cs, sm]; grind
    · simp only [gm, cs, sm]; grind
  rw [e1]
  exact n2_mul (h k hk) (n2_vz _)

/-- The budget of there and back; P: 2^l, R: 2 to the b. -/
theorem budget2 {l P R : Nat} (hl : l ≤ 12) (hP : P ≤ 4096) :
    18446744073709551616 * (l * (131072 * (P * (2 * (P * R))))) + P * (l * (131072 * (P * R)) * 18446744073709559808) + P * (P * (R * 2720083094132915643088896)) ≤ 18446744073709551616 * 18446744073709551616 * (P * R * 5) / 4294967296 := by
  have h1 : l * (131072 * (P * (2 * (P * R)))) ≤ 12884901888 * (P * R) := by
    have e : l * (131072 * (P * (2 * (P * R)))) = l * P * (262144 * (P * R)) := by generalize P * R = Q; grind
    rw [e]
    have h2 : l * P ≤ 12 * 4096 := Nat.mul_le_mul hl hP
    have h3 := Nat.mul_le_mul_right (262144 * (P * R)) h2
    omega
  have h2 : P * (l * (131072 * (P * R)) * 18446744073709559808) ≤ 6442450944 * (P * R) * 18446744073709559808 := by
    have e : P * (l * (131072 * (P * R)) * 18446744073709559808) = l * P * (131072 * (P * R)) * 18446744073709559808 := by generalize P * R = Q; grind
    rw [e]
    have h2 : l * P ≤ 12 * 4096 := Nat.mul_le_mul hl hP
    have h3 := Nat.mul_le_mul_right (131072 * (P * R)) h2
    have h4 : l * P * (131072 * (P * R)) ≤ 6442450944 * (P * R) := by omega
    exact Nat.mul_le_mul_right _ h4
  have h3 : P * (P * (R * 2720083094132915643088896)) ≤ 4096 * (P * R * 2720083094132915643088896) := by
    rw [← Nat.mul_assoc P R]
    exact Nat.mul_le_mul_right _ hP
  generalize P * R = Q at *
  omega
end Go.Proofs.YthiipodgfbnpeaaDoor

namespace Go.Proofs.YthiipodgfbnpeaaDoor
open Fl

theorem there_back {l : Nat} (hl : l ≤ 12) {b : Nat} (hb : 60 ≤ b) (hb2 : b ≤ 1800) (x : Nat → Nat × Nat) (X : Nat → Int × Int) (hx : ∀ j, j < 2 ^ l → CV (x j) (X j)) (hX : ∀ j, j < 2 ^ l → N2 (X j) (2 ^ b)) :
    ∃ Y : Nat → Int × Int, (∀ k, k < 2 ^ l → CV (fft l 4095 x k) (Y k)) ∧ (∀ k, k < 2 ^ l → N2 (Y k) (2 ^ (b + l + 1))) ∧
      ∀ m, m < 2 ^ l → ∃ Z, CV (fft l 1 (fun k => fft l 4095 x k) m) Z ∧ N2 (cs Z (sm ((2 ^ l : Nat) : Int) (X m))) (2 ^ l * (5 * 2 ^ (b - 32))) := by
  have h1 : ∀ k, ∃ Y : Int × Int, k < 2 ^ l → CV (fft l 4095 x k) Y ∧ N2 (cs (sm 18446744073709551616 Y) (dsum l 4095 X k)) (errOf l b) := by
    intro k
    by_cases hk : k < 2 ^ l
    · obtain ⟨Y, a, c⟩ := fft_near 4095 (by decide) b hb (by omega) l hl x X hx hX k hk
      exact ⟨Y, fun _ => ⟨a, c⟩⟩
    · exact ⟨(0, 0), fun c => absurd c hk⟩
  obtain ⟨Y, hY⟩ := Classical.axiomOfChoice h1
  have sY : ∀ k, k < 2 ^ l → N2 (Y k) (2 ^ (b + l + 1)) := fun k hk => y_small hl hX (hY k hk).2
  refine ⟨Y, fun k hk => (hY k hk).1, sY, fun m hm => ?_⟩
  obtain ⟨Z, cZ, nZ⟩ := fft_near 1 (by decide) (b + l + 1) (by omega) (by omega) l hl (fun k => fft l 4095 x k) Y (fun k hk => (hY k hk).1) sY m hm
  refine ⟨Z, cZ, ?_⟩
  have k2 := dsum_err (c := 1) (m := m) (fun k hk => (hY k hk).2)
  have k3 := dsum_back hl hm hX
  refine n2_div (18446744073709551616 * 18446744073709551616) (by decide) ?_
  show N2 (sm (18446744073709551616 * 18446744073709551616) _) _
  rw [identB Z (dsum l 1 Y m) (dsum l 1 (fun k => dsum l 4095 X k) m) (X m)]
  refine n2_mono (n2_add (n2_add (n2_sm 18446744073709551616 nZ) k2) k3) ?_
  have hP : 2 ^ l ≤ 4096 := Nat.pow_le_pow_right (n := 2) (by decide) hl
  have hbud := budget2 (R := 2 ^ b) hl hP
  have hR : 2 ^ b = 4294967296 * 2 ^ (b - 32) := by
    rw [show (4294967296 : Nat) = 2 ^ 32 from rfl, ← Nat.pow_add]; congr 1; omega
  have hQ : 2 ^ (b + l + 1) = 2 * (2 ^ l * 2 ^ b) := by rw [Nat.pow_succ, Nat.pow_add, Nat.mul_comm (2 ^ b)]; omega
  unfold errOf
  rw [hQ]
  refine Nat.le_trans hbud ?_
  have e : 18446744073709551616 * 18446744073709551616 * (2 ^ l * 2 ^ b * 5) = 4294967296 * (18446744073709551616 * 18446744073709551616 * (2 ^ l * (5 * 2 ^ (b - 32)))) := by
    rw [hR]
    generalize 2 ^ (b - 32) = G
    generalize 2 ^ l = P
    grind
  rw [e, Nat.mul_div_cancel_left _ (by decide)]
  exact Nat.le_refl _

/-- Both parts are whole numbers. -/
structure IC (b : Nat × Nat) (z : Int × Int) : Prop where
  one : IV b.1 z.1
  two : IV b.2 z.2

theorem addC_iv {a b : Nat × Nat} {x y : Int × Int} (ha : IC a x) (hb : IC b y) (h1 : (x.1 + y.1).natAbs < 2 ^ 53) (h2 : (x.2 + y.2).natAbs < 2 ^ 53) : AddTo a b (addC a b) ∧ IC (addC a b) (ca x y) := by
  obtain ⟨r, e1, i1⟩ := iv_add ha.one hb.one h1
  obtain ⟨s, e2, i2⟩ := iv_add ha.two hb.two h2
  have d1 : floatBits .add .f64 a.1 b.1 = some r := e1
  have d2 : floatBits .add .f64 a.2 b.2 = some s := e2
  have hm : addC a b = (r, s) := by unfold addC; rw [d1, d2]; rfl
  rw [hm]
  exact ⟨⟨d1, d2⟩, ⟨i1, i2⟩⟩

theorem subC_iv {a b : Nat × Nat} {x y : Int × Int} (ha : IC a x) (hb : IC b y) (h1 : (x.1 - y.1).natAbs < 2 ^ 53) (h2 : (x.2 - y.2).natAbs < 2 ^ 53) : SubTo a b (subC a b) ∧ IC (subC a b) (cs x y) := by
  obtain ⟨r, e1, i1⟩ := iv_sub ha.one hb.one h1
  obtain ⟨s, e2, i2⟩ := iv_sub ha.two hb.two h2
  have d1 : floatBits .sub .f64 a.1 b.1 = some r := e1
  have d2 : floatBits .sub .f64 a.2 b.2 = some s := e2
  have hm : subC a b = (r, s) := by unfold subC; rw [d1, d2]; rfl
  rw [hm]
  exact ⟨⟨d1, d2⟩, ⟨i1, i2⟩⟩

/-- A finite number times nought is nought. -/
theorem zero_mul {a b : Nat} {x : Int} (ha : FV a x) (hb : IV b 0) : ∃ r, floatBits .mul .f64 a b = some r ∧ IV r 0 := by
  obtain ⟨q, hq, fb⟩ := hb
  rw [Int.zero_mul] at fb
  obtain ⟨r, e, f⟩ := mul_fv (z := 0) q hq ha fb (by rw [Int.mul_zero, Int.zero_mul]) (M := 0) (k := 0) (by decide) (by decide) (by decide)
  exact ⟨r, e, q, hq, by rw [Int.zero_mul]; exact f⟩

theorem mulC_zero {w o : Nat × Nat} {W : Int × Int} (hw : CV w W) (ho : IC o (0, 0)) : MulTo w.1 w.2 o.1 o.2 (mulC w o).1 (mulC w o).2 ∧ IC (mulC w o) (0, 0) := by
  obtain ⟨ac, e1, i1⟩ := zero_mul hw.one ho.one
  obtain ⟨bd, e2, i2⟩ := zero_mul hw.two ho.two
  obtain ⟨ad, e3, i3⟩ := zero_mul hw.one ho.two
  obtain ⟨bc, e4, i4⟩ := zero_mul hw.two ho.one
  obtain ⟨r, e5, i5⟩ := iv_sub i1 i2 (by decide)
  obtain ⟨s, e6, i6⟩ := iv_add i3 i4 (by decide)
  have d5 : floatBits .sub .f64 ac bd = some r := e5
  have d6 : floatBits .add .f64 ad bc = some s := e6
  have hm : mulC w o = (r, s) := by
    unfold mulC
    rw [e1, e2, e3, e4]
    simp only [Option.getD_some]
    rw [d5, d6]
    rfl
  rw [hm]
  exact ⟨⟨ac, bd, ad, bc, e1, e2, e3, e4, d5, d6⟩, ⟨i5, i6⟩⟩

theorem one_iv : IV 4607182418800017408 1 := by
  have h := iv_ofInt 1 (by decide)
  have e : floatOfInt .f64 1 = 4607182418800017408 := by decide +kernel
  rwa [e] at h

theorem mulC_one {o : Nat × Nat} {O : Int × Int} (ho : IC o O) (h1 : O.1.natAbs < 2 ^ 53) (h2 : O.2.natAbs < 2 ^ 53) :
    MulTo 4607182418800017408 0 o.1 o.2 (mulC (4607182418800017408, 0) o).1 (mulC (4607182418800017408, 0) o).2 ∧ IC (mulC (4607182418800017408, 0) o) O := by
  obtain ⟨ac, e1, i1⟩ := iv_mul one_iv ho.one (by rw [Int.one_mul]; exact h1)
  obtain ⟨bd, e2, i2⟩ := iv_mul iv_zero ho.two (by rw [Int.zero_mul]; decide)
  obtain ⟨ad, e3, i3⟩ := iv_mul one_iv ho.two (by rw [Int.one_mul]; exact h2)
  obtain ⟨bc, e4, i4⟩ := iv_mul iv_zero ho.one (by rw [Int.zero_mul]; decide)
  rw [Int.one_mul] at i1 i3
  rw [Int.zero_mul] at i2 i4
  obtain ⟨r, e5, i5⟩ := iv_sub i1 i2 (by rw [Int.sub_zero]; exact h1)
  obtain ⟨s, e6, i6⟩ := iv_add i3 i4 (by rw [Int.add_zero]; exact h2)
  rw [Int.sub_zero] at i5
  rw [Int.add_zero] at i6
  have d1 : floatBits .mul .f64 4607182418800017408 o.1 = some ac := e1
  have d2 : floatBits .mul .f64 0 o.2 = some bd := e2
  have d3 : floatBits .mul .f64 4607182418800017408 o.2 = some ad := e3
  have d4 : floatBits .mul .f64 0 o.1 = some bc := e4
  have d5 : floatBits .sub .f64 ac bd = some r := e5
  have d6 : floatBits .add .f64 ad bc = some s := e6
  have hm : mulC (4607182418800017408, 0) o = (r, s) := by
    unfold mulC
    simp only
    rw [d1, d2, d3, d4]
    simp only [Option.getD_some]
    rw [d5, d6]
    rfl
  rw [hm]
  exact ⟨⟨ac, bd, ad, bc, d1, d2, d3, d4, d5, d6⟩, ⟨i5, i6⟩⟩

theorem wB_zero (c l : Nat) : wB c l 0 = (4607182418800017408, 0) := by
  unfold wB
  rw [Nat.mul_zero, Nat.zero_mul]
  exact at_nought

theorem csum_bound {n A : Nat} {f : Nat → Int × Int} (h : ∀ j, j < n → (f j).1.natAbs ≤ A ∧ (f j).2.natAbs ≤ A) : (csum n f).1.natAbs ≤ n * A ∧ (csum n f).2.natAbs ≤ n * A := by
  induction n with
  | zero => exact ⟨Nat.zero_le _, Nat.zero_le _⟩
  | succ n ih =>
    have h1 := ih fun j hj => h j (by omega)
    have h2 := h n (by omega)
    rw [Nat.add_mul, Nat.one_mul]
    show ((csum n f).1 + (f n).1).natAbs ≤ _ ∧ ((csum n f).2 + (f n).2).natAbs ≤ _
    omega

/-- At place 0: the very sum. -/
theorem fft_sum (c : Nat) (l : Nat) : l ≤ 12 → ∀ (x : Nat → Nat × Nat) (n : Nat → Int × Int), (∀ j, j < 2 ^ l → IC (x j) (n j)) → (∀ j, j < 2 ^ l → (n j).1.natAbs ≤ 1048576 ∧ (n j).2.natAbs ≤ 1048576) → IC (fft l c x 0) (csum (2 ^ l) n) := by
  induction l with
  | zero =>
    intro _ x n hx _
    have h := hx 0 (by decide)
    have e : csum (2 ^ 0) n = n 0 := Prod.ext (Int.zero_add _) (Int.zero_add _)
    rw [e]
    exact h
  | succ l ih =>
    intro hl x n hx hn
    have hp2 : 2 ^ (l + 1) = 2 * 2 ^ l := by rw [Nat.pow_succ]; omega
    have hpos : 0 < 2 ^ l := Nat.two_pow_pos l
    have hP : 2 ^ l ≤ 2048 := Nat.pow_le_pow_right (n := 2) (by decide) (show l ≤ 11 by omega)
    have hE := ih (by omega) (fun i => x (2 * i)) (fun j => n (2 * j)) (fun j hj => hx _ (by omega)) (fun j hj => hn _ (by omega))
    have hO := ih (by omega) (fun i => x (2 * i + 1)) (fun j => n (2 * j + 1)) (fun j hj => hx _ (by omega)) (fun j hj => hn _ (by omega))
    have bE := csum_bound (n := 2 ^ l) (f := fun j => n (2 * j)) (fun j hj => hn _ (by omega))
    have bO := csum_bound (n := 2 ^ l) (f := fun j => n (2 * j + 1)) (fun j hj => hn _ (by omega))
    have hm : 2 ^ l * 1048576 ≤ 2048 * 1048576 := Nat.mul_le_mul_right _ hP
    have e1 : fft (l + 1) c x 0 = addC (fft l c (fun i => x (2 * i)) 0) (mulC (wB c (l + 1) 0) (fft l c (fun i => x (2 * i + 1)) 0)) := if_pos hpos
    rw [e1, wB_zero, hp2, csum_split]
    have h53 : (2 : Nat) ^ 53 = 9007199254740992 := rfl
    have hM := (mulC_one hO (by omega) (by omega)).2
    exact (addC_iv hE hM (by omega) (by omega)).2

theorem cv_of_dv {b : Nat × Nat} {z : Int × Int} (h1 : DV b.1 z.1) (h2 : DV b.2 z.2) : ∃ Z, CV b Z := by
  obtain ⟨q, _, f1⟩ := h1
  obtain ⟨q', _, f2⟩ := h2
  exact ⟨(_, _), ⟨f1, f2⟩⟩

theorem fft_zero (c : Nat) (l : Nat) : ∀ (x : Nat → Nat × Nat), (∀ j, j < 2 ^ l → IC (x j) (0, 0)) → ∀ k, k < 2 ^ l → IC (fft l c x k) (0, 0) := by
  induction l with
  | zero => intro x hx k _; exact hx 0 (by decide)
  | succ l ih =>
    intro x hx k hk
    have hp2 : 2 ^ (l + 1) = 2 * 2 ^ l := by rw [Nat.pow_succ]; omega
    have key : ∀ m, m < 2 ^ l → IC (fft l c (fun i => x (2 * i)) m) (0, 0) ∧ IC (mulC (wB c (l + 1) m) (fft l c (fun i => x (2 * i + 1)) m)) (0, 0) := by
      intro m hm
      have hE := ih (fun i => x (2 * i)) (fun j hj => hx _ (by omega)) m hm
      have hO := ih (fun i => x (2 * i + 1)) (fun j hj => hx _ (by omega)) m hm
      obtain ⟨W, hW⟩ := cv_of_dv (wB_dv c (l + 1) m).1 (wB_dv c (l + 1) m).2
      exact ⟨hE, (mulC_zero hW hO).2⟩
    by_cases h : k < 2 ^ l
    · have e1 : fft (l + 1) c x k = addC (fft l c (fun i => x (2 * i)) k) (mulC (wB c (l + 1) k) (fft l c (fun i => x (2 * i + 1)) k)) := if_pos h
      rw [e1]
      exact (addC_iv (key k h).1 (key k h).2 (by decide) (by decide)).2
    · have e1 : fft (l + 1) c x k = subC (fft l c (fun i => x (2 * i)) (k - 2 ^ l)) (mulC (wB c (l + 1) (k - 2 ^ l)) (fft l c (fun i => x (2 * i + 1)) (k - 2 ^ l))) := if_neg h
      rw [e1]
      have hk' := key (k - 2 ^ l) (by omega)
      exact (subC_iv hk'.1 hk'.2 (by decide) (by decide)).2

/-- A list that is nought but at place 0: one number at all places. -/
theorem fft_first (c : Nat) (a : Int × Int) (h1 : a.1.natAbs < 2 ^ 53) (h2 : a.2.natAbs < 2 ^ 53) (l : Nat) : ∀ (x : Nat → Nat × Nat), IC (x 0) a → (∀ j, 0 < j → j < 2 ^ l → IC (x j) (0, 0)) → ∀ k, k < 2 ^ l → IC (fft l c x k) a := by
  induction l with
  | zero => intro x h0 _ k _; exact h0
  | succ l ih =>
    intro x h0 hx k hk
    have hp2 : 2 ^ (l + 1) = 2 * 2 ^ l := by rw [Nat.pow_succ]; omega
    have key : ∀ m, m < 2 ^ l → IC (fft l c (fun i => x (2 * i)) m) a ∧ IC (mulC (wB c (l + 1) m) (fft l c (fun i => x (2 * i + 1)) m)) (0, 0) := by
      intro m hm
      have hE := ih (fun i => x (2 * i)) h0 (fun j h0 hj => hx _ (by omega) (by omega)) m hm
      have hO := fft_zero c l (fun i => x (2 * i + 1)) (fun j hj => hx _ (by omega) (by omega)) m hm
      obtain ⟨W, hW⟩ := cv_of_dv (wB_dv c (l + 1) m).1 (wB_dv c (l + 1) m).2
      exact ⟨hE, (mulC_zero hW hO).2⟩
    by_cases h : k < 2 ^ l
    · have e1 : fft (l + 1) c x k = addC (fft l c (fun i => x (2 * i)) k) (mulC (wB c (l + 1) k) (fft l c (fun i => x (2 * i + 1)) k)) := if_pos h
      rw [e1]
      have hk' := key k h
      have := (addC_iv hk'.1 hk'.2 (by show (a.1 + 0).natAbs < _; rw [Int.add_zero]; exact h1) (by show (a.2 + 0).natAbs < _; rw [Int.add_zero]; exact h2)).2
      have e : ca a (0, 0) = a := Prod.ext (Int.add_zero _) (Int.add_zero _)
      rwa [e] at this
    · have e1 : fft (l + 1) c x k = subC (fft l c (fun i => x (2 * i)) (k - 2 ^ l)) (mulC (wB c (l + 1) (k - 2 ^ l)) (fft l c (fun i => x (2 * i + 1)) (k - 2 ^ l))) := if_neg h
      rw [e1]
      have hk' := key (k - 2 ^ l) (by omega)
      have := (subC_iv hk'.1 hk'.2 (by show (a.1 - 0).natAbs < _; rw [Int.sub_zero]; exact h1) (by show (a.2 - 0).natAbs < _; rw [Int.sub_zero]; exact h2)).2
      have e : cs a (0, 0) = a := Prod.ext (Int.sub_zero _) (Int.sub_zero _)
      rwa [e] at this
end Go.Proofs.YthiipodgfbnpeaaDoor

namespace Go.Proofs.YthiipodgfbnpeaaDoor
open Fl

theorem product_comm (d e : Ieee.Datum) : d.product e = e.product d := by
  cases d <;> cases e <;> simp [Ieee.Datum.product, Bool.xor_comm, Nat.mul_comm, Int.add_comm]

theorem sum_comm (d e : Ieee.Datum) : d.sum e = e.sum d := by
  cases d with
  | nan => cases e <;> rfl
  | infinity s =>
    cases e with
    | nan => rfl
    | infinity t =>
      unfold Ieee.Datum.sum
      by_cases h : s = t
      · subst h; rfl
      · simp only [if_neg h, if_neg (fun c : t = s => h c.symm)]
    | number => rfl
  | number s m i =>
    cases e with
    | nan => rfl
    | infinity => rfl
    | number t n j =>
      unfold Ieee.Datum.sum
      simp only
      rw [Int.min_comm i j, Bool.and_comm s t, Int.add_comm (Ieee.signed s m _)]

theorem mul_comm' (a b : Nat) : floatBits .mul .f64 a b = floatBits .mul .f64 b a := by
  show Ieee.Format.mul _ a b = Ieee.Format.mul _ b a
  unfold Ieee.Format.mul
  rw [product_comm]
theorem add_comm' (a b : Nat) : floatBits .add .f64 a b = floatBits .add .f64 b a := by
  show Ieee.Format.add _ a b = Ieee.Format.add _ b a
  unfold Ieee.Format.add
  rw [sum_comm]

theorem mulC_comm (a b : Nat × Nat) : mulC a b = mulC b a := by
  unfold mulC
  rw [mul_comm' a.1 b.1, mul_comm' a.2 b.2, mul_comm' a.1 b.2, mul_comm' a.2 b.1, add_comm']

theorem mulTo_comm {a b c d r s : Nat} (h : MulTo a b c d r s) : MulTo c d a b r s := by
  obtain ⟨ac, bd, ad, bc, h1, h2, h3, h4, h5, h6⟩ := h.ex
  exact ⟨ac, bd, bc, ad, by rw [mul_comm']; exact h1, by rw [mul_comm']; exact h2, by rw [mul_comm']; exact h4, by rw [mul_comm']; exact h3, h5, by rw [add_comm']; exact h6⟩

/-- The first j terms, one by one. -/
def dirS (x w : Nat → Nat × Nat) : Nat → Nat × Nat
  | 0 => (0, 0)
  | j + 1 => addC (dirS x w j) (mulC (x j) (w j))

theorem identD (D' D T S X W : Int × Int) (M : Int) : cs (sm M D') (ca S (gm X W)) = ca (ca (cs (sm M D') (sm M (ca D T))) (cs (sm M D) S)) (cs (sm M T) (gm W X)) := by
  refine Prod.ext ?_ ?_
  · simp only [sm, cs, ca, gm]; grind
  · simp only [sm, cs, ca, gm]; grind

structure DirStep (s x w : Nat × Nat) : Prop where
  mul : MulTo x.1 x.2 w.1 w.2 (mulC x w).1 (mulC x w).2
  add : AddTo s (mulC x w) (addC s (mulC x w))

theorem dir_near {b : Nat} (hb : 60 ≤ b) (hb2 : b ≤ 1900) (x w : Nat → Nat × Nat) (X : Nat → Int × Int) (th : Nat → Nat) (n : Nat) (hn : n ≤ 256) (hx : ∀ j, j < n → CV (x j) (X j)) (hX : ∀ j, j < n → N2 (X j) (2 ^ b))
    (hw : ∀ j, j < n → w j = full (th j % 4096)) : ∀ j, j ≤ n → (∃ D, CV (dirS x w j) D ∧ N2 (cs (sm 18446744073709551616 D) (csum j (fun i => gm (X i) (vz (th i))))) (j * (4194304 * 2 ^ b))) ∧ (j < n → DirStep (dirS x w j) (x j) (w j)) := by
  have hb11 : 2 ^ (b + 11) = 2048 * 2 ^ b := by rw [Nat.pow_add]; omega
  have hb20 : 2 ^ (b + 9 + 11) = 1048576 * 2 ^ b := by rw [Nat.add_assoc, Nat.pow_add]; omega
  have hb9 : 2 ^ (b + 9) = 512 * 2 ^ b := by rw [Nat.pow_add]; omega
  have small : ∀ j D, j ≤ n → N2 (cs (sm 18446744073709551616 D) (csum j (fun i => gm (X i) (vz (th i))))) (j * (4194304 * 2 ^ b)) → N2 D (2 ^ (b + 9)) := by
    intro j D hj h
    have e : sm 18446744073709551616 D = ca (cs (sm 18446744073709551616 D) (csum j (fun i => gm (X i) (vz (th i))))) (csum j (fun i => gm (X i) (vz (th i)))) := by
      refine Prod.ext ?_ ?_
      · simp only [sm, cs, ca]; omega
      · simp only [sm, cs, ca]; omega
    have k := n2_add h (n2_csum (n := j) (f := fun i => gm (X i) (vz (th i))) fun i hi => n2_mul (hX i (by omega)) (n2_vz _))
    rw [← e] at k
    refine n2_div 18446744073709551616 (by decide) (n2_mono k ?_)
    rw [hb9]
    have h1 : j * (4194304 * 2 ^ b) ≤ 256 * (4194304 * 2 ^ b) := Nat.mul_le_mul_right _ (by omega)
    have h2 : j * (2 ^ b * 18446744073709559808) ≤ 256 * (2 ^ b * 18446744073709559808) := Nat.mul_le_mul_right _ (by omega)
    generalize 2 ^ b = R at *
    omega
  have step : ∀ j, j < n → ∀ D, CV (dirS x w j) D → N2 D (2 ^ (b + 9)) → ∃ T, DirStep (dirS x w j) (x j) (w j) ∧ N2 (cs (sm 18446744073709551616 T) (gm (vz (th j)) (X j))) (3 * (2 * 2 ^ (b + 11))) ∧
      ∃ D', CV (dirS x w (j + 1)) D' ∧ N2 (cs (sm 18446744073709551616 D') (sm 18446744073709551616 (ca D T))) (3 * 2 ^ (b + 9 + 11)) := by
    intro j hj D cD sD
    have hd := dv_full (Nat.mod_lt (th j) (by decide : 4096 > 0))
    rw [vz_mod, ← hw j hj] at hd
    obtain ⟨T, m1, cT, nT⟩ := bmul (t := b) hb (by omega) hd.1 hd.2 (small_vz _) (hx j hj) (hX j hj)
    have sT := t_small (n2_vz _) (hX j hj) nT
    rw [mulC_comm] at cT m1
    have sT' : N2 T (2 * 2 ^ (b + 9)) := n2_mono sT (by rw [hb9]; omega)
    obtain ⟨D', a1, c1, n1⟩ := badd (t := b + 9) (by omega) (by omega) cD cT sD sT'
    exact ⟨T, ⟨mulTo_comm m1, a1⟩, nT, D', c1, n1⟩
  intro j
  induction j with
  | zero =>
    intro hj
    have z0 : FV 0 0 := ⟨false, 0, 0, by decide +kernel, by decide +kernel⟩
    have c0 : CV (dirS x w 0) (0, 0) := ⟨z0, z0⟩
    refine ⟨⟨(0, 0), c0, n2_zero _⟩, fun h => ?_⟩
    obtain ⟨T, s, -⟩ := step 0 h (0, 0) c0 (n2_zero _)
    exact s
  | succ j ih =>
    intro hj
    obtain ⟨⟨D, cD, nD⟩, -⟩ := ih (by omega)
    obtain ⟨T, s, nT, D', cD', nD'⟩ := step j (by omega) D cD (small j D (by omega) nD)
    have hres : N2 (cs (sm 18446744073709551616 D') (csum (j + 1) (fun i => gm (X i) (vz (th i))))) ((j + 1) * (4194304 * 2 ^ b)) := by
      show N2 (cs (sm 18446744073709551616 D') (ca (csum j (fun i => gm (X i) (vz (th i)))) (gm (X j) (vz (th j))))) _
      rw [identD D' D T]
      refine n2_mono (n2_add (n2_add nD' nD) nT) ?_
      rw [hb11, hb20, Nat.add_mul, Nat.one_mul]
      generalize 2 ^ b = R
      generalize j * (4194304 * R) = J
      omega
    refine ⟨⟨D', cD', hres⟩, fun h => ?_⟩
    obtain ⟨T2, s2, -⟩ := step (j + 1) h D' cD' (small (j + 1) D' hj hres)
    exact s2

/-- The place j k of the definition, within the list's length or not. -/
theorem th_mod {l : Nat} (hl : l ≤ 12) (j k : Nat) : vz (4095 * (j * k % 2 ^ l) * 2 ^ (12 - l)) = vz (4095 * (j * k) * 2 ^ (12 - l)) := by
  have hp := pow_4096 hl
  have h := Nat.div_add_mod (j * k) (2 ^ l)
  have e : 4095 * (j * k) * 2 ^ (12 - l) = 4095 * (j * k % 2 ^ l) * 2 ^ (12 - l) + 4096 * (4095 * (j * k / 2 ^ l)) := by
    generalize j * k % 2 ^ l = r at *
    generalize j * k / 2 ^ l = q at *
    rw [← h]
    generalize 2 ^ (12 - l) = P at *
    generalize 2 ^ l = Q at *
    grind
  rw [e, vz_rounds]

/-- Butterflies and definition, of at most 256 numbers: near to one another. -/
theorem fft_dir {l : Nat} (hl : l ≤ 8) {b : Nat} (hb : 60 ≤ b) (hb2 : b ≤ 1900) (x : Nat → Nat × Nat) (X : Nat → Int × Int) (hx : ∀ j, j < 2 ^ l → CV (x j) (X j)) (hX : ∀ j, j < 2 ^ l → N2 (X j) (2 ^ b)) (k : Nat) (hk : k < 2 ^ l) (w : Nat → Nat × Nat)
    (hw : ∀ j, j < 2 ^ l → w j = full (4095 * (j * k % 2 ^ l) * 2 ^ (12 - l) % 4096)) :
    ∃ Y D, CV (fft l 4095 x k) Y ∧ CV (dirS x w (2 ^ l)) D ∧ N2 (cs Y D) (2 ^ (b - 33)) := by
  have hP : 2 ^ l ≤ 256 := Nat.pow_le_pow_right (n := 2) (by decide) hl
  obtain ⟨Y, cY, nY⟩ := fft_near 4095 (by decide) b hb hb2 l (by omega) x X hx hX k hk
  obtain ⟨⟨D, cD, nD⟩, -⟩ := dir_near hb hb2 x w X (fun j => 4095 * (j * k % 2 ^ l) * 2 ^ (12 - l)) (2 ^ l) hP hx hX hw (2 ^ l) (Nat.le_refl _)
  refine ⟨Y, D, cY, cD, ?_⟩
  have e : csum (2 ^ l) (fun i => gm (X i) (vz (4095 * (i * k % 2 ^ l) * 2 ^ (12 - l)))) = dsum l 4095 X k := by
    unfold dsum
    exact csum_congr fun j _ => by rw [th_mod (by omega)]
  rw [e] at nD
  have e2 : sm 18446744073709551616 (cs Y D) = cs (cs (sm 18446744073709551616 Y) (dsum l 4095 X k)) (cs (sm 18446744073709551616 D) (dsum l 4095 X k)) := by
    refine Prod.ext ?_ ?_
    · simp only [sm, cs]; omega
    · simp only [sm, cs]; omega
  refine n2_div 18446744073709551616 (by decide) ?_
  show N2 (sm 18446744073709551616 _) _
  rw [e2]
  refine n2_mono (n2_sub nY nD) ?_
  have hR : 2 ^ b = 8589934592 * 2 ^ (b - 33) := by
    rw [show (8589934592 : Nat) = 2 ^ 33 from rfl, ← Nat.pow_add]; congr 1; omega
  have h1 : errOf l b ≤ 8 * (131072 * (256 * 2 ^ b)) := by
    unfold errOf
    exact Nat.mul_le_mul hl (Nat.mul_le_mul_left _ (Nat.mul_le_mul_right _ hP))
  have h2 : 2 ^ l * (4194304 * 2 ^ b) ≤ 256 * (4194304 * 2 ^ b) := Nat.mul_le_mul_right _ hP
  rw [hR] at h1 h2
  generalize 2 ^ (b - 33) = G at *
  rw [hR]
  omega
end Go.Proofs.YthiipodgfbnpeaaDoor
