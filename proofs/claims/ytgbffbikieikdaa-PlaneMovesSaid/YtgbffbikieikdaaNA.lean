/- Products of any two roots are near to the root at the sum of their places. -/
import Derived.Test.YtgbffbikieikdaaNV
import Derived.Test.YtgbffbikieikdaaS
namespace Go.Proofs.Ytgbffbikieikdaa

theorem ident1 (a1 a2 b1 b2 c1 c2 e1 e2 x1 x2 y1 y2 z1 z2 t1 t2 v1 M : Int) :
    M * M * (x1 * y1 - x2 * y2 - M * v1) = M * M * (z1 * t1 - z2 * t2 - M * v1) + M * (z1 * (b1 * e1 - b2 * e2 - M * t1) - z2 * (b1 * e2 + b2 * e1 - M * t2))
      + ((b1 * e1 - b2 * e2) * (a1 * c1 - a2 * c2 - M * z1) - (b1 * e2 + b2 * e1) * (a1 * c2 + a2 * c1 - M * z2))
      - ((a1 * b1 - a2 * b2) * (c1 * e1 - c2 * e2 - M * y1) - (a1 * b2 + a2 * b1) * (c1 * e2 + c2 * e1 - M * y2))
      - M * (y1 * (a1 * b1 - a2 * b2 - M * x1) - y2 * (a1 * b2 + a2 * b1 - M * x2)) := by grind

theorem ident2 (a1 a2 b1 b2 c1 c2 e1 e2 x1 x2 y1 y2 z1 z2 t1 t2 v2 M : Int) :
    M * M * (x1 * y2 + x2 * y1 - M * v2) = M * M * (z1 * t2 + z2 * t1 - M * v2) + M * (z1 * (b1 * e2 + b2 * e1 - M * t2) + z2 * (b1 * e1 - b2 * e2 - M * t1))
      + ((b1 * e1 - b2 * e2) * (a1 * c2 + a2 * c1 - M * z2) + (b1 * e2 + b2 * e1) * (a1 * c1 - a2 * c2 - M * z1))
      - ((a1 * b1 - a2 * b2) * (c1 * e2 + c2 * e1 - M * y2) + (a1 * b2 + a2 * b1) * (c1 * e1 - c2 * e2 - M * y1))
      - M * (y1 * (a1 * b2 + a2 * b1 - M * x2) + y2 * (a1 * b1 - a2 * b2 - M * x1)) := by grind

theorem mul_le' {x u : Int} {A B : Nat} (hx : x.natAbs ≤ A) (hu : u.natAbs ≤ B) : (x * u).natAbs ≤ A * B := by
  rw [Int.natAbs_mul]; exact Nat.mul_le_mul hx hu
theorem two_sub {x y u v : Int} {A B : Nat} (hx : x.natAbs ≤ A) (hy : y.natAbs ≤ A) (hu : u.natAbs ≤ B) (hv : v.natAbs ≤ B) : (x * u - y * v).natAbs ≤ 2 * (A * B) := by
  have h1 := mul_le' hx hu
  have h2 := mul_le' hy hv
  omega
theorem two_add {x y u v : Int} {A B : Nat} (hx : x.natAbs ≤ A) (hy : y.natAbs ≤ A) (hu : u.natAbs ≤ B) (hv : v.natAbs ≤ B) : (x * u + y * v).natAbs ≤ 2 * (A * B) := by
  have h1 := mul_le' hx hu
  have h2 := mul_le' hy hv
  omega

theorem five {K D : Nat} {M T a b c d e : Int} (hM : M.natAbs = K) (hK : 0 < K) (h : M * M * T = M * M * a + M * b + c - d - M * e)
    (ha : a.natAbs ≤ D) (hb : b.natAbs ≤ 2 * (K * D)) (hc : c.natAbs ≤ 2 * (2 * (K * K) * D)) (hd : d.natAbs ≤ 2 * (2 * (K * K) * D)) (he : e.natAbs ≤ 2 * (K * D)) : T.natAbs ≤ 13 * D := by
  have h1 : (M * M * T).natAbs = K * K * T.natAbs := by rw [Int.natAbs_mul, Int.natAbs_mul, hM]
  have h2 : (M * M * a).natAbs ≤ K * K * D := by rw [Int.natAbs_mul, Int.natAbs_mul, hM]; exact Nat.mul_le_mul_left _ ha
  have h3 : (M * b).natAbs ≤ 2 * (K * K * D) := by
    rw [Int.natAbs_mul, hM]
    have := Nat.mul_le_mul_left K hb
    rw [Nat.mul_left_comm, ← Nat.mul_assoc K K D] at this
    exact this
  have h4 : (M * e).natAbs ≤ 2 * (K * K * D) := by
    rw [Int.natAbs_mul, hM]
    have := Nat.mul_le_mul_left K he
    rw [Nat.mul_left_comm, ← Nat.mul_assoc K K D] at this
    exact this
  rw [Nat.mul_assoc 2 (K * K) D] at hc hd
  have h5 : K * K * T.natAbs ≤ K * K * (13 * D) := by
    rw [← h1, h, Nat.mul_left_comm]
    generalize K * K * D = W at *
    omega
  exact Nat.le_of_mul_le_mul_left h5 (Nat.mul_pos hK hK)

/-- Four small factors and what they make. -/
theorem chain {D : Nat} {a b c e x y z t v : Int × Int} (ha : smallB a = true) (hb : smallB b = true) (he : smallB e = true) (hy : smallB y = true) (hz : smallB z = true)
    (h1 : Near D (gm a b) x) (h2 : Near D (gm c e) y) (h3 : Near D (gm a c) z) (h4 : Near D (gm b e) t) (h5 : Near D (gm z t) v) : Near (13 * D) (gm x y) v := by
  simp only [smallB, Bool.and_eq_true, decide_eq_true_eq] at ha hb he hy hz
  have hM : (18446744073709551616 : Int).natAbs = 18446744073709551616 := rfl
  have be1 := two_sub hb.1 hb.2 he.1 he.2
  have be2 := two_add hb.1 hb.2 he.2 he.1
  have ab1 := two_sub ha.1 ha.2 hb.1 hb.2
  have ab2 := two_add ha.1 ha.2 hb.2 hb.1
  constructor
  · exact five hM (by decide) (ident1 a.1 a.2 b.1 b.2 c.1 c.2 e.1 e.2 x.1 x.2 y.1 y.2 z.1 z.2 t.1 t.2 v.1 18446744073709551616) h5.1 (two_sub hz.1 hz.2 h4.1 h4.2)
      (two_sub be1 be2 h3.1 h3.2) (two_sub ab1 ab2 h2.1 h2.2) (two_sub hy.1 hy.2 h1.1 h1.2)
  · exact five hM (by decide) (ident2 a.1 a.2 b.1 b.2 c.1 c.2 e.1 e.2 x.1 x.2 y.1 y.2 z.1 z.2 t.1 t.2 v.2 18446744073709551616) h5.2 (two_add hz.1 hz.2 h4.2 h4.1)
      (two_add be1 be2 h3.2 h3.1) (two_add ab1 ab2 h2.2 h2.1) (two_add hy.1 hy.2 h1.2 h1.1)

theorem vz_turn (i : Nat) : vz (i + 1024) = rotI (vz i) := by
  unfold vz
  rw [show (i + 1024) / 1024 = i / 1024 + 1 by omega, show (i + 1024) % 1024 = i % 1024 by omega]
  rfl

theorem small_iff (a : Int × Int) : smallB a = true ↔ a.1.natAbs ≤ 18446744073709551616 ∧ a.2.natAbs ≤ 18446744073709551616 := by
  unfold smallB
  rw [Bool.and_eq_true, decide_eq_true_eq, decide_eq_true_eq]

theorem small_rot {a : Int × Int} (h : smallB a = true) : smallB (rotI a) = true := by
  rw [small_iff] at h ⊢
  refine ⟨?_, h.1⟩
  show (-a.2).natAbs ≤ _
  rw [Int.natAbs_neg]
  exact h.2

theorem small_vz (i : Nat) : smallB (vz i) = true := by
  unfold vz
  generalize i / 1024 = c
  induction c with
  | zero =>
    have := small0 (i % 1024 / 32) (by omega) (i % 1024 % 32) (by omega)
    rw [show 32 * (i % 1024 / 32) + i % 1024 % 32 = i % 1024 by omega] at this
    exact this
  | succ c ih => exact small_rot ih

theorem near_quarter {i j : Nat} (hi : i < 1024) (hj : j < 1024) : Near (13 * 302231454903657293676544) (gm (vz i) (vz j)) (vz (i + j)) := by
  have h1 := near_of (near1 (i / 32) (by omega) (i % 32) (by omega))
  have h2 := near_of (near1 (j / 32) (by omega) (j % 32) (by omega))
  have h3 := near_of (near2 (i / 32) (by omega) (j / 32) (by omega))
  have h4 := near_of (near3 (i % 32) (by omega) (j % 32) (by omega))
  have h5 := near_of (near1 (i / 32 + j / 32) (by omega) (i % 32 + j % 32) (by omega))
  rw [show 32 * (i / 32) + i % 32 = i by omega] at h1
  rw [show 32 * (j / 32) + j % 32 = j by omega] at h2
  rw [show 32 * (i / 32) + 32 * (j / 32) = 32 * (i / 32 + j / 32) by omega] at h3
  rw [show 32 * (i / 32 + j / 32) + (i % 32 + j % 32) = i + j by omega] at h5
  exact chain (small_vz _) (small_vz _) (small_vz _) (small_vz _) (small_vz _) h1 h2 h3 h4 h5

theorem near_rot {D : Nat} {a c : Int × Int} (h : Near D a c) : Near D (rotI a) (rotI c) := by
  obtain ⟨h1, h2⟩ := h
  refine ⟨?_, h1⟩
  show (-a.2 - 18446744073709551616 * -c.2).natAbs ≤ D
  omega

theorem gm_rot_left (a b : Int × Int) : gm (rotI a) b = rotI (gm a b) := by
  unfold gm rotI
  refine Prod.ext ?_ ?_
  · show -a.2 * b.1 - a.1 * b.2 = -(a.1 * b.2 + a.2 * b.1)
    grind
  · show -a.2 * b.2 + a.1 * b.1 = a.1 * b.1 - a.2 * b.2
    grind
theorem gm_rot_right (a b : Int × Int) : gm a (rotI b) = rotI (gm a b) := by
  unfold gm rotI
  refine Prod.ext ?_ ?_
  · show a.1 * -b.2 - a.2 * b.1 = -(a.1 * b.2 + a.2 * b.1)
    grind
  · show a.1 * b.1 + a.2 * -b.2 = a.1 * b.1 - a.2 * b.2
    grind

theorem near_left (c : Nat) : ∀ i j : Nat, i < 1024 * (c + 1) → j < 1024 → Near (13 * 302231454903657293676544) (gm (vz i) (vz j)) (vz (i + j)) := by
  induction c with
  | zero => intro i j hi hj; exact near_quarter (by omega) hj
  | succ c ih =>
    intro i j hi hj
    by_cases h : i < 1024
    · exact near_quarter h hj
    · obtain ⟨i', rfl⟩ : ∃ i', i = i' + 1024 := ⟨i - 1024, by omega⟩
      rw [show i' + 1024 + j = i' + j + 1024 by omega, vz_turn, vz_turn, gm_rot_left]
      exact near_rot (ih i' j (by omega) hj)

theorem near_all (c : Nat) : ∀ i j : Nat, i < 4096 → j < 1024 * (c + 1) → Near (13 * 302231454903657293676544) (gm (vz i) (vz j)) (vz (i + j)) := by
  induction c with
  | zero => intro i j hi hj; exact near_left 3 i j (by omega) (by omega)
  | succ c ih =>
    intro i j hi hj
    by_cases h : j < 1024
    · exact near_left 3 i j (by omega) h
    · obtain ⟨j', rfl⟩ : ∃ j', j = j' + 1024 := ⟨j - 1024, by omega⟩
      rw [← Nat.add_assoc, vz_turn, vz_turn, gm_rot_right]
      exact near_rot (ih i j' hi (by omega))

theorem rot_four (a : Int × Int) : rotI (rotI (rotI (rotI a))) = a := by
  unfold rotI
  refine Prod.ext ?_ ?_
  · show - - a.1 = a.1
    omega
  · show - - a.2 = a.2
    omega

theorem vz_round (i : Nat) : vz (i + 4096) = vz i := by
  rw [show i + 4096 = i + 1024 + 1024 + 1024 + 1024 by omega, vz_turn, vz_turn, vz_turn, vz_turn, rot_four]

theorem near_mod {i j : Nat} (hi : i < 4096) (hj : j < 4096) : Near (13 * 302231454903657293676544) (gm (vz i) (vz j)) (vz ((i + j) % 4096)) := by
  have h := near_all 3 i j hi (by omega)
  by_cases c : i + j < 4096
  · rwa [Nat.mod_eq_of_lt c]
  · obtain ⟨l, hl⟩ : ∃ l, i + j = l + 4096 := ⟨i + j - 4096, by omega⟩
    rw [hl, vz_round] at h
    rwa [hl, show (l + 4096) % 4096 = l by omega]

open Fl

/-- Bits and units of 2 to the -64. -/
def DV (b : Nat) (z : Int) : Prop := ∃ q : Nat, q = 1010 ∧ FV b (z * 2 ^ q)

theorem dv_word (neg : Bool) {b : Nat} {z : Int} (h : fvB b z = true) : DV (Ieee.double.word neg b) (if neg then -z else z) := by
  unfold fvB at h
  rw [Bool.or_eq_true] at h
  obtain ⟨q, hq⟩ : ∃ q : Nat, q = 1010 := ⟨_, rfl⟩
  refine ⟨q, hq, ?_⟩
  rcases h with h | h
  · rw [Bool.and_eq_true, beq_iff_eq, beq_iff_eq] at h
    obtain ⟨rfl, rfl⟩ := h
    refine ⟨neg, 0, 0, read_zero neg, ?_⟩
    rw [signed_eq, Nat.zero_mul]
    cases neg
    · exact (Int.zero_mul _).symm
    · exact (Int.zero_mul _).symm
  · rw [Bool.and_eq_true, Bool.and_eq_true, beq_iff_eq, decide_eq_true_eq, decide_eq_true_eq] at h
    obtain ⟨⟨h1, h2⟩, rfl⟩ := h
    refine ⟨neg, 4503599627370496 + b % 4503599627370496, b / 4503599627370496 - 1, ?_, ?_⟩
    · rw [read_word neg b (by omega), if_neg (by omega), if_pos (by omega)]
    · rw [signed_eq, show b / 4503599627370496 - 1 = b / 4503599627370496 - 1011 + q by omega, Nat.pow_add, ← Nat.mul_assoc]
      generalize (4503599627370496 + b % 4503599627370496) * 2 ^ (b / 4503599627370496 - 1011) = X
      have hc : ((X * 2 ^ q : Nat) : Int) = (X : Int) * 2 ^ q := by rw [Int.natCast_mul, Int.natCast_pow]; rfl
      rw [hc]
      generalize (2 : Int) ^ q = P
      cases neg
      · rfl
      · show -((X : Int) * P) = -(X : Int) * P
        rw [Int.neg_mul]

theorem word_false (b : Nat) : Ieee.double.word false b = b := by
  unfold Ieee.Format.word
  simp
theorem word_true (b : Nat) : Ieee.double.word true b = b + 9223372036854775808 := by
  unfold Ieee.Format.word
  rw [sw]
  simp
  omega
end Go.Proofs.Ytgbffbikieikdaa
