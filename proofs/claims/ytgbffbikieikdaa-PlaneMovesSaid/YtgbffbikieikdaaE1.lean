/- Complex whole numbers and their lengths; products of roots near to roots, by length. -/
import Derived.Test.YtgbffbikieikdaaNC
namespace Go.Proofs.Ytgbffbikieikdaa

def ca (a b : Int × Int) : Int × Int := (a.1 + b.1, a.2 + b.2)
def cs (a b : Int × Int) : Int × Int := (a.1 - b.1, a.2 - b.2)
def sm (c : Int) (a : Int × Int) : Int × Int := (c * a.1, c * a.2)

/-- The length of z is at most B. -/
def N2 (z : Int × Int) (B : Nat) : Prop := z.1 * z.1 + z.2 * z.2 ≤ (B : Int) * (B : Int)

theorem sq_le {t s : Int} (h : t * t ≤ s * s) (hs : 0 ≤ s) : t ≤ s := by
  by_cases c : t ≤ s
  · exact c
  · have h1 : (s + 1) * (s + 1) ≤ t * t := Int.mul_le_mul (by omega) (by omega) (by omega) (by omega)
    have h2 : (s + 1) * (s + 1) = s * s + 2 * s + 1 := by grind
    omega

theorem sq_nonneg (a : Int) : 0 ≤ a * a := by
  rcases Int.le_total 0 a with h | h
  · exact Int.mul_nonneg h h
  · exact Int.mul_nonneg_of_nonpos_of_nonpos h h

theorem n2_add {x y : Int × Int} {A B : Nat} (hx : N2 x A) (hy : N2 y B) : N2 (ca x y) (A + B) := by
  unfold N2 at *
  have hA : (0 : Int) ≤ (A : Int) := Int.natCast_nonneg A
  have hB : (0 : Int) ≤ (B : Int) := Int.natCast_nonneg B
  rw [Int.natCast_add]
  generalize (A : Int) = a at *
  generalize (B : Int) = b at *
  have hc : x.1 * y.1 + x.2 * y.2 ≤ a * b := by
    refine sq_le ?_ (Int.mul_nonneg hA hB)
    have h1 : (x.1 * y.1 + x.2 * y.2) * (x.1 * y.1 + x.2 * y.2) = (x.1 * x.1 + x.2 * x.2) * (y.1 * y.1 + y.2 * y.2) - (x.1 * y.2 - x.2 * y.1) * (x.1 * y.2 - x.2 * y.1) := by grind
    have h2 := sq_nonneg (x.1 * y.2 - x.2 * y.1)
    have h3 : (x.1 * x.1 + x.2 * x.2) * (y.1 * y.1 + y.2 * y.2) ≤ a * a * (b * b) :=
      Int.mul_le_mul hx hy (Int.add_nonneg (sq_nonneg _) (sq_nonneg _)) (sq_nonneg a)
    have h4 : a * b * (a * b) = a * a * (b * b) := by grind
    rw [h1, h4]
    omega
  show (x.1 + y.1) * (x.1 + y.1) + (x.2 + y.2) * (x.2 + y.2) ≤ (a + b) * (a + b)
  have h1 : (x.1 + y.1) * (x.1 + y.1) + (x.2 + y.2) * (x.2 + y.2) = (x.1 * x.1 + x.2 * x.2) + (y.1 * y.1 + y.2 * y.2) + 2 * (x.1 * y.1 + x.2 * y.2) := by grind
  have h2 : (a + b) * (a + b) = a * a + b * b + 2 * (a * b) := by grind
  rw [h1, h2]
  omega

theorem n2_neg {x : Int × Int} {A : Nat} (hx : N2 x A) : N2 (-x.1, -x.2) A := by
  unfold N2 at *
  show -x.1 * -x.1 + -x.2 * -x.2 ≤ _
  rw [Int.neg_mul_neg, Int.neg_mul_neg]
  exact hx

theorem n2_sub {x y : Int × Int} {A B : Nat} (hx : N2 x A) (hy : N2 y B) : N2 (cs x y) (A + B) := by
  have := n2_add hx (n2_neg hy)
  unfold ca at this
  unfold cs
  rw [Int.sub_eq_add_neg, Int.sub_eq_add_neg]
  exact this

theorem n2_mul {x y : Int × Int} {A B : Nat} (hx : N2 x A) (hy : N2 y B) : N2 (gm x y) (A * B) := by
  unfold N2 at *
  rw [Int.natCast_mul]
  generalize (A : Int) = a at *
  generalize (B : Int) = b at *
  show (x.1 * y.1 - x.2 * y.2) * (x.1 * y.1 - x.2 * y.2) + (x.1 * y.2 + x.2 * y.1) * (x.1 * y.2 + x.2 * y.1) ≤ a * b * (a * b)
  have h1 : (x.1 * y.1 - x.2 * y.2) * (x.1 * y.1 - x.2 * y.2) + (x.1 * y.2 + x.2 * y.1) * (x.1 * y.2 + x.2 * y.1) = (x.1 * x.1 + x.2 * x.2) * (y.1 * y.1 + y.2 * y.2) := by grind
  have h3 : (x.1 * x.1 + x.2 * x.2) * (y.1 * y.1 + y.2 * y.2) ≤ a * a * (b * b) :=
    Int.mul_le_mul hx hy (Int.add_nonneg (sq_nonneg _) (sq_nonneg _)) (sq_nonneg a)
  have h4 : a * b * (a * b) = a * a * (b * b) := by grind
  rw [h1, h4]
  exact h3

theorem n2_mono {x : Int × Int} {A B : Nat} (hx : N2 x A) (h : A ≤ B) : N2 x B := by
  unfold N2 at *
  have : (A : Int) * A ≤ (B : Int) * B := Int.mul_le_mul (by omega) (by omega) (by omega) (by omega)
  omega

theorem n2_sm {x : Int × Int} {A : Nat} (c : Nat) (hx : N2 x A) : N2 (sm c x) (c * A) := by
  unfold N2 at *
  rw [Int.natCast_mul]
  show (c : Int) * x.1 * ((c : Int) * x.1) + (c : Int) * x.2 * ((c : Int) * x.2) ≤ _
  have h1 : (c : Int) * x.1 * ((c : Int) * x.1) + (c : Int) * x.2 * ((c : Int) * x.2) = (c : Int) * c * (x.1 * x.1 + x.2 * x.2) := by grind
  have h2 : (c : Int) * (A : Int) * ((c : Int) * (A : Int)) = (c : Int) * c * ((A : Int) * A) := by grind
  rw [h1, h2]
  exact Int.mul_le_mul_of_nonneg_left hx (sq_nonneg _)

theorem n2_div {x : Int × Int} {A : Nat} (c : Nat) (hc : 0 < c) (hx : N2 (sm c x) (c * A)) : N2 x A := by
  unfold N2 at *
  rw [Int.natCast_mul] at hx
  have h1 : (c : Int) * x.1 * ((c : Int) * x.1) + (c : Int) * x.2 * ((c : Int) * x.2) = (c : Int) * c * (x.1 * x.1 + x.2 * x.2) := by grind
  have h2 : (c : Int) * (A : Int) * ((c : Int) * (A : Int)) = (c : Int) * c * ((A : Int) * A) := by grind
  have h3 : (c : Int) * x.1 * ((c : Int) * x.1) + (c : Int) * x.2 * ((c : Int) * x.2) ≤ (c : Int) * (A : Int) * ((c : Int) * (A : Int)) := hx
  rw [h1, h2] at h3
  exact Int.le_of_mul_le_mul_left h3 (Int.mul_pos (by omega) (by omega))

theorem n2_fst {x : Int × Int} {A : Nat} (hx : N2 x A) : x.1.natAbs ≤ A ∧ x.2.natAbs ≤ A := by
  unfold N2 at hx
  have a1 := sq_nonneg x.1
  have a2 := sq_nonneg x.2
  have h1 : x.1 ≤ A := sq_le (by omega) (by omega)
  have h2 : -x.1 ≤ A := sq_le (by rw [Int.neg_mul_neg]; omega) (by omega)
  have h3 : x.2 ≤ A := sq_le (by omega) (by omega)
  have h4 : -x.2 ≤ A := sq_le (by rw [Int.neg_mul_neg]; omega) (by omega)
  omega

theorem abs_sq {x : Int} {A : Nat} (h : x.natAbs ≤ A) : x * x ≤ (A : Int) * A := by
  have h1 : x * x = (x.natAbs : Int) * x.natAbs := by
    rcases Int.natAbs_eq x with e | e
    · rw [← e]
    · generalize (x.natAbs : Int) = a at *
      subst e
      rw [Int.neg_mul_neg]
  rw [h1]
  exact Int.mul_le_mul (by omega) (by omega) (by omega) (by omega)

/-- Two parts of at most 2 A: a length of at most 3 A. -/
theorem n2_parts {x : Int × Int} {A : Nat} (h1 : x.1.natAbs ≤ 2 * A) (h2 : x.2.natAbs ≤ 2 * A) : N2 x (3 * A) := by
  unfold N2
  have a1 := abs_sq h1
  have a2 := abs_sq h2
  rw [Int.natCast_mul] at *
  have e1 : ((2 : Nat) : Int) * (A : Int) * (((2 : Nat) : Int) * (A : Int)) = 4 * ((A : Int) * A) := by grind
  have e2 : ((3 : Nat) : Int) * (A : Int) * (((3 : Nat) : Int) * (A : Int)) = 9 * ((A : Int) * A) := by grind
  rw [e1] at a1 a2
  rw [e2]
  have := sq_nonneg (A : Int)
  omega

/-- The length of a root, in units of 2 to the -64. -/
theorem n2_vz (i : Nat) : N2 (vz i) 18446744073709559808 := by
  have h := sq_vz i
  unfold sqB at h
  rw [decide_eq_true_eq] at h
  unfold N2
  omega

theorem near_n2 {i j : Nat} (h : nearB i j = true) : N2 (cs (gm (vz i) (vz j)) (sm 18446744073709551616 (vz (i + j)))) (3 * 151115727451828646838272) := by
  obtain ⟨h1, h2⟩ := near_of h
  exact n2_parts h1 h2

theorem identC (a b c e x y z t v : Int × Int) (M : Int) :
    sm (M * M) (cs (gm x y) (sm M v)) =
      cs (cs (ca (ca (sm (M * M) (cs (gm z t) (sm M v))) (sm M (gm z (cs (gm b e) (sm M t))))) (gm (gm b e) (cs (gm a c) (sm M z))))
        (gm (gm a b) (cs (gm c e) (sm M y)))) (sm M (gm y (cs (gm a b) (sm M x)))) := by
  unfold sm cs ca gm
  refine Prod.ext ?_ ?_
  · exact (ident1 a.1 a.2 b.1 b.2 c.1 c.2 e.1 e.2 x.1 x.2 y.1 y.2 z.1 z.2 t.1 t.2 v.1 M)
  · exact (ident2 a.1 a.2 b.1 b.2 c.1 c.2 e.1 e.2 x.1 x.2 y.1 y.2 z.1 z.2 t.1 t.2 v.2 M)

/-- The bound: 6 times 3 times 2 to the 77. -/
theorem chain2 {a b c e x y z t v : Int × Int} (ha : N2 a 18446744073709559808) (hb : N2 b 18446744073709559808) (he : N2 e 18446744073709559808) (hy : N2 y 18446744073709559808) (hz : N2 z 18446744073709559808)
    (h1 : N2 (cs (gm a b) (sm 18446744073709551616 x)) (3 * 151115727451828646838272)) (h2 : N2 (cs (gm c e) (sm 18446744073709551616 y)) (3 * 151115727451828646838272))
    (h3 : N2 (cs (gm a c) (sm 18446744073709551616 z)) (3 * 151115727451828646838272)) (h4 : N2 (cs (gm b e) (sm 18446744073709551616 t)) (3 * 151115727451828646838272))
    (h5 : N2 (cs (gm z t) (sm 18446744073709551616 v)) (3 * 151115727451828646838272)) : N2 (cs (gm x y) (sm 18446744073709551616 v)) 2720083094132915643088896 := by
  have k1 := n2_sm (18446744073709551616 * 18446744073709551616) h5
  have k2 := n2_sm 18446744073709551616 (n2_mul hz h4)
  have k3 := n2_mul (n2_mul hb he) h3
  have k4 := n2_mul (n2_mul ha hb) h2
  have k5 := n2_sm 18446744073709551616 (n2_mul hy h1)
  have k := n2_sub (n2_sub (n2_add (n2_add k1 k2) k3) k4) k5
  have e := identC a b c e x y z t v 18446744073709551616
  refine n2_div (18446744073709551616 * 18446744073709551616) (by decide) ?_
  show N2 (sm (18446744073709551616 * 18446744073709551616) _) _
  rw [e]
  exact n2_mono k (by decide)

theorem near2_quarter {i j : Nat} (hi : i < 1024) (hj : j < 1024) : N2 (cs (gm (vz i) (vz j)) (sm 18446744073709551616 (vz (i + j)))) 2720083094132915643088896 := by
  have h1 := near_n2 (near1 (i / 32) (by omega) (i % 32) (by omega))
  have h2 := near_n2 (near1 (j / 32) (by omega) (j % 32) (by omega))
  have h3 := near_n2 (near2 (i / 32) (by omega) (j / 32) (by omega))
  have h4 := near_n2 (near3 (i % 32) (by omega) (j % 32) (by omega))
  have h5 := near_n2 (near1 (i / 32 + j / 32) (by omega) (i % 32 + j % 32) (by omega))
  rw [show 32 * (i / 32) + i % 32 = i by omega] at h1
  rw [show 32 * (j / 32) + j % 32 = j by omega] at h2
  rw [show 32 * (i / 32) + 32 * (j / 32) = 32 * (i / 32 + j / 32) by omega] at h3
  rw [show 32 * (i / 32 + j / 32) + (i % 32 + j % 32) = i + j by omega] at h5
  exact chain2 (n2_vz _) (n2_vz _) (n2_vz _) (n2_vz _) (n2_vz _) h1 h2 h3 h4 h5

theorem n2_rot {a : Int × Int} {A : Nat} (h : N2 a A) : N2 (rotI a) A := by
  unfold N2 at *
  show -a.2 * -a.2 + a.1 * a.1 ≤ _
  rw [Int.neg_mul_neg, Int.add_comm]
  exact h

theorem cs_rot (a b : Int × Int) : cs (rotI a) (sm 18446744073709551616 (rotI b)) = rotI (cs a (sm 18446744073709551616 b)) := by
  unfold cs sm rotI
  refine Prod.ext ?_ rfl
  show -a.2 - 18446744073709551616 * -b.2 = -(a.2 - 18446744073709551616 * b.2)
  omega

theorem near2_left (c : Nat) : ∀ i j : Nat, i < 1024 * (c + 1) → j < 1024 → N2 (cs (gm (vz i) (vz j)) (sm 18446744073709551616 (vz (i + j)))) 2720083094132915643088896 := by
  induction c with
  | zero => intro i j hi hj; exact near2_quarter (by omega) hj
  | succ c ih =>
    intro i j hi hj
    by_cases h : i < 1024
    · exact near2_quarter h hj
    · obtain ⟨i', rfl⟩ : ∃ i', i = i' + 1024 := ⟨i - 1024, by omega⟩
      rw [show i' + 1024 + j = i' + j + 1024 by omega, vz_turn, vz_turn, gm_rot_left, cs_rot]
      exact n2_rot (ih i' j (by omega) hj)

theorem near2_right (c : Nat) : ∀ i j : Nat, j < 1024 * (c + 1) → N2 (cs (gm (vz i) (vz j)) (sm 18446744073709551616 (vz (i + j)))) 2720083094132915643088896 := by
  induction c with
  | zero => intro i j hj; exact near2_left (i / 1024) i j (by omega) (by omega)
  | succ c ih =>
    intro i j hj
    by_cases h : j < 1024
    · exact near2_left (i / 1024) i j (by omega) h
    · obtain ⟨j', rfl⟩ : ∃ j', j = j' + 1024 := ⟨j - 1024, by omega⟩
      rw [← Nat.add_assoc, vz_turn, vz_turn, gm_rot_right, cs_rot]
      exact n2_rot (ih i j' (by omega))

/-- The product of two roots and the root at the sum of their places, whatever the places. -/
theorem near2_all (i j : Nat) : N2 (cs (gm (vz i) (vz j)) (sm 18446744073709551616 (vz (i + j)))) 2720083094132915643088896 := near2_right (j / 1024) i j (by omega)

theorem vz_opp (i : Nat) : vz (i + 2048) = (-(vz i).1, -(vz i).2) := by
  rw [show i + 2048 = i + 1024 + 1024 by omega, vz_turn, vz_turn]
  rfl

theorem vz_rounds (i c : Nat) : vz (i + 4096 * c) = vz i := by
  induction c with
  | zero => rfl
  | succ c ih => rw [show i + 4096 * (c + 1) = i + 4096 * c + 4096 by omega, vz_round, ih]

theorem vz_mod (i : Nat) : vz (i % 4096) = vz i := by
  have := vz_rounds (i % 4096) (i / 4096)
  rw [show i % 4096 + 4096 * (i / 4096) = i by omega] at this
  exact this.symm
end Go.Proofs.Ytgbffbikieikdaa
