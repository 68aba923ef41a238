/- One butterfly, rounded, and how far it is from the exact one. -/
import Derived.Test.YtgbffbikieikdaaE2
namespace Go.Proofs.Ytgbffbikieikdaa
open Fl

def addC (a b : Nat × Nat) : Nat × Nat := ((floatBits .add .f64 a.1 b.1).getD 0, (floatBits .add .f64 a.2 b.2).getD 0)
def subC (a b : Nat × Nat) : Nat × Nat := ((floatBits .sub .f64 a.1 b.1).getD 0, (floatBits .sub .f64 a.2 b.2).getD 0)
def mulC (a b : Nat × Nat) : Nat × Nat :=
  ((floatBits .sub .f64 ((floatBits .mul .f64 a.1 b.1).getD 0) ((floatBits .mul .f64 a.2 b.2).getD 0)).getD 0,
   (floatBits .add .f64 ((floatBits .mul .f64 a.1 b.2).getD 0) ((floatBits .mul .f64 a.2 b.1).getD 0)).getD 0)

structure AddTo (a b r : Nat × Nat) : Prop where
  one : floatBits .add .f64 a.1 b.1 = some r.1
  two : floatBits .add .f64 a.2 b.2 = some r.2
structure SubTo (a b r : Nat × Nat) : Prop where
  one : floatBits .sub .f64 a.1 b.1 = some r.1
  two : floatBits .sub .f64 a.2 b.2 = some r.2

/-- The bits are those of two finite numbers, in units of 2 to the -1074. -/
structure CV (b : Nat × Nat) (z : Int × Int) : Prop where
  one : FV b.1 z.1
  two : FV b.2 z.2

theorem pmul {a c t : Nat} {A C : Int} (ht : 60 ≤ t) (ht2 : t ≤ 2000) (ha : DV a A) (hc : FV c C) (hA : A.natAbs ≤ 18446744073709551616) (hC : C.natAbs ≤ 2 ^ t) :
    ∃ r v, floatBits .mul .f64 a c = some r ∧ FV r v ∧ (18446744073709551616 * v - A * C).natAbs ≤ 2 ^ (t + 11) := by
  obtain ⟨q, hq, fa⟩ := ha
  obtain ⟨u, hu⟩ : ∃ u : Nat, u = 1074 := ⟨_, rfl⟩
  have hAC := mul_le' hA hC
  have hz : (A * 2 ^ q * C).natAbs < 2 ^ (t + 1 + u) := by
    have e : A * 2 ^ q * C = A * C * 2 ^ q := by generalize (2 : Int) ^ q = G; grind
    rw [e, Int.natAbs_mul, pow_abs]
    have h1 : (A * C).natAbs * 2 ^ q ≤ 18446744073709551616 * 2 ^ t * 2 ^ q := Nat.mul_le_mul_right _ hAC
    have h2 : 18446744073709551616 * 2 ^ t * 2 ^ q = 2 ^ (t + u) := by
      rw [show (18446744073709551616 : Nat) = 2 ^ 64 from rfl, ← Nat.pow_add, ← Nat.pow_add]; congr 1; omega
    have h3 : 2 ^ (t + u) < 2 ^ (t + 1 + u) := Nat.pow_lt_pow_right (by decide) (by omega)
    omega
  obtain ⟨r, v, e, fv, hd⟩ := mul_err u hu fa hc (T := t + 1) (by omega) (by omega) hz
  refine ⟨r, v, e, fv, ?_⟩
  have e2 : v * 2 ^ u - A * 2 ^ q * C = (18446744073709551616 * v - A * C) * 2 ^ q := by
    have : (2 : Int) ^ u = 18446744073709551616 * 2 ^ q := by
      rw [show u = 64 + q by omega, Int.pow_add]; rfl
    rw [this]
    generalize (2 : Int) ^ q = G
    grind
  rw [e2, Int.natAbs_mul, pow_abs, show t + 1 - 53 + u = t + 12 + q by omega, Nat.pow_add, ← Nat.mul_assoc] at hd
  have hd' := Nat.le_of_mul_le_mul_right hd (Nat.two_pow_pos q)
  have h12 : 2 ^ (t + 12) = 2 * 2 ^ (t + 11) := by rw [show t + 12 = t + 11 + 1 by omega, Nat.pow_succ]; omega
  omega

theorem val_small {P Z : Nat} {v p : Int} (h1 : (18446744073709551616 * v - p).natAbs ≤ Z) (h2 : p.natAbs ≤ 18446744073709551616 * P) (hZ : Z < 18446744073709551616 * P) : v.natAbs < 2 * P := by omega

theorem lin_sub {Z R : Nat} {v1 v2 p1 p2 r : Int} (h1 : (18446744073709551616 * v1 - p1).natAbs ≤ Z) (h2 : (18446744073709551616 * v2 - p2).natAbs ≤ Z) (h3 : 2 * (r - (v1 - v2)).natAbs ≤ R)
    (hR : 18446744073709551616 * R = 4 * Z) : (18446744073709551616 * r - (p1 - p2)).natAbs ≤ 4 * Z := by omega
theorem lin_add {Z R : Nat} {v1 v2 p1 p2 r : Int} (h1 : (18446744073709551616 * v1 - p1).natAbs ≤ Z) (h2 : (18446744073709551616 * v2 - p2).natAbs ≤ Z) (h3 : 2 * (r - (v1 + v2)).natAbs ≤ R)
    (hR : 18446744073709551616 * R = 4 * Z) : (18446744073709551616 * r - (p1 + p2)).natAbs ≤ 4 * Z := by omega

theorem pows {t : Nat} (ht : 60 ≤ t) : 18446744073709551616 * 2 ^ (t + 2 - 53) = 4 * 2 ^ (t + 11) ∧ 2 ^ (t + 11) < 18446744073709551616 * 2 ^ t ∧ 2 ^ (t + 2) = 4 * 2 ^ t := by
  refine ⟨?_, ?_, ?_⟩
  · rw [show (18446744073709551616 : Nat) = 2 ^ 64 from rfl, show (4 : Nat) = 2 ^ 2 from rfl, ← Nat.pow_add, ← Nat.pow_add]; congr 1; omega
  · rw [show (18446744073709551616 : Nat) = 2 ^ 64 from rfl, ← Nat.pow_add]; exact Nat.pow_lt_pow_right (by decide) (by omega)
  · rw [Nat.pow_add]; omega

theorem bmul {t : Nat} (ht : 60 ≤ t) (ht2 : t ≤ 2000) {w o : Nat × Nat} {W O : Int × Int} (hw1 : DV w.1 W.1) (hw2 : DV w.2 W.2) (sW : smallB W = true) (ho : CV o O) (hO : N2 O (2 ^ t)) :
    ∃ T, MulTo w.1 w.2 o.1 o.2 (mulC w o).1 (mulC w o).2 ∧ CV (mulC w o) T ∧ N2 (cs (sm 18446744073709551616 T) (gm W O)) (3 * (2 * 2 ^ (t + 11))) := by
  rw [small_iff] at sW
  obtain ⟨o1, o2⟩ := n2_fst hO
  obtain ⟨z1, z2, z3⟩ := pows ht
  obtain ⟨ac, v1, e1, f1, g1⟩ := pmul ht ht2 hw1 ho.one sW.1 o1
  obtain ⟨bd, v2, e2, f2, g2⟩ := pmul ht ht2 hw2 ho.two sW.2 o2
  obtain ⟨ad, v3, e3, f3, g3⟩ := pmul ht ht2 hw1 ho.two sW.1 o2
  obtain ⟨bc, v4, e4, f4, g4⟩ := pmul ht ht2 hw2 ho.one sW.2 o1
  have b1 := val_small g1 (mul_le' sW.1 o1) z2
  have b2 := val_small g2 (mul_le' sW.2 o2) z2
  have b3 := val_small g3 (mul_le' sW.1 o2) z2
  have b4 := val_small g4 (mul_le' sW.2 o1) z2
  obtain ⟨r, x1, e5, f5, g5⟩ := sub_err f1 f2 (T := t + 2) (by omega) (by omega) (by rw [z3]; omega)
  obtain ⟨s, x2, e6, f6, g6⟩ := add_err f3 f4 (T := t + 2) (by omega) (by omega) (by rw [z3]; omega)
  have d5 : floatBits .sub .f64 ac bd = some r := e5
  have d6 : floatBits .add .f64 ad bc = some s := e6
  have hm : mulC w o = (r, s) := by
    unfold mulC
    rw [e1, e2, e3, e4]
    simp only [Option.getD_some]
    rw [d5, d6]
    rfl
  rw [hm]
  refine ⟨(x1, x2), ⟨ac, bd, ad, bc, e1, e2, e3, e4, d5, d6⟩, ⟨f5, f6⟩, ?_⟩
  refine n2_parts ?_ ?_
  · have := lin_sub g1 g2 g5 z1
    show (18446744073709551616 * x1 - (W.1 * O.1 - W.2 * O.2)).natAbs ≤ _
    omega
  · have := lin_add g3 g4 g6 z1
    show (18446744073709551616 * x2 - (W.1 * O.2 + W.2 * O.1)).natAbs ≤ _
    omega

theorem lin_one {Z R : Nat} {r p : Int} (h3 : 2 * (r - p).natAbs ≤ R) (hR : 18446744073709551616 * R = 4 * Z) : (18446744073709551616 * r - 18446744073709551616 * p).natAbs ≤ 2 * Z := by omega

theorem badd {t : Nat} (ht : 60 ≤ t) (ht2 : t ≤ 2000) {e u : Nat × Nat} {E T : Int × Int} (he : CV e E) (hu : CV u T) (hE : N2 E (2 ^ t)) (hT : N2 T (2 * 2 ^ t)) :
    ∃ Y, AddTo e u (addC e u) ∧ CV (addC e u) Y ∧ N2 (cs (sm 18446744073709551616 Y) (sm 18446744073709551616 (ca E T))) (3 * 2 ^ (t + 11)) := by
  obtain ⟨o1, o2⟩ := n2_fst hE
  obtain ⟨p1, p2⟩ := n2_fst hT
  obtain ⟨z1, z2, z3⟩ := pows ht
  have hp : 0 < 2 ^ t := Nat.two_pow_pos t
  obtain ⟨r, x1, e5, f5, g5⟩ := add_err he.one hu.one (T := t + 2) (by omega) (by omega) (by rw [z3]; omega)
  obtain ⟨s, x2, e6, f6, g6⟩ := add_err he.two hu.two (T := t + 2) (by omega) (by omega) (by rw [z3]; omega)
  have d5 : floatBits .add .f64 e.1 u.1 = some r := e5
  have d6 : floatBits .add .f64 e.2 u.2 = some s := e6
  have hm : addC e u = (r, s) := by
    unfold addC
    rw [d5, d6]
    rfl
  rw [hm]
  exact ⟨(x1, x2), ⟨d5, d6⟩, ⟨f5, f6⟩, n2_parts (lin_one g5 z1) (lin_one g6 z1)⟩

theorem bsub {t : Nat} (ht : 60 ≤ t) (ht2 : t ≤ 2000) {e u : Nat × Nat} {E T : Int × Int} (he : CV e E) (hu : CV u T) (hE : N2 E (2 ^ t)) (hT : N2 T (2 * 2 ^ t)) :
    ∃ Y, SubTo e u (subC e u) ∧ CV (subC e u) Y ∧ N2 (cs (sm 18446744073709551616 Y) (sm 18446744073709551616 (cs E T))) (3 * 2 ^ (t + 11)) := by
  obtain ⟨o1, o2⟩ := n2_fst hE
  obtain ⟨p1, p2⟩ := n2_fst hT
  obtain ⟨z1, z2, z3⟩ := pows ht
  have hp : 0 < 2 ^ t := Nat.two_pow_pos t
  obtain ⟨r, x1, e5, f5, g5⟩ := sub_err he.one hu.one (T := t + 2) (by omega) (by omega) (by rw [z3]; omega)
  obtain ⟨s, x2, e6, f6, g6⟩ := sub_err he.two hu.two (T := t + 2) (by omega) (by omega) (by rw [z3]; omega)
  have d5 : floatBits .sub .f64 e.1 u.1 = some r := e5
  have d6 : floatBits .sub .f64 e.2 u.2 = some s := e6
  have hm : subC e u = (r, s) := by
    unfold subC
    rw [d5, d6]
    rfl
  rw [hm]
  exact ⟨(x1, x2), ⟨d5, d6⟩, ⟨f5, f6⟩, n2_parts (lin_one g5 z1) (lin_one g6 z1)⟩
end Go.Proofs.Ytgbffbikieikdaa
