/- Sums of squares, rounded: how far from the exact ones, and that they are not told as greater. The squares of what is left: the law's own sum. back.Region of the first cell; fit.look. fit.look of a right field and right projections. -/
import Derived.Test.YtfnbcpeipoobkaaGreatM19
import Derived.Test.YtfnbcpeipoobkaaGreatM29
namespace Go.Proofs.YtfnbcpeipoobkaaGreat.Fl
open Ieee

theorem pow_pos' (n : Nat) : (0 : Int) < 2 ^ n := by
  have : (0 : Int) < ((2 ^ n : Nat) : Int) := Int.ofNat_lt.2 (Nat.two_pow_pos n)
  simpa using this
theorem abs_le_of {a b : Int} {k : Nat} (h : (a - b).natAbs * k ≤ b.natAbs) (hb : 0 ≤ b) : a * k ≤ b * k + b ∧ b * k - b ≤ a * k := by
  have h1 : ((a - b).natAbs : Int) * (k : Int) ≤ b := by
    have := Int.ofNat_le.2 h
    rw [Int.natCast_mul] at this
    omega
  have h2 : a - b ≤ ((a - b).natAbs : Int) := by omega
  have h3 : -((a - b).natAbs : Int) ≤ a - b := by omega
  have h4 := Int.mul_le_mul_of_nonneg_right h2 (show (0 : Int) ≤ (k : Int) by omega)
  have h5 := Int.mul_le_mul_of_nonneg_right h3 (show (0 : Int) ≤ (k : Int) by omega)
  rw [Int.sub_mul] at h4 h5
  rw [Int.neg_mul] at h5
  omega
/-- One square: T is 2 to the (1074 - 2 s). -/
theorem sq_one {s b q e : Nat} {k : Int} (hq : q = 1074) (h : DV s b k) (he : e + 2 * s = 1074) (hs : s ≤ 100) (hk : k.natAbs < 2 ^ 50) : ∃ r v, double.mul b b = some r ∧ FV r v ∧ v * 9007199254740992 ≤ (k * k * 2 ^ e) * 9007199254740992 + k * k * 2 ^ e ∧ (k * k * 2 ^ e) * 9007199254740992 - k * k * 2 ^ e ≤ v * 9007199254740992 := by
  obtain ⟨p, hp, h⟩ := h
  have hx : k * 2 ^ p * (k * 2 ^ p) = k * k * 2 ^ e * 2 ^ q := by
    rw [Int.mul_assoc (k * k), ← Int.pow_add, show e + q = p + p by omega, Int.pow_add]
    grind
  have hkk : 0 ≤ k * k := by
    rcases Int.le_total 0 k with h0 | h0
    · exact Int.mul_nonneg h0 h0
    · exact Int.mul_nonneg_of_nonpos_of_nonpos h0 h0
  have hn : (k * 2 ^ p * (k * 2 ^ p)).natAbs = k.natAbs * k.natAbs * 2 ^ (e + q) := by
    rw [hx, Int.mul_assoc, ← Int.pow_add, natAbs_scale, Int.natAbs_mul]
  have hlow : k * 2 ^ p * (k * 2 ^ p) = 0 ∨ 2 ^ (53 + q) ≤ (k * 2 ^ p * (k * 2 ^ p)).natAbs := by
    by_cases h0 : k = 0
    · left; rw [h0]; simp
    · right
      rw [hn]
      have h1 : 1 ≤ k.natAbs * k.natAbs := Nat.mul_le_mul (show 1 ≤ k.natAbs by omega) (show 1 ≤ k.natAbs by omega)
      have h2 : 2 ^ (53 + q) ≤ 2 ^ (e + q) := Nat.pow_le_pow_right (by decide) (by omega)
      exact Nat.le_trans h2 (Nat.le_mul_of_pos_left _ h1)
  have hz : (k * 2 ^ p * (k * 2 ^ p)).natAbs < 2 ^ (1200 + q) := by
    rw [hn]
    have h1 : k.natAbs * k.natAbs < 2 ^ 100 := by
      have := Nat.mul_lt_mul'' hk hk
      exact this
    have h2 : 2 ^ 100 * 2 ^ (e + q) ≤ 2 ^ (1200 + q) := by
      rw [← Nat.pow_add]
      exact Nat.pow_le_pow_right (by decide) (by omega)
    exact Nat.lt_of_lt_of_le (Nat.mul_lt_mul_of_pos_right h1 (Nat.two_pow_pos _)) h2
  obtain ⟨r, v, h1, h2, h3⟩ := rel_mul q hq h h hlow (U := 1200) (by omega) hz
  refine ⟨r, v, h1, h2, ?_⟩
  rw [hx, ← Int.sub_mul, natAbs_scale, natAbs_scale] at h3
  have h4 : (v - k * k * 2 ^ e).natAbs * 9007199254740992 ≤ (k * k * 2 ^ e).natAbs := by
    have : (v - k * k * 2 ^ e).natAbs * 9007199254740992 * 2 ^ q ≤ (k * k * 2 ^ e).natAbs * 2 ^ q := by
      rw [Nat.mul_right_comm]
      exact h3
    exact Nat.le_of_mul_le_mul_right this (Nat.two_pow_pos q)
  exact abs_le_of h4 (Int.mul_nonneg hkk (Int.le_of_lt (pow_pos' e)))
/-- What a sum of squares that is rounded says of the exact one, behind m of them. -/
structure SqAt (c m : Nat) (S : Int) : Prop where
  ex : ∃ C : Int, FV c C ∧ 0 ≤ C ∧ C * 4503599627370496 ≤ S * 4503599627370496 + (m + 3) * S ∧ S * 4503599627370496 - (m + 3) * S ≤ C * 4503599627370496
  pos : 0 ≤ S
theorem sqAt_zero : SqAt 0 0 0 := ⟨⟨0, ⟨false, 0, 0, rfl, rfl⟩, Int.le_refl _, by simp, by simp⟩, Int.le_refl _⟩
theorem step_lin {C S t τ A B C' m : Int} (hm0 : 0 ≤ m * S) (hm1 : 0 ≤ m * τ) (hm2 : m * S ≤ 1048576 * S)
    (h1 : C * 4503599627370496 ≤ S * 4503599627370496 + (m * S + 3 * S)) (h2 : S * 4503599627370496 - (m * S + 3 * S) ≤ C * 4503599627370496)
    (a1 : (A + B) * 9007199254740992 ≤ τ * 9007199254740992 + τ) (a2 : τ * 9007199254740992 - τ ≤ (A + B) * 9007199254740992)
    (t1 : t * 9007199254740992 ≤ (A + B) * 9007199254740992 + (A + B)) (t2 : (A + B) * 9007199254740992 - (A + B) ≤ t * 9007199254740992)
    (c1 : C' * 9007199254740992 ≤ (C + t) * 9007199254740992 + (C + t)) (c2 : (C + t) * 9007199254740992 - (C + t) ≤ C' * 9007199254740992) :
    C' * 4503599627370496 ≤ (S + τ) * 4503599627370496 + (m * S + m * τ + 4 * S + 4 * τ) ∧ (S + τ) * 4503599627370496 - (m * S + m * τ + 4 * S + 4 * τ) ≤ C' * 4503599627370496 := by
  generalize m * S = X at *
  generalize m * τ = Y at *
  omega
/-- One more. -/
theorem sqAt_step {c m s b1 b2 e U : Nat} {S k1 k2 : Int} (h : SqAt c m S) (hm : m ≤ 1000000) (d1 : DV s b1 k1) (d2 : DV s b2 k2) (he : e + 2 * s = 1074) (hs : s ≤ 100) (hk1 : k1.natAbs < 2 ^ 50) (hk2 : k2.natAbs < 2 ^ 50) (hU : U ≤ 2000) (hB : 8 * (S + (k1 * k1 + k2 * k2) * 2 ^ e) < ((2 ^ U : Nat) : Int)) :
    ∃ a b t r, double.mul b1 b1 = some a ∧ double.mul b2 b2 = some b ∧ double.add a b = some t ∧ double.add c t = some r ∧ SqAt r (m + 1) (S + (k1 * k1 + k2 * k2) * 2 ^ e) := by
  obtain ⟨⟨C, hc, hC0, g1, g2⟩, hS⟩ := h
  obtain ⟨a, A, ha1, ha2, ha3, ha4⟩ := sq_one rfl d1 he hs hk1
  obtain ⟨b, B, hb1, hb2, hb3, hb4⟩ := sq_one rfl d2 he hs hk2
  have hp := pow_pos' e
  have s1 : 0 ≤ k1 * k1 * 2 ^ e := Int.mul_nonneg (by rcases Int.le_total 0 k1 with h0 | h0; exact Int.mul_nonneg h0 h0; exact Int.mul_nonneg_of_nonpos_of_nonpos h0 h0) (Int.le_of_lt hp)
  have s2 : 0 ≤ k2 * k2 * 2 ^ e := Int.mul_nonneg (by rcases Int.le_total 0 k2 with h0 | h0; exact Int.mul_nonneg h0 h0; exact Int.mul_nonneg_of_nonpos_of_nonpos h0 h0) (Int.le_of_lt hp)
  rw [Int.add_mul] at hB ⊢
  generalize k1 * k1 * 2 ^ e = X1 at *
  generalize k2 * k2 * 2 ^ e = X2 at *
  clear hp
  generalize hBU : ((2 ^ U : Nat) : Int) = BU at hB
  have hmS : (m : Int) * S ≤ 1048576 * S := Int.mul_le_mul_of_nonneg_right (by omega) hS
  have hm0 : 0 ≤ (m : Int) * S := Int.mul_nonneg (by omega) hS
  have hm1 : 0 ≤ (m : Int) * (X1 + X2) := Int.mul_nonneg (by omega) (by omega)
  have e1 : ((m : Int) + 3) * S = m * S + 3 * S := Int.add_mul ..
  rw [e1] at g1 g2
  have hA : 0 ≤ A := by omega
  have hB0 : 0 ≤ B := by omega
  have hAB : A + B ≤ 2 * (X1 + X2) := by omega
  obtain ⟨t, v, ht1, ht2, ht3⟩ := rel_add ha2 hb2 hA hB0 hU (by rw [hBU]; omega)
  obtain ⟨t1, t2⟩ := abs_le_of ht3 (by omega)
  have hv : 0 ≤ v := by omega
  have hv2 : v ≤ 2 * (A + B) := by omega
  have hC2 : C ≤ 2 * S := by
    generalize (m : Int) * S = Z at *
    omega
  obtain ⟨r, C', hr1, hr2, hr3⟩ := rel_add hc ht2 hC0 hv hU (by rw [hBU]; omega)
  obtain ⟨c1, c2⟩ := abs_le_of hr3 (by omega)
  refine ⟨a, b, t, r, ha1, hb1, ht1, hr1, ⟨⟨C', hr2, by omega, ?_⟩, by omega⟩⟩
  have key := step_lin (C := C) (S := S) (t := v) (τ := X1 + X2) (A := A) (B := B) (C' := C') (m := m) hm0 hm1 hmS g1 g2 (by omega) (by omega) t1 t2 c1 c2
  have e2 : (((m + 1 : Nat) : Int) + 3) * (S + (X1 + X2)) = m * S + m * (X1 + X2) + 4 * S + 4 * (X1 + X2) := by
    push_cast
    grind
  rw [e2]
  exact key
theorem fin_lin {Cn Cl Sn Sl L R : Int} (hSn : 0 ≤ Sn) (hle : Sn ≤ Sl)
    (n1 : Cn * 4503599627370496 ≤ Sn * 4503599627370496 + 4096 * Sn) (l2 : Sl * 4503599627370496 - 4096 * Sl ≤ Cl * 4503599627370496)
    (m2 : Cl * 9007199254740992 - Cl ≤ L * 1073741824 * 9007199254740992) (r2 : (Cl + L) * 9007199254740992 - (Cl + L) ≤ R * 9007199254740992) : Cn ≤ R := by omega
/-- 2 to the -30. -/
theorem fv_m30 (q : Nat) (hq : q = 1044) : FV 4472074429978902528 (2 ^ q) := by
  subst hq
  exact ⟨false, 4503599627370496, 992, by decide +kernel, by decide +kernel⟩
/-- ████ The later sum is not told as greater than the earlier one and a bit. ████ -/
theorem not_greater {n l mn ml e U : Nat} {Sn Sl : Int} (hn : SqAt n mn (Sn * 2 ^ e)) (hl : SqAt l ml (Sl * 2 ^ e)) (hmn : mn ≤ 4000) (hml : ml ≤ 4000) (hle : Sn ≤ Sl) (he : 100 ≤ e) (he2 : e ≤ 1074) (hU : U ≤ 1900) (hB : 8 * (Sl * 2 ^ e) < ((2 ^ U : Nat) : Int)) :
    ∃ x r, double.mul l 4472074429978902528 = some x ∧ double.add l x = some r ∧ (double.order n r == some .gt) = false := by
  obtain ⟨⟨Cn, hcn, hCn0, n1, n2⟩, pn⟩ := hn
  obtain ⟨⟨Cl, hcl, hCl0, l1, l2⟩, pl⟩ := hl
  have hp := pow_pos' e
  have hle2 : Sn * 2 ^ e ≤ Sl * 2 ^ e := Int.mul_le_mul_of_nonneg_right hle (Int.le_of_lt hp)
  have b1 : ((mn : Int) + 3) * (Sn * 2 ^ e) ≤ 4096 * (Sn * 2 ^ e) := Int.mul_le_mul_of_nonneg_right (by omega) pn
  have b2 : ((ml : Int) + 3) * (Sl * 2 ^ e) ≤ 4096 * (Sl * 2 ^ e) := Int.mul_le_mul_of_nonneg_right (by omega) pl
  have hlow0 : Cl = 0 ∨ (2 : Int) ^ (e - 1) ≤ Cl := by
    by_cases h0 : Sl ≤ 0
    · left
      have hz : Sl * 2 ^ e ≤ 0 := Int.mul_nonpos_of_nonpos_of_nonneg h0 (Int.le_of_lt hp)
      generalize Sl * 2 ^ e = X at *
      generalize ((ml : Int) + 3) * X = Y at *
      omega
    · right
      have h1 : (1 : Int) * 2 ^ e ≤ Sl * 2 ^ e := Int.mul_le_mul_of_nonneg_right (by omega) (Int.le_of_lt hp)
      have h2 : (2 : Int) ^ e = 2 * 2 ^ (e - 1) := by
        rw [show e = e - 1 + 1 by omega, Int.pow_succ, Int.mul_comm]
        simp
      rw [h2] at h1
      have hp1 := pow_pos' (e - 1)
      generalize (2 : Int) ^ (e - 1) = Y at *
      rw [← h2] at h1
      generalize Sl * 2 ^ e = X at *
      generalize ((ml : Int) + 3) * X = Z at *
      omega
  obtain ⟨q, hq⟩ : ∃ q : Nat, q = 1044 := ⟨_, rfl⟩
  obtain ⟨q1, hq1⟩ : ∃ q1 : Nat, q1 = 1074 := ⟨_, rfl⟩
  generalize hX : Sn * 2 ^ e = Xn at *
  generalize hY : Sl * 2 ^ e = Xl at *
  generalize ((mn : Int) + 3) * Xn = Zn at *
  generalize ((ml : Int) + 3) * Xl = Zl at *
  generalize hBU : ((2 ^ U : Nat) : Int) = BU at *
  have hCl2 : Cl ≤ 2 * Xl := by omega
  have eabs : (Cl * 2 ^ q).natAbs = Cl.natAbs * 2 ^ q := natAbs_scale _ _
  obtain ⟨x, L, hx1, hx2, hx3⟩ := rel_mul q1 hq1 hcl (fv_m30 q hq) (by
    rcases hlow0 with h0 | h0
    · left; rw [h0]; simp
    · right
      rw [eabs]
      have h1 : 2 ^ (e - 1) ≤ Cl.natAbs := by
        have h3 : (((2 : Nat) ^ (e - 1) : Nat) : Int) ≤ Cl := by simpa using h0
        omega
      have h2 : 2 ^ (53 + q1) ≤ 2 ^ (e - 1) * 2 ^ q := by
        rw [← Nat.pow_add]
        exact Nat.pow_le_pow_right (by decide) (by omega)
      exact Nat.le_trans h2 (Nat.mul_le_mul_right _ h1)) (U := U) (by omega) (by
    rw [eabs]
    have h1 : Cl.natAbs < 2 ^ U := by
      have : (Cl.natAbs : Int) < ((2 ^ U : Nat) : Int) := by rw [hBU]; omega
      exact Int.ofNat_lt.1 this
    have h2 : 2 ^ U * 2 ^ q ≤ 2 ^ (U + q1) := by
      rw [← Nat.pow_add]
      exact Nat.pow_le_pow_right (by decide) (by omega)
    exact Nat.lt_of_lt_of_le (Nat.mul_lt_mul_of_pos_right h1 (Nat.two_pow_pos _)) h2)
  have hx4 : (L * 1073741824 - Cl).natAbs * 9007199254740992 ≤ Cl.natAbs := by
    have e1 : L * 2 ^ q1 - Cl * 2 ^ q = (L * 1073741824 - Cl) * 2 ^ q := by
      rw [show q1 = 30 + q by omega, Int.pow_add, Int.sub_mul, ← Int.mul_assoc]
      rfl
    rw [e1, eabs, natAbs_scale, Nat.mul_right_comm] at hx3
    exact Nat.le_of_mul_le_mul_right hx3 (Nat.two_pow_pos q)
  obtain ⟨m1, m2⟩ := abs_le_of hx4 hCl0
  have hL : 0 ≤ L := by omega
  have hL2 : L ≤ Cl := by omega
  obtain ⟨r, R, hr1, hr2, hr3⟩ := rel_add hcl hx2 hCl0 hL (U := U) (by omega) (by rw [hBU]; omega)
  obtain ⟨r1, r2⟩ := abs_le_of hr3 (by omega)
  refine ⟨x, r, hx1, hr1, ?_⟩
  have hfin : Cn ≤ R := fin_lin (Sn := Xn) (Sl := Xl) (Cl := Cl) (L := L) pn hle2 (by omega) (by omega) (by omega) (by omega)
  rw [fv_order hcn hr2, beq_eq_false_iff_ne]
  intro hc
  have := Int.compare_eq_gt.1 (Option.some.inj hc)
  omega
end Go.Proofs.YtfnbcpeipoobkaaGreat.Fl

namespace Go.Proofs.YtfnbcpeipoobkaaGreat
open Go.RowKit Go.Shelf Fl Ieee
attribute [local go_sem] store_complex

def sqZ (z : Int × Int) : Int := z.1 * z.1 + z.2 * z.2
def sqRow (v : Nat → Int × Int) : Nat → Int
  | 0 => 0
  | j + 1 => sqRow v j + sqZ (v j)
def sqAll (nb : Nat → Nat) (zr : Nat → Nat → Int × Int) : Nat → Int
  | 0 => 0
  | k + 1 => sqAll nb zr k + sqRow (zr k) (nb k)
def cntB (nb : Nat → Nat) : Nat → Nat
  | 0 => 0
  | k + 1 => cntB nb k + nb k
theorem cntB_mono {nb : Nat → Nat} {i k : Nat} (h : i ≤ k) : cntB nb i ≤ cntB nb k := by
  induction k with
  | zero => rw [Nat.le_zero.1 h]; exact Nat.le_refl _
  | succ k ih =>
    by_cases e : i = k + 1
    · rw [e]; exact Nat.le_refl _
    · have := ih (by omega)
      show _ ≤ cntB nb k + nb k
      omega
theorem sq_le {x : Int} (h : x.natAbs ≤ 1125899906842623) : x * x ≤ 1267650600228229401496703205376 := by
  have h1 : x.natAbs * x.natAbs ≤ 1125899906842623 * 1125899906842623 := Nat.mul_le_mul h h
  have h2 : ((x.natAbs * x.natAbs : Nat) : Int) = x * x := Int.natAbs_mul_self
  omega
theorem sqZ_le {z : Int × Int} (h : Sm 1125899906842623 z) : sqZ z ≤ 2535301200456458802993406410752 := by
  have h1 := sq_le h.1
  have h2 := sq_le h.2
  unfold sqZ
  omega
theorem sqRow_le {v : Nat → Int × Int} : ∀ {n : Nat}, (∀ j, j < n → Sm 1125899906842623 (v j)) → sqRow v n ≤ n * 2535301200456458802993406410752
  | 0, _ => by simp [sqRow]
  | n + 1, h => by
    have h1 := sqRow_le (v := v) (n := n) fun j hj => h j (by omega)
    have h2 := sqZ_le (h n (by omega))
    show sqRow v n + sqZ (v n) ≤ _
    omega
theorem sqAll_le {nb : Nat → Nat} {zr : Nat → Nat → Int × Int} : ∀ {k : Nat}, (∀ i, i < k → ∀ j, j < nb i → Sm 1125899906842623 (zr i j)) → sqAll nb zr k ≤ cntB nb k * 2535301200456458802993406410752
  | 0, _ => by simp [sqAll, cntB]
  | k + 1, h => by
    have h1 := sqAll_le (nb := nb) (zr := zr) (k := k) fun i hi => h i (by omega)
    have h2 := sqRow_le (v := zr k) (n := nb k) (h k (by omega))
    show sqAll nb zr k + sqRow (zr k) (nb k) ≤ ((cntB nb k + nb k : Nat) : Int) * _
    omega
theorem room {S : Int} {e U : Nat} (he : e ≤ 1074) (hU : 1200 ≤ U) (h : S ≤ 4001 * 2535301200456458802993406410752) : 8 * (S * 2 ^ e) < ((2 ^ U : Nat) : Int) := by
  have h1 : 4001 * 2535301200456458802993406410752 * 8 ≤ (2 : Int) ^ 120 := by decide +kernel
  have hp : (0 : Int) < 2 ^ e := pow_pos' e
  have h2 : S * 2 ^ e ≤ 4001 * 2535301200456458802993406410752 * 2 ^ e := Int.mul_le_mul_of_nonneg_right h (Int.le_of_lt hp)
  have h3 : 4001 * 2535301200456458802993406410752 * 8 * (2 : Int) ^ e ≤ 2 ^ 120 * 2 ^ e := Int.mul_le_mul_of_nonneg_right h1 (Int.le_of_lt hp)
  have h4 : (2 : Int) ^ 120 * 2 ^ e < ((2 ^ U : Nat) : Int) := by
    rw [← Int.pow_add]
    have : ((2 ^ (120 + e) : Nat) : Int) < ((2 ^ U : Nat) : Int) := Int.ofNat_lt.2 (Nat.pow_lt_pow_right (by decide) (by omega))
    simpa using this
  generalize (2 : Int) ^ e = E at *
  generalize ((2 ^ U : Nat) : Int) = V at *
  generalize (2 : Int) ^ 120 * E = W at *
  generalize S * E = SE at *
  omega
set_option maxRecDepth 100000 in
set_option maxHeartbeats 3200000 in
theorem squaresOk {s e gq cq N : Nat} {ps : List PJ} {zr : Nat → Nat → Int × Int} (hs : s ≤ 100) (he : e + 2 * s = 1074) (hN : ps.length = N) (hps : N ≤ 64) (hnb : ∀ i, i < N → (ps.getD i pj0).nb ≤ (ps.getD i pj0).cb ∧ (ps.getD i pj0).cb ≤ 4096) (hm : cntB (fun i => (ps.getD i pj0).nb) N ≤ 4000) (hZ : ∀ i, i < N → ∀ j, j < (ps.getD i pj0).nb → DC s ((ps.getD i pj0).b j) (zr i j) ∧ Sm 1125899906842623 (zr i j)) (w : World) (hA : PJAt w gq ps) :
    Calls (barP Tryz.prog) 8 #[.slice (some ⟨gq, 0, none⟩) N cq] w fun e' w' => (∃ r, e' = .returned (.float .f64 r) ∧ SqAt r (cntB (fun i => (ps.getD i pj0).nb) N) (sqAll (fun i => (ps.getD i pj0).nb) zr N * 2 ^ e)) ∧ Below w.heap.size w w' := by
  have HA := hide hA
  have HZ := hide hZ
  have HN := hide hnb
  have hNh := hide hN
  have hM := hide hm
  clear hA hZ hnb hN hm
  go_enter Bar.func8, Bar.ntmps8
  go_wp2_with fail
  go_loopw [3, 4] (fun mv kv wr => ∃ (k m : Nat), k ≤ N ∧ kv = .int .i64 k ∧ mv = .float .f64 m ∧ Hid (SqAt m (cntB (fun i => (ps.getD i pj0).nb) k) (sqAll (fun i => (ps.getD i pj0).nb) zr k * 2 ^ e)) ∧ Hid (Below w.heap.size w wr)) (fun _ kv _ => N - (intOf kv).toNat)
  case atStart => exact ⟨0, 0, Nat.zero_le _, rfl, rfl, by rw [show sqAll (fun i => (ps.getD i pj0).nb) zr 0 * 2 ^ e = 0 by simp [sqAll]]; exact sqAt_zero, Below.refl _ _⟩
  case round =>
    obtain ⟨k, m, hk, rfl, rfl, hS, hB⟩ := hrel
    by_cases c : k < N
    · have q3 : ((k : Int) < (N : Int)) = True := by simp; omega
      have hkl : k < ps.length := by rw [unhide hNh]; exact c
      have hbz := hide (unhide HZ k c)
      have hb4 := unhide HN k c
      have hsa : Hid (sqAll (fun i => (ps.getD i pj0).nb) zr (k + 1) = sqAll (fun i => (ps.getD i pj0).nb) zr k + sqRow (zr k) (ps.getD k pj0).nb) := rfl
      have hsl := hide (sqAll_le (nb := fun i => (ps.getD i pj0).nb) (zr := zr) (k := k) fun i hi j hj => (unhide HZ i (by omega) j hj).2)
      have hca : cntB (fun i => (ps.getD i pj0).nb) (k + 1) = cntB (fun i => (ps.getD i pj0).nb) k + (ps.getD k pj0).nb := rfl
      have hcl := cntB_mono (nb := fun i => (ps.getD i pj0).nb) (show k + 1 ≤ N from c)
      have hcl : cntB (fun i => (ps.getD i pj0).nb) k + (ps.getD k pj0).nb ≤ 4000 := by rw [← hca]; exact Nat.le_trans hcl (unhide hM)
      have hca := hide hca
      have m1 : k * 3 < N * 3 := by omega
      have kC := hide (fun (W : World) (hb : Below w.heap.size w W) => ((unhide HA).below hb).cells k hkl)
      have kR := hide (fun (W : World) (hb : Below w.heap.size w W) => ((unhide HA).below hb).bins k hkl)
      generalize hA0 : sqAll (fun i => (ps.getD i pj0).nb) zr k = A0 at *
      generalize hC0 : cntB (fun i => (ps.getD i pj0).nb) k = C0 at *
      generalize hpk : ps.getD k pj0 = p at hbz hb4 hcl kC kR hsa hca
      clear hA0 hC0
      have hpkh := hide hpk
      clear hpk
      obtain ⟨⟨d1, d2⟩, gb, cb, nb, b⟩ := p
      dsimp only at *
      obtain ⟨wo, rfl⟩ : ∃ wo : World, wo = wr := ⟨_, rfl⟩
      go_wp2_with fail
      go_loopw [3, 5] (fun mv jv ws => ∃ (j mj : Nat), j ≤ nb ∧ jv = .int .i64 j ∧ mv = .float .f64 mj ∧ Hid (SqAt mj (C0 + j) ((A0 + sqRow (zr k) j) * 2 ^ e)) ∧ Hid (Below w.heap.size w ws)) (fun _ jv _ => nb - (intOf jv).toNat)
      case atStart => exact ⟨0, m, Nat.zero_le _, rfl, rfl, by show SqAt m C0 ((A0 + 0) * 2 ^ e); rw [Int.add_zero]; exact hS, hB⟩
      case round =>
        clear hS hB
        obtain ⟨j, mj, hj, rfl, rfl, hS, hB⟩ := hrel
        obtain ⟨c1, c2, c3⟩ := unhide kC wr (unhide hB)
        by_cases cj : j < nb
        · have q4 : ((j : Int) < (nb : Int)) = True := by simp; omega
          have c4 := row_at (unhide kR wr (unhide hB)) cj
          obtain ⟨hd, hsm⟩ := unhide hbz j cj
          have hrl := sqRow_le (v := zr k) (n := j) fun i hi => (unhide hbz i (by omega)).2
          have hzl := sqZ_le hsm
          have hns : (A0 + sqRow (zr k) j) * 2 ^ e + ((zr k j).1 * (zr k j).1 + (zr k j).2 * (zr k j).2) * 2 ^ e = (A0 + sqRow (zr k) (j + 1)) * 2 ^ e := by
            rw [← Int.add_mul, Int.add_assoc]; rfl
          obtain ⟨U, hU⟩ : ∃ U : Nat, U = 1300 := ⟨_, rfl⟩
          obtain ⟨x1, x2, x3, x4, f1, f2, f3, f4, hS'⟩ := sqAt_step (U := U) (unhide hS) (by omega) hd.one hd.two he hs (by have := hsm.1; omega) (by have := hsm.2; omega) (by omega) (by
            rw [hns]
            refine room (by omega) (by omega) ?_
            show A0 + (sqRow (zr k) j + sqZ (zr k j)) ≤ _
            have := unhide hsl
            have hj2 : (C0 : Int) + j + 1 ≤ 4000 := by omega
            generalize sqRow (zr k) j = R0 at *
            generalize sqZ (zr k j) = Z0 at *
            omega)
          rw [hns] at hS'
          have hS' := hide hS'
          have f1 := fun (w : World) t => run_float_arith (P := (barP Tryz.prog)) w .mul t .f64 _ _ _ f1
          have f2 := fun (w : World) t => run_float_arith (P := (barP Tryz.prog)) w .mul t .f64 _ _ _ f2
          have f3 := fun (w : World) t => run_float_arith (P := (barP Tryz.prog)) w .add t .f64 _ _ _ f3
          have f4 := fun (w : World) t => run_float_arith (P := (barP Tryz.prog)) w .add t .f64 _ _ _ f4
          have hBd : Hid (∀ q, Below w.heap.size w (wr.drewN q)) := fun q => ⟨(unhide hB).os, (unhide hB).tape, (unhide hB).output, (unhide hB).size, (unhide hB).block⟩
          clear hd hsm hns hrl hzl hS hB
          generalize b j = v at *
          obtain ⟨v1, v2⟩ := v
          unfold cv at c4
          dsimp only at *
          go_wp2_with fail
          go_quiet (fail)
          go_wp2_with fail
          exact ⟨⟨j + 1, x4, cj, by go_num, rfl, hS', unhide hBd _⟩, by simp [intOf]; omega⟩
        · have q4 : ((j : Int) < (nb : Int)) = False := by simp; omega
          obtain rfl : j = nb := by omega
          go_wp2_with fail
          refine ⟨⟨k + 1, mj, c, by go_num, rfl, ?_, hB⟩, by simp [intOf]; omega⟩
          rw [unhide hsa, unhide hca]
          exact hS
    · have q3 : ((k : Int) < (N : Int)) = False := by simp; omega
      obtain rfl : k = N := by omega
      go_wp2_with fail
      go_ret
      exact ⟨⟨m, rfl, unhide hS⟩, unhide hB⟩
end Go.Proofs.YtfnbcpeipoobkaaGreat

namespace Go.Proofs.YtfnbcpeipoobkaaGreat
open Go.RowKit Go.Shelf Fl Ieee
attribute [local go_sem] store_complex

set_option maxRecDepth 100000 in
theorem cellYes {n : Nat} (h1 : 1 ≤ n) (w : World) : Calls (barP Tryz.prog) 61 #[.int .i64 n, .agg #[.int .i64 0, .int .i64 0]] w fun e w' => e = .returned (.bool true) ∧ Below w.heap.size w w' := by
  have q1 : ((0 : Int) < (n : Int)) = True := by simp; omega
  have q2 : (0 < n) = True := by simp; omega
  have hb := (Below.refl w.heap.size w).alloc (Nat.le_refl _) (.cells #[.int .i64 0, .int .i64 0] 79)
  go_enter Bar.func61, Bar.ntmps61
  go_wp2_with fail
  go_ret
  exact ⟨rfl, hb⟩
/-- What is kept on the way: two cells in boxes, the projections. -/
structure RgF (w W : World) (gq : Nat) (ps : List PJ) : Prop where
  below : Below w.heap.size w W
  projs : PJAt W gq ps
  x0 : W.heap[w.heap.size]? = some (.cells #[.int .i64 0, .int .i64 0] 79 (0, 0))
  x1 : W.heap[w.heap.size + 1]? = some (.cells #[.int .i64 0, .int .i64 0] 79 (0, 0))
theorem RgF.on {w W W' : World} {gq : Nat} {ps : List PJ} (h : RgF w W gq ps) (hb : Below W.heap.size W W') : RgF w W' gq ps :=
  ⟨h.below.trans (hb.mono h.below.size), h.projs.below hb, (hb.block _ (Array.getElem?_eq_some_iff.1 h.x0).1).trans h.x0, (hb.block _ (Array.getElem?_eq_some_iff.1 h.x1).1).trans h.x1⟩
theorem RgF.cells {w W : World} {gq : Nat} {ps : List PJ} (h : RgF w W gq ps) : W.cell? ⟨w.heap.size, 0, none⟩ = some (.int .i64 0) ∧ W.cell? ⟨w.heap.size, 1, none⟩ = some (.int .i64 0) ∧ W.cell? ⟨w.heap.size + 1, 0, none⟩ = some (.int .i64 0) ∧ W.cell? ⟨w.heap.size + 1, 1, none⟩ = some (.int .i64 0) :=
  ⟨block_cell h.x0 0, block_cell h.x0 1, block_cell h.x1 0, block_cell h.x1 1⟩
set_option maxRecDepth 100000 in
set_option maxHeartbeats 1600000 in
theorem regionOne {s n gq cq B : Nat} {ps : List PJ} {zb : Nat → Nat → Int × Int} (h1 : 1 ≤ n) (h2 : n ≤ 64) (hs : s ≤ 1074) (hps : ps.length ≤ 64) (hZ : BinsZ s n ps zb B) (hB : 64 * B < 2 ^ 53) (w : World) (hA : PJAt w gq ps) :
    Calls (barP Tryz.prog) 27 #[.int .i64 n, .slice (some ⟨gq, 0, none⟩) ps.length cq, .agg #[.int .i64 0, .int .i64 0], .agg #[.int .i64 0, .int .i64 0]] w fun e w' => (∃ v, e = .returned (.tuple #[v, .int .i64 0])) ∧ Below w.heap.size w w' := by
  have kL := hide (fun (W : World) hA' => blookOk (gq := gq) (cq := cq) h1 h2 hps (fun i hi => (hZ i hi).1) W hA')
  have kS := hide (fun (W : World) hA' => stripsOk (gq := gq) (cq := cq) h1 hps (fun i hi => (hZ i hi).1) W hA')
  have kD := hide (fun (W : World) gs hS => laidOk (gs := gs) (cs := ps.length) (r := 1) h1 h2 (Nat.le_refl 1) h1 hs hps hZ hB W hS)
  have kC := hide (fun W => cellYes h1 W)
  have HA := hide hA
  unfold tileV at kD
  rw [show ((1 : Nat) : Int) - 1 = 0 from rfl] at kD
  clear hA hZ
  generalize hN : ps.length = N at *
  have y0 := ((Below.refl w.heap.size w).alloc (Nat.le_refl _) (.cells #[.int .i64 0, .int .i64 0] 79)).alloc (by rw [World.size_alloc]; omega) (.cells #[.int .i64 0, .int .i64 0] 79)
  have x0 : ((w.alloc (.cells #[.int .i64 0, .int .i64 0] 79)).alloc (.cells #[.int .i64 0, .int .i64 0] 79)).heap[w.heap.size]? = _ := (Below.heap_alloc _ _ _ (by simp)).trans (World.alloc_heap_new w (.cells #[.int .i64 0, .int .i64 0] 79))
  have x1 := World.alloc_heap_new (w.alloc (.cells #[.int .i64 0, .int .i64 0] 79)) (.cells #[.int .i64 0, .int .i64 0] 79)
  rw [World.size_alloc] at x1
  have z0 : ((w.alloc (.cells #[.int .i64 0, .int .i64 0] 79)).alloc (.cells #[.int .i64 0, .int .i64 0] 79)).heap.size = w.heap.size + 2 := by simp
  have A0 := hide ((unhide HA).below y0)
  have Y0 := hide y0
  have X0 := hide x0
  have X1 := hide x1
  clear y0 x0 x1 HA
  go_enter Bar.func27, Bar.ntmps27
  go_wp2_with fail
  generalize (w.alloc (.cells #[.int .i64 0, .int .i64 0] 79)).alloc (.cells #[.int .i64 0, .int .i64 0] 79) = w0 at *
  refine (unhide kL w0 (unhide A0)).mono ?_
  rintro e w1 ⟨rfl, hb1⟩
  have G0 : RgF w w0 gq ps := ⟨unhide Y0, unhide A0, unhide X0, unhide X1⟩
  have G1 := hide (G0.on hb1)
  obtain ⟨k0, k1, k2, k3⟩ := (unhide G1).cells
  clear hb1 A0 Y0 X0 X1 kL G0
  go_wp2_with fail
  refine (unhide kC w1).mono ?_
  rintro e w2 ⟨rfl, hb2⟩
  have G2 := hide ((unhide G1).on hb2)
  clear k0 k1 k2 k3 G1 hb2
  obtain ⟨k0, k1, k2, k3⟩ := (unhide G2).cells
  go_wp2_with fail
  refine (unhide kC w2).mono ?_
  rintro e w3 ⟨rfl, hb3⟩
  have G3 := hide ((unhide G2).on hb3)
  clear k0 k1 k2 k3 G2 hb3
  obtain ⟨k0, k1, k2, k3⟩ := (unhide G3).cells
  go_wp2_with fail
  have G4 := hide ((unhide G3).on (W' := w3.drew) ⟨rfl, rfl, rfl, Nat.le_refl _, fun _ _ => rfl⟩)
  clear k0 k1 k2 k3 G3
  obtain ⟨k0, k1, k2, k3⟩ := (unhide G4).cells
  go_region_with (first
    | (go_at_call 63; refine (unhide kS _ (unhide G4).projs).mono ?_; rintro e w5 ⟨gs, rfl, hSt, hb5⟩
       have G5 := hide ((unhide G4).on hb5)
       have S5 := hide hSt
       clear hb5 hSt
       obtain ⟨j0, j1, j2, j3⟩ := (unhide G5).cells)
    | (go_at_call 62; refine (unhide kD _ _ (unhide S5)).mono ?_; rintro e w6 ⟨g, f, rfl, _, _, _, hb6⟩
       have G6 := hide ((unhide G5).on hb6)
       clear hb6))
  all_goals go_wp2_with fail
  all_goals (go_ret2; exact ⟨⟨_, rfl⟩, (unhide G6).below⟩)
end Go.Proofs.YtfnbcpeipoobkaaGreat

namespace Go.Proofs.YtfnbcpeipoobkaaGreat
open Go.RowKit Go.Shelf Fl Ieee
attribute [local go_sem] store_complex

set_option maxRecDepth 100000 in
set_option maxHeartbeats 1600000 in
theorem flookOk {s n gc cc gq cq B : Nat} {ps : List PJ} {zb : Nat → Nat → Int × Int} (h1 : 1 ≤ n) (h2 : n ≤ 64) (hs : s ≤ 1074) (hps : ps.length ≤ 64) (hZ : BinsZ s n ps zb B) (hB : 64 * B < 2 ^ 53) (w : World) (hA : PJAt w gq ps) :
    Calls (barP Tryz.prog) 12 #[gridV n gc cc, .slice (some ⟨gq, 0, none⟩) ps.length cq] w fun e w' => e = .returned (.int .i64 0) ∧ Below w.heap.size w w' := by
  have kR := hide (fun (W : World) hA' => regionOne (gq := gq) (cq := cq) h1 h2 hs hps hZ hB W hA')
  have hsq := square_le h2
  have eNN : (n : Int) * (n : Int) = ((n * n : Nat) : Int) := (Int.natCast_mul n n).symm
  have q1 : ((n : Int) < 1) = False := by simp; omega
  have q2 : ((64 : Int) < (n : Int)) = False := by simp; omega
  have y0 := (Below.refl w.heap.size w).alloc (Nat.le_refl _) (.cells #[.int .i64 n, .slice (some ⟨gc, 0, none⟩) (n * n : Nat) cc] 27)
  have A0 := hide (hA.below y0)
  have Y0 := hide y0
  clear hA y0 hZ
  unfold gridV at *
  generalize hNN : n * n = NN at *
  generalize ps.length = N at *
  go_enter Bar.func12, Bar.ntmps12
  go_wp2_with fail
  generalize w.alloc (.cells #[.int .i64 n, .slice (some ⟨gc, 0, none⟩) (NN : Nat) cc] 27) = w0 at *
  refine (unhide kR w0 (unhide A0)).mono ?_
  rintro e w1 ⟨⟨v, rfl⟩, hb1⟩
  have Y1 := hide ((unhide Y0).trans (hb1.mono (unhide Y0).size))
  clear hb1 kR A0 Y0
  go_wp2_with fail
  go_ret
  exact ⟨rfl, unhide Y1⟩
end Go.Proofs.YtfnbcpeipoobkaaGreat
