/- Fields: there and back; exchanged. -/
import Derived.Test.YtgbffbikieikdaaG1
import Derived.Test.YtgbffbikieikdaaLB
namespace Go.Proofs.Ytgbffbikieikdaa
open Fl

theorem sm_one (a : Int × Int) : sm 1 a = a := Prod.ext (Int.one_mul _) (Int.one_mul _)

theorem dsum_sm (K : Int) (l c : Nat) (Y : Nat → Int × Int) (m : Nat) : dsum l c (fun k => sm K (Y k)) m = sm K (dsum l c Y m) := by
  unfold dsum
  rw [csum_sm]
  refine csum_congr fun k _ => ?_
  refine Prod.ext ?_ ?_
  · simp only [gm, sm]; grind
  · simp only [gm, sm]; grind

theorem near_scaled {Z S : Int × Int} {l : Nat} (h1 : Near1 Z.1 S.1 l) (h2 : Near1 Z.2 S.2 l) : N2 (cs (sm ((2 ^ l : Nat) : Int) S) Z) (3 * 2 ^ l) := by
  unfold Near1 at h1 h2
  refine n2_parts ?_ ?_
  · show (((2 ^ l : Nat) : Int) * S.1 - Z.1).natAbs ≤ _
    rw [Int.mul_comm]
    generalize 2 ^ l = P at *
    omega
  · show (((2 ^ l : Nat) : Int) * S.2 - Z.2).natAbs ≤ _
    rw [Int.mul_comm]
    generalize 2 ^ l = P at *
    omega

/-- What the errors of the levels come to; Q: 2^l times 2^b. -/
structure Sizes (l b P R Q : Nat) : Prop where
  hP : P = 2 ^ l
  hR : R = 2 ^ b
  hQ : Q = P * R
  P1 : 1 ≤ P
  P2 : P ≤ 32
  QR : R ≤ Q
  QR2 : Q ≤ 32 * R
  QP : P * 1152921504606846976 ≤ Q
  e1 : errOf l b ≤ 655360 * Q
  e2 : errOf l (b + l + 1) ≤ 41943040 * Q
  e3 : errOf l (b + l + 1 + l + 1) ≤ 2684354560 * Q
  two : 2 ^ (b + l + 1) = 2 * Q

theorem sizes {l b : Nat} (hl : l ≤ 5) (hb : 60 ≤ b) : ∃ P R Q, Sizes l b P R Q := by
  have hp : 2 ^ l ≤ 2 ^ 5 := Nat.pow_le_pow_right (by decide) hl
  have hp1 : 1 ≤ 2 ^ l := Nat.one_le_two_pow
  have hr : 2 ^ 60 ≤ 2 ^ b := Nat.pow_le_pow_right (by decide) hb
  have two : 2 ^ (b + l + 1) = 2 * (2 ^ l * 2 ^ b) := by rw [Nat.pow_succ, Nat.pow_add, Nat.mul_comm (2 ^ b)]; omega
  have two2 : 2 ^ (b + l + 1 + l + 1) = 4 * (2 ^ l * (2 ^ l * 2 ^ b)) := by
    rw [Nat.pow_succ, Nat.pow_add, two]
    generalize 2 ^ l = P
    generalize 2 ^ b = R
    grind
  refine ⟨2 ^ l, 2 ^ b, 2 ^ l * 2 ^ b, rfl, rfl, rfl, hp1, by omega, Nat.le_mul_of_pos_left _ (by omega), ?_, ?_, ?_, ?_, ?_, two⟩
  · exact Nat.mul_le_mul_right _ (by omega)
  · exact Nat.mul_le_mul_left _ (by omega)
  · unfold errOf
    generalize 2 ^ l * 2 ^ b = Q
    have := Nat.mul_le_mul_right (131072 * Q) hl
    omega
  · unfold errOf
    rw [two]
    generalize 2 ^ l = P at *
    generalize P * 2 ^ b = Q
    have h1 : P * (2 * Q) ≤ 32 * (2 * Q) := Nat.mul_le_mul_right _ (by omega)
    have h2 := Nat.mul_le_mul hl (Nat.mul_le_mul_left 131072 h1)
    omega
  · unfold errOf
    rw [two2]
    generalize 2 ^ l = P at *
    generalize P * 2 ^ b = Q
    have h1 : P * (4 * (P * Q)) ≤ 32 * (4 * (32 * Q)) := Nat.mul_le_mul (by omega) (Nat.mul_le_mul_left _ (Nat.mul_le_mul_right _ (by omega)))
    have h2 := Nat.mul_le_mul hl (Nat.mul_le_mul_left 131072 h1)
    omega

theorem errP_le {l b P R Q : Nat} (h : Sizes l b P R Q) : errP l b ≤ 18446744073709551616 * (41943040 * Q) + 32 * (655360 * Q * 18446744073709559808) := by
  unfold errP
  rw [← h.hP]
  have h1 : P * (errOf l b * 18446744073709559808) ≤ 32 * (655360 * Q * 18446744073709559808) := Nat.mul_le_mul h.P2 (Nat.mul_le_mul_right _ h.e1)
  have h2 := h.e2
  omega

theorem budget3 {l b P R Q e : Nat} (h : Sizes l b P R Q) (he : e ≤ 18446744073709551616 * (41943040 * Q) + 32 * (655360 * Q * 18446744073709559808)) :
    18446744073709551616 * 18446744073709551616 * (18446744073709551616 * (3 * P) + errOf l (b + l + 1 + l + 1)) + P * (e * 18446744073709559808) + P * (P * (P * (R * 2720083094132915643088896)) * 18446744073709559808) ≤
      18446744073709551616 * 18446744073709551616 * P * (8589934592 * R) := by
  have h3 := h.e3
  have hq := h.QP
  have h1 : P * (e * 18446744073709559808) ≤ 32 * ((18446744073709551616 * (41943040 * Q) + 32 * (655360 * Q * 18446744073709559808)) * 18446744073709559808) := Nat.mul_le_mul h.P2 (Nat.mul_le_mul_right _ he)
  have h2 : P * (P * (P * (R * 2720083094132915643088896)) * 18446744073709559808) ≤ 32 * (32 * (Q * 2720083094132915643088896) * 18446744073709559808) := by
    rw [← Nat.mul_assoc P R, ← h.hQ]
    exact Nat.mul_le_mul h.P2 (Nat.mul_le_mul_right _ (Nat.mul_le_mul_right _ h.P2))
  have e4 : 18446744073709551616 * 18446744073709551616 * P * (8589934592 * R) = 18446744073709551616 * 18446744073709551616 * 8589934592 * Q := by
    rw [h.hQ]
    generalize 18446744073709551616 * 18446744073709551616 = M
    grind
  rw [e4]
  omega

/-- Behind the rows' way back: near to the columns' transform. -/
theorem mid_near {l b : Nat} (hl : l ≤ 5) (hb : 60 ≤ b) {F Y R1 S : Nat → Nat → Int × Int} (hF : ∀ j, j < 2 ^ l → ∀ i, i < 2 ^ l → N2 (F j i) (2 ^ b))
    (hY : ∀ j, j < 2 ^ l → ∀ i, i < 2 ^ l → N2 (cs (sm (18446744073709551616 * 18446744073709551616) (Y j i)) (Dc l 4095 (Dr l 4095 F) j i)) (errP l b))
    (hR : ∀ j, j < 2 ^ l → ∀ i, i < 2 ^ l → N2 (cs (sm 18446744073709551616 (R1 j i)) (Dr l 1 Y j i)) (errOf l (b + l + 1 + l + 1)))
    (hS : ∀ j, j < 2 ^ l → ∀ i, i < 2 ^ l → Near1 (R1 j i).1 (S j i).1 l ∧ Near1 (R1 j i).2 (S j i).2 l) :
    ∀ j, j < 2 ^ l → ∀ i, i < 2 ^ l → N2 (cs (sm 18446744073709551616 (S j i)) (Dc l 4095 F j i)) (8589934592 * 2 ^ b) := by
  intro j hj i hi
  obtain ⟨P, R, Q, hz⟩ := sizes hl hb
  have n1 := near_scaled (hS j hj i hi).1 (hS j hj i hi).2
  have n2 := hR j hj i hi
  have n3 : N2 (cs (sm (18446744073709551616 * 18446744073709551616) (Dr l 1 Y j i)) (Dr l 1 (Dc l 4095 (Dr l 4095 F)) j i)) (2 ^ l * (errP l b * 18446744073709559808)) := dsum_errK _ fun k hk => hY j hj k hk
  have n4 : N2 (cs (Dc l 4095 (Dr l 1 (Dr l 4095 F)) j i) (Dc l 4095 (fun a c => sm 18446744073709551616 (sm ((2 ^ l : Nat) : Int) (sm 18446744073709551616 (F a c)))) j i)) (2 ^ l * (2 ^ l * (2 ^ l * (2 ^ b * 2720083094132915643088896)) * 18446744073709559808)) := by
    have := dsum_errK (l := l) (c := 4095) (m := j) 1 (Y := fun k => Dr l 1 (Dr l 4095 F) k i) (S := fun k => sm 18446744073709551616 (sm ((2 ^ l : Nat) : Int) (sm 18446744073709551616 (F k i)))) (e := 2 ^ l * (2 ^ l * (2 ^ b * 2720083094132915643088896))) fun k hk => by
      rw [sm_one]
      exact dsum_back (by omega) hi (hF k hk)
    rwa [sm_one] at this
  have e5 : Dc l 4095 (fun a c => sm 18446744073709551616 (sm ((2 ^ l : Nat) : Int) (sm 18446744073709551616 (F a c)))) j i = sm 18446744073709551616 (sm ((2 ^ l : Nat) : Int) (sm 18446744073709551616 (Dc l 4095 F j i))) := by
    unfold Dc
    rw [dsum_sm, dsum_sm, dsum_sm]
  rw [e5, ← dr_dc l 1 4095 (Dr l 4095 F) j i] at n4
  have key : sm ((18446744073709551616 * 18446744073709551616 * 2 ^ l : Nat) : Int) (cs (sm 18446744073709551616 (S j i)) (Dc l 4095 F j i)) =
      ca (ca (sm ((18446744073709551616 * 18446744073709551616 : Nat) : Int) (ca (sm ((18446744073709551616 : Nat) : Int) (cs (sm ((2 ^ l : Nat) : Int) (S j i)) (R1 j i))) (cs (sm 18446744073709551616 (R1 j i)) (Dr l 1 Y j i))))
        (cs (sm (18446744073709551616 * 18446744073709551616) (Dr l 1 Y j i)) (Dr l 1 (Dc l 4095 (Dr l 4095 F)) j i)))
        (cs (Dr l 1 (Dc l 4095 (Dr l 4095 F)) j i) (sm 18446744073709551616 (sm ((2 ^ l : Nat) : Int) (sm 18446744073709551616 (Dc l 4095 F j i))))) := by
    rw [Int.natCast_mul]
    generalize ((2 ^ l : Nat) : Int) = p
    refine Prod.ext ?_ ?_
    · simp only [sm, cs, ca]; grind
    · simp only [sm, cs, ca]; grind
  refine n2_div (18446744073709551616 * 18446744073709551616 * 2 ^ l) (Nat.mul_pos (by decide) (Nat.two_pow_pos l)) ?_
  rw [key]
  refine n2_mono (n2_add (n2_add (n2_sm _ (n2_add (n2_sm _ n1) n2)) n3) n4) ?_
  rw [← hz.hP, ← hz.hR]
  exact budget3 hz (errP_le hz)
end Go.Proofs.Ytgbffbikieikdaa
