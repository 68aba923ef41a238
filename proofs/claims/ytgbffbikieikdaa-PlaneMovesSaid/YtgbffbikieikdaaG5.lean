/- A field's transform times the conjugate of a root; how far it is from the moved field's. -/
import Derived.Test.YtgbffbikieikdaaG4
namespace Go.Proofs.Ytgbffbikieikdaa
open Fl Ieee

theorem fv_unique {b : Nat} {v v' : Int} (h : FV b v) (h' : FV b v') : v = v' := by
  obtain ⟨s, m, k, e, rfl⟩ := h
  obtain ⟨s', m', k', e', rfl⟩ := h'
  rw [e] at e'
  injection e' with h1 h2 h3
  have : k = k' := by omega
  rw [h1, h2, this]

theorem fv_mod64 {b : Nat} {v : Int} (h : FV b v) : FV (b % 18446744073709551616) v := by
  obtain ⟨s, m, k, e, hv⟩ := h
  refine ⟨s, m, k, ?_, hv⟩
  rw [← e]
  unfold Format.read
  dsimp only
  rw [sw, show b % 18446744073709551616 / 9223372036854775808 % 2 = b / 9223372036854775808 % 2 by omega, show b % 18446744073709551616 % 9223372036854775808 = b % 9223372036854775808 by omega]

theorem negB_mod (b : Nat) : negB b = negB (b % 18446744073709551616) := by
  unfold negB
  have : BitVec.ofInt 64 (b : Int) = BitVec.ofInt 64 ((b % 18446744073709551616 : Nat) : Int) := by
    apply BitVec.eq_of_toNat_eq
    simp only [BitVec.toNat_ofInt]
    omega
  show (IntKind.u64.wrap ((BitVec.ofInt 64 (b : Int) ^^^ BitVec.ofInt 64 9223372036854775808).toNat : Int)).toNat = (IntKind.u64.wrap ((BitVec.ofInt 64 ((b % 18446744073709551616 : Nat) : Int) ^^^ BitVec.ofInt 64 9223372036854775808).toNat : Int)).toNat
  rw [this]

theorem negB_low {b : Nat} (hb : b < 18446744073709551616) : negB b = if b < 9223372036854775808 then b + 9223372036854775808 else b - 9223372036854775808 := by
  unfold negB
  rw [show (9223372036854775808 : Int) = ((9223372036854775808 : Nat) : Int) from rfl, u64_xor_nat b 9223372036854775808 hb (by decide), Int.toNat_natCast]
  have h1 : (b ^^^ 9223372036854775808) / 2 ^ 63 = b / 2 ^ 63 ^^^ 9223372036854775808 / 2 ^ 63 := Nat.xor_div_two_pow
  have h2 : (b ^^^ 9223372036854775808) % 2 ^ 63 = b % 2 ^ 63 ^^^ 9223372036854775808 % 2 ^ 63 := Nat.xor_mod_two_pow
  rw [show (9223372036854775808 : Nat) % 2 ^ 63 = 0 by decide, Nat.xor_zero] at h2
  rw [show (9223372036854775808 : Nat) / 2 ^ 63 = 1 by decide] at h1
  generalize b ^^^ 9223372036854775808 = y at h1 h2 ⊢
  by_cases c : b < 9223372036854775808
  · rw [show b / 2 ^ 63 = 0 by omega] at h1
    have h3 : (0 ^^^ 1 : Nat) = 1 := by decide
    rw [h3] at h1
    rw [if_pos c]
    omega
  · rw [show b / 2 ^ 63 = 1 by omega] at h1
    have h3 : (1 ^^^ 1 : Nat) = 0 := by decide
    rw [h3] at h1
    rw [if_neg c]
    omega

theorem read_flip {s t : Bool} {r m : Nat} {p : Int} (hr : r < 9223372036854775808) (h : double.read (double.word s r) = .number t m p) : double.read (double.word (!s) r) = .number (!t) m p := by
  rw [read_word _ r hr] at h ⊢
  by_cases c1 : r < 4503599627370496
  · rw [if_pos c1] at h ⊢
    injection h with h1 h2 h3
    rw [h1, h2, h3]
  · rw [if_neg c1] at h ⊢
    by_cases c2 : r < 9218868437227405312
    · rw [if_pos c2] at h ⊢
      injection h with h1 h2 h3
      rw [h1, h2, h3]
    · rw [if_neg c2] at h
      split at h <;> cases h

theorem fv_negB {b : Nat} {v : Int} (h : FV b v) : FV (negB b) (-v) := by
  rw [negB_mod]
  have h' := fv_mod64 h
  have hb : b % 18446744073709551616 < 18446744073709551616 := Nat.mod_lt _ (by decide)
  generalize b % 18446744073709551616 = c at h' hb
  obtain ⟨s, m, k, e, rfl⟩ := h'
  rw [negB_low hb]
  refine ⟨!s, m, k, ?_, signed_not s m k⟩
  by_cases hc : c < 9223372036854775808
  · rw [if_pos hc]
    have e1 : c = double.word false c := by unfold Format.word; rw [if_neg (by decide)]
    have e2 : c + 9223372036854775808 = double.word (!false) c := by
      show _ = double.word true c
      unfold Format.word
      rw [if_pos rfl, sw, Nat.add_comm]
    rw [e1] at e
    rw [e2]
    exact read_flip hc e
  · rw [if_neg hc]
    obtain ⟨d, hd⟩ : ∃ d, c = d + 9223372036854775808 := ⟨c - 9223372036854775808, by omega⟩
    have hdl : d < 9223372036854775808 := by omega
    have e1 : c = double.word true d := by unfold Format.word; rw [if_pos rfl, sw, hd, Nat.add_comm]
    have e2 : c - 9223372036854775808 = double.word (!true) d := by
      show _ = double.word false d
      unfold Format.word
      rw [if_neg (by decide), hd, Nat.add_sub_cancel]
    rw [e2]
    rw [e1] at e
    exact read_flip hdl e

theorem fv_plain {b : Nat} {v : Int} (h : FV b v) : FV (plainB b) v := by
  unfold plainB
  split
  · rename_i h1
    have h2 : FloatKind.f64.format.order b 0 = some (compare v 0) := fv_order h fv_nought
    rw [h2] at h1
    have : v = 0 := Int.compare_eq_eq.1 (by
      generalize compare v 0 = o at h1
      cases o <;> first | rfl | exact absurd h1 (by decide))
    rw [this]
    exact fv_nought
  · exact h

theorem dv_unique {b : Nat} {v v' : Int} (h : DV b v) (h' : DV b v') : v = v' := by
  obtain ⟨q, hq, f⟩ := h
  obtain ⟨q', hq', f'⟩ := h'
  have : q' = q := by omega
  subst this
  have hp : (0 : Int) < 2 ^ q' := Int.pow_pos (by decide)
  exact Int.eq_of_mul_eq_mul_right (Int.ne_of_gt hp) (fv_unique f f')

theorem dv_negB {b : Nat} {v : Int} (h : DV b v) : DV (negB b) (-v) := by
  obtain ⟨q, hq, f⟩ := h
  exact ⟨q, hq, by rw [Int.neg_mul]; exact fv_negB f⟩
theorem dv_plain {b : Nat} {v : Int} (h : DV b v) : DV (plainB b) v := by
  obtain ⟨q, hq, f⟩ := h
  exact ⟨q, hq, fv_plain f⟩

/-- The conjugate of a root, as it stands. -/
theorem vz_conj {i : Nat} (hi : i < 4096) : vz (4095 * i) = ((vz i).1, -(vz i).2) := by
  have h1 := dv_full hi
  have h2 := dv_full (Nat.mod_lt (4096 - i) (by decide : 4096 > 0))
  rw [full_conj hi, vz_mod] at h2
  have e1 := dv_unique h2.1 (dv_plain h1.1)
  have e2 := dv_unique h2.2 (dv_plain (dv_negB h1.2))
  have e3 : vz (4095 * i) = vz (4096 - i) := by
    by_cases c : i = 0
    · subst c
      have := vz_rounds 0 1
      exact this.symm
    · have := vz_rounds (4096 - i) (i - 1)
      rw [show 4096 - i + 4096 * (i - 1) = 4095 * i by omega] at this
      exact this
  rw [e3]
  exact Prod.ext e1 e2

/-- The bits of a root's conjugate: the second part with the other sign. -/
def conjB (k : Nat) : Nat × Nat := ((full k).1, negB (full k).2)

theorem conj_dv {k : Nat} (hk : k < 4096) : DV (conjB k).1 (vz (4095 * k)).1 ∧ DV (conjB k).2 (vz (4095 * k)).2 := by
  rw [vz_conj hk]
  exact ⟨(dv_full hk).1, dv_negB (dv_full hk).2⟩

/-- What the distance of two numbers comes to: less than the bound with bits c. -/
structure FarC (c : Nat) (a b : Nat × Nat) : Prop where
  ex : ∃ d e : Nat, floatBits .sub .f64 a.1 b.1 = some d ∧ floatBits .sub .f64 a.2 b.2 = some e ∧
    FloatKind.f64.format.order (d % 9223372036854775808) (d % 9223372036854775808) = some .eq ∧ FloatKind.f64.format.order (e % 9223372036854775808) (e % 9223372036854775808) = some .eq ∧
    FloatKind.f64.format.order (d % 9223372036854775808) c = some .lt ∧ FloatKind.f64.format.order (e % 9223372036854775808) c = some .lt

theorem part_farC {a b c t : Nat} {A B : Int} (ht : 60 ≤ t) (ht2 : t ≤ 2000) (hc : FV c (2 ^ (t + 3))) (ha : FV a A) (hb : FV b B) (h : (A - B).natAbs ≤ 6 * 2 ^ t) :
    ∃ d, floatBits .sub .f64 a b = some d ∧ FloatKind.f64.format.order (d % 9223372036854775808) (d % 9223372036854775808) = some .eq ∧ FloatKind.f64.format.order (d % 9223372036854775808) c = some .lt := by
  have h3 : 2 ^ (t + 3) = 8 * 2 ^ t := by rw [Nat.pow_add]; omega
  obtain ⟨d, u, e, f, g⟩ := sub_err ha hb (T := t + 3) (by omega) (by omega) (by
    rw [h3]
    have := Nat.two_pow_pos t
    omega)
  refine ⟨d, e, fv_self (fv_abs f), ?_⟩
  rw [show FloatKind.f64.format.order (d % 9223372036854775808) c = _ from fv_order (fv_abs f) hc, Int.compare_eq_lt.2]
  have hcc : ((2 ^ (t + 3) : Nat) : Int) = 2 ^ (t + 3) := by rw [Int.natCast_pow]; rfl
  rw [← hcc]
  have h53 : 2 ^ (t + 3 - 53) ≤ 2 ^ t := Nat.pow_le_pow_right (by decide) (by omega)
  have hp := Nat.two_pow_pos t
  generalize 2 ^ (t + 3 - 53) = E at g h53
  rw [h3]
  generalize 2 ^ t = G at h h53 hp ⊢
  omega

theorem farC_of {a b : Nat × Nat} {A B : Int × Int} {c t : Nat} (ht : 60 ≤ t) (ht2 : t ≤ 2000) (hc : FV c (2 ^ (t + 3))) (ha : CV a A) (hb : CV b B) (h : N2 (cs A B) (6 * 2 ^ t)) : FarC c a b := by
  obtain ⟨h1, h2⟩ := n2_fst h
  obtain ⟨d, e1, e2, e3⟩ := part_farC ht ht2 hc ha.one hb.one h1
  obtain ⟨d', e1', e2', e3'⟩ := part_farC ht ht2 hc ha.two hb.two h2
  exact ⟨d, d', e1, e1', e2, e2', e3, e3'⟩

theorem fv_m4 (q : Nat) (hq : q = 1070) : FV 4589168020290535424 (2 ^ q) := by
  subst hq
  exact ⟨false, 4503599627370496, 1018, by decide +kernel, by decide +kernel⟩
theorem fv_m8' (q : Nat) (hq : q = 1066) : FV 4571153621781053440 (2 ^ q) := by
  subst hq
  exact ⟨false, 4503599627370496, 1014, by decide +kernel, by decide +kernel⟩

/-- The moved field, cell by cell: the product has an answer, and it is near. -/
theorem moved_far {l b u v : Nat} (hl : l ≤ 5) (hb : b = 1095) {f g : Nat → Nat → Nat × Nat} {F G : Nat → Nat → Int × Int} (hf : Field (2 ^ l) b f F) (hg : Field (2 ^ l) b g G)
    (hG : ∀ j, j < 2 ^ l → ∀ i, i < 2 ^ l → G ((j + v) % 2 ^ l) ((i + u) % 2 ^ l) = F j i) :
    ∀ j, j < 2 ^ l → ∀ i, i < 2 ^ l → ∀ k, k = (i * u + j * v) % 2 ^ l * 2 ^ (12 - l) →
      MulTo (planeB l f j i).1 (planeB l f j i).2 (conjB k).1 (conjB k).2 (mulC (planeB l f j i) (conjB k)).1 (mulC (planeB l f j i) (conjB k)).2 ∧ FarC 4589168020290535424 (mulC (planeB l f j i) (conjB k)) (planeB l g j i) := by
  obtain ⟨Y, Z, h1, h2, h3⟩ := plane_moved (u := u) (v := v) hl (show 60 ≤ b by omega) (show b ≤ 1800 by omega) hf hg hG
  intro j hj i hi k hk
  obtain ⟨P, R, Q, hz⟩ := sizes hl (show 60 ≤ b by omega)
  have hp := pow_4096 (show l ≤ 12 by omega)
  have hk4 : k < 4096 := by
    rw [hk, ← hp]
    exact Nat.mul_lt_mul_of_pos_right (Nat.mod_lt _ (Nat.two_pow_pos l)) (Nat.two_pow_pos _)
  have hW : vz (4095 * k) = vz (4095 * (i * u + j * v) * 2 ^ (12 - l)) := by
    rw [hk, ← Nat.mul_assoc]
    have h := Nat.div_add_mod (i * u + j * v) (2 ^ l)
    generalize (i * u + j * v) % 2 ^ l = r at *
    generalize (i * u + j * v) / 2 ^ l = d at *
    have e : 4095 * (i * u + j * v) * 2 ^ (12 - l) = 4095 * r * 2 ^ (12 - l) + 4096 * (4095 * d) := by
      rw [← hp, ← h]
      generalize 2 ^ (12 - l) = s
      generalize 2 ^ l = n
      grind
    rw [e, vz_rounds]
  have n1 := h3 j hj i hi
  rw [← hW] at n1
  obtain ⟨d1, d2⟩ := conj_dv hk4
  obtain ⟨T, m1, cT, nT⟩ := bmul (t := b + l + 1 + l + 1) (by omega) (by omega) d1 d2 (small_vz _) (h1.cv j hj i hi) (h1.le j hj i hi)
  rw [mulC_comm] at m1 cT
  refine ⟨mulTo_comm m1, ?_⟩
  refine farC_of (t := 1067) (by decide) (by decide) (fv_m4 (1067 + 3) rfl) cT (h2.cv j hj i hi) ?_
  obtain ⟨t, ht⟩ : ∃ t, t = 1067 := ⟨_, rfl⟩
  rw [← ht]
  refine n2_div 18446744073709551616 (by decide) ?_
  have key : sm ((18446744073709551616 : Nat) : Int) (cs T (Z j i)) = cs (cs (sm 18446744073709551616 T) (gm (vz (4095 * k)) (Y j i))) (cs (sm 18446744073709551616 (Z j i)) (gm (Y j i) (vz (4095 * k)))) := by
    refine Prod.ext ?_ ?_
    · simp only [sm, cs, gm]; grind
    · simp only [sm, cs, gm]; grind
  rw [key]
  refine n2_mono (n2_sub nT n1) ?_
  have e1 : 2 ^ (b + l + 1 + l + 1 + 11) = 4096 * (P * (2 * Q)) := by
    rw [show b + l + 1 + l + 1 + 11 = (b + l + 1) + l + 12 by omega, Nat.pow_add, Nat.pow_add, hz.two, ← hz.hP]
    grind
  have e2 : P * (2 * Q) ≤ 32 * (2 * Q) := Nat.mul_le_mul_right _ hz.P2
  have e3 : R = 268435456 * 2 ^ t := by
    rw [hz.hR, show (268435456 : Nat) = 2 ^ 28 from rfl, ← Nat.pow_add]
    congr 1
    omega
  have e4 := hz.QR2
  rw [e1, ← hz.hP, ← hz.hR, ← hz.hQ]
  generalize P * (2 * Q) = A at e2 ⊢
  generalize 2 ^ t = B at e3 ⊢
  omega
end Go.Proofs.Ytgbffbikieikdaa
