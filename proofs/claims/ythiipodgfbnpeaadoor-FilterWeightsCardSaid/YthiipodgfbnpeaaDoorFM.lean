/- Numbers times one, and noughts: bits. -/
import Derived.Test.YthiipodgfbnpeaaDoorFV
import Derived.Test.YthiipodgfbnpeaaDoorM1
namespace Go.Proofs.YthiipodgfbnpeaaDoor
open Go.RowKit Fl Ieee

theorem canon_le {m k m' j : Nat} (h : m * 2 ^ k = m' * 2 ^ (k + j)) (hm : m < 9007199254740992) (c' : k + j = 0 ∨ 4503599627370496 ≤ m') : m = m' ∧ j = 0 := by
  have hp : 0 < 2 ^ k := Nat.two_pow_pos k
  rw [Nat.pow_add, Nat.mul_comm (2 ^ k), ← Nat.mul_assoc] at h
  have e : m = m' * 2 ^ j := Nat.eq_of_mul_eq_mul_right hp h
  cases j with
  | zero => exact ⟨by simpa using e, rfl⟩
  | succ j =>
    exfalso
    have h1 : 4503599627370496 ≤ m' := by omega
    have h2 : 2 ≤ 2 ^ (j + 1) := by
      have := Nat.one_le_two_pow (n := j)
      rw [Nat.pow_succ]
      omega
    have h3 := Nat.mul_le_mul h1 h2
    omega

theorem canon {m k m' k' : Nat} (h : m * 2 ^ k = m' * 2 ^ k') (hm : m < 9007199254740992) (hm' : m' < 9007199254740992) (c : k = 0 ∨ 4503599627370496 ≤ m) (c' : k' = 0 ∨ 4503599627370496 ≤ m') : m = m' ∧ k = k' := by
  rcases Nat.le_total k k' with hk | hk
  · obtain ⟨j, rfl⟩ := Nat.exists_eq_add_of_le hk
    obtain ⟨e, rfl⟩ := canon_le h hm c'
    exact ⟨e, rfl⟩
  · obtain ⟨j, rfl⟩ := Nat.exists_eq_add_of_le hk
    obtain ⟨e, rfl⟩ := canon_le h.symm hm' c
    exact ⟨e.symm, rfl⟩

/-- How a finite word of 64 bits reads. -/
theorem word_form {a : Nat} (ha : a < 18446744073709551616) {s : Bool} {m k : Nat} (h : double.read a = .number s m (-1074 + (k : Int))) :
    ∃ r, r < 9223372036854775808 ∧ a = (if s then 9223372036854775808 else 0) + r ∧ m < 9007199254740992 ∧ (k = 0 ∨ 4503599627370496 ≤ m) ∧ ((r < 4503599627370496 ∧ m = r ∧ k = 0) ∨ (4503599627370496 ≤ m ∧ r + 4503599627370496 = (k + 1) * 4503599627370496 + m)) := by
  obtain ⟨t, r, hr, e⟩ : ∃ (t : Bool) (r : Nat), r < 9223372036854775808 ∧ a = double.word t r := by
    by_cases c : a < 9223372036854775808
    · exact ⟨false, a, c, by unfold Format.word; rw [if_neg (by decide)]⟩
    · refine ⟨true, a - 9223372036854775808, by omega, ?_⟩
      unfold Format.word
      rw [if_pos rfl, sw]
      omega
  have hw : a = (if t then 9223372036854775808 else 0) + r := by
    rw [e]
    unfold Format.word
    cases t
    · rw [if_neg (by decide)]; simp
    · rw [if_pos rfl, sw, if_pos rfl]
  rw [e, read_word t r hr] at h
  by_cases c1 : r < 4503599627370496
  · rw [if_pos c1] at h
    injection h with h1 h2 h3
    subst h1
    exact ⟨r, hr, hw, by omega, by omega, Or.inl ⟨c1, h2.symm, by omega⟩⟩
  · rw [if_neg c1] at h
    by_cases c2 : r < 9218868437227405312
    · rw [if_pos c2] at h
      injection h with h1 h2 h3
      subst h1
      exact ⟨r, hr, hw, by omega, by omega, Or.inr ⟨by omega, by omega⟩⟩
    · rw [if_neg c2] at h
      split at h <;> cases h

theorem fv_inj {a b : Nat} {v : Int} (ha : a < 18446744073709551616) (hb : b < 18446744073709551616) (h1 : FV a v) (h2 : FV b v) (hv : v ≠ 0) : a = b := by
  obtain ⟨s, m, k, e1, f1⟩ := h1
  obtain ⟨t, n, j, e2, f2⟩ := h2
  obtain ⟨r, hr, wa, ma, ca, da⟩ := word_form ha e1
  obtain ⟨q, hq, wb, mb, cb, db⟩ := word_form hb e2
  have hN : m * 2 ^ k = n * 2 ^ j := by
    rw [← signed_natAbs s m k, ← signed_natAbs t n j, f1, f2]
  obtain ⟨rfl, rfl⟩ := canon hN ma mb ca cb
  have hst : s = t := by
    rw [signed_eq] at f1 f2
    generalize m * 2 ^ k = u at f1 f2
    cases s <;> cases t <;> simp at f1 f2 <;> first | rfl | (exfalso; omega)
  subst hst
  have : r = q := by omega
  rw [wa, wb, this]


theorem one_fv (q : Nat) (hq : q = 1074) : FV oneB (1 * 2 ^ q) := by
  have h : IV oneB 1 := by
    have := iv_ofInt 1 (by decide)
    have e : floatOfInt .f64 1 = oneB := by decide +kernel
    rw [e] at this
    exact this
  obtain ⟨p, hp, hf⟩ := h
  rw [show q = p by omega]
  exact hf

theorem bits_lt {op : BinOp} {x y r : Nat} (h : floatBits op .f64 x y = some r) : r < 18446744073709551616 := of_decide_eq_true (floatBits_wf h)

theorem zero_one : floatBits .mul .f64 0 oneB = some 0 ∧ floatBits .mul .f64 9223372036854775808 oneB = some 9223372036854775808 := by decide +kernel

/-- A number times one is it, bit by bit. -/
theorem mul_one {b : Nat} {Z : Int} (hb : b < 18446744073709551616) (h : FV b Z) (hZ : Z.natAbs < 2 ^ 2000) : floatBits .mul .f64 b oneB = some b := by
  obtain ⟨s, m, k, e1, f1⟩ := h
  obtain ⟨r, hr, wa, ma, ca, da⟩ := word_form hb e1
  by_cases c : Z = 0
  · have hm : m = 0 := by
      have hz := signed_natAbs s m k
      rw [f1, c] at hz
      have : m * 2 ^ k = 0 := hz.symm
      rcases Nat.mul_eq_zero.1 this with h | h
      · exact h
      · exact absurd h (Nat.ne_of_gt (Nat.two_pow_pos k))
    have hr0 : r = 0 := by omega
    cases s
    · rw [wa, hr0]
      exact zero_one.1
    · rw [wa, hr0]
      exact zero_one.2
  · obtain ⟨q, hq⟩ : ∃ q, q = 1074 := ⟨_, rfl⟩
    have hna : Z.natAbs = m * 2 ^ k := by rw [← f1, signed_natAbs]
    have hm0 : m ≠ 0 := by
      intro h
      rw [h, Nat.zero_mul] at hna
      omega
    have hlog : k + m.log2 ≤ 2097 := by
      have h1 := log2_mul_pow m k hm0
      have h2 : m * 2 ^ k ≠ 0 := by rw [← hna]; omega
      have h3 : (m * 2 ^ k).log2 < 2000 := (Nat.log2_lt h2).2 (by rw [← hna]; exact hZ)
      omega
    obtain ⟨r', h1, h2⟩ := mul_fv (x := Z) (y := 1 * 2 ^ q) (z := Z) q hq ⟨s, m, k, e1, f1⟩ (one_fv q hq) (by rw [Int.one_mul]) hna (by rw [p53]; exact ma) hlog
    have h3 : floatBits .mul .f64 b oneB = some r' := h1
    rw [h3, fv_inj hb (bits_lt h3) ⟨s, m, k, e1, f1⟩ h2 c]

/-- Noughts, whatever their sign. -/
theorem z_add {a b : Nat} (ha : FV a 0) (hb : FV b 0) : ∃ r, floatBits .add .f64 a b = some r ∧ FV r 0 := by
  obtain ⟨r, h1, h2⟩ := fv_add ha hb (M := 0) (k := 0) rfl (by decide) (by decide)
  exact ⟨r, h1, h2⟩
theorem z_sub {a b : Nat} (ha : FV a 0) (hb : FV b 0) : ∃ r, floatBits .sub .f64 a b = some r ∧ FV r 0 := by
  obtain ⟨r, h1, h2⟩ := fv_sub ha hb (M := 0) (k := 0) rfl (by decide) (by decide)
  exact ⟨r, h1, h2⟩
theorem z_mul {a b : Nat} {x : Int} (ha : FV a x) (hb : FV b 0) : ∃ r, floatBits .mul .f64 a b = some r ∧ FV r 0 := by
  obtain ⟨q, hq⟩ : ∃ q, q = 1074 := ⟨_, rfl⟩
  obtain ⟨r, h1, h2⟩ := mul_fv (x := x) (y := 0) (z := 0) q hq ha hb (by rw [Int.mul_zero, Int.zero_mul]) (M := 0) (k := 0) rfl (by decide) (by decide)
  exact ⟨r, h1, h2⟩
theorem mul_z {a b : Nat} {x : Int} (ha : FV a 0) (hb : FV b x) : ∃ r, floatBits .mul .f64 a b = some r ∧ FV r 0 := by
  obtain ⟨q, hq⟩ : ∃ q, q = 1074 := ⟨_, rfl⟩
  obtain ⟨r, h1, h2⟩ := mul_fv (x := 0) (y := x) (z := 0) q hq ha hb (by rw [Int.zero_mul, Int.zero_mul]) (M := 0) (k := 0) rfl (by decide) (by decide)
  exact ⟨r, h1, h2⟩

theorem mulC_nought {a b : Nat × Nat} {x : Int × Int} (ha : CV a x) (hb : CV b (0, 0)) : CV (mulC a b) (0, 0) := by
  obtain ⟨r1, e1, f1⟩ := z_mul ha.one hb.one
  obtain ⟨r2, e2, f2⟩ := z_mul ha.two hb.two
  obtain ⟨r3, e3, f3⟩ := z_mul ha.one hb.two
  obtain ⟨r4, e4, f4⟩ := z_mul ha.two hb.one
  obtain ⟨s1, d1, g1⟩ := z_sub f1 f2
  obtain ⟨s2, d2, g2⟩ := z_add f3 f4
  unfold mulC
  rw [e1, e2, e3, e4]
  show CV ((floatBits .sub .f64 r1 r2).getD 0, (floatBits .add .f64 r3 r4).getD 0) (0, 0)
  rw [d1, d2]
  exact ⟨g1, g2⟩
theorem addC_nought {a b : Nat × Nat} (ha : CV a (0, 0)) (hb : CV b (0, 0)) : CV (addC a b) (0, 0) := by
  obtain ⟨s1, d1, g1⟩ := z_add ha.one hb.one
  obtain ⟨s2, d2, g2⟩ := z_add ha.two hb.two
  unfold addC
  rw [d1, d2]
  exact ⟨g1, g2⟩
theorem subC_nought {a b : Nat × Nat} (ha : CV a (0, 0)) (hb : CV b (0, 0)) : CV (subC a b) (0, 0) := by
  obtain ⟨s1, d1, g1⟩ := z_sub ha.one hb.one
  obtain ⟨s2, d2, g2⟩ := z_sub ha.two hb.two
  unfold subC
  rw [d1, d2]
  exact ⟨g1, g2⟩

theorem wB_cv (c l k : Nat) : ∃ x, CV (wB c l k) x := by
  obtain ⟨⟨q, _, h1⟩, ⟨q', _, h2⟩⟩ := wB_dv c l k
  exact ⟨(_, _), h1, h2⟩

/-- Of noughts the transform has noughts. -/
theorem fft_nought (c : Nat) : ∀ (l : Nat) (x : Nat → Nat × Nat), (∀ j, CV (x j) (0, 0)) → ∀ k, CV (fft l c x k) (0, 0)
  | 0, x, h, _ => h 0
  | l + 1, x, h, k => by
    obtain ⟨u, hu⟩ := wB_cv c (l + 1) k
    obtain ⟨v, hv⟩ := wB_cv c (l + 1) (k - 2 ^ l)
    unfold fft
    split
    · exact addC_nought (fft_nought c l _ (fun j => h _) k) (mulC_nought hu (fft_nought c l _ (fun j => h _) k))
    · exact subC_nought (fft_nought c l _ (fun j => h _) (k - 2 ^ l)) (mulC_nought hv (fft_nought c l _ (fun j => h _) (k - 2 ^ l)))
end Go.Proofs.YthiipodgfbnpeaaDoor
