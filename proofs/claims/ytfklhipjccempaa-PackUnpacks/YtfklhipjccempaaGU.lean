/- A number that isn't nought has one pattern of bits. -/
import Derived.Test.YtfklhipjccempaaYN
namespace Go.Proofs.Ytfklhipjccempaa
open Fl Ieee

theorem canon_le {m k m' j : Nat} (h : m * 2 ^ k = m' * 2 ^ (k + j)) (hm : m < 9007199254740992) (c' : k + j = 0 ∨ 4503599627370496 ≤ m') : m = m' ∧ j = 0 := by
  have hp : 0 < 2 ^ k := Nat.two_pow_pos k
  rw [Nat.pow_add, Nat.mul_comm (2 ^ k), ← Nat.mul_assoc] at h
  have e : m = m' * 2 ^ j := Nat.eq_of_mul_eq_mul_right hp h
  cases j with
  | zero => exact ⟨by simpa using e, rfl⟩
  | succ j =>
    exfalso
    have h1 : 4503599627370496 ≤ m' := by omega
    have h2 : 2 ≤ 2 ^ (j + 1) := by
      have := Nat.one_le_two_pow (n := j)
      rw [Nat.pow_succ]
      omega
    have h3 := Nat.mul_le_mul h1 h2
    omega

theorem canon {m k m' k' : Nat} (h : m * 2 ^ k = m' * 2 ^ k') (hm : m < 9007199254740992) (hm' : m' < 9007199254740992) (c : k = 0 ∨ 4503599627370496 ≤ m) (c' : k' = 0 ∨ 4503599627370496 ≤ m') : m = m' ∧ k = k' := by
  rcases Nat.le_total k k' with hk | hk
  · obtain ⟨j, rfl⟩ := Nat.exists_eq_add_of_le hk
    obtain ⟨e, rfl⟩ := canon_le h hm c'
    exact ⟨e, rfl⟩
  · obtain ⟨j, rfl⟩ := Nat.exists_eq_add_of_le hk
    obtain ⟨e, rfl⟩ := canon_le h.symm hm' c
    exact ⟨e.symm, rfl⟩

/-- How a finite word of 64 bits reads. -/
theorem word_form {a : Nat} (ha : a < 18446744073709551616) {s : Bool} {m k : Nat} (h : double.read a = .number s m (-1074 + (k : Int))) :
    ∃ r, r < 9223372036854775808 ∧ a = (if s then 9223372036854775808 else 0) + r ∧ m < 9007199254740992 ∧ (k = 0 ∨ 4503599627370496 ≤ m) ∧ ((r < 4503599627370496 ∧ m = r ∧ k = 0) ∨ (4503599627370496 ≤ m ∧ r + 4503599627370496 = (k + 1) * 4503599627370496 + m)) := by
  obtain ⟨t, r, hr, e⟩ : ∃ (t : Bool) (r : Nat), r < 9223372036854775808 ∧ a = double.word t r := by
    by_cases c : a < 9223372036854775808
    · exact ⟨false, a, c, by unfold Format.word; rw [if_neg (by decide)]⟩
    · refine ⟨true, a - 9223372036854775808, by omega, ?_⟩
      unfold Format.word
      rw [if_pos rfl, sw]
      omega
  have hw : a = (if t then 9223372036854775808 else 0) + r := by
    rw [e]
    unfold Format.word
    cases t
    · rw [if_neg (by decide)]; simp
    · rw [if_pos rfl, sw, if_pos rfl]
  rw [e, read_word t r hr] at h
  by_cases c1 : r < 4503599627370496
  · rw [if_pos c1] at h
    injection h with h1 h2 h3
    subst h1
    exact ⟨r, hr, hw, by omega, by omega, Or.inl ⟨c1, h2.symm, by omega⟩⟩
  · rw [if_neg c1] at h
    by_cases c2 : r < 9218868437227405312
    · rw [if_pos c2] at h
      injection h with h1 h2 h3
      subst h1
      exact ⟨r, hr, hw, by omega, by omega, Or.inr ⟨by omega, by omega⟩⟩
    · rw [if_neg c2] at h
      split at h <;> cases h

theorem fv_inj {a b : Nat} {v : Int} (ha : a < 18446744073709551616) (hb : b < 18446744073709551616) (h1 : FV a v) (h2 : FV b v) (hv : v ≠ 0) : a = b := by
  obtain ⟨s, m, k, e1, f1⟩ := h1
  obtain ⟨t, n, j, e2, f2⟩ := h2
  obtain ⟨r, hr, wa, ma, ca, da⟩ := word_form ha e1
  obtain ⟨q, hq, wb, mb, cb, db⟩ := word_form hb e2
  have hN : m * 2 ^ k = n * 2 ^ j := by
    rw [← signed_natAbs s m k, ← signed_natAbs t n j, f1, f2]
  obtain ⟨rfl, rfl⟩ := canon hN ma mb ca cb
  have hst : s = t := by
    rw [signed_eq] at f1 f2
    generalize m * 2 ^ k = u at f1 f2
    cases s <;> cases t <;> simp at f1 f2 <;> first | rfl | (exfalso; omega)
  subst hst
  have : r = q := by omega
  rw [wa, wb, this]

/-- Such a number's bits are those that the conversion makes. -/
theorem iv_bits {b : Nat} {n : Int} (hb : b < 18446744073709551616) (h : IV b n) (h0 : n = 0 → b = 0) (hn : n.natAbs < 2 ^ 53) : b = floatOfInt .f64 n := by
  by_cases c : n = 0
  · rw [h0 c, c]
    rfl
  · obtain ⟨q, hq, f⟩ := h
    obtain ⟨q', hq', f'⟩ := iv_ofInt n hn
    subst hq'
    rw [← hq] at f'
    have hp : (2 : Int) ^ q ≠ 0 := Int.ne_of_gt (Int.pow_pos (by decide))
    refine fv_inj hb ?_ f f' (Int.mul_ne_zero c hp)
    show double.nearest _ _ _ < _
    exact double.nearest_lt _ _ _
end Go.Proofs.Ytfklhipjccempaa
