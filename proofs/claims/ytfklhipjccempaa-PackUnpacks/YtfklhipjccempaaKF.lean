/- Numbers of the narrow kind: what is too great for it is none of its numbers made wide. -/
import Derived.Test.YtfklhipjccempaaKX
import Derived.Laws.ComplexArith
namespace Go.Proofs.Ytfklhipjccempaa
open Go.RowKit Fl Ieee

theorem sw1 : single.signWeight = 2147483648 := rfl
theorem bn1 : single.binade = 8388608 := rfl
theorem ir1 : single.infRung = 2139095040 := rfl
theorem lp1 : single.leastPlace = -149 := rfl

theorem read_any1 {c : Nat} : (∃ (s : Bool) (m k : Nat), single.read c = .number s m (-149 + (k : Int)) ∧ m < 16777216 ∧ k ≤ 253) ∨ (∃ s, single.read c = .infinity s) ∨ ∃ s f, single.read c = .nan s f := by
  unfold Format.read
  dsimp only
  rw [sw1, bn1, ir1, lp1]
  by_cases c0 : c % 2147483648 < 8388608
  · rw [if_pos c0]
    exact Or.inl ⟨_, _, 0, rfl, by omega, by omega⟩
  · rw [if_neg c0]
    by_cases c1 : c % 2147483648 < 2139095040
    · rw [if_pos c1]
      exact Or.inl ⟨_, _, _, rfl, by omega, by omega⟩
    · rw [if_neg c1]
      by_cases c2 : c % 2147483648 = 2139095040
      · rw [if_pos c2]
        exact Or.inr (Or.inl ⟨_, rfl⟩)
      · rw [if_neg c2]
        exact Or.inr (Or.inr ⟨_, _, rfl⟩)

/-- A narrow number made wide is exact. -/
theorem wide_fv (s : Bool) {m k : Nat} (hm : m < 16777216) (hk : k ≤ 253) : FV (double.nearest s m (-149 + (k : Int))) (signed s m (925 + k)) := by
  by_cases h0 : m = 0
  · subst h0
    refine ⟨s, 0, 0, ?_, ?_⟩
    · unfold Format.nearest
      rw [if_pos rfl]
      exact read_zero s
    · rw [signed_eq, signed_eq, Nat.zero_mul, Nat.zero_mul]
  · have hl := log2_le_of_lt (M := m) (by omega)
    obtain ⟨m', j, e1, e2⟩ := nearest_exact s m (925 + k) h0 (by omega) (by omega)
    rw [show -1074 + ((925 + k : Nat) : Int) = -149 + (k : Int) by omega] at e1
    exact ⟨s, m', j, e1, by rw [signed_eq, signed_eq, e2]⟩

theorem wide_some {c : Nat} {s : Bool} {m k : Nat} (h : single.read c = .number s m (-149 + (k : Int))) (hm : m < 16777216) (hk : k ≤ 253) : floatToFloatBits .f32 c .f64 = some (double.nearest s m (-149 + (k : Int))) := by
  unfold floatToFloatBits
  rw [if_neg (by decide), show FloatKind.f32.decode c = _ from h]
  dsimp only
  show (if (double.read (double.nearest s m (-149 + (k : Int)))).isInfinity = true then none else some (double.nearest s m (-149 + (k : Int)))) = _
  obtain ⟨_, _, _, e, _⟩ := wide_fv s hm hk
  rw [e]
  rfl

theorem rne_le {n K d : Nat} (h : n ≤ K * 2 ^ d) : rne n d ≤ K := by
  have h1 := (rne_bounds n d).1
  have hp := Nat.two_pow_pos d
  by_cases c : rne n d ≤ K
  · exact c
  · exfalso
    have h2 : (K + 1) * 2 ^ d ≤ rne n d * 2 ^ d := Nat.mul_le_mul_right _ (by omega)
    rw [Nat.add_mul, Nat.one_mul] at h2
    generalize rne n d * 2 ^ d = A at *
    generalize K * 2 ^ d = B at *
    generalize 2 ^ d = D at *
    omega

theorem narrow_fits (s : Bool) {m k q : Nat} (hq : q = 1178) (h0 : m ≠ 0) (hv : m * 2 ^ k ≤ 16777215 * 2 ^ q) : (single.read (single.nearest s m (-1074 + (k : Int)))).isInfinity = false := by
  have hlt : m < 2 ^ (m.log2 + 1) := Nat.lt_log2_self
  have hle := Nat.log2_self_le h0
  have hP : m.log2 + k ≤ q + 23 := by
    by_cases c : m.log2 + k ≤ q + 23
    · exact c
    · exfalso
      have h1 : 2 ^ (q + 24) ≤ 2 ^ (m.log2 + k) := Nat.pow_le_pow_right (by decide) (by omega)
      have h2 : 2 ^ (m.log2 + k) ≤ m * 2 ^ k := by rw [Nat.pow_add]; exact Nat.mul_le_mul_right _ hle
      rw [Nat.pow_add] at h1
      have hp := Nat.two_pow_pos q
      generalize m * 2 ^ k = A at *
      generalize 2 ^ (m.log2 + k) = B at *
      generalize 2 ^ q = D at *
      omega
  unfold Format.nearest
  rw [if_neg h0]
  dsimp only
  rw [cut_even, bn1, ir1, lp1, show single.fractionBits = 23 from rfl]
  generalize hL : max (-1074 + (k : Int) + (m.log2 : Int) - ((23 : Nat) : Int)) (-149) = L
  have hL1 : L ≤ 104 := by omega
  have hL2 : -149 ≤ L := by omega
  have hL3 : -1074 + (k : Int) + (m.log2 : Int) - 23 ≤ L := by omega
  have hkept : rne (m <<< (-1074 + (k : Int) - L).toNat) (L - (-1074 + (k : Int))).toNat ≤ 16777216 ∧ (L = 104 → rne (m <<< (-1074 + (k : Int) - L).toNat) (L - (-1074 + (k : Int))).toNat ≤ 16777215) := by
    rw [Nat.shiftLeft_eq]
    constructor
    · refine rne_le ?_
      by_cases c : -1074 + (k : Int) ≤ L
      · rw [show (-1074 + (k : Int) - L).toNat = 0 by omega, Nat.pow_zero, Nat.mul_one, show (16777216 : Nat) = 2 ^ 24 by decide, ← Nat.pow_add]
        exact Nat.le_of_lt (Nat.lt_of_lt_of_le hlt (Nat.pow_le_pow_right (by decide) (by omega)))
      · rw [show (L - (-1074 + (k : Int))).toNat = 0 by omega, Nat.pow_zero, Nat.mul_one, show (16777216 : Nat) = 2 ^ 24 by decide]
        have h1 : m * 2 ^ (-1074 + (k : Int) - L).toNat ≤ 2 ^ (m.log2 + 1) * 2 ^ (-1074 + (k : Int) - L).toNat := Nat.mul_le_mul_right _ (Nat.le_of_lt hlt)
        rw [← Nat.pow_add] at h1
        exact Nat.le_trans h1 (Nat.pow_le_pow_right (by decide) (by omega))
    · intro e
      subst e
      refine rne_le ?_
      by_cases c : k ≤ q
      · rw [show (-1074 + (k : Int) - 104).toNat = 0 by omega, Nat.pow_zero, Nat.mul_one, show ((104 : Int) - (-1074 + (k : Int))).toNat = q - k by omega]
        have e2 : 16777215 * 2 ^ q = (16777215 * 2 ^ (q - k)) * 2 ^ k := by rw [Nat.mul_assoc, ← Nat.pow_add]; congr 2; omega
        rw [e2] at hv
        exact Nat.le_of_mul_le_mul_right hv (Nat.two_pow_pos k)
      · rw [show ((104 : Int) - (-1074 + (k : Int))).toNat = 0 by omega, Nat.pow_zero, Nat.mul_one, show (-1074 + (k : Int) - 104).toNat = k - q by omega]
        have e2 : m * 2 ^ k = (m * 2 ^ (k - q)) * 2 ^ q := by rw [Nat.mul_assoc, ← Nat.pow_add]; congr 2; omega
        rw [e2] at hv
        exact Nat.le_of_mul_le_mul_right hv (Nat.two_pow_pos q)
  generalize rne (m <<< (-1074 + (k : Int) - L).toNat) (L - (-1074 + (k : Int))).toNat = K at *
  have hr : (L - -149).toNat * 8388608 + K < 2139095040 := by
    by_cases c : L = 104
    · have := hkept.2 c
      subst c
      omega
    · have := hkept.1
      omega
  rw [Nat.min_eq_left (by omega)]
  generalize (L - -149).toNat * 8388608 + K = R at *
  have e2 : single.word s R % 2147483648 = R := by
    unfold Format.word; rw [sw1]
    cases s
    · rw [if_neg (by decide), Nat.mod_eq_of_lt (by omega)]
    · rw [if_pos rfl, Nat.add_mod_left, Nat.mod_eq_of_lt (by omega)]
  unfold Format.read
  dsimp only
  rw [sw1, bn1, ir1, lp1, e2]
  by_cases c0 : R < 8388608
  · rw [if_pos c0]; rfl
  · rw [if_neg c0, if_pos hr]; rfl

/-- What is too great for the narrow kind is no narrow number made wide. -/
theorem wide_not {x c : Nat} (h : floatToFloatBits .f64 x .f32 = none) : floatToFloatBits .f32 c .f64 ≠ some x := by
  intro hc
  obtain ⟨q, hq⟩ : ∃ q, q = 1178 := ⟨_, rfl⟩
  rcases read_any1 (c := c) with ⟨s, m, k, e, hm, hk⟩ | ⟨s, e⟩ | ⟨s, f, e⟩
  · rw [wide_some e hm hk] at hc
    have hx := Option.some.inj hc
    have hf := wide_fv s hm hk
    rw [hx] at hf
    obtain ⟨s', m', k', e', hv⟩ := hf
    have hv' := congrArg Int.natAbs hv
    rw [signed_natAbs, signed_natAbs] at hv'
    have hle : m' * 2 ^ k' ≤ 16777215 * 2 ^ q := by
      rw [hv']
      exact Nat.mul_le_mul (by omega) (Nat.pow_le_pow_right (by decide) (by omega))
    unfold floatToFloatBits at h
    rw [if_neg (by decide), show FloatKind.f64.decode x = _ from e'] at h
    dsimp only at h
    by_cases h0 : m' = 0
    · subst h0
      have : (FloatKind.f32.decode (FloatKind.f32.encode (.number s' 0 (-1074 + (k' : Int))))).isInfinity = false := by
        show (single.read (single.nearest s' 0 (-1074 + (k' : Int)))).isInfinity = false
        unfold Format.nearest
        rw [if_pos rfl]
        cases s' <;> decide +kernel
      rw [this] at h
      cases h
    · have := narrow_fits s' hq h0 hle
      rw [show (FloatKind.f32.decode (FloatKind.f32.encode (.number s' m' (-1074 + (k' : Int))))).isInfinity = false from this] at h
      cases h
  · unfold floatToFloatBits at hc
    rw [if_neg (by decide), show FloatKind.f32.decode c = _ from e] at hc
    dsimp only at hc
    have hx := Option.some.inj hc
    have hr : double.read x = .infinity s := by
      rw [← hx]
      show double.read (double.word s double.infRung) = _
      cases s <;> decide +kernel
    unfold floatToFloatBits at h
    rw [if_neg (by decide), show FloatKind.f64.decode x = _ from hr] at h
    cases h
  · unfold floatToFloatBits at hc
    rw [if_neg (by decide), show FloatKind.f32.decode c = _ from e] at hc
    cases hc
end Go.Proofs.Ytfklhipjccempaa
