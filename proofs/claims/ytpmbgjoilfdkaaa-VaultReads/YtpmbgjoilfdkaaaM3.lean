/- Which bits are those of a whole number. Whole numbers: what the document's Whole tells of any number. Numbers of the narrow kind: what is too great for it is none of its numbers made wide. Whole numbers: the document's Whole. Numbers made narrow: what the document's Narrow tells of any number. The document's Whole and Narrow, of any number. -/
import Derived.Test.YtpmbgjoilfdkaaaM2
import Derived.Deep.Draws
import Derived.Laws.ComplexArith
namespace Go.Proofs.Ytpmbgjoilfdkaaa
open Go.RowKit Fl Ieee

theorem read_any {b : Nat} : (∃ (s : Bool) (m k : Nat), double.read b = .number s m (-1074 + (k : Int)) ∧ m < 9007199254740992 ∧ k ≤ 2045) ∨ (∃ s, double.read b = .infinity s) ∨ ∃ s f, double.read b = .nan s f := by
  unfold Format.read
  dsimp only
  rw [sw, bn, ir, lp]
  by_cases c0 : b % 9223372036854775808 < 4503599627370496
  · rw [if_pos c0]
    exact Or.inl ⟨_, _, 0, rfl, by omega, by omega⟩
  · rw [if_neg c0]
    by_cases c1 : b % 9223372036854775808 < 9218868437227405312
    · rw [if_pos c1]
      exact Or.inl ⟨_, _, _, rfl, by omega, by omega⟩
    · rw [if_neg c1]
      by_cases c2 : b % 9223372036854775808 = 9218868437227405312
      · rw [if_pos c2]
        exact Or.inr (Or.inl ⟨_, rfl⟩)
      · rw [if_neg c2]
        exact Or.inr (Or.inr ⟨_, _, rfl⟩)

theorem fv_of {b : Nat} {s : Bool} {m k : Nat} (h : double.read b = .number s m (-1074 + (k : Int))) : FV b (signed s m k) := ⟨s, m, k, h, rfl⟩

def truncB (b : Nat) : Nat := FloatKind.f64.encode ((FloatKind.f64.decode b).integral .zero)

theorem nearest_iv (s : Bool) (N : Nat) (hN : N < 2 ^ 53) : IV (double.nearest s N 0) (signed s N 0) := by
  refine ⟨1074, rfl, ?_⟩
  generalize hq : (1074 : Nat) = q
  have := nearest_fv s (N * 2 ^ (q + q)) q (-1074 - (q : Int)) N q rfl rfl hN (by have := log2_le_of_lt hN; omega)
  have hsq : signed s N q = signed s N 0 * 2 ^ q := by
    have := signed_split s N 0 q
    rw [Nat.zero_add] at this
    exact this
  rw [hsq] at this
  by_cases h0 : N = 0
  · subst h0
    have hz : signed s 0 0 = 0 := by cases s <;> rfl
    rw [hz, Int.zero_mul]
    refine ⟨s, 0, 0, ?_, hz⟩
    unfold Format.nearest
    rw [if_pos rfl]
    exact read_zero _
  · rw [nearest_scale _ _ _ _ (by omega), show -1074 - (q : Int) + ((q + q : Nat) : Int) = 0 by omega] at this
    exact this

theorem trunc_fv {b : Nat} {v : Int} (h : FV b v) (q : Nat) (hq : q = 1074) : ∃ s : Bool, truncB b = double.nearest s (v.natAbs / 2 ^ q) 0 := by
  obtain ⟨s, m, k, e, rfl⟩ := h
  refine ⟨s, ?_⟩
  show double.write ((double.read b).integral .zero) = _
  rw [e, signed_natAbs]
  unfold Datum.integral
  dsimp only
  rw [cut_zero, Nat.shiftLeft_eq]
  show double.nearest _ _ _ = _
  congr 1
  by_cases c : q ≤ k
  · rw [show (-(-1074 + (k : Int))).toNat = 0 by omega, Nat.pow_zero, Nat.div_one, show (-1074 + (k : Int)).toNat = k - q by omega]
    conv => rhs; rw [show k = (k - q) + q by omega, Nat.pow_add, ← Nat.mul_assoc, Nat.mul_div_cancel _ (Nat.two_pow_pos _)]
  · rw [show (-1074 + (k : Int)).toNat = 0 by omega, Nat.pow_zero, Nat.mul_one, show (-(-1074 + (k : Int))).toNat = q - k by omega]
    conv => rhs; rw [show q = (q - k) + k by omega, Nat.pow_add, Nat.mul_div_mul_right _ _ (Nat.two_pow_pos _)]

theorem fv_abs {b : Nat} {v : Int} (h : FV b v) : FV (b % 9223372036854775808) v.natAbs := by
  obtain ⟨s, m, k, e, rfl⟩ := h
  refine ⟨false, m, k, read_mod b s m _ e, ?_⟩
  rw [signed_natAbs, signed_eq]
  rfl

/-- What is a whole number of at most M, and no nought with a sign. -/
def Wh (M b : Nat) : Prop := ∃ n : Int, IV b n ∧ (n = 0 → b = 0) ∧ n.natAbs ≤ M

theorem cmp_eq {x y : Int} : (some (compare x y) == some Ordering.eq) = decide (x = y) := by
  by_cases c : x = y
  · subst c
    rw [show compare x x = .eq from Int.compare_eq_eq.2 rfl]
    simp
  · rw [decide_eq_false c, beq_eq_false_iff_ne]
    intro h
    exact c (Int.compare_eq_eq.1 (Option.some.inj h))

/-- A finite number is held against its whole part. -/
theorem whole_trunc {b : Nat} {v : Int} (h : FV b v) (q : Nat) (hq : q = 1074) (hN : v.natAbs / 2 ^ q < 2 ^ 53) :
    (double.order b (truncB b) = some .eq) ↔ ∃ n : Int, IV b n := by
  constructor
  · intro ho
    obtain ⟨s, hs⟩ := trunc_fv h q hq
    obtain ⟨q', hq', hT⟩ := nearest_iv s _ hN
    rw [← hs] at hT
    rw [fv_order h hT] at ho
    have := Int.compare_eq_eq.1 (Option.some.inj ho)
    exact ⟨_, q', hq', this ▸ h⟩
  · rintro ⟨n, hn⟩
    obtain ⟨q', hq', hf⟩ := hn
    have e : v = n * 2 ^ q' := fv_unique h hf
    have e2 : v.natAbs / 2 ^ q = n.natAbs := by
      rw [e, natAbs_scale, hq', ← hq]
      exact Nat.mul_div_cancel _ (Nat.two_pow_pos _)
    rw [e2] at hN
    have hT := iv_trunc ⟨q', hq', hf⟩ hN
    rw [show double.order b (truncB b) = _ from iv_order ⟨q', hq', hf⟩ hT]
    rw [show compare n n = .eq from Int.compare_eq_eq.2 rfl]

theorem iv_le {b : Nat} {n : Int} {M : Nat} (h : IV b n) (hM : M < 2 ^ 53) : double.order (b % 9223372036854775808) (floatOfInt .f64 (M : Int)) = some (compare (n.natAbs : Int) M) :=
  iv_order (iv_abs h) (iv_ofInt M (by rw [Int.natAbs_natCast]; exact hM))

theorem fv_big {b : Nat} {v : Int} {M : Nat} (h : FV b v) (q : Nat) (hq : q = 1074) (hN : ¬ v.natAbs / 2 ^ q < 2 ^ 53) (hM : M < 2 ^ 53) : double.order (b % 9223372036854775808) (floatOfInt .f64 (M : Int)) = some .gt ∧ ¬ Wh M b := by
  have hp := Nat.two_pow_pos q
  have hlt : M * 2 ^ q < v.natAbs := by
    have h1 : M < v.natAbs / 2 ^ q := by omega
    have h2 : (M + 1) * 2 ^ q ≤ v.natAbs := (Nat.le_div_iff_mul_le hp).1 h1
    rw [Nat.add_mul, Nat.one_mul] at h2
    omega
  constructor
  · obtain ⟨q', hq', hf⟩ := iv_ofInt (M : Int) (by rw [Int.natAbs_natCast]; exact hM)
    obtain rfl : q' = q := by omega
    rw [fv_order (fv_abs h) hf]
    congr 1
    refine Int.compare_eq_gt.2 ?_
    have : ((M * 2 ^ q' : Nat) : Int) < (v.natAbs : Int) := by exact_mod_cast hlt
    rw [Int.natCast_mul, Int.natCast_pow] at this
    exact this
  · rintro ⟨n, ⟨q', hq', hf⟩, _, hle⟩
    have e : v = n * 2 ^ q' := fv_unique h hf
    obtain rfl : q' = q := by omega
    rw [e, natAbs_scale] at hlt
    have := Nat.lt_of_mul_lt_mul_right hlt
    omega
end Go.Proofs.Ytpmbgjoilfdkaaa

namespace Go.Proofs.Ytpmbgjoilfdkaaa
open Go.RowKit Fl Ieee

theorem inf_bits {b : Nat} {s : Bool} (h : double.read b = .infinity s) : b % 9223372036854775808 = 9218868437227405312 := by
  unfold Format.read at h
  dsimp only at h
  rw [sw, bn, ir, lp] at h
  by_cases c0 : b % 9223372036854775808 < 4503599627370496
  · rw [if_pos c0] at h; cases h
  · rw [if_neg c0] at h
    by_cases c1 : b % 9223372036854775808 < 9218868437227405312
    · rw [if_pos c1] at h; cases h
    · rw [if_neg c1] at h
      by_cases c2 : b % 9223372036854775808 = 9218868437227405312
      · exact c2
      · rw [if_neg c2] at h; cases h
theorem nan_bits {b : Nat} {s : Bool} {f : Nat} (h : double.read b = .nan s f) : ∃ f', double.read (b % 9223372036854775808) = .nan false f' := by
  unfold Format.read at h ⊢
  dsimp only at h ⊢
  rw [sw, bn, ir, lp] at h ⊢
  have e1 : b % 9223372036854775808 / 9223372036854775808 % 2 = 0 := by omega
  have e2 : b % 9223372036854775808 % 9223372036854775808 = b % 9223372036854775808 := by omega
  rw [e1, e2]
  by_cases c0 : b % 9223372036854775808 < 4503599627370496
  · rw [if_pos c0] at h; cases h
  · rw [if_neg c0] at h
    by_cases c1 : b % 9223372036854775808 < 9218868437227405312
    · rw [if_pos c1] at h; cases h
    · rw [if_neg c1] at h
      by_cases c2 : b % 9223372036854775808 = 9218868437227405312
      · rw [if_pos c2] at h; cases h
      · rw [if_neg c0, if_neg c1, if_neg c2]
        exact ⟨_, rfl⟩

theorem fv_max (j : Nat) (hj : j = 2045) : FV 9218868437227405311 (signed false 9007199254740991 j) := ⟨false, 9007199254740991, j, by subst hj; decide +kernel, rfl⟩
theorem not_above {b : Nat} {s : Bool} {m k : Nat} (h : double.read b = .number s m (-1074 + (k : Int))) (hm : m < 9007199254740992) (hk : k ≤ 2045) : (double.order (b % 9223372036854775808) 9218868437227405311 == some .gt) = false := by
  obtain ⟨j, hj⟩ : ∃ j, j = 2045 := ⟨_, rfl⟩
  rw [fv_order (fv_abs (fv_of h)) (fv_max j hj), beq_eq_false_iff_ne]
  intro c
  have h1 := Int.compare_eq_gt.1 (Option.some.inj c)
  rw [signed_natAbs, signed_eq, if_neg (by decide)] at h1
  have h2 : m * 2 ^ k ≤ 9007199254740991 * 2 ^ j := Nat.mul_le_mul (by omega) (Nat.pow_le_pow_right (by decide) (by omega))
  exact absurd (Int.ofNat_lt.1 h1) (by omega)

set_option maxRecDepth 100000 in
set_option maxHeartbeats 400000 in
theorem isInf_any (b : Nat) (hb : b < 18446744073709551616) (w : World) :
    Calls Try.prog 81 #[.float .f64 b, .int .i64 0] w fun r w' => ∃ t : Bool, r = .returned (.bool t) ∧ (t = true ↔ ∃ s, double.read b = .infinity s) ∧ w' = w := by
  have hA := hide fun w => abs_any b w hb
  have hd : ∃ t : Bool, Hid (t = true ↔ ∃ s, double.read b = .infinity s) ∧ (FloatKind.f64.format.order (b % 9223372036854775808) 9218868437227405311 == some .gt) = t := by
    rcases read_any (b := b) with ⟨s, m, k, e, hm, hk⟩ | ⟨s, e⟩ | ⟨s, f, e⟩
    · exact ⟨false, ⟨fun h => absurd h (by decide), fun ⟨s', h⟩ => by rw [e] at h; cases h⟩, not_above e hm hk⟩
    · refine ⟨true, ⟨fun _ => ⟨s, e⟩, fun _ => rfl⟩, ?_⟩
      rw [inf_bits e]
      decide +kernel
    · obtain ⟨f', hf⟩ := nan_bits e
      refine ⟨false, ⟨fun h => absurd h (by decide), fun ⟨s', h⟩ => by rw [e] at h; cases h⟩, ?_⟩
      show ((double.read _).order _ == _) = _
      rw [hf]
      rfl
  obtain ⟨t, ht, ho⟩ := hd
  generalize b % 9223372036854775808 = B at *
  go_enter Try.func81, Try.ntmps81
  go_wp2_with (first | (go_at_call 87; refine (unhide hA _).mono ?_; rintro e w' ⟨rfl, rfl⟩))
  go_ret
  exact ⟨t, rfl, unhide ht, rfl⟩

theorem archNan (b : Nat) (s : Bool) (f : Nat) (h : FloatKind.f64.decode b = .nan s f) (w : World) :
    ∃ x d, (callFunc 91 #[.float .f64 b]).run Try.prog w = .ok (.value (.float .f64 x)) (w.drewN d) := by
  rw [run_callFunc_extern (e := Extern.MathFloor.toIntegral "math.archTrunc" .zero) Try.func91 (by kernel_rfl) (by kernel_rfl) (by kernel_rfl) (by kernel_rfl)]
  have key : ∃ x d, (Extern.MathFloor.toIntegral "math.archTrunc" .zero #[.float .f64 b]).run Try.prog w = .ok (.float .f64 x) (w.drewN d) := by
    unfold Extern.MathFloor.toIntegral
    unfold Extern.MathFloor.toIntegral.match_2
    rw [dif_pos (by rfl)]
    dsimp only [Extern.MathFloor.toIntegral._sparseCasesOn_2, Extern.MathFloor.toIntegral._sparseCasesOn_3, Array.getLit, List.getElem_toArray, List.getElem_cons_zero]
    rw [h]
    dsimp only
    by_cases c : FloatKind.f64.format.quiet f = f
    · rw [if_pos c]
      exact ⟨_, 0, rfl⟩
    · rw [if_neg c]
      exact ⟨_, 1, rfl⟩
  obtain ⟨x, d, hk⟩ := key
  rw [hk]
  exact ⟨x, d, rfl⟩

set_option maxRecDepth 100000 in
set_option maxHeartbeats 400000 in
theorem trunc_nan (b : Nat) (s : Bool) (f : Nat) (h : FloatKind.f64.decode b = .nan s f) (w : World) :
    Calls Try.prog 88 #[.float .f64 b] w fun e w' => ∃ x d, e = .returned (.float .f64 x) ∧ w' = w.drewN d := by
  obtain ⟨x, d, k⟩ := archNan b s f h w
  clear h
  go_enter Try.func88, Try.ntmps88
  go_wp2
  go_ret
  exact ⟨x, d, rfl, rfl⟩
end Go.Proofs.Ytpmbgjoilfdkaaa

namespace Go.Proofs.Ytpmbgjoilfdkaaa
open Go.RowKit Fl Ieee

theorem sw1 : single.signWeight = 2147483648 := rfl
theorem bn1 : single.binade = 8388608 := rfl
theorem ir1 : single.infRung = 2139095040 := rfl
theorem lp1 : single.leastPlace = -149 := rfl

theorem read_any1 {c : Nat} : (∃ (s : Bool) (m k : Nat), single.read c = .number s m (-149 + (k : Int)) ∧ m < 16777216 ∧ k ≤ 253) ∨ (∃ s, single.read c = .infinity s) ∨ ∃ s f, single.read c = .nan s f := by
  unfold Format.read
  dsimp only
  rw [sw1, bn1, ir1, lp1]
  by_cases c0 : c % 2147483648 < 8388608
  · rw [if_pos c0]
    exact Or.inl ⟨_, _, 0, rfl, by omega, by omega⟩
  · rw [if_neg c0]
    by_cases c1 : c % 2147483648 < 2139095040
    · rw [if_pos c1]
      exact Or.inl ⟨_, _, _, rfl, by omega, by omega⟩
    · rw [if_neg c1]
      by_cases c2 : c % 2147483648 = 2139095040
      · rw [if_pos c2]
        exact Or.inr (Or.inl ⟨_, rfl⟩)
      · rw [if_neg c2]
        exact Or.inr (Or.inr ⟨_, _, rfl⟩)

/-- A narrow number made wide is exact. -/
theorem wide_fv (s : Bool) {m k : Nat} (hm : m < 16777216) (hk : k ≤ 253) : FV (double.nearest s m (-149 + (k : Int))) (signed s m (925 + k)) := by
  by_cases h0 : m = 0
  · subst h0
    refine ⟨s, 0, 0, ?_, ?_⟩
    · unfold Format.nearest
      rw [if_pos rfl]
      exact read_zero s
    · rw [signed_eq, signed_eq, Nat.zero_mul, Nat.zero_mul]
  · have hl := log2_le_of_lt (M := m) (by omega)
    obtain ⟨m', j, e1, e2⟩ := nearest_exact s m (925 + k) h0 (by omega) (by omega)
    rw [show -1074 + ((925 + k : Nat) : Int) = -149 + (k : Int) by omega] at e1
    exact ⟨s, m', j, e1, by rw [signed_eq, signed_eq, e2]⟩

theorem wide_some {c : Nat} {s : Bool} {m k : Nat} (h : single.read c = .number s m (-149 + (k : Int))) (hm : m < 16777216) (hk : k ≤ 253) : floatToFloatBits .f32 c .f64 = some (double.nearest s m (-149 + (k : Int))) := by
  unfold floatToFloatBits
  rw [if_neg (by decide), show FloatKind.f32.decode c = _ from h]
  dsimp only
  show (if (double.read (double.nearest s m (-149 + (k : Int)))).isInfinity = true then none else some (double.nearest s m (-149 + (k : Int)))) = _
  obtain ⟨_, _, _, e, _⟩ := wide_fv s hm hk
  rw [e]
  rfl

theorem rne_le {n K d : Nat} (h : n ≤ K * 2 ^ d) : rne n d ≤ K := by
  have h1 := (rne_bounds n d).1
  have hp := Nat.two_pow_pos d
  by_cases c : rne n d ≤ K
  · exact c
  · exfalso
    have h2 : (K + 1) * 2 ^ d ≤ rne n d * 2 ^ d := Nat.mul_le_mul_right _ (by omega)
    rw [Nat.add_mul, Nat.one_mul] at h2
    generalize rne n d * 2 ^ d = A at *
    generalize K * 2 ^ d = B at *
    generalize 2 ^ d = D at *
    omega

theorem narrow_fits (s : Bool) {m k q : Nat} (hq : q = 1178) (h0 : m ≠ 0) (hv : m * 2 ^ k ≤ 16777215 * 2 ^ q) : (single.read (single.nearest s m (-1074 + (k : Int)))).isInfinity = false := by
  have hlt : m < 2 ^ (m.log2 + 1) := Nat.lt_log2_self
  have hle := Nat.log2_self_le h0
  have hP : m.log2 + k ≤ q + 23 := by
    by_cases c : m.log2 + k ≤ q + 23
    · exact c
    · exfalso
      have h1 : 2 ^ (q + 24) ≤ 2 ^ (m.log2 + k) := Nat.pow_le_pow_right (by decide) (by omega)
      have h2 : 2 ^ (m.log2 + k) ≤ m * 2 ^ k := by rw [Nat.pow_add]; exact Nat.mul_le_mul_right _ hle
      rw [Nat.pow_add] at h1
      have hp := Nat.two_pow_pos q
      generalize m * 2 ^ k = A at *
      generalize 2 ^ (m.log2 + k) = B at *
      generalize 2 ^ q = D at *
      omega
  unfold Format.nearest
  rw [if_neg h0]
  dsimp only
  rw [cut_even, bn1, ir1, lp1, show single.fractionBits = 23 from rfl]
  generalize hL : max (-1074 + (k : Int) + (m.log2 : Int) - ((23 : Nat) : Int)) (-149) = L
  have hL1 : L ≤ 104 := by omega
  have hL2 : -149 ≤ L := by omega
  have hL3 : -1074 + (k : Int) + (m.log2 : Int) - 23 ≤ L := by omega
  have hkept : rne (m <<< (-1074 + (k : Int) - L).toNat) (L - (-1074 + (k : Int))).toNat ≤ 16777216 ∧ (L = 104 → rne (m <<< (-1074 + (k : Int) - L).toNat) (L - (-1074 + (k : Int))).toNat ≤ 16777215) := by
    rw [Nat.shiftLeft_eq]
    constructor
    · refine rne_le ?_
      by_cases c : -1074 + (k : Int) ≤ L
      · rw [show (-1074 + (k : Int) - L).toNat = 0 by omega, Nat.pow_zero, Nat.mul_one, show (16777216 : Nat) = 2 ^ 24 by decide, ← Nat.pow_add]
        exact Nat.le_of_lt (Nat.lt_of_lt_of_le hlt (Nat.pow_le_pow_right (by decide) (by omega)))
      · rw [show (L - (-1074 + (k : Int))).toNat = 0 by omega, Nat.pow_zero, Nat.mul_one, show (16777216 : Nat) = 2 ^ 24 by decide]
        have h1 : m * 2 ^ (-1074 + (k : Int) - L).toNat ≤ 2 ^ (m.log2 + 1) * 2 ^ (-1074 + (k : Int) - L).toNat := Nat.mul_le_mul_right _ (Nat.le_of_lt hlt)
        rw [← Nat.pow_add] at h1
        exact Nat.le_trans h1 (Nat.pow_le_pow_right (by decide) (by omega))
    · intro e
      subst e
      refine rne_le ?_
      by_cases c : k ≤ q
      · rw [show (-1074 + (k : Int) - 104).toNat = 0 by omega, Nat.pow_zero, Nat.mul_one, show ((104 : Int) - (-1074 + (k : Int))).toNat = q - k by omega]
        have e2 : 16777215 * 2 ^ q = (16777215 * 2 ^ (q - k)) * 2 ^ k := by rw [Nat.mul_assoc, ← Nat.pow_add]; congr 2; omega
        rw [e2] at hv
        exact Nat.le_of_mul_le_mul_right hv (Nat.two_pow_pos k)
      · rw [show ((104 : Int) - (-1074 + (k : Int))).toNat = 0 by omega, Nat.pow_zero, Nat.mul_one, show (-1074 + (k : Int) - 104).toNat = k - q by omega]
        have e2 : m * 2 ^ k = (m * 2 ^ (k - q)) * 2 ^ q := by rw [Nat.mul_assoc, ← Nat.pow_add]; congr 2; omega
        rw [e2] at hv
        exact Nat.le_of_mul_le_mul_right hv (Nat.two_pow_pos q)
  generalize rne (m <<< (-1074 + (k : Int) - L).toNat) (L - (-1074 + (k : Int))).toNat = K at *
  have hr : (L - -149).toNat * 8388608 + K < 2139095040 := by
    by_cases c : L = 104
    · have := hkept.2 c
      subst c
      omega
    · have := hkept.1
      omega
  rw [Nat.min_eq_left (by omega)]
  generalize (L - -149).toNat * 8388608 + K = R at *
  have e2 : single.word s R % 2147483648 = R := by
    unfold Format.word; rw [sw1]
    cases s
    · rw [if_neg (by decide), Nat.mod_eq_of_lt (by omega)]
    · rw [if_pos rfl, Nat.add_mod_left, Nat.mod_eq_of_lt (by omega)]
  unfold Format.read
  dsimp only
  rw [sw1, bn1, ir1, lp1, e2]
  by_cases c0 : R < 8388608
  · rw [if_pos c0]; rfl
  · rw [if_neg c0, if_pos hr]; rfl

/-- What is too great for the narrow kind is no narrow number made wide. -/
theorem wide_not {x c : Nat} (h : floatToFloatBits .f64 x .f32 = none) : floatToFloatBits .f32 c .f64 ≠ some x := by
  intro hc
  obtain ⟨q, hq⟩ : ∃ q, q = 1178 := ⟨_, rfl⟩
  rcases read_any1 (c := c) with ⟨s, m, k, e, hm, hk⟩ | ⟨s, e⟩ | ⟨s, f, e⟩
  · rw [wide_some e hm hk] at hc
    have hx := Option.some.inj hc
    have hf := wide_fv s hm hk
    rw [hx] at hf
    obtain ⟨s', m', k', e', hv⟩ := hf
    have hv' := congrArg Int.natAbs hv
    rw [signed_natAbs, signed_natAbs] at hv'
    have hle : m' * 2 ^ k' ≤ 16777215 * 2 ^ q := by
      rw [hv']
      exact Nat.mul_le_mul (by omega) (Nat.pow_le_pow_right (by decide) (by omega))
    unfold floatToFloatBits at h
    rw [if_neg (by decide), show FloatKind.f64.decode x = _ from e'] at h
    dsimp only at h
    by_cases h0 : m' = 0
    · subst h0
      have : (FloatKind.f32.decode (FloatKind.f32.encode (.number s' 0 (-1074 + (k' : Int))))).isInfinity = false := by
        show (single.read (single.nearest s' 0 (-1074 + (k' : Int)))).isInfinity = false
        unfold Format.nearest
        rw [if_pos rfl]
        cases s' <;> decide +kernel
      rw [this] at h
      cases h
    · have := narrow_fits s' hq h0 hle
      rw [show (FloatKind.f32.decode (FloatKind.f32.encode (.number s' m' (-1074 + (k' : Int))))).isInfinity = false from this] at h
      cases h
  · unfold floatToFloatBits at hc
    rw [if_neg (by decide), show FloatKind.f32.decode c = _ from e] at hc
    dsimp only at hc
    have hx := Option.some.inj hc
    have hr : double.read x = .infinity s := by
      rw [← hx]
      show double.read (double.word s double.infRung) = _
      cases s <;> decide +kernel
    unfold floatToFloatBits at h
    rw [if_neg (by decide), show FloatKind.f64.decode x = _ from hr] at h
    cases h
  · unfold floatToFloatBits at hc
    rw [if_neg (by decide), show FloatKind.f32.decode c = _ from e] at hc
    cases hc
end Go.Proofs.Ytpmbgjoilfdkaaa

namespace Go.Proofs.Ytpmbgjoilfdkaaa
open Go.RowKit Fl Ieee

theorem archInf (b : Nat) (s : Bool) (h : FloatKind.f64.decode b = .infinity s) (w : World) :
    (callFunc 91 #[.float .f64 b]).run Try.prog w = .ok (.value (.float .f64 (truncB b))) w := by
  rw [run_callFunc_extern (e := Extern.MathFloor.toIntegral "math.archTrunc" .zero) Try.func91 (by kernel_rfl) (by kernel_rfl) (by kernel_rfl) (by kernel_rfl)]
  have key : (Extern.MathFloor.toIntegral "math.archTrunc" .zero #[.float .f64 b]).run Try.prog w = .ok (.float .f64 (truncB b)) w := by
    unfold Extern.MathFloor.toIntegral
    unfold Extern.MathFloor.toIntegral.match_2
    rw [dif_pos (by rfl)]
    dsimp only [Extern.MathFloor.toIntegral._sparseCasesOn_2, Extern.MathFloor.toIntegral._sparseCasesOn_3, Array.getLit, List.getElem_toArray, List.getElem_cons_zero]
    unfold truncB
    rw [h]
    rfl
  rw [key]
  rfl

set_option maxRecDepth 100000 in
set_option maxHeartbeats 400000 in
theorem trunc_inf (b : Nat) (s : Bool) (h : FloatKind.f64.decode b = .infinity s) (w : World) :
    Calls Try.prog 88 #[.float .f64 b] w fun e w' => e = .returned (.float .f64 (truncB b)) ∧ w' = w := by
  have k := archInf b s h
  clear h
  go_enter Try.func88, Try.ntmps88
  go_wp2
  go_ret
  exact ⟨rfl, rfl⟩

/-- What Trunc may answer. -/
def TrOk (b : Nat) (x : Nat) : Prop := (∃ s f, double.read b = .nan s f) ∨ x = truncB b
theorem trunc_all (b : Nat) (w : World) : Calls Try.prog 88 #[.float .f64 b] w fun e w' => ∃ x d, e = .returned (.float .f64 x) ∧ TrOk b x ∧ w' = w.drewN d := by
  rcases read_any (b := b) with ⟨s, m, k, e, hm, hk⟩ | ⟨s, e⟩ | ⟨s, f, e⟩
  · exact (trunc_any b s m _ e w).mono fun _ _ ⟨h1, h2⟩ => ⟨_, 0, h1, .inr rfl, h2⟩
  · exact (trunc_inf b s e w).mono fun _ _ ⟨h1, h2⟩ => ⟨_, 0, h1, .inr rfl, h2⟩
  · exact (trunc_nan b s f e w).mono fun _ _ ⟨x, d, h1, h2⟩ => ⟨x, d, h1, .inl ⟨s, f, e⟩, h2⟩

theorem wh_zero {M b : Nat} (h : FV b 0) : Wh M b ↔ b = 0 := by
  constructor
  · rintro ⟨n, ⟨q, hq, hf⟩, h0, _⟩
    have e := fv_unique h hf
    have hp : (0 : Int) < 2 ^ q := Int.pow_pos (by decide)
    refine h0 ?_
    rcases Int.mul_eq_zero.1 e.symm with h | h
    · exact h
    · omega
  · rintro rfl
    exact ⟨0, iv_zero, fun _ => rfl, Nat.zero_le _⟩

theorem wh_not {M b : Nat} {d : Datum} (h : double.read b = d) (hd : ∀ s m p, d ≠ .number s m p) : ¬ Wh M b := by
  rintro ⟨n, ⟨q, hq, s, m, k, e, _⟩, _⟩
  rw [h] at e
  exact hd _ _ _ e

theorem part_cases {b M : Nat} (hM : M < 2 ^ 53) (h0 : (double.order b 0 == some .eq) = false) (x : Nat) (hx : TrOk b x) :
    ((double.order b x == some .eq) = false ∧ ¬ Wh M b) ∨ ((double.order b x == some .eq) = true ∧ ∃ o, double.order (b % 9223372036854775808) (floatOfInt .f64 (M : Int)) = some o ∧ (o ≠ .gt ↔ Wh M b)) := by
  obtain ⟨q, hq⟩ : ∃ q, q = 1074 := ⟨_, rfl⟩
  rcases read_any (b := b) with ⟨s, m, k, e, hm, hk⟩ | ⟨s, e⟩ | ⟨s, f, e⟩
  · have hv := fv_of e
    generalize signed s m k = v at hv
    have hx' : x = truncB b := by
      rcases hx with ⟨s', f', h⟩ | h
      · rw [e] at h; cases h
      · exact h
    subst hx'
    by_cases hN : v.natAbs / 2 ^ q < 2 ^ 53
    · by_cases ho : double.order b (truncB b) = some .eq
      · obtain ⟨n, hn⟩ := (whole_trunc hv q hq hN).1 ho
        refine Or.inr ⟨by rw [ho]; rfl, _, iv_le hn hM, ?_⟩
        constructor
        · intro hg
          refine ⟨n, hn, fun hz => ?_, ?_⟩
          · subst hz
            rw [show double.order b 0 = _ from iv_order hn iv_zero] at h0
            exact absurd h0 (by decide)
          · by_cases c : n.natAbs ≤ M
            · exact c
            · exact absurd (Int.compare_eq_gt.2 (by omega)) hg
        · rintro ⟨n', hn', _, hle⟩ hg
          have hg' := Int.compare_eq_gt.1 hg
          obtain ⟨q1, h1, f1⟩ := hn
          obtain ⟨q2, h2, f2⟩ := hn'
          obtain rfl : q1 = q2 := by omega
          have e3 := fv_unique f1 f2
          have hp : (0 : Int) < 2 ^ q1 := Int.pow_pos (by decide)
          have e4 : n = n' := Int.eq_of_mul_eq_mul_right (Int.ne_of_gt hp) e3
          subst e4
          omega
      · refine Or.inl ⟨by rw [beq_eq_false_iff_ne]; exact ho, ?_⟩
        rintro ⟨n, hn, _⟩
        exact ho ((whole_trunc hv q hq hN).2 ⟨n, hn⟩)
    · obtain ⟨hg, hw⟩ := fv_big hv q hq hN hM
      by_cases ho : double.order b (truncB b) = some .eq
      · exact Or.inr ⟨by rw [ho]; rfl, _, hg, ⟨fun h => absurd rfl h, fun h => absurd h hw⟩⟩
      · exact Or.inl ⟨by rw [beq_eq_false_iff_ne]; exact ho, hw⟩
  · have hw : ¬ Wh M b := wh_not e (by intro _ _ _ h; cases h)
    by_cases ho : double.order b x = some .eq
    · refine Or.inr ⟨by rw [ho]; rfl, .gt, ?_, ⟨fun h => absurd rfl h, fun h => absurd h hw⟩⟩
      obtain ⟨_, _, s', m', k', e', _⟩ := iv_ofInt (M : Int) (by rw [Int.natAbs_natCast]; exact hM)
      rw [inf_bits e]
      show (double.read _).order (double.read _) = _
      rw [e', show double.read 9218868437227405312 = .infinity false by decide +kernel]
      rfl
    · exact Or.inl ⟨by rw [beq_eq_false_iff_ne]; exact ho, hw⟩
  · refine Or.inl ⟨?_, wh_not e (by intro _ _ _ h; cases h)⟩
    show ((double.read b).order _ == _) = _
    rw [e]
    rfl

set_option maxRecDepth 100000 in
set_option maxHeartbeats 800000 in
theorem refWholePart (b M : Nat) (hb : b < 18446744073709551616) (hM : M < 2 ^ 53) (w : World) :
    Calls Try.prog 82 #[.float .f64 b, .int .i64 M] w fun r w' => ∃ (t : Bool) (d : Nat), r = .returned (.bool t) ∧ (t = true ↔ Wh M b) ∧ w' = w.drewN d := by
  have k1 := bits32
  by_cases h0 : double.order b 0 = some .eq
  · have hz : FV b 0 := by
      rcases read_any (b := b) with ⟨s, m, k, e, hm, hk⟩ | ⟨s, e⟩ | ⟨s, f, e⟩
      · have hv := fv_of e
        rw [fv_order hv fv_nought] at h0
        rw [Int.compare_eq_eq.1 (Option.some.inj h0)] at hv
        exact hv
      · exfalso
        have : (double.read b).order (double.read 0) = some .eq := h0
        rw [e, show double.read 0 = .number false 0 (-1074) by decide +kernel] at this
        cases s <;> exact absurd this (by decide)
      · exfalso
        have : (double.read b).order (double.read 0) = some .eq := h0
        rw [e] at this
        cases this
    have hW : Hid ((((b : Int) == 0) = true) ↔ Wh M b) := by
      show _ ↔ _
      rw [wh_zero hz]
      simp
    have ho : (FloatKind.f64.format.order b 0 == some .eq) = true := by rw [show FloatKind.f64.format.order b 0 = some .eq from h0]; rfl
    clear hz h0
    go_enter Try.func82, Try.ntmps82
    go_wp2
    go_ret
    exact ⟨_, 0, rfl, unhide hW, rfl⟩
  · have h0' : (FloatKind.f64.format.order b 0 == some .eq) = false := by rw [beq_eq_false_iff_ne]; exact h0
    have hC := hide (fun x hx => part_cases (x := x) hM h0' hx)
    have hA := hide fun w => abs_any b w hb
    have hT := hide (trunc_all b)
    clear h0 hM
    generalize b % 9223372036854775808 = B at *
    go_enter Try.func82, Try.ntmps82
    go_wp2_with fail
    refine (unhide hT _).mono ?_
    rintro e w1 ⟨x, d, rfl, hx, rfl⟩
    rcases unhide hC x hx with ⟨ho, hw⟩ | ⟨ho, o, ho2, hw⟩
    · have ho' : (FloatKind.f64.format.order b x == some .eq) = false := ho
      have hW := hide hw
      clear hw ho hC
      go_wp2_with fail
      go_ret
      exact ⟨false, d, rfl, ⟨fun h => absurd h (by decide), fun h => absurd h (unhide hW)⟩, rfl⟩
    · have ho' : (FloatKind.f64.format.order b x == some .eq) = true := ho
      have hW := hide hw
      have ho3 : FloatKind.f64.format.order B (floatOfInt .f64 (M : Int)) = some o := ho2
      clear hw ho hC ho2
      go_wp2_with (first | (go_at_call 87; refine (unhide hA _).mono ?_; rintro e w' ⟨rfl, rfl⟩))
      go_ret
      trace_state
      refine ⟨_, d, rfl, ?_, rfl⟩
      rw [← unhide hW]
      cases o <;> simp
end Go.Proofs.Ytpmbgjoilfdkaaa

namespace Go.Proofs.Ytpmbgjoilfdkaaa
open Go.RowKit Fl Ieee

/-- x is the narrow r made wide, and r is x made narrow. -/
def Nar (x r : Nat) : Prop := floatToFloatBits .f64 x .f32 = some r ∧ floatToFloatBits .f32 r .f64 = some x

theorem conv_part {P : Program} (s k : FloatKind) (x : Nat) (w : World) : ∃ r d, (Conv.floatToFloat s x k).run P w = .ok (.float k r) (w.drewN d) ∧ ∀ r', floatToFloatBits s x k = some r' → r = r' := by
  cases h : floatToFloatBits s x k with
  | some r => exact ⟨r, 0, run_floatToFloat w h, fun r' e => Option.some.inj e⟩
  | none =>
    unfold floatToFloatBits at h
    split at h
    · cases h
    · rename_i ne
      split at h
      · rename_i sg f he
        refine ⟨(Question.nanConv k x).cut (w.tape w.drawn (.nanConv k x)), 1, ?_, fun r' e => by cases e⟩
        simp [Conv.floatToFloat, ne, he, Question.forced]
        rfl
      · cases h
      · rename_i sg m e he
        split at h
        · rename_i ho
          refine ⟨(Question.floatToFloat x).cut (w.tape w.drawn (.floatToFloat x)), 1, ?_, fun r' e => by cases e⟩
          simp [Conv.floatToFloat, ne, he, ho, Question.forced]
          rfl
        · cases h

theorem nan_cut (t : Nat) : ∃ s f, double.read (t % 2 * 2 ^ 63 + 0x7ff0000000000000 + 1 + t / 2 % (2 ^ 52 - 1)) = .nan s f := by
  have e1 : (t % 2 * 2 ^ 63 + 0x7ff0000000000000 + 1 + t / 2 % (2 ^ 52 - 1)) % 9223372036854775808 = 0x7ff0000000000000 + 1 + t / 2 % (2 ^ 52 - 1) := by omega
  unfold Format.read
  dsimp only
  rw [sw, bn, ir, lp, e1, if_neg (by omega), if_neg (by omega), if_neg (by omega)]
  exact ⟨_, _, rfl⟩

/-- A narrow number made wide: as reckoned, or a NaN. -/
theorem conv_wide {P : Program} (c : Nat) (w : World) : ∃ r d, (Conv.floatToFloat .f32 c .f64).run P w = .ok (.float .f64 r) (w.drewN d) ∧ (floatToFloatBits .f32 c .f64 = some r ∨ (floatToFloatBits .f32 c .f64 = none ∧ r < 18446744073709551616 ∧ ∃ s f, double.read r = .nan s f)) := by
  cases h : floatToFloatBits .f32 c .f64 with
  | some r => exact ⟨r, 0, run_floatToFloat w h, .inl rfl⟩
  | none =>
    rcases read_any1 (c := c) with ⟨s, m, k, e, hm, hk⟩ | ⟨s, e⟩ | ⟨s, f, e⟩
    · rw [wide_some e hm hk] at h
      cases h
    · unfold floatToFloatBits at h
      rw [if_neg (by decide), show FloatKind.f32.decode c = _ from e] at h
      cases h
    · refine ⟨_, 1, ?_, .inr ⟨rfl, by omega, nan_cut (w.tape w.drawn (.nanConv .f64 c))⟩⟩
      simp [Conv.floatToFloat, show FloatKind.f32.decode c = _ from e, Question.forced, Question.cut]
      rfl

theorem run_narrow (x y : Nat) (w : World) : ∃ r1 r2 d, (convert 40 78 (.complex .f64 x y)).run Try.prog w = .ok (.complex .f32 r1 r2) (w.drewN d) ∧ (∀ r, floatToFloatBits .f64 x .f32 = some r → r1 = r) ∧ (∀ r, floatToFloatBits .f64 y .f32 = some r → r2 = r) := by
  obtain ⟨r1, d1, e1, h1⟩ := conv_part (P := Try.prog) .f64 .f32 x w
  obtain ⟨r2, d2, e2, h2⟩ := conv_part (P := Try.prog) .f64 .f32 y (w.drewN d1)
  refine ⟨r1, r2, d1 + d2, ?_, h1, h2⟩
  simp [convert, run_underlying Try.underlying40, run_underlying Try.underlying78, Conv.complexToComplex, e1, e2]

theorem run_wide (x y : Nat) (w : World) : ∃ r1 r2 d, (convert 78 40 (.complex .f32 x y)).run Try.prog w = .ok (.complex .f64 r1 r2) (w.drewN d) ∧
    (floatToFloatBits .f32 x .f64 = some r1 ∨ (floatToFloatBits .f32 x .f64 = none ∧ r1 < 18446744073709551616 ∧ ∃ s f, double.read r1 = .nan s f)) ∧ (floatToFloatBits .f32 y .f64 = some r2 ∨ (floatToFloatBits .f32 y .f64 = none ∧ r2 < 18446744073709551616 ∧ ∃ s f, double.read r2 = .nan s f)) := by
  obtain ⟨r1, d1, e1, h1⟩ := conv_wide (P := Try.prog) x w
  obtain ⟨r2, d2, e2, h2⟩ := conv_wide (P := Try.prog) y (w.drewN d1)
  refine ⟨r1, r2, d1 + d2, ?_, h1, h2⟩
  simp [convert, run_underlying Try.underlying40, run_underlying Try.underlying78, Conv.complexToComplex, e1, e2]

theorem nar_part {x r w : Nat} (hx : ∀ s f, double.read x ≠ .nan s f) (h1 : ∀ r', floatToFloatBits .f64 x .f32 = some r' → r = r') (h2 : floatToFloatBits .f32 r .f64 = some w ∨ (floatToFloatBits .f32 r .f64 = none ∧ w < 18446744073709551616 ∧ ∃ s f, double.read w = .nan s f)) :
    w = x ↔ Nar x r := by
  constructor
  · intro e
    subst e
    have hw : floatToFloatBits .f32 r .f64 = some w := by
      rcases h2 with h | ⟨_, _, s, f, h⟩
      · exact h
      · exact absurd h (hx s f)
    cases hc : floatToFloatBits .f64 w .f32 with
    | none => exact absurd hw (wide_not hc)
    | some r' =>
      obtain rfl := h1 r' hc
      exact ⟨hc, hw⟩
  · rintro ⟨_, h⟩
    rcases h2 with h' | ⟨h', _⟩
    · rw [h'] at h
      exact Option.some.inj h
    · rw [h'] at h
      cases h
theorem nar_no {x : Nat} {s : Bool} {f : Nat} (h : double.read x = .nan s f) (r : Nat) : ¬ Nar x r := by
  rintro ⟨h1, _⟩
  unfold floatToFloatBits at h1
  rw [if_neg (by decide), show FloatKind.f64.decode x = _ from h] at h1
  cases h1
end Go.Proofs.Ytpmbgjoilfdkaaa

namespace Go.Proofs.Ytpmbgjoilfdkaaa
open Go.RowKit Fl Ieee

theorem wh_inf {M b : Nat} (h : ∃ s, double.read b = .infinity s) : ¬ Wh M b := by
  obtain ⟨s, h⟩ := h
  exact wh_not h (by intro _ _ _ h; cases h)

set_option maxRecDepth 100000 in
set_option maxHeartbeats 1600000 in
theorem refWhole (x y M : Nat) (hx : x < 18446744073709551616) (hy : y < 18446744073709551616) (hM : M < 2 ^ 53) (w : World) :
    Calls Try.prog 66 #[.complex .f64 x y, .int .i64 M] w fun r w' => ∃ (t : Bool) (d : Nat), r = .returned (.bool t) ∧ (t = true ↔ Wh M x ∧ Wh M y) ∧ w' = w.drewN d := by
  have i1 := hide (isInf_any x hx)
  have i2 := hide (isInf_any y hy)
  have k1 := hide (refWholePart x M hx hM)
  have k2 := hide (refWholePart y M hy hM)
  have z1 := hide (wh_inf (M := M) (b := x))
  have z2 := hide (wh_inf (M := M) (b := y))
  clear hM
  go_enter Try.func66, Try.ntmps66
  go_wp2_with fail
  refine (unhide i1 _).mono ?_
  rintro e w1 ⟨t1, rfl, h1, hw⟩
  obtain rfl := hw.symm
  have H1 := hide h1
  clear h1 i1
  cases t1
  · go_wp2_with fail
    refine (unhide i2 _).mono ?_
    rintro e w2 ⟨t2, rfl, h2, hw⟩
    obtain rfl := hw.symm
    have H2 := hide h2
    clear h2 i2
    cases t2
    · go_wp2_with fail
      refine (unhide k1 _).mono ?_
      rintro e w3 ⟨t3, d3, rfl, h3, rfl⟩
      have H3 := hide h3
      clear h3 k1
      cases t3
      · go_wp2_with fail
        go_ret
        exact ⟨false, d3, rfl, ⟨fun h => absurd h (by decide), fun h => (unhide H3).2 h.1⟩, rfl⟩
      · go_wp2_with fail
        refine (unhide k2 _).mono ?_
        rintro e w4 ⟨t4, d4, rfl, h4, rfl⟩
        have H4 := hide h4
        clear h4 k2
        go_wp2_with fail
        go_ret
        exact ⟨t4, d3 + d4, rfl, ⟨fun h => ⟨(unhide H3).1 (by trivial), (unhide H4).1 h⟩, fun h => (unhide H4).2 h.2⟩, rfl⟩
    · go_wp2_with fail
      go_ret
      exact ⟨false, 0, rfl, ⟨fun h => absurd h (by decide), fun h => absurd h.2 (unhide z2 ((unhide H2).1 (by trivial)))⟩, rfl⟩
  · go_wp2_with fail
    go_ret
    exact ⟨false, 0, rfl, ⟨fun h => absurd h (by decide), fun h => absurd h.1 (unhide z1 ((unhide H1).1 (by trivial)))⟩, rfl⟩

theorem order_self {x : Nat} (h : ∀ s f, double.read x ≠ .nan s f) : double.order x x = some .eq := by
  rcases read_any (b := x) with ⟨s, m, k, e, hm, hk⟩ | ⟨s, e⟩ | ⟨s, f, e⟩
  · rw [fv_order (fv_of e) (fv_of e)]
    congr 1
    exact Int.compare_eq_eq.2 rfl
  · show (double.read x).order (double.read x) = _
    rw [e]
    cases s <;> rfl
  · exact absurd e (h s f)
theorem order_nan {x : Nat} {s : Bool} {f : Nat} (h : double.read x = .nan s f) : double.order x x = none := by
  show (double.read x).order (double.read x) = _
  rw [h]
  rfl

set_option maxRecDepth 100000 in
set_option maxHeartbeats 1600000 in
theorem refNarrow (x y : Nat) (w : World) :
    Calls Try.prog 64 #[.complex .f64 x y] w fun r w' => ∃ (t : Bool) (n1 n2 d : Nat), r = .returned (.tuple #[.complex .f32 n1 n2, .bool t]) ∧ (t = true ↔ (∃ r, Nar x r) ∧ ∃ r, Nar y r) ∧ (t = true → Nar x n1 ∧ Nar y n2) ∧ w' = w.drewN d := by
  have k0 := bits32
  obtain ⟨r1, r2, d1, c1, h1, h2⟩ := run_narrow x y w
  obtain ⟨u1, u2, d2, c2, g1, g2⟩ := run_wide r1 r2 (w.drewN d1)
  have G1 := hide g1
  have G2 := hide g2
  have H1 := hide h1
  have H2 := hide h2
  clear g1 g2 h1 h2
  by_cases nx : ∃ s f, double.read x = .nan s f
  · obtain ⟨s, f, hn⟩ := nx
    have ho : FloatKind.f64.format.order x x = none := order_nan hn
    have hN : Hid (∀ r, ¬ Nar x r) := fun r => nar_no hn r
    clear hn
    go_enter Try.func64, Try.ntmps64
    go_wp2
    go_ret2
    exact ⟨false, _, _, _, rfl, ⟨fun h => absurd h (by decide), fun ⟨⟨r, h⟩, _⟩ => absurd h (unhide hN r)⟩, fun h => absurd h (by decide), rfl⟩
  · have hxn : Hid (∀ s f, double.read x ≠ .nan s f) := fun s f h => nx ⟨s, f, h⟩
    have ho : FloatKind.f64.format.order x x = some .eq := order_self (unhide hxn)
    clear nx
    by_cases ny : ∃ s f, double.read y = .nan s f
    · obtain ⟨s, f, hn⟩ := ny
      have ho2 : FloatKind.f64.format.order y y = none := order_nan hn
      have hN : Hid (∀ r, ¬ Nar y r) := fun r => nar_no hn r
      clear hn
      go_enter Try.func64, Try.ntmps64
      go_wp2
      go_ret2
      exact ⟨false, _, _, _, rfl, ⟨fun h => absurd h (by decide), fun ⟨_, ⟨r, h⟩⟩ => absurd h (unhide hN r)⟩, fun h => absurd h (by decide), rfl⟩
    · have hyn : Hid (∀ s f, double.read y ≠ .nan s f) := fun s f h => ny ⟨s, f, h⟩
      have ho2 : FloatKind.f64.format.order y y = some .eq := order_self (unhide hyn)
      have e1 := hide (nar_part (unhide hxn) (unhide H1) (unhide G1))
      have e2 := hide (nar_part (unhide hyn) (unhide H2) (unhide G2))
      have n1 : Hid (∀ r, Nar x r → Nar x r1) := fun r h => (unhide H1 r h.1) ▸ h
      have n2 : Hid (∀ r, Nar y r → Nar y r2) := fun r h => (unhide H2 r h.1) ▸ h
      clear ny
      by_cases q1 : u1 = x
      · by_cases q2 : u2 = y
        · have b1 : ((u1 : Int) == (x : Int)) = true := by rw [q1]; simp
          have b2 : ((u2 : Int) == (y : Int)) = true := by rw [q2]; simp
          have f1 := hide ((unhide e1).1 q1)
          have f2 := hide ((unhide e2).1 q2)
          clear q1 q2
          go_enter Try.func64, Try.ntmps64
          go_wp2
          go_ret2
          exact ⟨true, _, _, _, rfl, ⟨fun _ => ⟨⟨_, unhide f1⟩, ⟨_, unhide f2⟩⟩, fun _ => rfl⟩, fun _ => ⟨unhide f1, unhide f2⟩, rfl⟩
        · have b1 : ((u1 : Int) == (x : Int)) = true := by rw [q1]; simp
          have b2 : ((u2 : Int) == (y : Int)) = false := by rw [beq_eq_false_iff_ne]; omega
          have f2 : Hid (¬ Nar y r2) := fun h => q2 ((unhide e2).2 h)
          clear q1 q2
          go_enter Try.func64, Try.ntmps64
          go_wp2
          go_ret2
          exact ⟨false, _, _, _, rfl, ⟨fun h => absurd h (by decide), fun ⟨_, ⟨r, h⟩⟩ => absurd (unhide n2 r h) (unhide f2)⟩, fun h => absurd h (by decide), rfl⟩
      · have b1 : ((u1 : Int) == (x : Int)) = false := by rw [beq_eq_false_iff_ne]; omega
        have f1 : Hid (¬ Nar x r1) := fun h => q1 ((unhide e1).2 h)
        clear q1
        go_enter Try.func64, Try.ntmps64
        go_wp2
        go_ret2
        exact ⟨false, _, _, _, rfl, ⟨fun h => absurd h (by decide), fun ⟨⟨r, h⟩, _⟩ => absurd (unhide n1 r h) (unhide f1)⟩, fun h => absurd h (by decide), rfl⟩
end Go.Proofs.Ytpmbgjoilfdkaaa
