/- Whole numbers as bits: the opposite, plain parts, sums and products of complex numbers whose parts are whole. -/
import Derived.Test.YthbghcebcahlnaaFl
import Derived.Laws.BitsAllLaws
import Derived.WalkKit
import Derived.WalkSpells
import Derived.WalkLawsBesides
namespace Go.Proofs.Ythbghcebcahlnaa
open Go.RowKit Fl Ieee

def negB (b : Nat) : Nat := (bits .xor .u64 (b : Int) 9223372036854775808).toNat
def plainB (a : Nat) : Nat := if FloatKind.f64.format.order a 0 == some .eq then 0 else a
theorem fv_nought : FV 0 0 := ⟨false, 0, 0, rfl, rfl⟩

theorem fv_unique {b : Nat} {v v' : Int} (h : FV b v) (h' : FV b v') : v = v' := by
  obtain ⟨s, m, k, e, rfl⟩ := h
  obtain ⟨s', m', k', e', rfl⟩ := h'
  rw [e] at e'
  injection e' with h1 h2 h3
  have : k = k' := by omega
  rw [h1, h2, this]

theorem fv_mod64 {b : Nat} {v : Int} (h : FV b v) : FV (b % 18446744073709551616) v := by
  obtain ⟨s, m, k, e, hv⟩ := h
  refine ⟨s, m, k, ?_, hv⟩
  rw [← e]
  unfold Format.read
  dsimp only
  rw [sw, show b % 18446744073709551616 / 9223372036854775808 % 2 = b / 9223372036854775808 % 2 by omega, show b % 18446744073709551616 % 9223372036854775808 = b % 9223372036854775808 by omega]

theorem negB_mod (b : Nat) : negB b = negB (b % 18446744073709551616) := by
  unfold negB
  have : BitVec.ofInt 64 (b : Int) = BitVec.ofInt 64 ((b % 18446744073709551616 : Nat) : Int) := by
    apply BitVec.eq_of_toNat_eq
    simp only [BitVec.toNat_ofInt]
    omega
  show (IntKind.u64.wrap ((BitVec.ofInt 64 (b : Int) ^^^ BitVec.ofInt 64 9223372036854775808).toNat : Int)).toNat = (IntKind.u64.wrap ((BitVec.ofInt 64 ((b % 18446744073709551616 : Nat) : Int) ^^^ BitVec.ofInt 64 9223372036854775808).toNat : Int)).toNat
  rw [this]

theorem negB_low {b : Nat} (hb : b < 18446744073709551616) : negB b = if b < 9223372036854775808 then b + 9223372036854775808 else b - 9223372036854775808 := by
  unfold negB
  rw [show (9223372036854775808 : Int) = ((9223372036854775808 : Nat) : Int) from rfl, u64_xor_nat b 9223372036854775808 hb (by decide), Int.toNat_natCast]
  have h1 : (b ^^^ 9223372036854775808) / 2 ^ 63 = b / 2 ^ 63 ^^^ 9223372036854775808 / 2 ^ 63 := Nat.xor_div_two_pow
  have h2 : (b ^^^ 9223372036854775808) % 2 ^ 63 = b % 2 ^ 63 ^^^ 9223372036854775808 % 2 ^ 63 := Nat.xor_mod_two_pow
  rw [show (9223372036854775808 : Nat) % 2 ^ 63 = 0 by decide, Nat.xor_zero] at h2
  rw [show (9223372036854775808 : Nat) / 2 ^ 63 = 1 by decide] at h1
  generalize b ^^^ 9223372036854775808 = y at h1 h2 ⊢
  by_cases c : b < 9223372036854775808
  · rw [show b / 2 ^ 63 = 0 by omega] at h1
    have h3 : (0 ^^^ 1 : Nat) = 1 := by decide
    rw [h3] at h1
    rw [if_pos c]
    omega
  · rw [show b / 2 ^ 63 = 1 by omega] at h1
    have h3 : (1 ^^^ 1 : Nat) = 0 := by decide
    rw [h3] at h1
    rw [if_neg c]
    omega

theorem read_flip {s t : Bool} {r m : Nat} {p : Int} (hr : r < 9223372036854775808) (h : double.read (double.word s r) = .number t m p) : double.read (double.word (!s) r) = .number (!t) m p := by
  rw [read_word _ r hr] at h ⊢
  by_cases c1 : r < 4503599627370496
  · rw [if_pos c1] at h ⊢
    injection h with h1 h2 h3
    rw [h1, h2, h3]
  · rw [if_neg c1] at h ⊢
    by_cases c2 : r < 9218868437227405312
    · rw [if_pos c2] at h ⊢
      injection h with h1 h2 h3
      rw [h1, h2, h3]
    · rw [if_neg c2] at h
      split at h <;> cases h

theorem fv_negB {b : Nat} {v : Int} (h : FV b v) : FV (negB b) (-v) := by
  rw [negB_mod]
  have h' := fv_mod64 h
  have hb : b % 18446744073709551616 < 18446744073709551616 := Nat.mod_lt _ (by decide)
  generalize b % 18446744073709551616 = c at h' hb
  obtain ⟨s, m, k, e, rfl⟩ := h'
  rw [negB_low hb]
  refine ⟨!s, m, k, ?_, signed_not s m k⟩
  by_cases hc : c < 9223372036854775808
  · rw [if_pos hc]
    have e1 : c = double.word false c := by unfold Format.word; rw [if_neg (by decide)]
    have e2 : c + 9223372036854775808 = double.word (!false) c := by
      show _ = double.word true c
      unfold Format.word
      rw [if_pos rfl, sw, Nat.add_comm]
    rw [e1] at e
    rw [e2]
    exact read_flip hc e
  · rw [if_neg hc]
    obtain ⟨d, hd⟩ : ∃ d, c = d + 9223372036854775808 := ⟨c - 9223372036854775808, by omega⟩
    have hdl : d < 9223372036854775808 := by omega
    have e1 : c = double.word true d := by unfold Format.word; rw [if_pos rfl, sw, hd, Nat.add_comm]
    have e2 : c - 9223372036854775808 = double.word (!true) d := by
      show _ = double.word false d
      unfold Format.word
      rw [if_neg (by decide), hd, Nat.add_sub_cancel]
    rw [e2]
    rw [e1] at e
    exact read_flip hdl e

theorem fv_plain {b : Nat} {v : Int} (h : FV b v) : FV (plainB b) v := by
  unfold plainB
  split
  · rename_i h1
    have h2 : FloatKind.f64.format.order b 0 = some (compare v 0) := fv_order h fv_nought
    rw [h2] at h1
    have : v = 0 := Int.compare_eq_eq.1 (by
      generalize compare v 0 = o at h1
      cases o <;> first | rfl | exact absurd h1 (by decide))
    rw [this]
    exact fv_nought
  · exact h

theorem iv_negB {b : Nat} {n : Int} (h : IV b n) : IV (negB b) (-n) := by
  obtain ⟨q, hq, f⟩ := h
  exact ⟨q, hq, by rw [Int.neg_mul]; exact fv_negB f⟩

theorem iv_plain {b : Nat} {n : Int} (h : IV b n) : IV (plainB b) n := by
  obtain ⟨q, hq, f⟩ := h
  exact ⟨q, hq, fv_plain f⟩

theorem order_zero {b : Nat} {n : Int} (h : IV b n) : (FloatKind.f64.format.order b 0 == some .eq) = decide (n = 0) := by
  rw [show FloatKind.f64.format.order b 0 = _ from iv_order h iv_zero]
  by_cases c : n = 0
  · subst c; rfl
  · rw [decide_eq_false c, beq_eq_false_iff_ne]
    intro e
    exact c (Int.compare_eq_eq.1 (Option.some.inj e))

theorem plain_zero {b : Nat} (h : IV b 0) : plainB b = 0 := by
  unfold plainB
  rw [order_zero h]
  rfl

theorem plain_lt {b : Nat} (h : b < 18446744073709551616) : plainB b < 18446744073709551616 := by
  unfold plainB
  split
  · decide
  · exact h

theorem iv_same {a b : Nat} {n : Int} (ha : IV a n) (hb : IV b n) : FloatKind.f64.format.order a b = some .eq := by
  rw [show FloatKind.f64.format.order a b = _ from iv_order ha hb, Int.compare_eq_eq.2 rfl]

theorem iv_of {b : Nat} (n : Int) (hn : n.natAbs < 2 ^ 53) (h : floatOfInt .f64 n = b) : IV b n := by
  rw [← h]
  exact iv_ofInt n hn

structure AddTo (a b r : Nat × Nat) : Prop where
  one : floatBits .add .f64 a.1 b.1 = some r.1
  two : floatBits .add .f64 a.2 b.2 = some r.2

/-- What a product of two complex numbers comes to, part by part. -/
structure MulTo (a b c d r s : Nat) : Prop where
  ex : ∃ ac bd ad bc, floatBits .mul .f64 a c = some ac ∧ floatBits .mul .f64 b d = some bd ∧ floatBits .mul .f64 a d = some ad ∧ floatBits .mul .f64 b c = some bc ∧ floatBits .sub .f64 ac bd = some r ∧ floatBits .add .f64 ad bc = some s

/-- Both parts are whole numbers. -/
structure IC (b : Nat × Nat) (z : Int × Int) : Prop where
  one : IV b.1 z.1
  two : IV b.2 z.2

/-- Such as a grid takes: of 64 bits, noughts without a sign, parts of at most m. -/
structure Cell (b : Nat × Nat) (z : Int × Int) (m : Nat) : Prop where
  ic : IC b z
  lt1 : b.1 < 18446744073709551616
  lt2 : b.2 < 18446744073709551616
  z1 : z.1 = 0 → b.1 = 0
  z2 : z.2 = 0 → b.2 = 0
  le1 : z.1.natAbs ≤ m
  le2 : z.2.natAbs ≤ m

theorem ic_zero : IC (0, 0) (0, 0) := ⟨iv_zero, iv_zero⟩
theorem cell_zero (m : Nat) : Cell (0, 0) (0, 0) m := ⟨ic_zero, by decide, by decide, fun _ => rfl, fun _ => rfl, Nat.zero_le _, Nat.zero_le _⟩
theorem Cell.mono {b : Nat × Nat} {z : Int × Int} {m k : Nat} (h : Cell b z m) (hk : m ≤ k) : Cell b z k := ⟨h.ic, h.lt1, h.lt2, h.z1, h.z2, Nat.le_trans h.le1 hk, Nat.le_trans h.le2 hk⟩

def addZ (a b : Int × Int) : Int × Int := (a.1 + b.1, a.2 + b.2)
/-- a times the conjugate of b. -/
def mulZ (a b : Int × Int) : Int × Int := (a.1 * b.1 + a.2 * b.2, a.2 * b.1 - a.1 * b.2)

theorem ic_add {a b : Nat × Nat} {x y : Int × Int} (ha : IC a x) (hb : IC b y) (h1 : (x.1 + y.1).natAbs < 2 ^ 53) (h2 : (x.2 + y.2).natAbs < 2 ^ 53) : ∃ r : Nat × Nat, AddTo a b r ∧ IC r (addZ x y) ∧ r.1 < 18446744073709551616 ∧ r.2 < 18446744073709551616 := by
  obtain ⟨r, e1, i1⟩ := iv_add ha.one hb.one h1
  obtain ⟨s, e2, i2⟩ := iv_add ha.two hb.two h2
  exact ⟨(r, s), ⟨e1, e2⟩, ⟨i1, i2⟩, Ieee.Format.add_lt _ e1, Ieee.Format.add_lt _ e2⟩

theorem prod_le {x y : Int} {m k : Nat} (hx : x.natAbs ≤ m) (hy : y.natAbs ≤ k) : (x * y).natAbs ≤ m * k := by
  rw [Int.natAbs_mul]
  exact Nat.mul_le_mul hx hy

theorem ic_mul {a b : Nat × Nat} {x y : Int × Int} {m k : Nat} (ha : IC a x) (hb : IC b y) (a1 : x.1.natAbs ≤ m) (a2 : x.2.natAbs ≤ m) (b1 : y.1.natAbs ≤ k) (b2 : y.2.natAbs ≤ k) (h : 2 * (m * k) < 2 ^ 53) :
    ∃ r s : Nat, MulTo a.1 a.2 b.1 (negB b.2) r s ∧ IC (r, s) (mulZ x y) := by
  have hn := iv_negB hb.two
  have p1 := prod_le a1 b1
  have p2 := prod_le a2 b2
  have p3 := prod_le a1 b2
  have p4 := prod_le a2 b1
  obtain ⟨ac, e1, i1⟩ := iv_mul ha.one hb.one (by omega)
  obtain ⟨bd, e2, i2⟩ := iv_mul ha.two hn (by rw [Int.mul_neg, Int.natAbs_neg]; omega)
  obtain ⟨ad, e3, i3⟩ := iv_mul ha.one hn (by rw [Int.mul_neg, Int.natAbs_neg]; omega)
  obtain ⟨bc, e4, i4⟩ := iv_mul ha.two hb.one (by omega)
  rw [Int.mul_neg] at i2 i3
  obtain ⟨r, e5, i5⟩ := iv_sub i1 i2 (by omega)
  obtain ⟨s, e6, i6⟩ := iv_add i3 i4 (by omega)
  refine ⟨r, s, ⟨ac, bd, ad, bc, e1, e2, e3, e4, e5, e6⟩, ?_, ?_⟩
  · show IV r (x.1 * y.1 + x.2 * y.2)
    rw [show x.1 * y.1 + x.2 * y.2 = x.1 * y.1 - -(x.2 * y.2) by omega]
    exact i5
  · show IV s (x.2 * y.1 - x.1 * y.2)
    rw [show x.2 * y.1 - x.1 * y.2 = -(x.1 * y.2) + x.2 * y.1 by omega]
    exact i6
end Go.Proofs.Ythbghcebcahlnaa
