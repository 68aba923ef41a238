/- Doubles as scaled whole numbers: a finite double is a whole number of units of 2 to the -1074; sums, differences and products whose exact value fits are exact, and the order is that of the whole numbers. Whole numbers as bits: the opposite, plain parts, sums and products of complex numbers whose parts are whole. Sums over cells and over bins: what each bin gathers, measured against any bins, is what the cells are, measured against the bins spread back. A row of complex numbers in memory; sums, products, conjugates, plain parts. Whole numbers: what cx.Whole tells; a sound grid. -/
import Derived.Laws.FloatArith
import Derived.Laws.BitsAllLaws
import Derived.WalkKit
import Derived.WalkSpells
import Derived.WalkLawsBesides
import Derived.Test.YtgbkfmjkemkajaaM1
namespace Go.Proofs.Ytgbkfmjkemkajaa.Fl
open Ieee

def rne (n d : Nat) : Nat := n / 2 ^ d + (decide (2 ^ d < 2 * (n % 2 ^ d)) || (2 ^ d == 2 * (n % 2 ^ d) && n / 2 ^ d % 2 == 1)).toNat

theorem small_div {n d : Nat} (h : n.log2 + 2 ≤ d) : 2 * n < 2 ^ d := by
  have h1 : n < 2 ^ (n.log2 + 1) := Nat.lt_log2_self
  have h2 : 2 ^ (n.log2 + 2) ≤ 2 ^ d := Nat.pow_le_pow_right (by decide) h
  have h3 : 2 ^ (n.log2 + 2) = 2 * 2 ^ (n.log2 + 1) := by rw [Nat.pow_succ]; omega
  omega

theorem rne_small {n d : Nat} (h : 2 * n < 2 ^ d) : rne n d = 0 := by
  have hp : 0 < 2 ^ d := Nat.two_pow_pos d
  unfold rne
  rw [Nat.div_eq_of_lt (by omega), Nat.mod_eq_of_lt (by omega)]
  have a : decide (2 ^ d < 2 * n) = false := decide_eq_false (by omega)
  have b : (2 ^ d == 2 * n) = false := beq_eq_false_iff_ne.2 (by omega)
  rw [a, b]; rfl

theorem cut_even (neg : Bool) (n d : Nat) : Toward.even.cut neg n d = rne n d := by
  by_cases h : d ≤ n.log2 + 2
  · unfold Toward.cut rne
    rw [Nat.min_eq_left h, Nat.one_shiftLeft]
  · rw [rne_small (small_div (by omega))]
    have hs : 2 * n < 2 ^ (n.log2 + 2) := small_div (Nat.le_refl _)
    have := rne_small hs
    unfold rne at this
    unfold Toward.cut
    rw [Nat.min_eq_right (by omega), Nat.one_shiftLeft]
    exact this

theorem rne_zero (n : Nat) : rne n 0 = n := by
  unfold rne
  have : n % 2 ^ 0 = 0 := by rw [Nat.pow_zero]; exact Nat.mod_one n
  rw [this]
  simp

theorem rne_scale (n d k : Nat) : rne (n * 2 ^ k) (d + k) = rne n d := by
  have hp : 0 < 2 ^ k := Nat.two_pow_pos k
  unfold rne
  rw [Nat.pow_add, Nat.mul_div_mul_right _ _ hp, Nat.mul_mod_mul_right, ← Nat.mul_assoc]
  have a : decide (2 ^ d * 2 ^ k < 2 * (n % 2 ^ d) * 2 ^ k) = decide (2 ^ d < 2 * (n % 2 ^ d)) := by
    rw [decide_eq_decide]; exact Nat.mul_lt_mul_right hp
  have b : (2 ^ d * 2 ^ k == 2 * (n % 2 ^ d) * 2 ^ k) = (2 ^ d == 2 * (n % 2 ^ d)) := by
    rw [Bool.eq_iff_iff, beq_iff_eq, beq_iff_eq]
    exact Nat.mul_left_inj (by omega)
  rw [a, b]

theorem rne_exact (q d : Nat) : rne (q * 2 ^ d) d = q := by
  have := rne_scale q 0 d
  rw [Nat.zero_add, rne_zero] at this
  exact this

theorem rne_bounds (n d : Nat) : 2 * (rne n d * 2 ^ d) ≤ 2 * n + 2 ^ d ∧ 2 * n ≤ 2 * (rne n d * 2 ^ d) + 2 ^ d := by
  have hm := Nat.div_add_mod n (2 ^ d)
  have hl := Nat.mod_lt n (Nat.two_pow_pos d)
  unfold rne
  generalize 2 ^ d = p at *
  generalize n % p = r at *
  generalize n / p = q at *
  rw [Nat.mul_comm] at hm
  by_cases h : p < 2 * r
  · rw [decide_eq_true h, Bool.true_or, Bool.toNat_true, Nat.add_mul]; omega
  · rw [decide_eq_false h, Bool.false_or]
    by_cases h2 : (p == 2 * r && q % 2 == 1) = true
    · rw [h2, Bool.toNat_true, Nat.add_mul]
      rw [Bool.and_eq_true, beq_iff_eq] at h2
      omega
    · rw [Bool.not_eq_true] at h2
      rw [h2, Bool.toNat_false, Nat.add_zero]
      omega

def lastOf (mag : Nat) (place : Int) : Int := max (place + mag.log2 - 52) (-1074)
def keptOf (mag : Nat) (place : Int) : Nat := rne (mag <<< (place - lastOf mag place).toNat) (lastOf mag place - place).toNat

theorem nearest_eq (neg : Bool) (mag : Nat) (place : Int) (h : mag ≠ 0) :
    double.nearest neg mag place = double.word neg (min ((lastOf mag place + 1074).toNat * 2 ^ 52 + keptOf mag place) double.infRung) := by
  unfold Format.nearest
  rw [if_neg h]
  dsimp only
  rw [cut_even]
  rfl

theorem log2_mul_pow (m k : Nat) (h : m ≠ 0) : (m * 2 ^ k).log2 = m.log2 + k := by
  have hp : 0 < 2 ^ k := Nat.two_pow_pos k
  have h0 : m * 2 ^ k ≠ 0 := Nat.mul_ne_zero h (by omega)
  rw [Nat.log2_eq_iff h0]
  have a := Nat.log2_self_le h
  have b : m < 2 ^ (m.log2 + 1) := Nat.lt_log2_self
  constructor
  · rw [Nat.pow_add]; exact Nat.mul_le_mul_right _ a
  · rw [Nat.add_right_comm, Nat.pow_add]; exact (Nat.mul_lt_mul_right hp).2 b

/-- The nearest word hangs on the number alone. -/
theorem nearest_scale (neg : Bool) (m k : Nat) (p : Int) (h : m ≠ 0) :
    double.nearest neg (m * 2 ^ k) p = double.nearest neg m (p + k) := by
  have hp : 0 < 2 ^ k := Nat.two_pow_pos k
  have h0 : m * 2 ^ k ≠ 0 := Nat.mul_ne_zero h (by omega)
  rw [nearest_eq _ _ _ h0, nearest_eq _ _ _ h]
  have hl : lastOf (m * 2 ^ k) p = lastOf m (p + k) := by
    unfold lastOf; rw [log2_mul_pow m k h]
    congr 1
    rw [Int.natCast_add]; omega
  have hk : keptOf (m * 2 ^ k) p = keptOf m (p + k) := by
    unfold keptOf
    rw [hl]
    generalize lastOf m (p + k) = l
    rw [Nat.shiftLeft_eq, Nat.shiftLeft_eq]
    by_cases c1 : l ≤ p
    · rw [show (l - p).toNat = 0 by omega, show (l - (p + k)).toNat = 0 by omega, rne_zero, rne_zero, Nat.mul_assoc, ← Nat.pow_add]
      congr 2; omega
    · by_cases c2 : l ≤ p + k
      · rw [show (p - l).toNat = 0 by omega, show (l - (p + k)).toNat = 0 by omega, rne_zero, Nat.pow_zero, Nat.mul_one]
        have : m * 2 ^ k = m * 2 ^ (p + k - l).toNat * 2 ^ (l - p).toNat := by
          rw [Nat.mul_assoc, ← Nat.pow_add]; congr 2; omega
        rw [this, rne_exact]
      · rw [show (p - l).toNat = 0 by omega, show (p + k - l).toNat = 0 by omega, Nat.pow_zero, Nat.mul_one, Nat.mul_one,
          show (l - p).toNat = (l - (p + k)).toNat + k by omega, rne_scale]
  rw [hl, hk]

theorem signed_eq (s : Bool) (m k : Nat) : signed s m k = (if s then -((m * 2 ^ k : Nat) : Int) else ((m * 2 ^ k : Nat) : Int)) := by
  unfold signed; rw [Nat.shiftLeft_eq]

theorem signed_natAbs (s : Bool) (m k : Nat) : (signed s m k).natAbs = m * 2 ^ k := by
  rw [signed_eq]
  cases s
  · exact Int.natAbs_natCast _
  · exact (Int.natAbs_neg _).trans (Int.natAbs_natCast _)

theorem sw : double.signWeight = 9223372036854775808 := rfl
theorem bn : double.binade = 4503599627370496 := rfl
theorem ir : double.infRung = 9218868437227405312 := rfl
theorem lp : double.leastPlace = -1074 := rfl

theorem read_word (neg : Bool) (r : Nat) (h : r < 9223372036854775808) : double.read (double.word neg r) =
    (if r < 4503599627370496 then Datum.number neg r (-1074)
     else if r < 9218868437227405312 then .number neg (4503599627370496 + r % 4503599627370496) (-1074 + ((r / 4503599627370496 - 1 : Nat) : Int))
     else if r = 9218868437227405312 then .infinity neg else .nan neg (r - 9218868437227405312)) := by
  have e1 : (double.word neg r / double.signWeight % 2 == 1) = neg := by
    unfold Format.word; rw [sw]
    cases neg
    · rw [if_neg (by decide), Nat.div_eq_of_lt h]; rfl
    · rw [if_pos rfl, Nat.add_div_left _ (by decide), Nat.div_eq_of_lt h]; rfl
  have e2 : double.word neg r % double.signWeight = r := by
    unfold Format.word; rw [sw]
    cases neg
    · rw [if_neg (by decide), Nat.mod_eq_of_lt h]
    · rw [if_pos rfl, Nat.add_mod_left, Nat.mod_eq_of_lt h]
  unfold Format.read
  dsimp only
  rw [e1, e2, bn, ir, lp]

theorem p52 : (2 : Nat) ^ 52 = 4503599627370496 := by decide
theorem p53 : (2 : Nat) ^ 53 = 9007199254740992 := by decide

theorem read_kept (neg : Bool) (L K : Nat) (h1 : K ≤ 2 ^ 53) (h2 : L = 0 ∨ 2 ^ 52 ≤ K) (h3 : L * 2 ^ 52 + K < 9218868437227405312) :
    ∃ m k : Nat, double.read (double.word neg (L * 2 ^ 52 + K)) = .number neg m (-1074 + (k : Int)) ∧ m * 2 ^ k = K * 2 ^ L := by
  rw [p52] at *
  rw [p53] at h1
  rw [read_word neg _ (by omega)]
  by_cases c0 : K < 4503599627370496
  · have : L = 0 := by omega
    subst this
    rw [if_pos (by omega)]
    exact ⟨K, 0, by simp, by simp⟩
  · rw [if_neg (by omega), if_pos h3]
    by_cases c1 : K = 9007199254740992
    · subst c1
      refine ⟨4503599627370496, L + 1, ?_, ?_⟩
      · have a : (L * 4503599627370496 + 9007199254740992) % 4503599627370496 = 0 := by omega
        have b : (L * 4503599627370496 + 9007199254740992) / 4503599627370496 - 1 = L + 1 := by omega
        rw [a, b]
      · rw [Nat.pow_succ]; omega
    · refine ⟨K, L, ?_, rfl⟩
      have a : 4503599627370496 + (L * 4503599627370496 + K) % 4503599627370496 = K := by omega
      have b : (L * 4503599627370496 + K) / 4503599627370496 - 1 = L := by omega
      rw [a, b]

/-- The bits b are those of the finite number 'v' times 2 to the -1074. -/
def FV (b : Nat) (v : Int) : Prop := ∃ (s : Bool) (m k : Nat), double.read b = .number s m (-1074 + (k : Int)) ∧ signed s m k = v

theorem nearest_exact (neg : Bool) (M k : Nat) (h0 : M ≠ 0) (h1 : M < 2 ^ 53) (h2 : k + M.log2 ≤ 2097) :
    ∃ m j : Nat, double.read (double.nearest neg M (-1074 + (k : Int))) = .number neg m (-1074 + (j : Int)) ∧ m * 2 ^ j = M * 2 ^ k := by
  have hl52 : M.log2 ≤ 52 := by
    have := Nat.log2_lt (n := M) (k := 53) h0
    omega
  have hle := Nat.log2_self_le h0
  have hlt : M < 2 ^ (M.log2 + 1) := Nat.lt_log2_self
  rw [nearest_eq _ _ _ h0]
  unfold keptOf
  have hla : lastOf M (-1074 + (k : Int)) ≤ -1074 + (k : Int) := by unfold lastOf; omega
  have hlb : -1074 ≤ lastOf M (-1074 + (k : Int)) := by unfold lastOf; omega
  have hlc : lastOf M (-1074 + (k : Int)) = -1074 ∨ lastOf M (-1074 + (k : Int)) = -1074 + (k : Int) + M.log2 - 52 := by unfold lastOf; omega
  have hld : -1074 + (k : Int) + M.log2 - 52 ≤ lastOf M (-1074 + (k : Int)) := by unfold lastOf; omega
  generalize lastOf M (-1074 + (k : Int)) = l at *
  obtain ⟨L, rfl⟩ : ∃ L : Nat, l = -1074 + (L : Int) := ⟨(l + 1074).toNat, by omega⟩
  rw [show (-1074 + (L : Int) - (-1074 + (k : Int))).toNat = 0 by omega, rne_zero, Nat.shiftLeft_eq,
    show (-1074 + (L : Int) + 1074).toNat = L by omega, show (-1074 + (k : Int) - (-1074 + (L : Int))).toNat = k - L by omega]
  have hkL : k - L ≤ 52 - M.log2 := by omega
  have hK : M * 2 ^ (k - L) < 2 ^ 53 := by
    have a : M * 2 ^ (k - L) < 2 ^ (M.log2 + 1) * 2 ^ (k - L) := (Nat.mul_lt_mul_right (Nat.two_pow_pos _)).2 hlt
    rw [← Nat.pow_add] at a
    exact Nat.lt_of_lt_of_le a (Nat.pow_le_pow_right (by decide) (by omega))
  have hB : L = 0 ∨ 2 ^ 52 ≤ M * 2 ^ (k - L) := by
    rcases hlc with c | c
    · left; omega
    · right
      have a : 2 ^ M.log2 * 2 ^ (k - L) ≤ M * 2 ^ (k - L) := Nat.mul_le_mul_right _ hle
      rw [← Nat.pow_add, show M.log2 + (k - L) = 52 by omega] at a
      exact a
  have hT : L * 2 ^ 52 + M * 2 ^ (k - L) < 9218868437227405312 := by
    have : L ≤ 2045 := by omega
    rw [p52]; rw [p53] at hK; omega
  obtain ⟨m, j, e1, e2⟩ := read_kept neg L (M * 2 ^ (k - L)) (by omega) hB hT
  refine ⟨m, j, ?_, ?_⟩
  · rw [ir, Nat.min_eq_left (by omega)]; exact e1
  · rw [e2, Nat.mul_assoc, ← Nat.pow_add]; congr 2; omega

theorem read_zero (neg : Bool) : double.read (double.word neg 0) = .number neg 0 (-1074 + ((0 : Nat) : Int)) := by
  rw [read_word neg 0 (by decide)]; rfl

/-- A number that fits is written exactly. -/
theorem nearest_fv (neg : Bool) (mag : Nat) (q : Nat) (p : Int) (M k : Nat) (hp : p = -1074 - (q : Int)) (hm : mag = M * 2 ^ (k + q)) (h1 : M < 2 ^ 53) (h2 : k + M.log2 ≤ 2097) :
    FV (double.nearest neg mag p) (signed neg M k) := by
  by_cases h0 : M = 0
  · subst h0
    rw [Nat.zero_mul] at hm
    subst hm
    refine ⟨neg, 0, 0, ?_, ?_⟩
    · unfold Format.nearest
      rw [if_pos rfl]
      exact read_zero neg
    · rw [signed_eq, signed_eq, Nat.zero_mul, Nat.zero_mul]
  · subst hm
    rw [nearest_scale neg M (k + q) p h0, show p + ((k + q : Nat) : Int) = -1074 + (k : Int) by omega]
    obtain ⟨m, j, e1, e2⟩ := nearest_exact neg M k h0 h1 h2
    exact ⟨neg, m, j, e1, by rw [signed_eq, signed_eq, e2]⟩

theorem signed_split (s : Bool) (m a b : Nat) : signed s m (a + b) = signed s m a * 2 ^ b := by
  rw [signed_eq, signed_eq, Nat.pow_add, ← Nat.mul_assoc]
  cases s <;> simp [Int.neg_mul]

theorem signed_of (z : Int) (neg : Bool) (M k : Nat) (hz : z.natAbs = M * 2 ^ k) (hn : z ≠ 0 → neg = decide (z < 0)) : signed neg M k = z := by
  rw [signed_eq, ← hz]
  by_cases h0 : z = 0
  · subst h0; cases neg <;> rfl
  · rw [hn h0]
    by_cases h : z < 0
    · rw [decide_eq_true h, if_pos rfl]; omega
    · rw [decide_eq_false h, if_neg (by decide)]; omega

theorem two_abs : (2 : Int).natAbs = 2 := rfl

/-- What the sum of two data that are numbers is. -/
theorem sum_fv {d1 d2 : Datum} {s t : Bool} {m n i j : Nat} (e1 : d1 = .number s m (-1074 + (i : Int))) (e2 : d2 = .number t n (-1074 + (j : Int)))
    {M k : Nat} (hz : (signed s m i + signed t n j).natAbs = M * 2 ^ k) (h1 : M < 2 ^ 53) (h2 : k + M.log2 ≤ 2097) :
    ∃ r, (d1.sum d2).map double.write = some r ∧ FV r (signed s m i + signed t n j) := by
  subst e1 e2
  unfold Datum.sum
  dsimp only
  refine ⟨_, rfl, ?_⟩
  have hb : min (-1074 + (i : Int)) (-1074 + (j : Int)) = -1074 + ((min i j : Nat) : Int) := by omega
  rw [hb]
  generalize hc : min i j = c
  have hi : (-1074 + (i : Int) - (-1074 + (c : Int))).toNat + c = i := by omega
  have hj : (-1074 + (j : Int) - (-1074 + (c : Int))).toNat + c = j := by omega
  generalize (-1074 + (i : Int) - (-1074 + (c : Int))).toNat = i' at *
  generalize (-1074 + (j : Int) - (-1074 + (c : Int))).toNat = j' at *
  subst hi hj
  rw [signed_split, signed_split] at hz ⊢
  generalize signed s m i' = A at *
  generalize signed t n j' = B at *
  rw [← Int.add_mul] at hz ⊢
  generalize A + B = T at *
  have hpc : (0 : Int) < 2 ^ c := Int.pow_pos (by decide)
  have hN : T.natAbs * 2 ^ c = M * 2 ^ k := by
    rw [← hz, Int.natAbs_mul, Int.natAbs_pow, two_abs]
  show FV (double.nearest _ T.natAbs (-1074 + (c : Int))) _
  by_cases h0 : T = 0
  · subst h0
    refine ⟨s && t, 0, 0, ?_, ?_⟩
    · unfold Format.nearest
      rw [if_pos rfl, if_pos (show Int.natAbs 0 = 0 from rfl)]
      exact read_zero _
    · rw [signed_eq, Nat.zero_mul, Int.zero_mul]; cases (s && t) <;> rfl
  · have hT : T.natAbs ≠ 0 := by omega
    rw [← show -1074 - ((0 : Nat) : Int) + ((c : Nat) : Int) = -1074 + (c : Int) by omega, ← nearest_scale _ _ _ _ hT, hN]
    have := nearest_fv (if T = 0 then s && t else decide (T < 0)) (M * 2 ^ k) 0 (-1074 - ((0 : Nat) : Int)) M k rfl rfl h1 h2
    rw [if_neg h0] at *
    refine Eq.mp ?_ this
    congr 1
    refine signed_of _ _ M k hz ?_
    intro _
    rw [decide_eq_decide]
    constructor
    · intro h; exact Int.mul_neg_of_neg_of_pos h hpc
    · intro h
      by_cases hx : T < 0
      · exact hx
      · have : 0 ≤ T * 2 ^ c := Int.mul_nonneg (by omega) (by omega)
        omega

theorem opp_fv {d : Datum} {s : Bool} {m : Nat} {p : Int} (e : d = .number s m p) : d.opposite = .number (!s) m p := by subst e; rfl
theorem signed_not (s : Bool) (m k : Nat) : signed (!s) m k = - signed s m k := by
  rw [signed_eq, signed_eq]; cases s <;> simp

theorem fv_add {a b : Nat} {x y : Int} (ha : FV a x) (hb : FV b y) {M k : Nat} (hz : (x + y).natAbs = M * 2 ^ k) (h1 : M < 2 ^ 53) (h2 : k + M.log2 ≤ 2097) :
    ∃ r, double.add a b = some r ∧ FV r (x + y) := by
  obtain ⟨s, m, i, e1, rfl⟩ := ha
  obtain ⟨t, n, j, e2, rfl⟩ := hb
  exact sum_fv e1 e2 hz h1 h2

theorem fv_sub {a b : Nat} {x y : Int} (ha : FV a x) (hb : FV b y) {M k : Nat} (hz : (x - y).natAbs = M * 2 ^ k) (h1 : M < 2 ^ 53) (h2 : k + M.log2 ≤ 2097) :
    ∃ r, double.sub a b = some r ∧ FV r (x - y) := by
  obtain ⟨s, m, i, e1, rfl⟩ := ha
  obtain ⟨t, n, j, e2, rfl⟩ := hb
  have := sum_fv e1 (opp_fv e2) (M := M) (k := k) (by rw [signed_not]; exact hz) h1 h2
  rw [signed_not] at this
  exact this

theorem mul_fv {a b : Nat} {x y z : Int} (q : Nat) (hq : q = 1074) (ha : FV a x) (hb : FV b y) (hxy : x * y = z * 2 ^ q) {M k : Nat} (hz : z.natAbs = M * 2 ^ k) (h1 : M < 2 ^ 53) (h2 : k + M.log2 ≤ 2097) :
    ∃ r, double.mul a b = some r ∧ FV r z := by
  obtain ⟨s, m, i, e1, rfl⟩ := ha
  obtain ⟨t, n, j, e2, rfl⟩ := hb
  unfold Format.mul
  rw [e1, e2]
  unfold Datum.product
  refine ⟨_, rfl, ?_⟩
  show FV (double.nearest (s ^^ t) (m * n) (-1074 + (i : Int) + (-1074 + (j : Int)))) z
  have hN : m * n * 2 ^ (i + j) = M * 2 ^ (k + q) := by
    have := congrArg Int.natAbs hxy
    rw [Int.natAbs_mul, Int.natAbs_mul, signed_natAbs, signed_natAbs, hz, Int.natAbs_pow, two_abs] at this
    rw [Nat.pow_add, Nat.pow_add, ← Nat.mul_assoc, ← Nat.mul_assoc, ← this]
    rw [Nat.mul_assoc, Nat.mul_assoc, Nat.mul_assoc, Nat.mul_left_comm n (2 ^ i)]
  by_cases h0 : m * n = 0
  · rw [h0] at hN ⊢
    have hM : M = 0 := by
      rw [Nat.zero_mul] at hN
      rcases Nat.mul_eq_zero.1 hN.symm with c | c
      · exact c
      · exact absurd c (Nat.ne_of_gt (Nat.two_pow_pos _))
    subst hM
    have hz0 : z = 0 := by omega
    subst hz0
    refine ⟨s ^^ t, 0, 0, ?_, ?_⟩
    · unfold Format.nearest
      rw [if_pos rfl]
      exact read_zero _
    · rw [signed_eq, Nat.zero_mul]; cases (s ^^ t) <;> rfl
  · rw [show -1074 + (i : Int) + (-1074 + (j : Int)) = -1074 - (q : Int) + ((i + j : Nat) : Int) by omega, ← nearest_scale _ _ _ _ h0, hN]
    have := nearest_fv (s ^^ t) (M * 2 ^ (k + q)) q (-1074 - (q : Int)) M k rfl rfl h1 h2
    refine Eq.mp ?_ this
    congr 1
    refine signed_of z _ M k hz ?_
    intro hne
    have hp : (0 : Int) < 2 ^ q := Int.pow_pos (by decide)
    have hmi : 0 < m * 2 ^ i := Nat.mul_pos (Nat.pos_of_ne_zero fun c => h0 (by rw [c, Nat.zero_mul])) (Nat.two_pow_pos _)
    have hnj : 0 < n * 2 ^ j := Nat.mul_pos (Nat.pos_of_ne_zero fun c => h0 (by rw [c, Nat.mul_zero])) (Nat.two_pow_pos _)
    rw [signed_eq, signed_eq] at hxy
    generalize m * 2 ^ i = u at *
    generalize n * 2 ^ j = v at *
    have hpos : (0 : Int) < (u : Int) * (v : Int) := Int.mul_pos (by omega) (by omega)
    generalize (2 : Int) ^ q = P at *
    have key : ∀ (w : Int), w = z * P → (w < 0 ↔ z < 0) := by
      intro w hw
      subst hw
      constructor
      · intro h
        by_cases hx : z < 0
        · exact hx
        · have : 0 ≤ z * P := Int.mul_nonneg (by omega) (by omega)
          omega
      · intro h; exact Int.mul_neg_of_neg_of_pos h hp
    have key := key _ hxy
    cases s <;> cases t <;> simp only [Bool.false_eq_true, if_false, if_true, Int.neg_mul, Int.mul_neg, Int.neg_neg] at key
    · have : decide (z < 0) = false := decide_eq_false (by omega)
      rw [this]; rfl
    · have : decide (z < 0) = true := decide_eq_true (by omega)
      rw [this]; rfl
    · have : decide (z < 0) = true := decide_eq_true (by omega)
      rw [this]; rfl
    · have : decide (z < 0) = false := decide_eq_false (by omega)
      rw [this]; rfl

theorem compare_scale (a b : Int) (c : Nat) : compare (a * 2 ^ c) (b * 2 ^ c) = compare a b := by
  have hp : (0 : Int) < 2 ^ c := Int.pow_pos (by decide)
  have hlt : (a * 2 ^ c < b * 2 ^ c) ↔ a < b := Int.mul_lt_mul_right hp
  have heq : (a * 2 ^ c = b * 2 ^ c) ↔ a = b := Int.mul_eq_mul_right_iff (by omega)
  show compareOfLessAndEq _ _ = compareOfLessAndEq _ _
  unfold compareOfLessAndEq
  simp only [hlt, heq]

theorem fv_order {a b : Nat} {x y : Int} (ha : FV a x) (hb : FV b y) : double.order a b = some (compare x y) := by
  obtain ⟨s, m, i, e1, rfl⟩ := ha
  obtain ⟨t, n, j, e2, rfl⟩ := hb
  unfold Format.order
  rw [e1, e2]
  unfold Datum.order
  dsimp only
  have hb : min (-1074 + (i : Int)) (-1074 + (j : Int)) = -1074 + ((min i j : Nat) : Int) := by omega
  rw [hb]
  generalize hc : min i j = c
  have hi : (-1074 + (i : Int) - (-1074 + (c : Int))).toNat + c = i := by omega
  have hj : (-1074 + (j : Int) - (-1074 + (c : Int))).toNat + c = j := by omega
  generalize (-1074 + (i : Int) - (-1074 + (c : Int))).toNat = i' at *
  generalize (-1074 + (j : Int) - (-1074 + (c : Int))).toNat = j' at *
  subst hi hj
  rw [signed_split, signed_split, compare_scale]

/-- Whole numbers: the bits are those of the whole number n. -/
def IV (b : Nat) (n : Int) : Prop := ∃ q : Nat, q = 1074 ∧ FV b (n * 2 ^ q)

theorem log2_le_of_lt {M : Nat} (h : M < 2 ^ 53) : M.log2 ≤ 52 := by
  by_cases h0 : M = 0
  · subst h0; decide
  · have := (Nat.log2_lt (n := M) (k := 53) h0).2 h
    omega

theorem natAbs_scale (n : Int) (q : Nat) : (n * 2 ^ q).natAbs = n.natAbs * 2 ^ q := by
  rw [Int.natAbs_mul, Int.natAbs_pow, two_abs]

theorem iv_add {a b : Nat} {x y : Int} (ha : IV a x) (hb : IV b y) (h : (x + y).natAbs < 2 ^ 53) : ∃ r, double.add a b = some r ∧ IV r (x + y) := by
  obtain ⟨q, hq, ha⟩ := ha
  obtain ⟨q', hq', hb⟩ := hb
  subst hq'
  have e : x * 2 ^ q + y * 2 ^ q = (x + y) * 2 ^ q := by rw [Int.add_mul]
  rw [← hq] at hb
  obtain ⟨r, h1, h2⟩ := fv_add ha hb (M := (x + y).natAbs) (k := q) (by rw [e, natAbs_scale]) h (by have := log2_le_of_lt h; omega)
  exact ⟨r, h1, q, hq, by rw [← e]; exact h2⟩

theorem iv_sub {a b : Nat} {x y : Int} (ha : IV a x) (hb : IV b y) (h : (x - y).natAbs < 2 ^ 53) : ∃ r, double.sub a b = some r ∧ IV r (x - y) := by
  obtain ⟨q, hq, ha⟩ := ha
  obtain ⟨q', hq', hb⟩ := hb
  subst hq'
  have e : x * 2 ^ q - y * 2 ^ q = (x - y) * 2 ^ q := by rw [Int.sub_mul]
  rw [← hq] at hb
  obtain ⟨r, h1, h2⟩ := fv_sub ha hb (M := (x - y).natAbs) (k := q) (by rw [e, natAbs_scale]) h (by have := log2_le_of_lt h; omega)
  exact ⟨r, h1, q, hq, by rw [← e]; exact h2⟩

theorem iv_mul {a b : Nat} {x y : Int} (ha : IV a x) (hb : IV b y) (h : (x * y).natAbs < 2 ^ 53) : ∃ r, double.mul a b = some r ∧ IV r (x * y) := by
  obtain ⟨q, hq, ha⟩ := ha
  obtain ⟨q', hq', hb⟩ := hb
  subst hq'
  rw [← hq] at hb
  have e : x * 2 ^ q * (y * 2 ^ q) = x * y * 2 ^ q * 2 ^ q := by rw [Int.mul_assoc, Int.mul_assoc, Int.mul_assoc, Int.mul_left_comm (2 ^ q) y]
  obtain ⟨r, h1, h2⟩ := mul_fv q hq ha hb e (M := (x * y).natAbs) (k := q) (by rw [natAbs_scale]) h (by have := log2_le_of_lt h; omega)
  exact ⟨r, h1, q, hq, h2⟩

theorem iv_order {a b : Nat} {x y : Int} (ha : IV a x) (hb : IV b y) : double.order a b = some (compare x y) := by
  obtain ⟨q, hq, ha⟩ := ha
  obtain ⟨q', hq', hb⟩ := hb
  subst hq'
  rw [← hq] at hb
  rw [fv_order ha hb, compare_scale]

theorem iv_zero : IV 0 0 := ⟨1074, rfl, false, 0, 0, rfl, by rw [Int.zero_mul]; rfl⟩

theorem iv_ofInt (n : Int) (h : n.natAbs < 2 ^ 53) : IV (floatOfInt .f64 n) n := by
  refine ⟨1074, rfl, ?_⟩
  generalize hq : (1074 : Nat) = q
  have := nearest_fv (decide (n < 0)) (n.natAbs * 2 ^ (q + q)) q (-1074 - (q : Int)) n.natAbs q rfl rfl h (by have := log2_le_of_lt h; omega)
  rw [signed_of (n * 2 ^ q) (decide (n < 0)) n.natAbs q (natAbs_scale n q) ?_] at this
  · by_cases h0 : n = 0
    · subst h0
      have e : floatOfInt .f64 0 = 0 := rfl
      rw [e, Int.zero_mul]
      exact ⟨false, 0, 0, rfl, rfl⟩
    · rw [nearest_scale _ _ _ _ (by omega), show -1074 - (q : Int) + ((q + q : Nat) : Int) = 0 by omega] at this
      exact this
  · intro _
    rw [decide_eq_decide]
    have hp : (0 : Int) < 2 ^ q := Int.pow_pos (by decide)
    constructor
    · intro h; exact Int.mul_neg_of_neg_of_pos h hp
    · intro h
      by_cases hx : n < 0
      · exact hx
      · have : 0 ≤ n * 2 ^ q := Int.mul_nonneg (by omega) (by omega)
        omega

theorem mul_pow_cancel {a b q : Nat} (h : a * 2 ^ q = b * 2 ^ q) : a = b := Nat.eq_of_mul_eq_mul_right (Nat.two_pow_pos q) h

theorem cut_zero (neg : Bool) (n d : Nat) : Toward.zero.cut neg n d = n / 2 ^ d := by
  unfold Toward.cut
  dsimp only
  rw [Bool.toNat_false, Nat.add_zero]
  by_cases h : d ≤ n.log2 + 2
  · rw [Nat.min_eq_left h, Nat.one_shiftLeft]
  · have a := small_div (n := n) (d := d) (by omega)
    have b := small_div (n := n) (d := n.log2 + 2) (Nat.le_refl _)
    rw [Nat.min_eq_right (by omega), Nat.one_shiftLeft, Nat.div_eq_of_lt (by omega), Nat.div_eq_of_lt (by omega)]

/-- Cutting a whole number towards zero leaves it. -/
theorem iv_integral {b : Nat} {n : Int} (h : IV b n) : ∃ s : Bool, (double.read b).integral .zero = .number s n.natAbs 0 ∧ signed s n.natAbs 0 = n := by
  obtain ⟨q, hq, s, m, k, e, hv⟩ := h
  have hN := congrArg Int.natAbs hv
  rw [signed_natAbs, natAbs_scale] at hN
  refine ⟨s, ?_, ?_⟩
  · rw [e]
    unfold Datum.integral
    dsimp only
    rw [cut_zero]
    congr 1
    rw [Nat.shiftLeft_eq]
    by_cases c : q ≤ k
    · rw [show (-(-1074 + (k : Int))).toNat = 0 by omega, Nat.pow_zero, Nat.div_one]
      refine mul_pow_cancel (q := q) ?_
      rw [← hN, Nat.mul_assoc, ← Nat.pow_add]
      congr 2; omega
    · rw [show (-1074 + (k : Int)).toNat = 0 by omega, Nat.pow_zero, Nat.mul_one, show (-(-1074 + (k : Int))).toNat = q - k by omega]
      have : m = n.natAbs * 2 ^ (q - k) := by
        refine mul_pow_cancel (q := k) ?_
        rw [hN, Nat.mul_assoc, ← Nat.pow_add]
        congr 2; omega
      rw [this, Nat.mul_div_cancel _ (Nat.two_pow_pos _)]
  · have hp : (0 : Int) < 2 ^ q := Int.pow_pos (by decide)
    rw [signed_eq, Nat.pow_zero, Nat.mul_one]
    rw [signed_eq, hN] at hv
    generalize hA : n.natAbs = A at *
    rw [Int.natCast_mul, Int.natCast_pow] at hv
    cases s
    · refine Int.eq_of_mul_eq_mul_right (Int.ne_of_gt hp) ?_
      exact hv
    · refine Int.eq_of_mul_eq_mul_right (Int.ne_of_gt hp) ?_
      rw [← hv]
      exact Int.neg_mul _ _

theorem iv_trunc {b : Nat} {n : Int} (h : IV b n) (hn : n.natAbs < 2 ^ 53) : IV (FloatKind.f64.encode ((FloatKind.f64.decode b).integral .zero)) n := by
  obtain ⟨s, e, hs⟩ := iv_integral h
  show IV (double.write ((double.read b).integral .zero)) n
  rw [e]
  show IV (double.nearest s n.natAbs 0) n
  refine ⟨1074, rfl, ?_⟩
  generalize hq : (1074 : Nat) = q
  have := nearest_fv s (n.natAbs * 2 ^ (q + q)) q (-1074 - (q : Int)) n.natAbs q rfl rfl hn (by have := log2_le_of_lt hn; omega)
  have hsq : signed s n.natAbs q = n * 2 ^ q := by
    have := signed_split s n.natAbs 0 q
    rw [Nat.zero_add, hs] at this
    exact this
  rw [hsq] at this
  by_cases h0 : n = 0
  · subst h0
    rw [Int.zero_mul]
    refine ⟨s, 0, 0, ?_, ?_⟩
    · show double.read (double.nearest s 0 0) = _
      unfold Format.nearest
      rw [if_pos rfl]
      exact read_zero _
    · rw [signed_eq, Nat.zero_mul]; cases s <;> rfl
  · rw [nearest_scale _ _ _ _ (by omega), show -1074 - (q : Int) + ((q + q : Nat) : Int) = 0 by omega] at this
    exact this

theorem iv_toInt {b : Nat} {n : Int} (h : IV b n) : (FloatKind.f64.decode b).toInt .zero = some n := by
  obtain ⟨s, e, hs⟩ := iv_integral h
  unfold Datum.toInt
  rw [show (FloatKind.f64.decode b).integral .zero = _ from e]
  dsimp only
  rw [hs]

theorem read_mod (b : Nat) (s : Bool) (m : Nat) (p : Int) (h : double.read b = .number s m p) : double.read (b % 9223372036854775808) = .number false m p := by
  unfold Format.read at h ⊢
  dsimp only at h ⊢
  rw [sw] at h ⊢
  rw [Nat.mod_mod, Nat.div_eq_of_lt (Nat.mod_lt _ (by decide))]
  have e0 : (0 % 2 == 1) = false := rfl
  rw [e0]
  split at h
  · cases h; rw [if_pos ‹_›]
  · split at h
    · cases h; rw [if_neg ‹_›, if_pos ‹_›]
    · split at h <;> cases h

theorem iv_abs {b : Nat} {n : Int} (h : IV b n) : IV (b % 9223372036854775808) n.natAbs := by
  obtain ⟨q, hq, s, m, k, e, hv⟩ := h
  have hN := congrArg Int.natAbs hv
  rw [signed_natAbs, natAbs_scale] at hN
  refine ⟨q, hq, false, m, k, read_mod b s m _ e, ?_⟩
  rw [signed_eq, hN, Int.natCast_mul, Int.natCast_pow]
  rfl

theorem iv_bound63 : IV 4890909195324358656 9223372036854775808 := ⟨1074, rfl, false, 4503599627370496, 1085, by decide +kernel, by decide +kernel⟩

end Go.Proofs.Ytgbkfmjkemkajaa.Fl

namespace Go.Proofs.Ytgbkfmjkemkajaa
open Go.RowKit Fl Ieee

def negB (b : Nat) : Nat := (bits .xor .u64 (b : Int) 9223372036854775808).toNat
def plainB (a : Nat) : Nat := if FloatKind.f64.format.order a 0 == some .eq then 0 else a
theorem fv_nought : FV 0 0 := ⟨false, 0, 0, rfl, rfl⟩

theorem fv_unique {b : Nat} {v v' : Int} (h : FV b v) (h' : FV b v') : v = v' := by
  obtain ⟨s, m, k, e, rfl⟩ := h
  obtain ⟨s', m', k', e', rfl⟩ := h'
  rw [e] at e'
  injection e' with h1 h2 h3
  have : k = k' := by omega
  rw [h1, h2, this]

theorem fv_mod64 {b : Nat} {v : Int} (h : FV b v) : FV (b % 18446744073709551616) v := by
  obtain ⟨s, m, k, e, hv⟩ := h
  refine ⟨s, m, k, ?_, hv⟩
  rw [← e]
  unfold Format.read
  dsimp only
  rw [sw, show b % 18446744073709551616 / 9223372036854775808 % 2 = b / 9223372036854775808 % 2 by omega, show b % 18446744073709551616 % 9223372036854775808 = b % 9223372036854775808 by omega]

theorem negB_mod (b : Nat) : negB b = negB (b % 18446744073709551616) := by
  unfold negB
  have : BitVec.ofInt 64 (b : Int) = BitVec.ofInt 64 ((b % 18446744073709551616 : Nat) : Int) := by
    apply BitVec.eq_of_toNat_eq
    simp only [BitVec.toNat_ofInt]
    omega
  show (IntKind.u64.wrap ((BitVec.ofInt 64 (b : Int) ^^^ BitVec.ofInt 64 9223372036854775808).toNat : Int)).toNat = (IntKind.u64.wrap ((BitVec.ofInt 64 ((b % 18446744073709551616 : Nat) : Int) ^^^ BitVec.ofInt 64 9223372036854775808).toNat : Int)).toNat
  rw [this]

theorem negB_low {b : Nat} (hb : b < 18446744073709551616) : negB b = if b < 9223372036854775808 then b + 9223372036854775808 else b - 9223372036854775808 := by
  unfold negB
  rw [show (9223372036854775808 : Int) = ((9223372036854775808 : Nat) : Int) from rfl, u64_xor_nat b 9223372036854775808 hb (by decide), Int.toNat_natCast]
  have h1 : (b ^^^ 9223372036854775808) / 2 ^ 63 = b / 2 ^ 63 ^^^ 9223372036854775808 / 2 ^ 63 := Nat.xor_div_two_pow
  have h2 : (b ^^^ 9223372036854775808) % 2 ^ 63 = b % 2 ^ 63 ^^^ 9223372036854775808 % 2 ^ 63 := Nat.xor_mod_two_pow
  rw [show (9223372036854775808 : Nat) % 2 ^ 63 = 0 by decide, Nat.xor_zero] at h2
  rw [show (9223372036854775808 : Nat) / 2 ^ 63 = 1 by decide] at h1
  generalize b ^^^ 9223372036854775808 = y at h1 h2 ⊢
  by_cases c : b < 9223372036854775808
  · rw [show b / 2 ^ 63 = 0 by omega] at h1
    have h3 : (0 ^^^ 1 : Nat) = 1 := by decide
    rw [h3] at h1
    rw [if_pos c]
    omega
  · rw [show b / 2 ^ 63 = 1 by omega] at h1
    have h3 : (1 ^^^ 1 : Nat) = 0 := by decide
    rw [h3] at h1
    rw [if_neg c]
    omega

theorem read_flip {s t : Bool} {r m : Nat} {p : Int} (hr : r < 9223372036854775808) (h : double.read (double.word s r) = .number t m p) : double.read (double.word (!s) r) = .number (!t) m p := by
  rw [read_word _ r hr] at h ⊢
  by_cases c1 : r < 4503599627370496
  · rw [if_pos c1] at h ⊢
    injection h with h1 h2 h3
    rw [h1, h2, h3]
  · rw [if_neg c1] at h ⊢
    by_cases c2 : r < 9218868437227405312
    · rw [if_pos c2] at h ⊢
      injection h with h1 h2 h3
      rw [h1, h2, h3]
    · rw [if_neg c2] at h
      split at h <;> cases h

theorem fv_negB {b : Nat} {v : Int} (h : FV b v) : FV (negB b) (-v) := by
  rw [negB_mod]
  have h' := fv_mod64 h
  have hb : b % 18446744073709551616 < 18446744073709551616 := Nat.mod_lt _ (by decide)
  generalize b % 18446744073709551616 = c at h' hb
  obtain ⟨s, m, k, e, rfl⟩ := h'
  rw [negB_low hb]
  refine ⟨!s, m, k, ?_, signed_not s m k⟩
  by_cases hc : c < 9223372036854775808
  · rw [if_pos hc]
    have e1 : c = double.word false c := by unfold Format.word; rw [if_neg (by decide)]
    have e2 : c + 9223372036854775808 = double.word (!false) c := by
      show _ = double.word true c
      unfold Format.word
      rw [if_pos rfl, sw, Nat.add_comm]
    rw [e1] at e
    rw [e2]
    exact read_flip hc e
  · rw [if_neg hc]
    obtain ⟨d, hd⟩ : ∃ d, c = d + 9223372036854775808 := ⟨c - 9223372036854775808, by omega⟩
    have hdl : d < 9223372036854775808 := by omega
    have e1 : c = double.word true d := by unfold Format.word; rw [if_pos rfl, sw, hd, Nat.add_comm]
    have e2 : c - 9223372036854775808 = double.word (!true) d := by
      show _ = double.word false d
      unfold Format.word
      rw [if_neg (by decide), hd, Nat.add_sub_cancel]
    rw [e2]
    rw [e1] at e
    exact read_flip hdl e

theorem fv_plain {b : Nat} {v : Int} (h : FV b v) : FV (plainB b) v := by
  unfold plainB
  split
  · rename_i h1
    have h2 : FloatKind.f64.format.order b 0 = some (compare v 0) := fv_order h fv_nought
    rw [h2] at h1
    have : v = 0 := Int.compare_eq_eq.1 (by
      generalize compare v 0 = o at h1
      cases o <;> first | rfl | exact absurd h1 (by decide))
    rw [this]
    exact fv_nought
  · exact h

theorem iv_negB {b : Nat} {n : Int} (h : IV b n) : IV (negB b) (-n) := by
  obtain ⟨q, hq, f⟩ := h
  exact ⟨q, hq, by rw [Int.neg_mul]; exact fv_negB f⟩

theorem iv_plain {b : Nat} {n : Int} (h : IV b n) : IV (plainB b) n := by
  obtain ⟨q, hq, f⟩ := h
  exact ⟨q, hq, fv_plain f⟩

theorem order_zero {b : Nat} {n : Int} (h : IV b n) : (FloatKind.f64.format.order b 0 == some .eq) = decide (n = 0) := by
  rw [show FloatKind.f64.format.order b 0 = _ from iv_order h iv_zero]
  by_cases c : n = 0
  · subst c; rfl
  · rw [decide_eq_false c, beq_eq_false_iff_ne]
    intro e
    exact c (Int.compare_eq_eq.1 (Option.some.inj e))

theorem plain_zero {b : Nat} (h : IV b 0) : plainB b = 0 := by
  unfold plainB
  rw [order_zero h]
  rfl

theorem plain_lt {b : Nat} (h : b < 18446744073709551616) : plainB b < 18446744073709551616 := by
  unfold plainB
  split
  · decide
  · exact h

theorem iv_same {a b : Nat} {n : Int} (ha : IV a n) (hb : IV b n) : FloatKind.f64.format.order a b = some .eq := by
  rw [show FloatKind.f64.format.order a b = _ from iv_order ha hb, Int.compare_eq_eq.2 rfl]

theorem iv_of {b : Nat} (n : Int) (hn : n.natAbs < 2 ^ 53) (h : floatOfInt .f64 n = b) : IV b n := by
  rw [← h]
  exact iv_ofInt n hn

structure AddTo (a b r : Nat × Nat) : Prop where
  one : floatBits .add .f64 a.1 b.1 = some r.1
  two : floatBits .add .f64 a.2 b.2 = some r.2

/-- What a product of two complex numbers comes to, part by part. -/
structure MulTo (a b c d r s : Nat) : Prop where
  ex : ∃ ac bd ad bc, floatBits .mul .f64 a c = some ac ∧ floatBits .mul .f64 b d = some bd ∧ floatBits .mul .f64 a d = some ad ∧ floatBits .mul .f64 b c = some bc ∧ floatBits .sub .f64 ac bd = some r ∧ floatBits .add .f64 ad bc = some s

/-- Both parts are whole numbers. -/
structure IC (b : Nat × Nat) (z : Int × Int) : Prop where
  one : IV b.1 z.1
  two : IV b.2 z.2

/-- Such as a grid takes: of 64 bits, noughts without a sign, parts of at most m. -/
structure Cell (b : Nat × Nat) (z : Int × Int) (m : Nat) : Prop where
  ic : IC b z
  lt1 : b.1 < 18446744073709551616
  lt2 : b.2 < 18446744073709551616
  z1 : z.1 = 0 → b.1 = 0
  z2 : z.2 = 0 → b.2 = 0
  le1 : z.1.natAbs ≤ m
  le2 : z.2.natAbs ≤ m

theorem ic_zero : IC (0, 0) (0, 0) := ⟨iv_zero, iv_zero⟩
theorem cell_zero (m : Nat) : Cell (0, 0) (0, 0) m := ⟨ic_zero, by decide, by decide, fun _ => rfl, fun _ => rfl, Nat.zero_le _, Nat.zero_le _⟩
theorem Cell.mono {b : Nat × Nat} {z : Int × Int} {m k : Nat} (h : Cell b z m) (hk : m ≤ k) : Cell b z k := ⟨h.ic, h.lt1, h.lt2, h.z1, h.z2, Nat.le_trans h.le1 hk, Nat.le_trans h.le2 hk⟩

def addZ (a b : Int × Int) : Int × Int := (a.1 + b.1, a.2 + b.2)
/-- a times the conjugate of b. -/
def mulZ (a b : Int × Int) : Int × Int := (a.1 * b.1 + a.2 * b.2, a.2 * b.1 - a.1 * b.2)

theorem ic_add {a b : Nat × Nat} {x y : Int × Int} (ha : IC a x) (hb : IC b y) (h1 : (x.1 + y.1).natAbs < 2 ^ 53) (h2 : (x.2 + y.2).natAbs < 2 ^ 53) : ∃ r : Nat × Nat, AddTo a b r ∧ IC r (addZ x y) ∧ r.1 < 18446744073709551616 ∧ r.2 < 18446744073709551616 := by
  obtain ⟨r, e1, i1⟩ := iv_add ha.one hb.one h1
  obtain ⟨s, e2, i2⟩ := iv_add ha.two hb.two h2
  exact ⟨(r, s), ⟨e1, e2⟩, ⟨i1, i2⟩, Ieee.Format.add_lt _ e1, Ieee.Format.add_lt _ e2⟩

theorem prod_le {x y : Int} {m k : Nat} (hx : x.natAbs ≤ m) (hy : y.natAbs ≤ k) : (x * y).natAbs ≤ m * k := by
  rw [Int.natAbs_mul]
  exact Nat.mul_le_mul hx hy

theorem ic_mul {a b : Nat × Nat} {x y : Int × Int} {m k : Nat} (ha : IC a x) (hb : IC b y) (a1 : x.1.natAbs ≤ m) (a2 : x.2.natAbs ≤ m) (b1 : y.1.natAbs ≤ k) (b2 : y.2.natAbs ≤ k) (h : 2 * (m * k) < 2 ^ 53) :
    ∃ r s : Nat, MulTo a.1 a.2 b.1 (negB b.2) r s ∧ IC (r, s) (mulZ x y) := by
  have hn := iv_negB hb.two
  have p1 := prod_le a1 b1
  have p2 := prod_le a2 b2
  have p3 := prod_le a1 b2
  have p4 := prod_le a2 b1
  obtain ⟨ac, e1, i1⟩ := iv_mul ha.one hb.one (by omega)
  obtain ⟨bd, e2, i2⟩ := iv_mul ha.two hn (by rw [Int.mul_neg, Int.natAbs_neg]; omega)
  obtain ⟨ad, e3, i3⟩ := iv_mul ha.one hn (by rw [Int.mul_neg, Int.natAbs_neg]; omega)
  obtain ⟨bc, e4, i4⟩ := iv_mul ha.two hb.one (by omega)
  rw [Int.mul_neg] at i2 i3
  obtain ⟨r, e5, i5⟩ := iv_sub i1 i2 (by omega)
  obtain ⟨s, e6, i6⟩ := iv_add i3 i4 (by omega)
  refine ⟨r, s, ⟨ac, bd, ad, bc, e1, e2, e3, e4, e5, e6⟩, ?_, ?_⟩
  · show IV r (x.1 * y.1 + x.2 * y.2)
    rw [show x.1 * y.1 + x.2 * y.2 = x.1 * y.1 - -(x.2 * y.2) by omega]
    exact i5
  · show IV s (x.2 * y.1 - x.1 * y.2)
    rw [show x.2 * y.1 - x.1 * y.2 = -(x.1 * y.2) + x.2 * y.1 by omega]
    exact i6
end Go.Proofs.Ytgbkfmjkemkajaa

namespace Go.Proofs.Ytgbkfmjkemkajaa

/-- What the bins hold behind k cells, the cell j having gone into the bin ix j. -/
def accZ (ix : Nat → Nat) (v : Nat → Int × Int) : Nat → Nat → Int × Int
  | 0 => fun _ => (0, 0)
  | k + 1 => fun j => if j = ix k then addZ (accZ ix v k j) (v k) else accZ ix v k j

/-- The sum of the products with conjugates. -/
def dotZ (a b : Nat → Int × Int) : Nat → Int × Int
  | 0 => (0, 0)
  | m + 1 => addZ (dotZ a b m) (mulZ (a m) (b m))

theorem dot_ext {a b a' b' : Nat → Int × Int} {m : Nat} (h : ∀ j, j < m → a j = a' j ∧ b j = b' j) : dotZ a b m = dotZ a' b' m := by
  induction m with
  | zero => rfl
  | succ m ih =>
    show addZ _ _ = addZ _ _
    rw [ih fun j hj => h j (by omega), (h m (by omega)).1, (h m (by omega)).2]

theorem dot_put (f l : Nat → Int × Int) (i : Nat) (z : Int × Int) (m : Nat) :
    dotZ (fun j => if j = i then addZ (f j) z else f j) l m = if i < m then addZ (dotZ f l m) (mulZ z (l i)) else dotZ f l m := by
  induction m with
  | zero => rfl
  | succ m ih =>
    show addZ (dotZ _ l m) (mulZ (if m = i then addZ (f m) z else f m) (l m)) = if i < m + 1 then addZ (addZ (dotZ f l m) (mulZ (f m) (l m))) (mulZ z (l i)) else addZ (dotZ f l m) (mulZ (f m) (l m))
    rw [ih]
    by_cases c : i < m
    · have c1 : i < m + 1 := by omega
      have c2 : ¬ m = i := by omega
      rw [if_pos c, if_pos c1, if_neg c2]
      unfold addZ
      refine Prod.ext ?_ ?_
      · dsimp only; omega
      · dsimp only; omega
    · rw [if_neg c]
      by_cases c2 : m = i
      · subst c2
        rw [if_pos rfl, if_pos (Nat.lt_succ_self m)]
        unfold addZ mulZ
        refine Prod.ext ?_ ?_
        · dsimp only; rw [Int.add_mul, Int.add_mul]; omega
        · dsimp only; rw [Int.add_mul, Int.add_mul]; omega
      · have c3 : ¬ i < m + 1 := by omega
        rw [if_neg c2, if_neg c3]

theorem adjoint {ix : Nat → Nat} {v l : Nat → Int × Int} {m : Nat} (k : Nat) (h : ∀ j, j < k → ix j < m) :
    dotZ (accZ ix v k) l m = dotZ v (fun j => l (ix j)) k := by
  induction k with
  | zero =>
    show dotZ (fun _ => (0, 0)) l m = (0, 0)
    clear h
    induction m with
    | zero => rfl
    | succ m ih =>
      show addZ (dotZ _ l m) (mulZ (0, 0) (l m)) = _
      rw [ih]
      unfold addZ mulZ
      refine Prod.ext ?_ ?_ <;> (dsimp only; rw [Int.zero_mul, Int.zero_mul]; rfl)
  | succ k ih =>
    show dotZ (fun j => if j = ix k then addZ (accZ ix v k j) (v k) else accZ ix v k j) l m = _
    rw [dot_put, if_pos (h k (by omega)), ih fun j hj => h j (by omega)]
    rfl

theorem acc_le {ix : Nat → Nat} {v : Nat → Int × Int} {M : Nat} {k : Nat} (h : ∀ j, j < k → (v j).1.natAbs ≤ M ∧ (v j).2.natAbs ≤ M) (j : Nat) : (accZ ix v k j).1.natAbs ≤ k * M ∧ (accZ ix v k j).2.natAbs ≤ k * M := by
  induction k with
  | zero => exact ⟨Nat.zero_le _, Nat.zero_le _⟩
  | succ k ih =>
    have i1 := ih fun j hj => h j (by omega)
    have i2 := h k (by omega)
    rw [Nat.add_mul, Nat.one_mul]
    show (if j = ix k then addZ (accZ ix v k j) (v k) else accZ ix v k j).1.natAbs ≤ _ ∧ (if j = ix k then addZ (accZ ix v k j) (v k) else accZ ix v k j).2.natAbs ≤ _
    split
    · unfold addZ
      dsimp only
      omega
    · omega

theorem part_le {d : Int × Int} {q1 q2 q3 q4 : Int} {C D : Nat} (h : d.1.natAbs ≤ D ∧ d.2.natAbs ≤ D) (h1 : q1.natAbs ≤ C) (h2 : q2.natAbs ≤ C) (h3 : q3.natAbs ≤ C) (h4 : q4.natAbs ≤ C) :
    (d.1 + (q1 + q2)).natAbs ≤ D + 2 * C ∧ (d.2 + (q4 - q3)).natAbs ≤ D + 2 * C := by omega

theorem dot_le {a b : Nat → Int × Int} {A B m : Nat} (ha : ∀ j, j < m → (a j).1.natAbs ≤ A ∧ (a j).2.natAbs ≤ A) (hb : ∀ j, j < m → (b j).1.natAbs ≤ B ∧ (b j).2.natAbs ≤ B) :
    (dotZ a b m).1.natAbs ≤ m * (2 * (A * B)) ∧ (dotZ a b m).2.natAbs ≤ m * (2 * (A * B)) := by
  induction m with
  | zero => exact ⟨Nat.zero_le _, Nat.zero_le _⟩
  | succ m ih =>
    have i1 := ih (fun j hj => ha j (by omega)) (fun j hj => hb j (by omega))
    obtain ⟨a1, a2⟩ := ha m (by omega)
    obtain ⟨b1, b2⟩ := hb m (by omega)
    have p1 := prod_le a1 b1
    have p2 := prod_le a2 b2
    have p3 := prod_le a1 b2
    have p4 := prod_le a2 b1
    rw [Nat.add_mul, Nat.one_mul]
    show (addZ (dotZ a b m) (mulZ (a m) (b m))).1.natAbs ≤ _ ∧ (addZ (dotZ a b m) (mulZ (a m) (b m))).2.natAbs ≤ _
    unfold addZ mulZ
    dsimp only
    generalize (a m).1 * (b m).1 = q1 at *
    generalize (a m).2 * (b m).2 = q2 at *
    generalize (a m).1 * (b m).2 = q3 at *
    generalize (a m).2 * (b m).1 = q4 at *
    generalize A * B = C at *
    generalize m * (2 * C) = D at *
    exact part_le i1 p1 p2 p3 p4
end Go.Proofs.Ytgbkfmjkemkajaa

namespace Go.Proofs.Ytgbkfmjkemkajaa
open Go.RowKit

theorem bits32 (b : Nat) (w : World) : (callFunc 87 #[.float .f64 b]).run Try.prog w = .ok (.value (.int .u64 b)) w := by
  rw [run_callFunc_extern (e := Extern.MathFloatBits.float64bits) Try.func87 (by kernel_rfl) (by kernel_rfl) (by kernel_rfl) (by kernel_rfl)]
  rfl

theorem from31 (n : Int) (w : World) : (callFunc 88 #[.int .u64 n]).run Try.prog w = .ok (.value (.float .f64 n.toNat)) w := by
  rw [run_callFunc_extern (e := Extern.MathFloatBits.float64frombits) Try.func88 (by kernel_rfl) (by kernel_rfl) (by kernel_rfl) (by kernel_rfl)]
  rfl

def cv (a : Nat × Nat) : Value := .complex .f64 a.1 a.2

/-- Block g is a row of n complex numbers, f i at place i. -/
def Row (w : World) (g n : Nat) (f : Nat → Nat × Nat) : Prop := ∃ cur, w.heap[g]? = some (.cells cur 38 (0, 0)) ∧ n ≤ cur.size ∧ ∀ i, i < n → cur[i]? = some (cv (f i))

theorem row_at {w : World} {g n : Nat} {f : Nat → Nat × Nat} (h : Row w g n f) {i : Nat} (hi : i < n) : w.cell? ⟨g, i, none⟩ = some (cv (f i)) := by
  obtain ⟨cur, h1, h2, h3⟩ := h
  rw [cell_of_row w g i cur _ (0, 0) h1]
  exact h3 i hi

theorem row_frozen {w : World} {g n : Nat} {f : Nat → Nat × Nat} (h : Row w g n f) (i : Nat) : w.frozen? ⟨g, i, none⟩ = false := by
  obtain ⟨cur, h1, h2, h3⟩ := h
  exact frozen_of_row w g i cur _ h1

theorem row_lt {w : World} {g n : Nat} {f : Nat → Nat × Nat} (h : Row w g n f) : g < w.heap.size := by
  obtain ⟨cur, h1, h2, h3⟩ := h
  exact (Array.getElem?_eq_some_iff.1 h1).1

theorem row_ext {w : World} {g n : Nat} {f f' : Nat → Nat × Nat} (h : Row w g n f) (he : ∀ i, i < n → f i = f' i) : Row w g n f' := by
  obtain ⟨cur, h1, h2, h3⟩ := h
  exact ⟨cur, h1, h2, fun i hi => by rw [← he i hi]; exact h3 i hi⟩

theorem row_keep {w w' : World} {g n : Nat} {f : Nat → Nat × Nat} (h : Row w g n f) (hb : w'.heap[g]? = w.heap[g]?) : Row w' g n f := by
  obtain ⟨cur, h1, h2, h3⟩ := h
  exact ⟨cur, by rw [hb]; exact h1, h2, h3⟩

theorem row_grown {w w' : World} {g n : Nat} {f : Nat → Nat × Nat} {r : Option Nat} (h : Row w g n f) (hg : w.grownBy w' r) (hr : some g ≠ r) : Row w' g n f := row_keep h (hg.block g (row_lt h) hr)
theorem row_below {w w' : World} {g n B : Nat} {f : Nat → Nat × Nat} (h : Row w g n f) (hg : Below B w w') (hr : g < B) : Row w' g n f := row_keep h (hg.block g hr)

def upd (f : Nat → Nat × Nat) (k : Nat) (v : Nat × Nat) : Nat → Nat × Nat := fun i => if i = k then v else f i

theorem row_set {w : World} {g n : Nat} {f : Nat → Nat × Nat} (h : Row w g n f) (k : Nat) (v : Nat × Nat) : Row (w.setCell ⟨g, k, none⟩ (cv v)) g n (upd f k v) := by
  obtain ⟨cur, h1, h2, h3⟩ := h
  refine ⟨cur.setIfInBounds k (cv v), heap_setCell_same w g k cur _ _ h1, by simpa using h2, fun i hi => ?_⟩
  unfold upd
  by_cases c : i = k
  · subst c
    rw [if_pos rfl, Array.getElem?_setIfInBounds_self_of_lt (by omega)]
  · rw [if_neg c, Array.getElem?_setIfInBounds_ne (by omega)]
    exact h3 i hi

theorem row_made {w w' : World} {g n : Nat} {z : Value} {xs : List Value} (h : w'.ownsRow w.heap.size 38 1 (.slice (some ⟨g, 0, none⟩) n n) n xs) (f : Nat → Nat × Nat) (hx : ∀ i, i < n → xs[i]? = some z) (hz : ∀ i, i < n → z = cv (f i)) : Row w' g n f := by
  rcases h.2 with ⟨h', _⟩ | ⟨g', cap, cur, h', _, hg, _, _, hcs, htake⟩
  · simp at h'
  · simp only [Value.slice.injEq, Option.some.injEq, Addr.mk.injEq, and_true, true_and] at h'
    obtain ⟨rfl, rfl⟩ := h'
    refine ⟨cur, hg, by omega, fun i hi => ?_⟩
    have h3 := hx i hi
    rw [← htake, List.getElem?_take, if_pos (by omega), hz i hi] at h3
    simpa using h3

theorem grown_refl (w : World) (r : Option Nat) : w.grownBy w r := ⟨rfl, rfl, rfl, Nat.le_refl _, fun _ _ _ => rfl⟩
theorem grown_trans {a b c : World} {r : Option Nat} (h : a.grownBy b r) (k : b.grownBy c r) : a.grownBy c r :=
  ⟨k.os.trans h.os, k.tape.trans h.tape, k.output.trans h.output, Nat.le_trans h.size k.size, fun i hi hr => (k.block i (Nat.lt_of_lt_of_le hi h.size) hr).trans (h.block i hi hr)⟩
theorem grown_set (w : World) (g k : Nat) (u : Value) : w.grownBy (w.setCell ⟨g, k, none⟩ u) (some g) :=
  ⟨rfl, rfl, rfl, by simp [World.setCell], fun i _ hr => Below.heap_setCell _ _ _ _ (fun e => hr (by rw [e]))⟩
theorem grown_below' {w w' : World} {g B : Nat} (h : w.grownBy w' (some g)) (hg : B ≤ g) (hB : B ≤ w.heap.size) : Below B w w' := (Below.refl _ _).grown h hB (fun k hk => by cases hk; exact hg)
theorem below_grown {w w' : World} {r : Option Nat} (h : Below w.heap.size w w') : w.grownBy w' r := ⟨h.os, h.tape, h.output, h.size, fun k hk _ => h.block k hk⟩

theorem store_complex {P : Program} {w : World} {a : Addr} {m : Mode} (k : FloatKind) (x y : Nat) : (store a (.complex k x y) m).run P w = stored P w a (.complex k x y) m := run_store P w a _ m rfl
theorem row_drew {w : World} {g n : Nat} {f : Nat → Nat × Nat} (h : Row w g n f) : Row w.drew g n f := h
theorem grown_below {w w' : World} (h : w.grownBy w' none) : Below w.heap.size w w' := (Below.refl _ _).grown h (Nat.le_refl _) (fun k hk => by cases hk)
theorem infoC : (Try.prog.info? 38).map (fun i => (i.zero, i.size, i.bytes)) = some (some (.complex .f64 0 0), 1, 16) := by kernel_rfl
theorem zeros_get (n i : Nat) (hi : i < n) : (madeCells #[Value.complex .f64 0 0] n).toList[i]? = some (.complex .f64 0 0) := by
  rw [toList_madeCells_one, List.getElem?_replicate, if_pos (by omega)]

set_option maxHeartbeats 400000 in
theorem plain1Any (a : Nat) (w : World) :
    Calls Try.prog 58 #[.float .f64 a] w fun e w' => e = .returned (.float .f64 (plainB a)) ∧ w' = w := by
  by_cases h : (FloatKind.f64.format.order a 0 == some .eq) = true
  · have hp : plainB a = 0 := by unfold plainB; rw [if_pos h]
    rw [hp]; clear hp
    go_enter Try.func58, Try.ntmps58
    go_wp2
    go_ret
    exact ⟨rfl, rfl⟩
  · have hp : plainB a = a := by unfold plainB; rw [if_neg h]
    rw [hp]; clear hp
    rw [Bool.not_eq_true] at h
    go_enter Try.func58, Try.ntmps58
    go_wp2
    go_ret
    exact ⟨rfl, rfl⟩

set_option maxHeartbeats 400000 in
theorem plainAny (a b : Nat) (w : World) :
    Calls Try.prog 32 #[.complex .f64 a b] w fun e w' => e = .returned (.complex .f64 (plainB a) (plainB b)) ∧ w' = w := by
  go_enter Try.func32, Try.ntmps32
  go_wp2_with (first | (go_at_call 58; refine (plain1Any _ _).mono ?_; rintro e w' ⟨rfl, rfl⟩) | go_in)
  go_ret
  exact ⟨rfl, rfl⟩
end Go.Proofs.Ytgbkfmjkemkajaa

namespace Go.Proofs.Ytgbkfmjkemkajaa
open Go.RowKit

theorem arch31 (b : Nat) (s : Bool) (m : Nat) (p : Int) (h : FloatKind.f64.decode b = .number s m p) (w : World) :
    (callFunc 89 #[.float .f64 b]).run Try.prog w = .ok (.value (.float .f64 (FloatKind.f64.encode ((FloatKind.f64.decode b).integral .zero)))) w := by
  rw [run_callFunc_extern (e := Extern.MathFloor.toIntegral "math.archTrunc" .zero) Try.func89 (by kernel_rfl) (by kernel_rfl) (by kernel_rfl) (by kernel_rfl)]
  have key : (Extern.MathFloor.toIntegral "math.archTrunc" .zero #[.float .f64 b]).run Try.prog w = .ok (.float .f64 (FloatKind.f64.encode ((FloatKind.f64.decode b).integral .zero))) w := by
    unfold Extern.MathFloor.toIntegral
    unfold Extern.MathFloor.toIntegral.match_2
    rw [dif_pos (by rfl)]
    dsimp only [Extern.MathFloor.toIntegral._sparseCasesOn_2, Extern.MathFloor.toIntegral._sparseCasesOn_3, Array.getLit, List.getElem_toArray, List.getElem_cons_zero]
    rw [h]
    rfl
  rw [key]
  rfl

theorem andNot63 (b : Nat) (hb : b < 18446744073709551616) : (bits .andNot .u64 (b : Int) 9223372036854775808).toNat = b % 9223372036854775808 := by
  rw [u64_andNot (b : Int) 9223372036854775808 (by omega) (by omega) (by omega) (by omega), Int.toNat_natCast, Int.toNat_natCast]
  exact Nat.and_two_pow_sub_one_eq_mod b 63

set_option maxHeartbeats 400000 in
theorem abs_any (b : Nat) (w : World) (hb : b < 18446744073709551616) :
    Calls Try.prog 81 #[.float .f64 b] w fun e w' => e = .returned (.float .f64 (b % 9223372036854775808)) ∧ w' = w := by
  have k1 := bits32
  have k2 := from31
  go_enter Try.func81, Try.ntmps81
  go_wp2
  go_ret
  exact ⟨by rw [andNot63 b hb]; rfl, rfl⟩

set_option maxHeartbeats 400000 in
theorem trunc_any (b : Nat) (s : Bool) (m : Nat) (p : Int) (h : FloatKind.f64.decode b = .number s m p) (w : World) :
    Calls Try.prog 82 #[.float .f64 b] w fun e w' => e = .returned (.float .f64 (FloatKind.f64.encode ((FloatKind.f64.decode b).integral .zero))) ∧ w' = w := by
  have k := arch31 b s m p h
  clear h
  go_enter Try.func82, Try.ntmps82
  go_wp2
  go_ret
  exact ⟨rfl, rfl⟩

set_option maxHeartbeats 400000 in
theorem signbit_any (b : Nat) (hb : b = 0) (w : World) :
    Calls Try.prog 80 #[.float .f64 b] w fun e w' => e = .returned (.bool false) ∧ w' = w := by
  subst hb
  have k1 := bits32
  go_enter Try.func80, Try.ntmps80
  go_wp2
  go_ret
  exact ⟨rfl, rfl⟩

theorem gt0 {b : Nat} {n : Int} (hv : Fl.IV b n) (h : n ≠ 0) : (FloatKind.f64.format.order b 0 == some .eq) = false := by
  rw [show FloatKind.f64.format.order b 0 = _ from Fl.iv_order hv Fl.iv_zero, beq_eq_false_iff_ne]
  intro c
  exact h (Int.compare_eq_eq.1 (Option.some.inj c))

theorem eq0 {b : Nat} (hv : Fl.IV b 0) : (FloatKind.f64.format.order b 0 == some .eq) = true := by
  rw [show FloatKind.f64.format.order b 0 = _ from Fl.iv_order hv Fl.iv_zero]
  rfl

set_option maxHeartbeats 400000 in
theorem wholePart_any (b : Nat) (n most : Int) (w : World) (hb : b < 18446744073709551616) (hv : Fl.IV b n) (h0 : n = 0 → b = 0) (hn : n.natAbs ≤ most) (hm : most ≤ 9007199254740991) :
    Calls Try.prog 56 #[.float .f64 b, .int .i64 most] w fun e w' => e = .returned (.bool true) ∧ w' = w := by
  have ha := Fl.iv_abs hv
  have hlt : (FloatKind.f64.format.order (b % 9223372036854775808) 4890909195324358656 == some .lt) = true := by
    rw [show FloatKind.f64.format.order (b % 9223372036854775808) 4890909195324358656 = _ from Fl.iv_order ha Fl.iv_bound63,
      show compare (n.natAbs : Int) 9223372036854775808 = .lt from Int.compare_eq_lt.2 (by omega)]
    rfl
  have hs : n.natAbs < 2 ^ 53 := by omega
  have ht := Fl.iv_trunc ha (by rw [Int.natAbs_natCast]; exact hs)
  have hi := Fl.iv_toInt ha
  obtain ⟨q, hq, s, m, k, hd, _⟩ := ha
  have hne : (FloatKind.f64.format.order (FloatKind.f64.encode ((FloatKind.f64.decode (b % 9223372036854775808)).integral .zero)) (b % 9223372036854775808) != some .eq) = false := by
    rw [show FloatKind.f64.format.order _ (b % 9223372036854775808) = _ from Fl.iv_order ht (Fl.iv_abs hv)]
    simp
  have hc : floatToIntVal .f64 (b % 9223372036854775808) .i64 = some (n.natAbs : Int) := by
    unfold floatToIntVal
    rw [hi]
    dsimp only
    rw [if_pos ⟨by show -9223372036854775808 ≤ _; omega, by show _ ≤ 9223372036854775807; omega⟩]
  have hcv := fun (w : World) => run_convert_float_int (P := Try.prog) w 112 2 .f64 .i64 (b % 9223372036854775808) n.natAbs (by kernel_rfl) (by kernel_rfl) hc
  have hd' : FloatKind.f64.decode (b % 9223372036854775808) = .number s m (-1074 + (k : Int)) := hd
  have htr := trunc_any _ _ _ _ hd'
  clear hd hd' hc hi ht hs hq
  generalize FloatKind.f64.encode ((FloatKind.f64.decode (b % 9223372036854775808)).integral .zero) = T at *
  have hab := fun w => abs_any b w hb
  generalize b % 9223372036854775808 = B at *
  by_cases hz : n = 0
  · have hsb := fun w => signbit_any b (h0 hz) w
    have ho : (FloatKind.f64.format.order b 0 == some .eq) = true := by
      rw [h0 hz]; rfl
    have hA := hide hab
    have hT := hide htr
    have hS := hide hsb
    clear hab htr hsb hz h0
    go_enter Try.func56, Try.ntmps56
    go_wp2_with (first | (go_at_call 80; refine (unhide hS _).mono ?_; rintro e w' ⟨rfl, rfl⟩) | (go_at_call 81; refine (unhide hA _).mono ?_; rintro e w' ⟨rfl, rfl⟩) | (go_at_call 82; refine (unhide hT _).mono ?_; rintro e w' ⟨rfl, rfl⟩))
    go_ret
    exact ⟨rfl, rfl⟩
  · have ho := gt0 hv hz
    have hA := hide hab
    have hT := hide htr
    clear hab htr hz h0
    go_enter Try.func56, Try.ntmps56
    go_wp2_with (first | (go_at_call 81; refine (unhide hA _).mono ?_; rintro e w' ⟨rfl, rfl⟩) | (go_at_call 82; refine (unhide hT _).mono ?_; rintro e w' ⟨rfl, rfl⟩))
    go_ret
    exact ⟨rfl, rfl⟩

set_option maxHeartbeats 400000 in
theorem whole_any (a b : Nat) (n k most : Int) (w : World) (ha : a < 18446744073709551616) (hv : Fl.IV a n) (h0 : n = 0 → a = 0) (hn : n.natAbs ≤ most)
    (hb : b < 18446744073709551616) (hv' : Fl.IV b k) (h0' : k = 0 → b = 0) (hn' : k.natAbs ≤ most) (hm : most ≤ 9007199254740991) :
    Calls Try.prog 29 #[.complex .f64 a b, .int .i64 most] w fun e w' => e = .returned (.bool true) ∧ w' = w := by
  have h1 := hide fun w => wholePart_any a n most w ha hv h0 hn hm
  have h2 := hide fun w => wholePart_any b k most w hb hv' h0' hn' hm
  clear hv hv' h0 h0' hn hn' ha hb hm
  go_enter Try.func29, Try.ntmps29
  go_wp2_with fail
  refine (unhide h1 _).mono ?_
  rintro e w' ⟨rfl, rfl⟩
  go_wp2_with fail
  refine (unhide h2 _).mono ?_
  rintro e w' ⟨rfl, rfl⟩
  go_wp2_with fail
  go_ret
  exact ⟨rfl, rfl⟩

end Go.Proofs.Ytgbkfmjkemkajaa
