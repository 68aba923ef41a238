/- Doubles as scaled whole numbers: a finite double is a whole number of units of 2 to the -1074; sums, differences and products whose exact value fits are exact, and the order is that of the whole numbers. Doubles rounded: how far a sum, a difference or a product is from the exact one. Doubles that are whole numbers of some 2 to the -s: exact sums; squares: how far they are from the exact ones. -/
import Derived.Laws.FloatArith
namespace Go.Proofs.YtfnbcpeipoobkaaGreat.Fl
open Ieee

def rne (n d : Nat) : Nat := n / 2 ^ d + (decide (2 ^ d < 2 * (n % 2 ^ d)) || (2 ^ d == 2 * (n % 2 ^ d) && n / 2 ^ d % 2 == 1)).toNat

theorem small_div {n d : Nat} (h : n.log2 + 2 ≤ d) : 2 * n < 2 ^ d := by
  have h1 : n < 2 ^ (n.log2 + 1) := Nat.lt_log2_self
  have h2 : 2 ^ (n.log2 + 2) ≤ 2 ^ d := Nat.pow_le_pow_right (by decide) h
  have h3 : 2 ^ (n.log2 + 2) = 2 * 2 ^ (n.log2 + 1) := by rw [Nat.pow_succ]; omega
  omega

theorem rne_small {n d : Nat} (h : 2 * n < 2 ^ d) : rne n d = 0 := by
  have hp : 0 < 2 ^ d := Nat.two_pow_pos d
  unfold rne
  rw [Nat.div_eq_of_lt (by omega), Nat.mod_eq_of_lt (by omega)]
  have a : decide (2 ^ d < 2 * n) = false := decide_eq_false (by omega)
  have b : (2 ^ d == 2 * n) = false := beq_eq_false_iff_ne.2 (by omega)
  rw [a, b]; rfl

theorem cut_even (neg : Bool) (n d : Nat) : Toward.even.cut neg n d = rne n d := by
  by_cases h : d ≤ n.log2 + 2
  · unfold Toward.cut rne
    rw [Nat.min_eq_left h, Nat.one_shiftLeft]
  · rw [rne_small (small_div (by omega))]
    have hs : 2 * n < 2 ^ (n.log2 + 2) := small_div (Nat.le_refl _)
    have := rne_small hs
    unfold rne at this
    unfold Toward.cut
    rw [Nat.min_eq_right (by omega), Nat.one_shiftLeft]
    exact this

theorem rne_zero (n : Nat) : rne n 0 = n := by
  unfold rne
  have : n % 2 ^ 0 = 0 := by rw [Nat.pow_zero]; exact Nat.mod_one n
  rw [this]
  simp

theorem rne_scale (n d k : Nat) : rne (n * 2 ^ k) (d + k) = rne n d := by
  have hp : 0 < 2 ^ k := Nat.two_pow_pos k
  unfold rne
  rw [Nat.pow_add, Nat.mul_div_mul_right _ _ hp, Nat.mul_mod_mul_right, ← Nat.mul_assoc]
  have a : decide (2 ^ d * 2 ^ k < 2 * (n % 2 ^ d) * 2 ^ k) = decide (2 ^ d < 2 * (n % 2 ^ d)) := by
    rw [decide_eq_decide]; exact Nat.mul_lt_mul_right hp
  have b : (2 ^ d * 2 ^ k == 2 * (n % 2 ^ d) * 2 ^ k) = (2 ^ d == 2 * (n % 2 ^ d)) := by
    rw [Bool.eq_iff_iff, beq_iff_eq, beq_iff_eq]
    exact Nat.mul_left_inj (by omega)
  rw [a, b]

theorem rne_exact (q d : Nat) : rne (q * 2 ^ d) d = q := by
  have := rne_scale q 0 d
  rw [Nat.zero_add, rne_zero] at this
  exact this

theorem rne_bounds (n d : Nat) : 2 * (rne n d * 2 ^ d) ≤ 2 * n + 2 ^ d ∧ 2 * n ≤ 2 * (rne n d * 2 ^ d) + 2 ^ d := by
  have hm := Nat.div_add_mod n (2 ^ d)
  have hl := Nat.mod_lt n (Nat.two_pow_pos d)
  unfold rne
  generalize 2 ^ d = p at *
  generalize n % p = r at *
  generalize n / p = q at *
  rw [Nat.mul_comm] at hm
  by_cases h : p < 2 * r
  · rw [decide_eq_true h, Bool.true_or, Bool.toNat_true, Nat.add_mul]; omega
  · rw [decide_eq_false h, Bool.false_or]
    by_cases h2 : (p == 2 * r && q % 2 == 1) = true
    · rw [h2, Bool.toNat_true, Nat.add_mul]
      rw [Bool.and_eq_true, beq_iff_eq] at h2
      omega
    · rw [Bool.not_eq_true] at h2
      rw [h2, Bool.toNat_false, Nat.add_zero]
      omega

def lastOf (mag : Nat) (place : Int) : Int := max (place + mag.log2 - 52) (-1074)
def keptOf (mag : Nat) (place : Int) : Nat := rne (mag <<< (place - lastOf mag place).toNat) (lastOf mag place - place).toNat

theorem nearest_eq (neg : Bool) (mag : Nat) (place : Int) (h : mag ≠ 0) :
    double.nearest neg mag place = double.word neg (min ((lastOf mag place + 1074).toNat * 2 ^ 52 + keptOf mag place) double.infRung) := by
  unfold Format.nearest
  rw [if_neg h]
  dsimp only
  rw [cut_even]
  rfl

theorem log2_mul_pow (m k : Nat) (h : m ≠ 0) : (m * 2 ^ k).log2 = m.log2 + k := by
  have hp : 0 < 2 ^ k := Nat.two_pow_pos k
  have h0 : m * 2 ^ k ≠ 0 := Nat.mul_ne_zero h (by omega)
  rw [Nat.log2_eq_iff h0]
  have a := Nat.log2_self_le h
  have b : m < 2 ^ (m.log2 + 1) := Nat.lt_log2_self
  constructor
  · rw [Nat.pow_add]; exact Nat.mul_le_mul_right _ a
  · rw [Nat.add_right_comm, Nat.pow_add]; exact (Nat.mul_lt_mul_right hp).2 b

/-- The nearest word hangs on the number alone. -/
theorem nearest_scale (neg : Bool) (m k : Nat) (p : Int) (h : m ≠ 0) :
    double.nearest neg (m * 2 ^ k) p = double.nearest neg m (p + k) := by
  have hp : 0 < 2 ^ k := Nat.two_pow_pos k
  have h0 : m * 2 ^ k ≠ 0 := Nat.mul_ne_zero h (by omega)
  rw [nearest_eq _ _ _ h0, nearest_eq _ _ _ h]
  have hl : lastOf (m * 2 ^ k) p = lastOf m (p + k) := by
    unfold lastOf; rw [log2_mul_pow m k h]
    congr 1
    rw [Int.natCast_add]; omega
  have hk : keptOf (m * 2 ^ k) p = keptOf m (p + k) := by
    unfold keptOf
    rw [hl]
    generalize lastOf m (p + k) = l
    rw [Nat.shiftLeft_eq, Nat.shiftLeft_eq]
    by_cases c1 : l ≤ p
    · rw [show (l - p).toNat = 0 by omega, show (l - (p + k)).toNat = 0 by omega, rne_zero, rne_zero, Nat.mul_assoc, ← Nat.pow_add]
      congr 2; omega
    · by_cases c2 : l ≤ p + k
      · rw [show (p - l).toNat = 0 by omega, show (l - (p + k)).toNat = 0 by omega, rne_zero, Nat.pow_zero, Nat.mul_one]
        have : m * 2 ^ k = m * 2 ^ (p + k - l).toNat * 2 ^ (l - p).toNat := by
          rw [Nat.mul_assoc, ← Nat.pow_add]; congr 2; omega
        rw [this, rne_exact]
      · rw [show (p - l).toNat = 0 by omega, show (p + k - l).toNat = 0 by omega, Nat.pow_zero, Nat.mul_one, Nat.mul_one,
          show (l - p).toNat = (l - (p + k)).toNat + k by omega, rne_scale]
  rw [hl, hk]

theorem signed_eq (s : Bool) (m k : Nat) : signed s m k = (if s then -((m * 2 ^ k : Nat) : Int) else ((m * 2 ^ k : Nat) : Int)) := by
  unfold signed; rw [Nat.shiftLeft_eq]

theorem signed_natAbs (s : Bool) (m k : Nat) : (signed s m k).natAbs = m * 2 ^ k := by
  rw [signed_eq]
  cases s
  · exact Int.natAbs_natCast _
  · exact (Int.natAbs_neg _).trans (Int.natAbs_natCast _)

theorem sw : double.signWeight = 9223372036854775808 := rfl
theorem bn : double.binade = 4503599627370496 := rfl
theorem ir : double.infRung = 9218868437227405312 := rfl
theorem lp : double.leastPlace = -1074 := rfl

theorem read_word (neg : Bool) (r : Nat) (h : r < 9223372036854775808) : double.read (double.word neg r) =
    (if r < 4503599627370496 then Datum.number neg r (-1074)
     else if r < 9218868437227405312 then .number neg (4503599627370496 + r % 4503599627370496) (-1074 + ((r / 4503599627370496 - 1 : Nat) : Int))
     else if r = 9218868437227405312 then .infinity neg else .nan neg (r - 9218868437227405312)) := by
  have e1 : (double.word neg r / double.signWeight % 2 == 1) = neg := by
    unfold Format.word; rw [sw]
    cases neg
    · rw [if_neg (by decide), Nat.div_eq_of_lt h]; rfl
    · rw [if_pos rfl, Nat.add_div_left _ (by decide), Nat.div_eq_of_lt h]; rfl
  have e2 : double.word neg r % double.signWeight = r := by
    unfold Format.word; rw [sw]
    cases neg
    · rw [if_neg (by decide), Nat.mod_eq_of_lt h]
    · rw [if_pos rfl, Nat.add_mod_left, Nat.mod_eq_of_lt h]
  unfold Format.read
  dsimp only
  rw [e1, e2, bn, ir, lp]

theorem p52 : (2 : Nat) ^ 52 = 4503599627370496 := by decide
theorem p53 : (2 : Nat) ^ 53 = 9007199254740992 := by decide

theorem read_kept (neg : Bool) (L K : Nat) (h1 : K ≤ 2 ^ 53) (h2 : L = 0 ∨ 2 ^ 52 ≤ K) (h3 : L * 2 ^ 52 + K < 9218868437227405312) :
    ∃ m k : Nat, double.read (double.word neg (L * 2 ^ 52 + K)) = .number neg m (-1074 + (k : Int)) ∧ m * 2 ^ k = K * 2 ^ L := by
  rw [p52] at *
  rw [p53] at h1
  rw [read_word neg _ (by omega)]
  by_cases c0 : K < 4503599627370496
  · have : L = 0 := by omega
    subst this
    rw [if_pos (by omega)]
    exact ⟨K, 0, by simp, by simp⟩
  · rw [if_neg (by omega), if_pos h3]
    by_cases c1 : K = 9007199254740992
    · subst c1
      refine ⟨4503599627370496, L + 1, ?_, ?_⟩
      · have a : (L * 4503599627370496 + 9007199254740992) % 4503599627370496 = 0 := by omega
        have b : (L * 4503599627370496 + 9007199254740992) / 4503599627370496 - 1 = L + 1 := by omega
        rw [a, b]
      · rw [Nat.pow_succ]; omega
    · refine ⟨K, L, ?_, rfl⟩
      have a : 4503599627370496 + (L * 4503599627370496 + K) % 4503599627370496 = K := by omega
      have b : (L * 4503599627370496 + K) / 4503599627370496 - 1 = L := by omega
      rw [a, b]

/-- The bits b are those of the finite number 'v' times 2 to the -1074. -/
def FV (b : Nat) (v : Int) : Prop := ∃ (s : Bool) (m k : Nat), double.read b = .number s m (-1074 + (k : Int)) ∧ signed s m k = v

theorem nearest_exact (neg : Bool) (M k : Nat) (h0 : M ≠ 0) (h1 : M < 2 ^ 53) (h2 : k + M.log2 ≤ 2097) :
    ∃ m j : Nat, double.read (double.nearest neg M (-1074 + (k : Int))) = .number neg m (-1074 + (j : Int)) ∧ m * 2 ^ j = M * 2 ^ k := by
  have hl52 : M.log2 ≤ 52 := by
    have := Nat.log2_lt (n := M) (k := 53) h0
    omega
  have hle := Nat.log2_self_le h0
  have hlt : M < 2 ^ (M.log2 + 1) := Nat.lt_log2_self
  rw [nearest_eq _ _ _ h0]
  unfold keptOf
  have hla : lastOf M (-1074 + (k : Int)) ≤ -1074 + (k : Int) := by unfold lastOf; omega
  have hlb : -1074 ≤ lastOf M (-1074 + (k : Int)) := by unfold lastOf; omega
  have hlc : lastOf M (-1074 + (k : Int)) = -1074 ∨ lastOf M (-1074 + (k : Int)) = -1074 + (k : Int) + M.log2 - 52 := by unfold lastOf; omega
  have hld : -1074 + (k : Int) + M.log2 - 52 ≤ lastOf M (-1074 + (k : Int)) := by unfold lastOf; omega
  generalize lastOf M (-1074 + (k : Int)) = l at *
  obtain ⟨L, rfl⟩ : ∃ L : Nat, l = -1074 + (L : Int) := ⟨(l + 1074).toNat, by omega⟩
  rw [show (-1074 + (L : Int) - (-1074 + (k : Int))).toNat = 0 by omega, rne_zero, Nat.shiftLeft_eq,
    show (-1074 + (L : Int) + 1074).toNat = L by omega, show (-1074 + (k : Int) - (-1074 + (L : Int))).toNat = k - L by omega]
  have hkL : k - L ≤ 52 - M.log2 := by omega
  have hK : M * 2 ^ (k - L) < 2 ^ 53 := by
    have a : M * 2 ^ (k - L) < 2 ^ (M.log2 + 1) * 2 ^ (k - L) := (Nat.mul_lt_mul_right (Nat.two_pow_pos _)).2 hlt
    rw [← Nat.pow_add] at a
    exact Nat.lt_of_lt_of_le a (Nat.pow_le_pow_right (by decide) (by omega))
  have hB : L = 0 ∨ 2 ^ 52 ≤ M * 2 ^ (k - L) := by
    rcases hlc with c | c
    · left; omega
    · right
      have a : 2 ^ M.log2 * 2 ^ (k - L) ≤ M * 2 ^ (k - L) := Nat.mul_le_mul_right _ hle
      rw [← Nat.pow_add, show M.log2 + (k - L) = 52 by omega] at a
      exact a
  have hT : L * 2 ^ 52 + M * 2 ^ (k - L) < 9218868437227405312 := by
    have : L ≤ 2045 := by omega
    rw [p52]; rw [p53] at hK; omega
  obtain ⟨m, j, e1, e2⟩ := read_kept neg L (M * 2 ^ (k - L)) (by omega) hB hT
  refine ⟨m, j, ?_, ?_⟩
  · rw [ir, Nat.min_eq_left (by omega)]; exact e1
  · rw [e2, Nat.mul_assoc, ← Nat.pow_add]; congr 2; omega

theorem read_zero (neg : Bool) : double.read (double.word neg 0) = .number neg 0 (-1074 + ((0 : Nat) : Int)) := by
  rw [read_word neg 0 (by decide)]; rfl

/-- A number that fits is written exactly. -/
theorem nearest_fv (neg : Bool) (mag : Nat) (q : Nat) (p : Int) (M k : Nat) (hp : p = -1074 - (q : Int)) (hm : mag = M * 2 ^ (k + q)) (h1 : M < 2 ^ 53) (h2 : k + M.log2 ≤ 2097) :
    FV (double.nearest neg mag p) (signed neg M k) := by
  by_cases h0 : M = 0
  · subst h0
    rw [Nat.zero_mul] at hm
    subst hm
    refine ⟨neg, 0, 0, ?_, ?_⟩
    · unfold Format.nearest
      rw [if_pos rfl]
      exact read_zero neg
    · rw [signed_eq, signed_eq, Nat.zero_mul, Nat.zero_mul]
  · subst hm
    rw [nearest_scale neg M (k + q) p h0, show p + ((k + q : Nat) : Int) = -1074 + (k : Int) by omega]
    obtain ⟨m, j, e1, e2⟩ := nearest_exact neg M k h0 h1 h2
    exact ⟨neg, m, j, e1, by rw [signed_eq, signed_eq, e2]⟩

theorem signed_split (s : Bool) (m a b : Nat) : signed s m (a + b) = signed s m a * 2 ^ b := by
  rw [signed_eq, signed_eq, Nat.pow_add, ← Nat.mul_assoc]
  cases s <;> simp [Int.neg_mul]

theorem signed_of (z : Int) (neg : Bool) (M k : Nat) (hz : z.natAbs = M * 2 ^ k) (hn : z ≠ 0 → neg = decide (z < 0)) : signed neg M k = z := by
  rw [signed_eq, ← hz]
  by_cases h0 : z = 0
  · subst h0; cases neg <;> rfl
  · rw [hn h0]
    by_cases h : z < 0
    · rw [decide_eq_true h, if_pos rfl]; omega
    · rw [decide_eq_false h, if_neg (by decide)]; omega

theorem two_abs : (2 : Int).natAbs = 2 := rfl

/-- What the sum of two data that are numbers is. -/
theorem sum_fv {d1 d2 : Datum} {s t : Bool} {m n i j : Nat} (e1 : d1 = .number s m (-1074 + (i : Int))) (e2 : d2 = .number t n (-1074 + (j : Int)))
    {M k : Nat} (hz : (signed s m i + signed t n j).natAbs = M * 2 ^ k) (h1 : M < 2 ^ 53) (h2 : k + M.log2 ≤ 2097) :
    ∃ r, (d1.sum d2).map double.write = some r ∧ FV r (signed s m i + signed t n j) := by
  subst e1 e2
  unfold Datum.sum
  dsimp only
  refine ⟨_, rfl, ?_⟩
  have hb : min (-1074 + (i : Int)) (-1074 + (j : Int)) = -1074 + ((min i j : Nat) : Int) := by omega
  rw [hb]
  generalize hc : min i j = c
  have hi : (-1074 + (i : Int) - (-1074 + (c : Int))).toNat + c = i := by omega
  have hj : (-1074 + (j : Int) - (-1074 + (c : Int))).toNat + c = j := by omega
  generalize (-1074 + (i : Int) - (-1074 + (c : Int))).toNat = i' at *
  generalize (-1074 + (j : Int) - (-1074 + (c : Int))).toNat = j' at *
  subst hi hj
  rw [signed_split, signed_split] at hz ⊢
  generalize signed s m i' = A at *
  generalize signed t n j' = B at *
  rw [← Int.add_mul] at hz ⊢
  generalize A + B = T at *
  have hpc : (0 : Int) < 2 ^ c := Int.pow_pos (by decide)
  have hN : T.natAbs * 2 ^ c = M * 2 ^ k := by
    rw [← hz, Int.natAbs_mul, Int.natAbs_pow, two_abs]
  show FV (double.nearest _ T.natAbs (-1074 + (c : Int))) _
  by_cases h0 : T = 0
  · subst h0
    refine ⟨s && t, 0, 0, ?_, ?_⟩
    · unfold Format.nearest
      rw [if_pos rfl, if_pos (show Int.natAbs 0 = 0 from rfl)]
      exact read_zero _
    · rw [signed_eq, Nat.zero_mul, Int.zero_mul]; cases (s && t) <;> rfl
  · have hT : T.natAbs ≠ 0 := by omega
    rw [← show -1074 - ((0 : Nat) : Int) + ((c : Nat) : Int) = -1074 + (c : Int) by omega, ← nearest_scale _ _ _ _ hT, hN]
    have := nearest_fv (if T = 0 then s && t else decide (T < 0)) (M * 2 ^ k) 0 (-1074 - ((0 : Nat) : Int)) M k rfl rfl h1 h2
    rw [if_neg h0] at *
    refine Eq.mp ?_ this
    congr 1
    refine signed_of _ _ M k hz ?_
    intro _
    rw [decide_eq_decide]
    constructor
    · intro h; exact Int.mul_neg_of_neg_of_pos h hpc
    · intro h
      by_cases hx : T < 0
      · exact hx
      · have : 0 ≤ T * 2 ^ c := Int.mul_nonneg (by omega) (by omega)
        omega

theorem opp_fv {d : Datum} {s : Bool} {m : Nat} {p : Int} (e : d = .number s m p) : d.opposite = .number (!s) m p := by subst e; rfl
theorem signed_not (s : Bool) (m k : Nat) : signed (!s) m k = - signed s m k := by
  rw [signed_eq, signed_eq]; cases s <;> simp

theorem fv_add {a b : Nat} {x y : Int} (ha : FV a x) (hb : FV b y) {M k : Nat} (hz : (x + y).natAbs = M * 2 ^ k) (h1 : M < 2 ^ 53) (h2 : k + M.log2 ≤ 2097) :
    ∃ r, double.add a b = some r ∧ FV r (x + y) := by
  obtain ⟨s, m, i, e1, rfl⟩ := ha
  obtain ⟨t, n, j, e2, rfl⟩ := hb
  exact sum_fv e1 e2 hz h1 h2

theorem fv_sub {a b : Nat} {x y : Int} (ha : FV a x) (hb : FV b y) {M k : Nat} (hz : (x - y).natAbs = M * 2 ^ k) (h1 : M < 2 ^ 53) (h2 : k + M.log2 ≤ 2097) :
    ∃ r, double.sub a b = some r ∧ FV r (x - y) := by
  obtain ⟨s, m, i, e1, rfl⟩ := ha
  obtain ⟨t, n, j, e2, rfl⟩ := hb
  have := sum_fv e1 (opp_fv e2) (M := M) (k := k) (by rw [signed_not]; exact hz) h1 h2
  rw [signed_not] at this
  exact this

theorem mul_fv {a b : Nat} {x y z : Int} (q : Nat) (hq : q = 1074) (ha : FV a x) (hb : FV b y) (hxy : x * y = z * 2 ^ q) {M k : Nat} (hz : z.natAbs = M * 2 ^ k) (h1 : M < 2 ^ 53) (h2 : k + M.log2 ≤ 2097) :
    ∃ r, double.mul a b = some r ∧ FV r z := by
  obtain ⟨s, m, i, e1, rfl⟩ := ha
  obtain ⟨t, n, j, e2, rfl⟩ := hb
  unfold Format.mul
  rw [e1, e2]
  unfold Datum.product
  refine ⟨_, rfl, ?_⟩
  show FV (double.nearest (s ^^ t) (m * n) (-1074 + (i : Int) + (-1074 + (j : Int)))) z
  have hN : m * n * 2 ^ (i + j) = M * 2 ^ (k + q) := by
    have := congrArg Int.natAbs hxy
    rw [Int.natAbs_mul, Int.natAbs_mul, signed_natAbs, signed_natAbs, hz, Int.natAbs_pow, two_abs] at this
    rw [Nat.pow_add, Nat.pow_add, ← Nat.mul_assoc, ← Nat.mul_assoc, ← this]
    rw [Nat.mul_assoc, Nat.mul_assoc, Nat.mul_assoc, Nat.mul_left_comm n (2 ^ i)]
  by_cases h0 : m * n = 0
  · rw [h0] at hN ⊢
    have hM : M = 0 := by
      rw [Nat.zero_mul] at hN
      rcases Nat.mul_eq_zero.1 hN.symm with c | c
      · exact c
      · exact absurd c (Nat.ne_of_gt (Nat.two_pow_pos _))
    subst hM
    have hz0 : z = 0 := by omega
    subst hz0
    refine ⟨s ^^ t, 0, 0, ?_, ?_⟩
    · unfold Format.nearest
      rw [if_pos rfl]
      exact read_zero _
    · rw [signed_eq, Nat.zero_mul]; cases (s ^^ t) <;> rfl
  · rw [show -1074 + (i : Int) + (-1074 + (j : Int)) = -1074 - (q : Int) + ((i + j : Nat) : Int) by omega, ← nearest_scale _ _ _ _ h0, hN]
    have := nearest_fv (s ^^ t) (M * 2 ^ (k + q)) q (-1074 - (q : Int)) M k rfl rfl h1 h2
    refine Eq.mp ?_ this
    congr 1
    refine signed_of z _ M k hz ?_
    intro hne
    have hp : (0 : Int) < 2 ^ q := Int.pow_pos (by decide)
    have hmi : 0 < m * 2 ^ i := Nat.mul_pos (Nat.pos_of_ne_zero fun c => h0 (by rw [c, Nat.zero_mul])) (Nat.two_pow_pos _)
    have hnj : 0 < n * 2 ^ j := Nat.mul_pos (Nat.pos_of_ne_zero fun c => h0 (by rw [c, Nat.mul_zero])) (Nat.two_pow_pos _)
    rw [signed_eq, signed_eq] at hxy
    generalize m * 2 ^ i = u at *
    generalize n * 2 ^ j = v at *
    have hpos : (0 : Int) < (u : Int) * (v : Int) := Int.mul_pos (by omega) (by omega)
    generalize (2 : Int) ^ q = P at *
    have key : ∀ (w : Int), w = z * P → (w < 0 ↔ z < 0) := by
      intro w hw
      subst hw
      constructor
      · intro h
        by_cases hx : z < 0
        · exact hx
        · have : 0 ≤ z * P := Int.mul_nonneg (by omega) (by omega)
          omega
      · intro h; exact Int.mul_neg_of_neg_of_pos h hp
    have key := key _ hxy
    cases s <;> cases t <;> simp only [Bool.false_eq_true, if_false, if_true, Int.neg_mul, Int.mul_neg, Int.neg_neg] at key
    · have : decide (z < 0) = false := decide_eq_false (by omega)
      rw [this]; rfl
    · have : decide (z < 0) = true := decide_eq_true (by omega)
      rw [this]; rfl
    · have : decide (z < 0) = true := decide_eq_true (by omega)
      rw [this]; rfl
    · have : decide (z < 0) = false := decide_eq_false (by omega)
      rw [this]; rfl

theorem compare_scale (a b : Int) (c : Nat) : compare (a * 2 ^ c) (b * 2 ^ c) = compare a b := by
  have hp : (0 : Int) < 2 ^ c := Int.pow_pos (by decide)
  have hlt : (a * 2 ^ c < b * 2 ^ c) ↔ a < b := Int.mul_lt_mul_right hp
  have heq : (a * 2 ^ c = b * 2 ^ c) ↔ a = b := Int.mul_eq_mul_right_iff (by omega)
  show compareOfLessAndEq _ _ = compareOfLessAndEq _ _
  unfold compareOfLessAndEq
  simp only [hlt, heq]

theorem fv_order {a b : Nat} {x y : Int} (ha : FV a x) (hb : FV b y) : double.order a b = some (compare x y) := by
  obtain ⟨s, m, i, e1, rfl⟩ := ha
  obtain ⟨t, n, j, e2, rfl⟩ := hb
  unfold Format.order
  rw [e1, e2]
  unfold Datum.order
  dsimp only
  have hb : min (-1074 + (i : Int)) (-1074 + (j : Int)) = -1074 + ((min i j : Nat) : Int) := by omega
  rw [hb]
  generalize hc : min i j = c
  have hi : (-1074 + (i : Int) - (-1074 + (c : Int))).toNat + c = i := by omega
  have hj : (-1074 + (j : Int) - (-1074 + (c : Int))).toNat + c = j := by omega
  generalize (-1074 + (i : Int) - (-1074 + (c : Int))).toNat = i' at *
  generalize (-1074 + (j : Int) - (-1074 + (c : Int))).toNat = j' at *
  subst hi hj
  rw [signed_split, signed_split, compare_scale]

/-- Whole numbers: the bits are those of the whole number n. -/
def IV (b : Nat) (n : Int) : Prop := ∃ q : Nat, q = 1074 ∧ FV b (n * 2 ^ q)

theorem log2_le_of_lt {M : Nat} (h : M < 2 ^ 53) : M.log2 ≤ 52 := by
  by_cases h0 : M = 0
  · subst h0; decide
  · have := (Nat.log2_lt (n := M) (k := 53) h0).2 h
    omega

theorem natAbs_scale (n : Int) (q : Nat) : (n * 2 ^ q).natAbs = n.natAbs * 2 ^ q := by
  rw [Int.natAbs_mul, Int.natAbs_pow, two_abs]

theorem iv_add {a b : Nat} {x y : Int} (ha : IV a x) (hb : IV b y) (h : (x + y).natAbs < 2 ^ 53) : ∃ r, double.add a b = some r ∧ IV r (x + y) := by
  obtain ⟨q, hq, ha⟩ := ha
  obtain ⟨q', hq', hb⟩ := hb
  subst hq'
  have e : x * 2 ^ q + y * 2 ^ q = (x + y) * 2 ^ q := by rw [Int.add_mul]
  rw [← hq] at hb
  obtain ⟨r, h1, h2⟩ := fv_add ha hb (M := (x + y).natAbs) (k := q) (by rw [e, natAbs_scale]) h (by have := log2_le_of_lt h; omega)
  exact ⟨r, h1, q, hq, by rw [← e]; exact h2⟩

theorem iv_sub {a b : Nat} {x y : Int} (ha : IV a x) (hb : IV b y) (h : (x - y).natAbs < 2 ^ 53) : ∃ r, double.sub a b = some r ∧ IV r (x - y) := by
  obtain ⟨q, hq, ha⟩ := ha
  obtain ⟨q', hq', hb⟩ := hb
  subst hq'
  have e : x * 2 ^ q - y * 2 ^ q = (x - y) * 2 ^ q := by rw [Int.sub_mul]
  rw [← hq] at hb
  obtain ⟨r, h1, h2⟩ := fv_sub ha hb (M := (x - y).natAbs) (k := q) (by rw [e, natAbs_scale]) h (by have := log2_le_of_lt h; omega)
  exact ⟨r, h1, q, hq, by rw [← e]; exact h2⟩

theorem iv_mul {a b : Nat} {x y : Int} (ha : IV a x) (hb : IV b y) (h : (x * y).natAbs < 2 ^ 53) : ∃ r, double.mul a b = some r ∧ IV r (x * y) := by
  obtain ⟨q, hq, ha⟩ := ha
  obtain ⟨q', hq', hb⟩ := hb
  subst hq'
  rw [← hq] at hb
  have e : x * 2 ^ q * (y * 2 ^ q) = x * y * 2 ^ q * 2 ^ q := by rw [Int.mul_assoc, Int.mul_assoc, Int.mul_assoc, Int.mul_left_comm (2 ^ q) y]
  obtain ⟨r, h1, h2⟩ := mul_fv q hq ha hb e (M := (x * y).natAbs) (k := q) (by rw [natAbs_scale]) h (by have := log2_le_of_lt h; omega)
  exact ⟨r, h1, q, hq, h2⟩

theorem iv_order {a b : Nat} {x y : Int} (ha : IV a x) (hb : IV b y) : double.order a b = some (compare x y) := by
  obtain ⟨q, hq, ha⟩ := ha
  obtain ⟨q', hq', hb⟩ := hb
  subst hq'
  rw [← hq] at hb
  rw [fv_order ha hb, compare_scale]

theorem iv_zero : IV 0 0 := ⟨1074, rfl, false, 0, 0, rfl, by rw [Int.zero_mul]; rfl⟩

theorem iv_ofInt (n : Int) (h : n.natAbs < 2 ^ 53) : IV (floatOfInt .f64 n) n := by
  refine ⟨1074, rfl, ?_⟩
  generalize hq : (1074 : Nat) = q
  have := nearest_fv (decide (n < 0)) (n.natAbs * 2 ^ (q + q)) q (-1074 - (q : Int)) n.natAbs q rfl rfl h (by have := log2_le_of_lt h; omega)
  rw [signed_of (n * 2 ^ q) (decide (n < 0)) n.natAbs q (natAbs_scale n q) ?_] at this
  · by_cases h0 : n = 0
    · subst h0
      have e : floatOfInt .f64 0 = 0 := rfl
      rw [e, Int.zero_mul]
      exact ⟨false, 0, 0, rfl, rfl⟩
    · rw [nearest_scale _ _ _ _ (by omega), show -1074 - (q : Int) + ((q + q : Nat) : Int) = 0 by omega] at this
      exact this
  · intro _
    rw [decide_eq_decide]
    have hp : (0 : Int) < 2 ^ q := Int.pow_pos (by decide)
    constructor
    · intro h; exact Int.mul_neg_of_neg_of_pos h hp
    · intro h
      by_cases hx : n < 0
      · exact hx
      · have : 0 ≤ n * 2 ^ q := Int.mul_nonneg (by omega) (by omega)
        omega

theorem mul_pow_cancel {a b q : Nat} (h : a * 2 ^ q = b * 2 ^ q) : a = b := Nat.eq_of_mul_eq_mul_right (Nat.two_pow_pos q) h

theorem cut_zero (neg : Bool) (n d : Nat) : Toward.zero.cut neg n d = n / 2 ^ d := by
  unfold Toward.cut
  dsimp only
  rw [Bool.toNat_false, Nat.add_zero]
  by_cases h : d ≤ n.log2 + 2
  · rw [Nat.min_eq_left h, Nat.one_shiftLeft]
  · have a := small_div (n := n) (d := d) (by omega)
    have b := small_div (n := n) (d := n.log2 + 2) (Nat.le_refl _)
    rw [Nat.min_eq_right (by omega), Nat.one_shiftLeft, Nat.div_eq_of_lt (by omega), Nat.div_eq_of_lt (by omega)]

/-- Cutting a whole number towards zero leaves it. -/
theorem iv_integral {b : Nat} {n : Int} (h : IV b n) : ∃ s : Bool, (double.read b).integral .zero = .number s n.natAbs 0 ∧ signed s n.natAbs 0 = n := by
  obtain ⟨q, hq, s, m, k, e, hv⟩ := h
  have hN := congrArg Int.natAbs hv
  rw [signed_natAbs, natAbs_scale] at hN
  refine ⟨s, ?_, ?_⟩
  · rw [e]
    unfold Datum.integral
    dsimp only
    rw [cut_zero]
    congr 1
    rw [Nat.shiftLeft_eq]
    by_cases c : q ≤ k
    · rw [show (-(-1074 + (k : Int))).toNat = 0 by omega, Nat.pow_zero, Nat.div_one]
      refine mul_pow_cancel (q := q) ?_
      rw [← hN, Nat.mul_assoc, ← Nat.pow_add]
      congr 2; omega
    · rw [show (-1074 + (k : Int)).toNat = 0 by omega, Nat.pow_zero, Nat.mul_one, show (-(-1074 + (k : Int))).toNat = q - k by omega]
      have : m = n.natAbs * 2 ^ (q - k) := by
        refine mul_pow_cancel (q := k) ?_
        rw [hN, Nat.mul_assoc, ← Nat.pow_add]
        congr 2; omega
      rw [this, Nat.mul_div_cancel _ (Nat.two_pow_pos _)]
  · have hp : (0 : Int) < 2 ^ q := Int.pow_pos (by decide)
    rw [signed_eq, Nat.pow_zero, Nat.mul_one]
    rw [signed_eq, hN] at hv
    generalize hA : n.natAbs = A at *
    rw [Int.natCast_mul, Int.natCast_pow] at hv
    cases s
    · refine Int.eq_of_mul_eq_mul_right (Int.ne_of_gt hp) ?_
      exact hv
    · refine Int.eq_of_mul_eq_mul_right (Int.ne_of_gt hp) ?_
      rw [← hv]
      exact Int.neg_mul _ _

theorem iv_trunc {b : Nat} {n : Int} (h : IV b n) (hn : n.natAbs < 2 ^ 53) : IV (FloatKind.f64.encode ((FloatKind.f64.decode b).integral .zero)) n := by
  obtain ⟨s, e, hs⟩ := iv_integral h
  show IV (double.write ((double.read b).integral .zero)) n
  rw [e]
  show IV (double.nearest s n.natAbs 0) n
  refine ⟨1074, rfl, ?_⟩
  generalize hq : (1074 : Nat) = q
  have := nearest_fv s (n.natAbs * 2 ^ (q + q)) q (-1074 - (q : Int)) n.natAbs q rfl rfl hn (by have := log2_le_of_lt hn; omega)
  have hsq : signed s n.natAbs q = n * 2 ^ q := by
    have := signed_split s n.natAbs 0 q
    rw [Nat.zero_add, hs] at this
    exact this
  rw [hsq] at this
  by_cases h0 : n = 0
  · subst h0
    rw [Int.zero_mul]
    refine ⟨s, 0, 0, ?_, ?_⟩
    · show double.read (double.nearest s 0 0) = _
      unfold Format.nearest
      rw [if_pos rfl]
      exact read_zero _
    · rw [signed_eq, Nat.zero_mul]; cases s <;> rfl
  · rw [nearest_scale _ _ _ _ (by omega), show -1074 - (q : Int) + ((q + q : Nat) : Int) = 0 by omega] at this
    exact this

theorem iv_toInt {b : Nat} {n : Int} (h : IV b n) : (FloatKind.f64.decode b).toInt .zero = some n := by
  obtain ⟨s, e, hs⟩ := iv_integral h
  unfold Datum.toInt
  rw [show (FloatKind.f64.decode b).integral .zero = _ from e]
  dsimp only
  rw [hs]

theorem read_mod (b : Nat) (s : Bool) (m : Nat) (p : Int) (h : double.read b = .number s m p) : double.read (b % 9223372036854775808) = .number false m p := by
  unfold Format.read at h ⊢
  dsimp only at h ⊢
  rw [sw] at h ⊢
  rw [Nat.mod_mod, Nat.div_eq_of_lt (Nat.mod_lt _ (by decide))]
  have e0 : (0 % 2 == 1) = false := rfl
  rw [e0]
  split at h
  · cases h; rw [if_pos ‹_›]
  · split at h
    · cases h; rw [if_neg ‹_›, if_pos ‹_›]
    · split at h <;> cases h

theorem iv_abs {b : Nat} {n : Int} (h : IV b n) : IV (b % 9223372036854775808) n.natAbs := by
  obtain ⟨q, hq, s, m, k, e, hv⟩ := h
  have hN := congrArg Int.natAbs hv
  rw [signed_natAbs, natAbs_scale] at hN
  refine ⟨q, hq, false, m, k, read_mod b s m _ e, ?_⟩
  rw [signed_eq, hN, Int.natCast_mul, Int.natCast_pow]
  rfl

theorem iv_bound63 : IV 4890909195324358656 9223372036854775808 := ⟨1074, rfl, false, 4503599627370496, 1085, by decide +kernel, by decide +kernel⟩

end Go.Proofs.YtfnbcpeipoobkaaGreat.Fl

namespace Go.Proofs.YtfnbcpeipoobkaaGreat.Fl
open Ieee

/-- The nearest double to 'mag' units of 2 to the (-1074 - q), mag below 2 to the (T + q): not farther than half a unit of its last place. -/
theorem nearest_err (neg : Bool) (mag q T : Nat) (hT : 53 ≤ T) (hT2 : T ≤ 2090) (hm : mag < 2 ^ (T + q)) :
    ∃ m k : Nat, double.read (double.nearest neg mag (-1074 - (q : Int))) = .number neg m (-1074 + (k : Int)) ∧
      2 * (m * 2 ^ k * 2 ^ q) ≤ 2 * mag + 2 ^ (T - 53 + q) ∧ 2 * mag ≤ 2 * (m * 2 ^ k * 2 ^ q) + 2 ^ (T - 53 + q) := by
  by_cases h0 : mag = 0
  · subst h0
    refine ⟨0, 0, ?_, ?_, ?_⟩
    · unfold Format.nearest
      rw [if_pos rfl]
      exact read_zero neg
    · simp
    · exact Nat.zero_le _
  · have hle := Nat.log2_self_le h0
    have hlt : mag < 2 ^ (mag.log2 + 1) := Nat.lt_log2_self
    have hlg : mag.log2 < T + q := (Nat.log2_lt h0).2 hm
    rw [nearest_eq _ _ _ h0]
    unfold keptOf
    have hla : -1074 ≤ lastOf mag (-1074 - (q : Int)) := by unfold lastOf; omega
    have hlb : lastOf mag (-1074 - (q : Int)) ≤ -1074 + ((T - 53 : Nat) : Int) := by unfold lastOf; omega
    have hlc : lastOf mag (-1074 - (q : Int)) = -1074 ∨ lastOf mag (-1074 - (q : Int)) = -1074 - (q : Int) + mag.log2 - 52 := by unfold lastOf; omega
    have hld : -1074 - (q : Int) + mag.log2 - 52 ≤ lastOf mag (-1074 - (q : Int)) := by unfold lastOf; omega
    generalize lastOf mag (-1074 - (q : Int)) = l at *
    obtain ⟨L, rfl⟩ : ∃ L : Nat, l = -1074 + (L : Int) := ⟨(l + 1074).toNat, by omega⟩
    rw [show (-1074 - (q : Int) - (-1074 + (L : Int))).toNat = 0 by omega, Nat.shiftLeft_eq, Nat.pow_zero, Nat.mul_one,
      show (-1074 + (L : Int) + 1074).toNat = L by omega, show (-1074 + (L : Int) - (-1074 - (q : Int))).toNat = L + q by omega]
    obtain ⟨b1, b2⟩ := rne_bounds mag (L + q)
    have hpd : 0 < 2 ^ (L + q) := Nat.two_pow_pos _
    have hup : mag < 2 ^ 53 * 2 ^ (L + q) := by
      rw [← Nat.pow_add]
      exact Nat.lt_of_lt_of_le hlt (Nat.pow_le_pow_right (by decide) (by omega))
    have hK1 : rne mag (L + q) ≤ 2 ^ 53 := by
      have : 2 * (rne mag (L + q) * 2 ^ (L + q)) < 2 * (2 ^ 53 * 2 ^ (L + q)) + 2 ^ (L + q) := by omega
      generalize 2 ^ (L + q) = D at *
      generalize rne mag (L + q) = K at *
      by_cases c : K ≤ 2 ^ 53
      · exact c
      · have h1 : (2 ^ 53 + 1) * D ≤ K * D := Nat.mul_le_mul_right _ (by omega)
        rw [Nat.add_mul, Nat.one_mul] at h1
        omega
    have hK2 : L = 0 ∨ 2 ^ 52 ≤ rne mag (L + q) := by
      rcases hlc with c | c
      · left; omega
      · right
        have h1 : 2 ^ 52 * 2 ^ (L + q) ≤ mag := by
          rw [← Nat.pow_add, show 52 + (L + q) = mag.log2 by omega]; exact hle
        generalize 2 ^ (L + q) = D at *
        generalize rne mag (L + q) = K at *
        by_cases c : 2 ^ 52 ≤ K
        · exact c
        · have h2 : K * D ≤ (2 ^ 52 - 1) * D := Nat.mul_le_mul_right _ (by omega)
          rw [Nat.sub_mul, Nat.one_mul] at h2
          have h3 : D ≤ 2 ^ 52 * D := Nat.le_mul_of_pos_left _ (by decide)
          omega
    have hT3 : L * 2 ^ 52 + rne mag (L + q) < 9218868437227405312 := by
      have : L ≤ 2037 := by omega
      rw [p52]; rw [p53] at hK1; omega
    obtain ⟨m, j, e1, e2⟩ := read_kept neg L (rne mag (L + q)) hK1 hK2 hT3
    refine ⟨m, j, ?_, ?_, ?_⟩
    · rw [ir, Nat.min_eq_left (by omega)]; exact e1
    · have hp : 2 ^ (L + q) ≤ 2 ^ (T - 53 + q) := Nat.pow_le_pow_right (by decide) (by omega)
      rw [e2, Nat.mul_assoc, ← Nat.pow_add]
      omega
    · have hp : 2 ^ (L + q) ≤ 2 ^ (T - 53 + q) := Nat.pow_le_pow_right (by decide) (by omega)
      rw [e2, Nat.mul_assoc, ← Nat.pow_add]
      omega

/-- The same with signs. -/
theorem nearest_z (z : Int) (neg : Bool) (q T : Nat) (hT : 53 ≤ T) (hT2 : T ≤ 2090) (hn : z ≠ 0 → neg = decide (z < 0)) (hz : z.natAbs < 2 ^ (T + q)) :
    ∃ v, FV (double.nearest neg z.natAbs (-1074 - (q : Int))) v ∧ 2 * (v * 2 ^ q - z).natAbs ≤ 2 ^ (T - 53 + q) := by
  obtain ⟨m, k, e, h1, h2⟩ := nearest_err neg z.natAbs q T hT hT2 hz
  refine ⟨signed neg m k, ⟨neg, m, k, e, rfl⟩, ?_⟩
  rw [signed_eq]
  have hc : ((2 ^ q : Nat) : Int) = (2 : Int) ^ q := by rw [Int.natCast_pow]; rfl
  rw [← hc]
  by_cases h0 : z = 0
  · subst h0
    have hz0 : Int.natAbs 0 = 0 := rfl
    rw [hz0] at h1
    rw [Int.sub_zero, Int.natAbs_mul, Int.natAbs_natCast]
    have : (if neg = true then -((m * 2 ^ k : Nat) : Int) else ((m * 2 ^ k : Nat) : Int)).natAbs = m * 2 ^ k := by
      cases neg
      · exact Int.natAbs_natCast _
      · exact (Int.natAbs_neg _).trans (Int.natAbs_natCast _)
    rw [this]
    omega
  · rw [hn h0]
    generalize 2 ^ (T - 53 + q) = E at *
    have hg : ((m * 2 ^ k : Nat) : Int) * ((2 ^ q : Nat) : Int) = ((m * 2 ^ k * 2 ^ q : Nat) : Int) := by rw [Int.natCast_mul (m * 2 ^ k)]
    by_cases h : z < 0
    · rw [decide_eq_true h, if_pos rfl, Int.neg_mul, hg]
      generalize m * 2 ^ k * 2 ^ q = X at *
      omega
    · rw [decide_eq_false h, if_neg (by decide), hg]
      generalize m * 2 ^ k * 2 ^ q = X at *
      omega

theorem sum_err {d1 d2 : Datum} {s t : Bool} {m n i j T : Nat} (e1 : d1 = .number s m (-1074 + (i : Int))) (e2 : d2 = .number t n (-1074 + (j : Int)))
    (hT : 53 ≤ T) (hT2 : T ≤ 2090) (hz : (signed s m i + signed t n j).natAbs < 2 ^ T) :
    ∃ r v, (d1.sum d2).map double.write = some r ∧ FV r v ∧ 2 * (v - (signed s m i + signed t n j)).natAbs ≤ 2 ^ (T - 53) := by
  subst e1 e2
  unfold Datum.sum
  dsimp only
  have hb : min (-1074 + (i : Int)) (-1074 + (j : Int)) = -1074 + ((min i j : Nat) : Int) := by omega
  rw [hb]
  generalize hc : min i j = c
  have hi : (-1074 + (i : Int) - (-1074 + (c : Int))).toNat + c = i := by omega
  have hj : (-1074 + (j : Int) - (-1074 + (c : Int))).toNat + c = j := by omega
  generalize (-1074 + (i : Int) - (-1074 + (c : Int))).toNat = i' at *
  generalize (-1074 + (j : Int) - (-1074 + (c : Int))).toNat = j' at *
  subst hi hj
  rw [signed_split, signed_split] at hz ⊢
  generalize signed s m i' = A at *
  generalize signed t n j' = B at *
  rw [← Int.add_mul] at hz ⊢
  generalize A + B = S at *
  have hpc : (0 : Int) < 2 ^ c := Int.pow_pos (by decide)
  have hN : S.natAbs * 2 ^ c = (S * 2 ^ c).natAbs := by
    rw [Int.natAbs_mul, Int.natAbs_pow, two_abs]
  by_cases h0 : S = 0
  · subst h0
    refine ⟨_, 0, rfl, ?_, ?_⟩
    · refine ⟨s && t, 0, 0, ?_, ?_⟩
      · show double.read (double.nearest _ (Int.natAbs 0) _) = _
        unfold Format.nearest
        rw [if_pos rfl, if_pos (show Int.natAbs 0 = 0 from rfl)]
        exact read_zero _
      · rw [signed_eq, Nat.zero_mul]; cases (s && t) <;> rfl
    · rw [Int.zero_mul]; exact Nat.zero_le _
  · have hS : S.natAbs ≠ 0 := by omega
    have hsgn : (S * 2 ^ c < 0) ↔ S < 0 := by
      constructor
      · intro h
        by_cases hx : S < 0
        · exact hx
        · have : 0 ≤ S * 2 ^ c := Int.mul_nonneg (by omega) (by omega)
          omega
      · intro h; exact Int.mul_neg_of_neg_of_pos h hpc
    obtain ⟨v, hv, hd⟩ := nearest_z (S * 2 ^ c) (decide (S < 0)) 0 T hT hT2 (fun _ => by rw [decide_eq_decide]; exact hsgn.symm) (by rw [Nat.add_zero]; exact hz)
    refine ⟨_, v, rfl, ?_, ?_⟩
    · show FV (double.nearest _ S.natAbs (-1074 + (c : Int))) v
      rw [if_neg h0]
      rw [← show -1074 - ((0 : Nat) : Int) + ((c : Nat) : Int) = -1074 + (c : Int) by omega, ← nearest_scale _ _ _ _ hS, hN]
      exact hv
    · rw [Int.pow_zero, Int.mul_one, Nat.add_zero] at hd
      exact hd

theorem add_err {a b T : Nat} {x y : Int} (ha : FV a x) (hb : FV b y) (hT : 53 ≤ T) (hT2 : T ≤ 2090) (hz : (x + y).natAbs < 2 ^ T) :
    ∃ r v, double.add a b = some r ∧ FV r v ∧ 2 * (v - (x + y)).natAbs ≤ 2 ^ (T - 53) := by
  obtain ⟨s, m, i, e1, rfl⟩ := ha
  obtain ⟨t, n, j, e2, rfl⟩ := hb
  exact sum_err e1 e2 hT hT2 hz

theorem sub_err {a b T : Nat} {x y : Int} (ha : FV a x) (hb : FV b y) (hT : 53 ≤ T) (hT2 : T ≤ 2090) (hz : (x - y).natAbs < 2 ^ T) :
    ∃ r v, double.sub a b = some r ∧ FV r v ∧ 2 * (v - (x - y)).natAbs ≤ 2 ^ (T - 53) := by
  obtain ⟨s, m, i, e1, rfl⟩ := ha
  obtain ⟨t, n, j, e2, rfl⟩ := hb
  have := sum_err e1 (opp_fv e2) (T := T) hT hT2 (by rw [signed_not]; exact hz)
  rw [signed_not] at this
  exact this

theorem mul_err {a b T : Nat} {x y : Int} (q : Nat) (hq : q = 1074) (ha : FV a x) (hb : FV b y) (hT : 53 ≤ T) (hT2 : T ≤ 2090) (hz : (x * y).natAbs < 2 ^ (T + q)) :
    ∃ r v, double.mul a b = some r ∧ FV r v ∧ 2 * (v * 2 ^ q - x * y).natAbs ≤ 2 ^ (T - 53 + q) := by
  obtain ⟨s, m, i, e1, rfl⟩ := ha
  obtain ⟨t, n, j, e2, rfl⟩ := hb
  unfold Format.mul
  rw [e1, e2]
  unfold Datum.product
  have hN : m * n * 2 ^ (i + j) = (signed s m i * signed t n j).natAbs := by
    rw [Int.natAbs_mul, signed_natAbs, signed_natAbs, Nat.pow_add]
    rw [Nat.mul_assoc, Nat.mul_assoc, Nat.mul_left_comm n (2 ^ i)]
  by_cases h0 : m * n = 0
  · have hz0 : signed s m i * signed t n j = 0 := by
      rw [h0, Nat.zero_mul] at hN
      omega
    rw [hz0]
    refine ⟨_, 0, rfl, ?_, ?_⟩
    · show FV (double.nearest (s ^^ t) (m * n) _) 0
      refine ⟨s ^^ t, 0, 0, ?_, ?_⟩
      · unfold Format.nearest
        rw [if_pos h0]
        exact read_zero _
      · rw [signed_eq, Nat.zero_mul]; cases (s ^^ t) <;> rfl
    · rw [Int.zero_mul]; exact Nat.zero_le _
  · have hsgn : (s ^^ t) = decide (signed s m i * signed t n j < 0) := by
      have hmi : 0 < m * 2 ^ i := Nat.mul_pos (Nat.pos_of_ne_zero fun c => h0 (by rw [c, Nat.zero_mul])) (Nat.two_pow_pos _)
      have hnj : 0 < n * 2 ^ j := Nat.mul_pos (Nat.pos_of_ne_zero fun c => h0 (by rw [c, Nat.mul_zero])) (Nat.two_pow_pos _)
      rw [signed_eq, signed_eq]
      generalize m * 2 ^ i = u at *
      generalize n * 2 ^ j = v at *
      have hpos : (0 : Int) < (u : Int) * (v : Int) := Int.mul_pos (by omega) (by omega)
      cases s <;> cases t <;> simp only [Bool.false_eq_true, if_false, if_true, Int.neg_mul, Int.mul_neg, Int.neg_neg]
      · rw [decide_eq_false (by omega)]; rfl
      · rw [decide_eq_true (by omega)]; rfl
      · rw [decide_eq_true (by omega)]; rfl
      · rw [decide_eq_false (by omega)]; rfl
    obtain ⟨v, hv, hd⟩ := nearest_z (signed s m i * signed t n j) (s ^^ t) q T hT hT2 (fun _ => hsgn) hz
    refine ⟨_, v, rfl, ?_, hd⟩
    show FV (double.nearest (s ^^ t) (m * n) (-1074 + (i : Int) + (-1074 + (j : Int)))) v
    rw [show -1074 + (i : Int) + (-1074 + (j : Int)) = -1074 - (q : Int) + ((i + j : Nat) : Int) by omega, ← nearest_scale _ _ _ _ h0, hN]
    exact hv
end Go.Proofs.YtfnbcpeipoobkaaGreat.Fl

namespace Go.Proofs.YtfnbcpeipoobkaaGreat.Fl
open Ieee

/-- The bits b are k times 2 to the -s. -/
def DV (s b : Nat) (k : Int) : Prop := ∃ q : Nat, q + s = 1074 ∧ FV b (k * 2 ^ q)
theorem dv_zero {s : Nat} (h : s ≤ 1074) : DV s 0 0 := ⟨1074 - s, by omega, false, 0, 0, rfl, by rw [Int.zero_mul]; rfl⟩
theorem dv_iv {b : Nat} {n : Int} (h : IV b n) : DV 0 b n := by
  obtain ⟨q, hq, h⟩ := h
  exact ⟨q, by omega, h⟩
theorem dv_add {s a b : Nat} {x y : Int} (ha : DV s a x) (hb : DV s b y) (h : (x + y).natAbs < 2 ^ 53) : ∃ r, double.add a b = some r ∧ DV s r (x + y) := by
  obtain ⟨q, hq, ha⟩ := ha
  obtain ⟨q', hq', hb⟩ := hb
  obtain rfl : q = q' := by omega
  have e : x * 2 ^ q + y * 2 ^ q = (x + y) * 2 ^ q := (Int.add_mul ..).symm
  obtain ⟨r, h1, h2⟩ := fv_add ha hb (M := (x + y).natAbs) (k := q) (by rw [e, natAbs_scale]) h (by have := log2_le_of_lt h; omega)
  exact ⟨r, h1, q, hq, by rw [← e]; exact h2⟩
theorem dv_sub {s a b : Nat} {x y : Int} (ha : DV s a x) (hb : DV s b y) (h : (x - y).natAbs < 2 ^ 53) : ∃ r, double.sub a b = some r ∧ DV s r (x - y) := by
  obtain ⟨q, hq, ha⟩ := ha
  obtain ⟨q', hq', hb⟩ := hb
  obtain rfl : q = q' := by omega
  have e : x * 2 ^ q - y * 2 ^ q = (x - y) * 2 ^ q := (Int.sub_mul ..).symm
  obtain ⟨r, h1, h2⟩ := fv_sub ha hb (M := (x - y).natAbs) (k := q) (by rw [e, natAbs_scale]) h (by have := log2_le_of_lt h; omega)
  exact ⟨r, h1, q, hq, by rw [← e]; exact h2⟩
theorem dv_order {s a b : Nat} {x y : Int} (ha : DV s a x) (hb : DV s b y) : double.order a b = some (compare x y) := by
  obtain ⟨q, hq, ha⟩ := ha
  obtain ⟨q', hq', hb⟩ := hb
  obtain rfl : q = q' := by omega
  rw [fv_order ha hb, compare_scale]
/-- In smaller units. -/
theorem dv_up {s b : Nat} {k : Int} (d : Nat) (h : DV s b k) (hs : s + d ≤ 1074) : DV (s + d) b (k * 2 ^ d) := by
  obtain ⟨q, hq, h⟩ := h
  refine ⟨q - d, by omega, ?_⟩
  have e : k * 2 ^ d * 2 ^ (q - d) = k * 2 ^ q := by rw [Int.mul_assoc, ← Int.pow_add, show d + (q - d) = q by omega]
  rw [e]
  exact h
theorem dv_abs {s b : Nat} {k : Int} (h : DV s b k) : DV s (b % 9223372036854775808) k.natAbs := by
  obtain ⟨q, hq, t, m, i, e1, e2⟩ := h
  refine ⟨q, hq, false, m, i, read_mod b t m _ e1, ?_⟩
  have e3 := signed_natAbs t m i
  rw [e2, natAbs_scale] at e3
  rw [signed_eq, if_neg (by simp), ← e3]
  push_cast
  rfl
/-- A sum of two that are not below 0: within one part in 2 to the 53. -/
theorem rel_add {a b : Nat} {x y : Int} (ha : FV a x) (hb : FV b y) (hx : 0 ≤ x) (hy : 0 ≤ y) {U : Nat} (hU : U ≤ 2000) (hz : x + y < ((2 ^ U : Nat) : Int)) : ∃ r v, double.add a b = some r ∧ FV r v ∧ (v - (x + y)).natAbs * 9007199254740992 ≤ (x + y).natAbs := by
  obtain ⟨N, hN⟩ : ∃ N : Nat, x + y = (N : Int) := ⟨(x + y).toNat, by omega⟩
  by_cases h0 : N < 2 ^ 53
  · obtain ⟨r, h1, h2⟩ := fv_add ha hb (M := N) (k := 0) (by rw [hN]; simp) h0 (by have := log2_le_of_lt h0; omega)
    exact ⟨r, _, h1, h2, by simp⟩
  · have hne : N ≠ 0 := by intro e; rw [e] at h0; exact h0 (Nat.two_pow_pos 53)
    have hl := Nat.log2_self_le hne
    have hu := Nat.lt_log2_self (n := N)
    have hN2 : N < 2 ^ U := by
      rw [hN] at hz
      exact Int.ofNat_lt.1 hz
    have l1 : 53 ≤ N.log2 := by
      refine Nat.le_of_not_lt fun hc => h0 (Nat.lt_of_lt_of_le hu (Nat.pow_le_pow_right (by decide) (by omega)))
    have l2 : N.log2 < U := Nat.lt_of_not_le fun hc => by
      have := Nat.pow_le_pow_right (n := 2) (by decide) hc
      omega
    obtain ⟨r, v, h1, h2, h3⟩ := add_err ha hb (T := N.log2 + 1) (by omega) (by omega) (by rw [hN]; simpa using hu)
    refine ⟨r, v, h1, h2, ?_⟩
    rw [hN] at h3 ⊢
    have e : 2 ^ (N.log2 + 1 - 53) * 9007199254740992 = 2 * 2 ^ N.log2 := by
      rw [show (9007199254740992 : Nat) = 2 ^ 53 by decide, ← Nat.pow_add, show N.log2 + 1 - 53 + 53 = N.log2 + 1 by omega, Nat.pow_succ, Nat.mul_comm]
    have e2 : ((N : Int)).natAbs = N := rfl
    rw [e2]
    have := Nat.mul_le_mul_right 9007199254740992 h3
    rw [e] at this
    rw [Nat.mul_assoc] at this
    exact Nat.le_of_mul_le_mul_left (Nat.le_trans this (Nat.mul_le_mul_left 2 hl)) (show 0 < 2 by decide)
/-- A product: within one part in 2 to the 53. -/
theorem rel_mul {a b : Nat} {x y : Int} (q : Nat) (hq : q = 1074) (ha : FV a x) (hb : FV b y) (hlow : x * y = 0 ∨ 2 ^ (53 + q) ≤ (x * y).natAbs) {U : Nat} (hU : U ≤ 2000) (hz : (x * y).natAbs < 2 ^ (U + q)) : ∃ r v, double.mul a b = some r ∧ FV r v ∧ (v * 2 ^ q - x * y).natAbs * 9007199254740992 ≤ (x * y).natAbs := by
  rcases hlow with h0 | h0
  · obtain ⟨r, h1, h2⟩ := mul_fv q hq ha hb (z := 0) (by rw [h0, Int.zero_mul]) (M := 0) (k := 0) (by simp) (Nat.two_pow_pos 53) (by simp)
    exact ⟨r, 0, h1, h2, by rw [h0]; simp⟩
  · generalize hM : (x * y).natAbs = N at *
    have hne : N ≠ 0 := by intro e; have := Nat.two_pow_pos (53 + q); omega
    have hl := Nat.log2_self_le hne
    have hu := Nat.lt_log2_self (n := N)
    have l1 : 53 + q ≤ N.log2 := Nat.le_of_not_lt fun hc => by
      have := Nat.pow_le_pow_right (n := 2) (by decide) (show N.log2 + 1 ≤ 53 + q by omega)
      omega
    have l2 : N.log2 < U + q := Nat.lt_of_not_le fun hc => by
      have := Nat.pow_le_pow_right (n := 2) (by decide) hc
      omega
    obtain ⟨r, v, h1, h2, h3⟩ := mul_err q hq ha hb (T := N.log2 + 1 - q) (by omega) (by omega) (by rw [hM, show N.log2 + 1 - q + q = N.log2 + 1 by omega]; exact hu)
    refine ⟨r, v, h1, h2, ?_⟩
    have e : 2 ^ (N.log2 + 1 - q - 53 + q) * 9007199254740992 = 2 * 2 ^ N.log2 := by
      rw [show (9007199254740992 : Nat) = 2 ^ 53 by decide, ← Nat.pow_add, show N.log2 + 1 - q - 53 + q + 53 = N.log2 + 1 by omega, Nat.pow_succ, Nat.mul_comm]
    have := Nat.mul_le_mul_right 9007199254740992 h3
    rw [e] at this
    rw [Nat.mul_assoc] at this
    exact Nat.le_of_mul_le_mul_left (Nat.le_trans this (Nat.mul_le_mul_left 2 hl)) (show 0 < 2 by decide)
end Go.Proofs.YtfnbcpeipoobkaaGreat.Fl
