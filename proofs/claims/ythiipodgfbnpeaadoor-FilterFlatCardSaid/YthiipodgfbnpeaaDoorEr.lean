/- Doubles rounded: how far a sum, a difference or a product is from the exact one. -/
import Derived.Test.YthiipodgfbnpeaaDoorFl
namespace Go.Proofs.YthiipodgfbnpeaaDoor.Fl
open Ieee

/-- The nearest double to 'mag' units of 2 to the (-1074 - q), mag below 2 to the (T + q): not farther than half a unit of its last place. -/
theorem nearest_err (neg : Bool) (mag q T : Nat) (hT : 53 ≤ T) (hT2 : T ≤ 2090) (hm : mag < 2 ^ (T + q)) :
    ∃ m k : Nat, double.read (double.nearest neg mag (-1074 - (q : Int))) = .number neg m (-1074 + (k : Int)) ∧
      2 * (m * 2 ^ k * 2 ^ q) ≤ 2 * mag + 2 ^ (T - 53 + q) ∧ 2 * mag ≤ 2 * (m * 2 ^ k * 2 ^ q) + 2 ^ (T - 53 + q) := by
  by_cases h0 : mag = 0
  · subst h0
    refine ⟨0, 0, ?_, ?_, ?_⟩
    · unfold Format.nearest
      rw [if_pos rfl]
      exact read_zero neg
    · simp
    · exact Nat.zero_le _
  · have hle := Nat.log2_self_le h0
    have hlt : mag < 2 ^ (mag.log2 + 1) := Nat.lt_log2_self
    have hlg : mag.log2 < T + q := (Nat.log2_lt h0).2 hm
    rw [nearest_eq _ _ _ h0]
    unfold keptOf
    have hla : -1074 ≤ lastOf mag (-1074 - (q : Int)) := by unfold lastOf; omega
    have hlb : lastOf mag (-1074 - (q : Int)) ≤ -1074 + ((T - 53 : Nat) : Int) := by unfold lastOf; omega
    have hlc : lastOf mag (-1074 - (q : Int)) = -1074 ∨ lastOf mag (-1074 - (q : Int)) = -1074 - (q : Int) + mag.log2 - 52 := by unfold lastOf; omega
    have hld : -1074 - (q : Int) + mag.log2 - 52 ≤ lastOf mag (-1074 - (q : Int)) := by unfold lastOf; omega
    generalize lastOf mag (-1074 - (q : Int)) = l at *
    obtain ⟨L, rfl⟩ : ∃ L : Nat, l = -1074 + (L : Int) := ⟨(l + 1074).toNat, by omega⟩
    rw [show (-1074 - (q : Int) - (-1074 + (L : Int))).toNat = 0 by omega, Nat.shiftLeft_eq, Nat.pow_zero, Nat.mul_one,
      show (-1074 + (L : Int) + 1074).toNat = L by omega, show (-1074 + (L : Int) - (-1074 - (q : Int))).toNat = L + q by omega]
    obtain ⟨b1, b2⟩ := rne_bounds mag (L + q)
    have hpd : 0 < 2 ^ (L + q) := Nat.two_pow_pos _
    have hup : mag < 2 ^ 53 * 2 ^ (L + q) := by
      rw [← Nat.pow_add]
      exact Nat.lt_of_lt_of_le hlt (Nat.pow_le_pow_right (by decide) (by omega))
    have hK1 : rne mag (L + q) ≤ 2 ^ 53 := by
      have : 2 * (rne mag (L + q) * 2 ^ (L + q)) < 2 * (2 ^ 53 * 2 ^ (L + q)) + 2 ^ (L + q) := by omega
      generalize 2 ^ (L + q) = D at *
      generalize rne mag (L + q) = K at *
      by_cases c : K ≤ 2 ^ 53
      · exact c
      · have h1 : (2 ^ 53 + 1) * D ≤ K * D := Nat.mul_le_mul_right _ (by omega)
        rw [Nat.add_mul, Nat.one_mul] at h1
        omega
    have hK2 : L = 0 ∨ 2 ^ 52 ≤ rne mag (L + q) := by
      rcases hlc with c | c
      · left; omega
      · right
        have h1 : 2 ^ 52 * 2 ^ (L + q) ≤ mag := by
          rw [← Nat.pow_add, show 52 + (L + q) = mag.log2 by omega]; exact hle
        generalize 2 ^ (L + q) = D at *
        generalize rne mag (L + q) = K at *
        by_cases c : 2 ^ 52 ≤ K
        · exact c
        · have h2 : K * D ≤ (2 ^ 52 - 1) * D := Nat.mul_le_mul_right _ (by omega)
          rw [Nat.sub_mul, Nat.one_mul] at h2
          have h3 : D ≤ 2 ^ 52 * D := Nat.le_mul_of_pos_left _ (by decide)
          omega
    have hT3 : L * 2 ^ 52 + rne mag (L + q) < 9218868437227405312 := by
      have : L ≤ 2037 := by omega
      rw [p52]; rw [p53] at hK1; omega
    obtain ⟨m, j, e1, e2⟩ := read_kept neg L (rne mag (L + q)) hK1 hK2 hT3
    refine ⟨m, j, ?_, ?_, ?_⟩
    · rw [ir, Nat.min_eq_left (by omega)]; exact e1
    · have hp : 2 ^ (L + q) ≤ 2 ^ (T - 53 + q) := Nat.pow_le_pow_right (by decide) (by omega)
      rw [e2, Nat.mul_assoc, ← Nat.pow_add]
      omega
    · have hp : 2 ^ (L + q) ≤ 2 ^ (T - 53 + q) := Nat.pow_le_pow_right (by decide) (by omega)
      rw [e2, Nat.mul_assoc, ← Nat.pow_add]
      omega

/-- The same with signs. -/
theorem nearest_z (z : Int) (neg : Bool) (q T : Nat) (hT : 53 ≤ T) (hT2 : T ≤ 2090) (hn : z ≠ 0 → neg = decide (z < 0)) (hz : z.natAbs < 2 ^ (T + q)) :
    ∃ v, FV (double.nearest neg z.natAbs (-1074 - (q : Int))) v ∧ 2 * (v * 2 ^ q - z).natAbs ≤ 2 ^ (T - 53 + q) := by
  obtain ⟨m, k, e, h1, h2⟩ := nearest_err neg z.natAbs q T hT hT2 hz
  refine ⟨signed neg m k, ⟨neg, m, k, e, rfl⟩, ?_⟩
  rw [signed_eq]
  have hc : ((2 ^ q : Nat) : Int) = (2 : Int) ^ q := by rw [Int.natCast_pow]; rfl
  rw [← hc]
  by_cases h0 : z = 0
  · subst h0
    have hz0 : Int.natAbs 0 = 0 := rfl
    rw [hz0] at h1
    rw [Int.sub_zero, Int.natAbs_mul, Int.natAbs_natCast]
    have : (if neg = true then -((m * 2 ^ k : Nat) : Int) else ((m * 2 ^ k : Nat) : Int)).natAbs = m * 2 ^ k := by
      cases neg
      · exact Int.natAbs_natCast _
      · exact (Int.natAbs_neg _).trans (Int.natAbs_natCast _)
    rw [this]
    omega
  · rw [hn h0]
    generalize 2 ^ (T - 53 + q) = E at *
    have hg : ((m * 2 ^ k : Nat) : Int) * ((2 ^ q : Nat) : Int) = ((m * 2 ^ k * 2 ^ q : Nat) : Int) := by rw [Int.natCast_mul (m * 2 ^ k)]
    by_cases h : z < 0
    · rw [decide_eq_true h, if_pos rfl, Int.neg_mul, hg]
      generalize m * 2 ^ k * 2 ^ q = X at *
      omega
    · rw [decide_eq_false h, if_neg (by decide), hg]
      generalize m * 2 ^ k * 2 ^ q = X at *
      omega

theorem sum_err {d1 d2 : Datum} {s t : Bool} {m n i j T : Nat} (e1 : d1 = .number s m (-1074 + (i : Int))) (e2 : d2 = .number t n (-1074 + (j : Int)))
    (hT : 53 ≤ T) (hT2 : T ≤ 2090) (hz : (signed s m i + signed t n j).natAbs < 2 ^ T) :
    ∃ r v, (d1.sum d2).map double.write = some r ∧ FV r v ∧ 2 * (v - (signed s m i + signed t n j)).natAbs ≤ 2 ^ (T - 53) := by
  subst e1 e2
  unfold Datum.sum
  dsimp only
  have hb : min (-1074 + (i : Int)) (-1074 + (j : Int)) = -1074 + ((min i j : Nat) : Int) := by omega
  rw [hb]
  generalize hc : min i j = c
  have hi : (-1074 + (i : Int) - (-1074 + (c : Int))).toNat + c = i := by omega
  have hj : (-1074 + (j : Int) - (-1074 + (c : Int))).toNat + c = j := by omega
  generalize (-1074 + (i : Int) - (-1074 + (c : Int))).toNat = i' at *
  generalize (-1074 + (j : Int) - (-1074 + (c : Int))).toNat = j' at *
  subst hi hj
  rw [signed_split, signed_split] at hz ⊢
  generalize signed s m i' = A at *
  generalize signed t n j' = B at *
  rw [← Int.add_mul] at hz ⊢
  generalize A + B = S at *
  have hpc : (0 : Int) < 2 ^ c := Int.pow_pos (by decide)
  have hN : S.natAbs * 2 ^ c = (S * 2 ^ c).natAbs := by
    rw [Int.natAbs_mul, Int.natAbs_pow, two_abs]
  by_cases h0 : S = 0
  · subst h0
    refine ⟨_, 0, rfl, ?_, ?_⟩
    · refine ⟨s && t, 0, 0, ?_, ?_⟩
      · show double.read (double.nearest _ (Int.natAbs 0) _) = _
        unfold Format.nearest
        rw [if_pos rfl, if_pos (show Int.natAbs 0 = 0 from rfl)]
        exact read_zero _
      · rw [signed_eq, Nat.zero_mul]; cases (s && t) <;> rfl
    · rw [Int.zero_mul]; exact Nat.zero_le _
  · have hS : S.natAbs ≠ 0 := by omega
    have hsgn : (S * 2 ^ c < 0) ↔ S < 0 := by
      constructor
      · intro h
        by_cases hx : S < 0
        · exact hx
        · have : 0 ≤ S * 2 ^ c := Int.mul_nonneg (by omega) (by omega)
          omega
      · intro h; exact Int.mul_neg_of_neg_of_pos h hpc
    obtain ⟨v, hv, hd⟩ := nearest_z (S * 2 ^ c) (decide (S < 0)) 0 T hT hT2 (fun _ => by rw [decide_eq_decide]; exact hsgn.symm) (by rw [Nat.add_zero]; exact hz)
    refine ⟨_, v, rfl, ?_, ?_⟩
    · show FV (double.nearest _ S.natAbs (-1074 + (c : Int))) v
      rw [if_neg h0]
      rw [← show -1074 - ((0 : Nat) : Int) + ((c : Nat) : Int) = -1074 + (c : Int) by omega, ← nearest_scale _ _ _ _ hS, hN]
      exact hv
    · rw [Int.pow_zero, Int.mul_one, Nat.add_zero] at hd
      exact hd

theorem add_err {a b T : Nat} {x y : Int} (ha : FV a x) (hb : FV b y) (hT : 53 ≤ T) (hT2 : T ≤ 2090) (hz : (x + y).natAbs < 2 ^ T) :
    ∃ r v, double.add a b = some r ∧ FV r v ∧ 2 * (v - (x + y)).natAbs ≤ 2 ^ (T - 53) := by
  obtain ⟨s, m, i, e1, rfl⟩ := ha
  obtain ⟨t, n, j, e2, rfl⟩ := hb
  exact sum_err e1 e2 hT hT2 hz

theorem sub_err {a b T : Nat} {x y : Int} (ha : FV a x) (hb : FV b y) (hT : 53 ≤ T) (hT2 : T ≤ 2090) (hz : (x - y).natAbs < 2 ^ T) :
    ∃ r v, double.sub a b = some r ∧ FV r v ∧ 2 * (v - (x - y)).natAbs ≤ 2 ^ (T - 53) := by
  obtain ⟨s, m, i, e1, rfl⟩ := ha
  obtain ⟨t, n, j, e2, rfl⟩ := hb
  have := sum_err e1 (opp_fv e2) (T := T) hT hT2 (by rw [signed_not]; exact hz)
  rw [signed_not] at this
  exact this

theorem mul_err {a b T : Nat} {x y : Int} (q : Nat) (hq : q = 1074) (ha : FV a x) (hb : FV b y) (hT : 53 ≤ T) (hT2 : T ≤ 2090) (hz : (x * y).natAbs < 2 ^ (T + q)) :
    ∃ r v, double.mul a b = some r ∧ FV r v ∧ 2 * (v * 2 ^ q - x * y).natAbs ≤ 2 ^ (T - 53 + q) := by
  obtain ⟨s, m, i, e1, rfl⟩ := ha
  obtain ⟨t, n, j, e2, rfl⟩ := hb
  unfold Format.mul
  rw [e1, e2]
  unfold Datum.product
  have hN : m * n * 2 ^ (i + j) = (signed s m i * signed t n j).natAbs := by
    rw [Int.natAbs_mul, signed_natAbs, signed_natAbs, Nat.pow_add]
    rw [Nat.mul_assoc, Nat.mul_assoc, Nat.mul_left_comm n (2 ^ i)]
  by_cases h0 : m * n = 0
  · have hz0 : signed s m i * signed t n j = 0 := by
      rw [h0, Nat.zero_mul] at hN
      omega
    rw [hz0]
    refine ⟨_, 0, rfl, ?_, ?_⟩
    · show FV (double.nearest (s ^^ t) (m * n) _) 0
      refine ⟨s ^^ t, 0, 0, ?_, ?_⟩
      · unfold Format.nearest
        rw [if_pos h0]
        exact read_zero _
      · rw [signed_eq, Nat.zero_mul]; cases (s ^^ t) <;> rfl
    · rw [Int.zero_mul]; exact Nat.zero_le _
  · have hsgn : (s ^^ t) = decide (signed s m i * signed t n j < 0) := by
      have hmi : 0 < m * 2 ^ i := Nat.mul_pos (Nat.pos_of_ne_zero fun c => h0 (by rw [c, Nat.zero_mul])) (Nat.two_pow_pos _)
      have hnj : 0 < n * 2 ^ j := Nat.mul_pos (Nat.pos_of_ne_zero fun c => h0 (by rw [c, Nat.mul_zero])) (Nat.two_pow_pos _)
      rw [signed_eq, signed_eq]
      generalize m * 2 ^ i = u at *
      generalize n * 2 ^ j = v at *
      have hpos : (0 : Int) < (u : Int) * (v : Int) := Int.mul_pos (by omega) (by omega)
      cases s <;> cases t <;> simp only [Bool.false_eq_true, if_false, if_true, Int.neg_mul, Int.mul_neg, Int.neg_neg]
      · rw [decide_eq_false (by omega)]; rfl
      · rw [decide_eq_true (by omega)]; rfl
      · rw [decide_eq_true (by omega)]; rfl
      · rw [decide_eq_false (by omega)]; rfl
    obtain ⟨v, hv, hd⟩ := nearest_z (signed s m i * signed t n j) (s ^^ t) q T hT hT2 (fun _ => hsgn) hz
    refine ⟨_, v, rfl, ?_, hd⟩
    show FV (double.nearest (s ^^ t) (m * n) (-1074 + (i : Int) + (-1074 + (j : Int)))) v
    rw [show -1074 + (i : Int) + (-1074 + (j : Int)) = -1074 - (q : Int) + ((i + j : Nat) : Int) by omega, ← nearest_scale _ _ _ _ h0, hN]
    exact hv
end Go.Proofs.YthiipodgfbnpeaaDoor.Fl
