/- The weights of a filter: what is so of them. -/
import Derived.Test.YthiipodgfbnpeaaDoorFX
import Derived.Test.YthiipodgfbnpeaaDoorFZ
import Derived.Test.YthiipodgfbnpeaaDoorFT
namespace Go.Proofs.YthiipodgfbnpeaaDoor
open Go.RowKit

theorem rT_ok {j : Nat} (h : j ≤ 2048) : floatBits .quo .f64 (floatOfInt .f64 (j : Int)) (floatOfInt .f64 4096) = some (rT j) ∧ goodW (rT j) = true := by
  have := ramps_top (j / 32) (by omega) (j % 32) (by omega)
  rw [show 32 * (j / 32) + j % 32 = j by omega] at this
  unfold okRT at this
  rw [Bool.and_eq_true] at this
  refine ⟨?_, this.2⟩
  unfold rT
  cases h : floatBits .quo .f64 (floatOfInt .f64 (j : Int)) (floatOfInt .f64 4096) with
  | none => rw [h] at this; simp at this
  | some c => rfl

theorem ramp_ok {n s m : Nat} (h : Ord n s) (hm : m ≤ n / 2) : floatBits .quo .f64 (floatOfInt .f64 (m : Int)) (floatOfInt .f64 (n : Int)) = some (rT (m * s)) := by
  obtain ⟨e, he, rfl, rfl⟩ := h
  by_cases c : e = 12
  · subst c
    have h1 : m * 2 ^ (12 - 12) = m := by simp
    rw [h1]
    exact (rT_ok (by have : (2 : Nat) ^ 12 / 2 = 2048 := by decide
                     omega)).1
  · have hp : 2 ^ e ≤ 2 ^ 11 := Nat.pow_le_pow_right (by omega) (by omega)
    have h2 : (2 : Nat) ^ 11 = 2048 := by decide
    have := ramps_low e (by omega) m (by omega) hm
    unfold okRamp at this
    simpa using this

theorem ord_mul {n s : Nat} (h : Ord n s) : n * s = 4096 := by
  obtain ⟨e, he, rfl, rfl⟩ := h
  rw [← Nat.pow_add, show e + (12 - e) = 12 by omega]

theorem less_ok {n s k : Nat} (h : Ord n s) (hk : k < n) : min k (n - k) * s = lessT (k * s) ∧ min k (n - k) ≤ n / 2 := by
  have hm := ord_mul h
  unfold lessT
  refine ⟨?_, by omega⟩
  have e : (n - k) * s = 4096 - k * s := by rw [Nat.sub_mul, hm]
  by_cases c : k ≤ n - k
  · have : k * s ≤ (n - k) * s := Nat.mul_le_mul_right _ c
    rw [Nat.min_eq_left c, Nat.min_eq_left (by omega)]
  · have : (n - k) * s ≤ k * s := Nat.mul_le_mul_right _ (by omega)
    rw [Nat.min_eq_right (by omega), Nat.min_eq_right (by omega), e]

theorem full_mirror {K : Nat} (h0 : 0 < K) (h : K < 4096) : (full (4096 - K)).1 = (full K).1 := by
  have h1 := full_conj h
  rw [Nat.mod_eq_of_lt (by omega)] at h1
  rw [h1]
  show plainB (full K).1 = (full K).1
  exact congrArg Prod.fst (full_plain h)

theorem soft_mirror {K : Nat} (h0 : 0 < K) (h : K < 4096) : softO (4096 - K) = softO K := by
  unfold softO
  rw [full_mirror h0 h]
  have : lessT (4096 - K) = lessT K := by unfold lessT; omega
  rw [this]

theorem soft_low {K : Nat} (h : K ≤ 2048) : ∃ c, softO K = some c ∧ goodW c = true := by
  have key : okSoft K = true := by
    by_cases c1 : K < 1024
    · have := softs_a (K / 32) (by omega) (K % 32) (by omega)
      rwa [show 32 * (K / 32) + K % 32 = K by omega] at this
    · by_cases c2 : K < 2048
      · have := softs_b ((K - 1024) / 32) (by omega) ((K - 1024) % 32) (by omega)
        rwa [show 32 * (32 + (K - 1024) / 32) + (K - 1024) % 32 = K by omega] at this
      · rw [show K = 2048 by omega]
        exact softs_c
  unfold okSoft at key
  cases hs : softO K with
  | none => rw [hs] at key; cases key
  | some c => rw [hs] at key; exact ⟨c, rfl, key⟩

theorem soft_ok {K : Nat} (h : K < 4096) : ∃ c, softO K = some c ∧ goodW c = true := by
  by_cases c : K ≤ 2048
  · exact soft_low c
  · rw [← soft_mirror (by omega) h]
    exact soft_low (by omega)

theorem soft_parts {K : Nat} (h : K < 4096) : ∃ a b, floatBits .add .f64 oneB (full K).1 = some a ∧ floatBits .mul .f64 halfOne a = some b ∧ floatBits .mul .f64 (rT (lessT K)) b = some (wT 3 K) := by
  obtain ⟨c, hc, _⟩ := soft_ok h
  have hw : wT 3 K = c := by
    unfold wT
    rw [if_neg (by omega), if_neg (by omega), hc]
    rfl
  rw [hw]
  unfold softO at hc
  cases h1 : floatBits .add .f64 oneB (full K).1 with
  | none => rw [h1] at hc; cases hc
  | some a =>
    rw [h1] at hc
    simp only [Option.bind_some] at hc
    cases h2 : floatBits .mul .f64 halfOne a with
    | none => rw [h2] at hc; cases hc
    | some b =>
      rw [h2] at hc
      simp only [Option.bind_some] at hc
      exact ⟨a, b, rfl, h2, hc⟩

theorem one_good : goodW oneB = true := by decide +kernel

theorem w_good {kind K : Nat} (h : K < 4096) : goodW (wT kind K) = true := by
  unfold wT
  split
  · exact one_good
  · split
    · exact (rT_ok (by unfold lessT; omega)).2
    · obtain ⟨c, hc, hg⟩ := soft_ok h
      rw [hc]
      exact hg

theorem w_mirror {kind K : Nat} (h0 : 0 < K) (h : K < 4096) : wT kind (4096 - K) = wT kind K := by
  unfold wT
  rw [soft_mirror h0 h]
  have : lessT (4096 - K) = lessT K := by unfold lessT; omega
  rw [this]

theorem good_parts {c : Nat} (h : goodW c = true) : (FloatKind.f64.format.order c c == some .eq) = true ∧ (FloatKind.f64.format.order c 0 == some .lt) = false ∧ (FloatKind.f64.format.order c oneB == some .gt) = false := by
  unfold goodW at h
  simp only [Bool.and_eq_true, Bool.not_eq_true'] at h
  exact ⟨h.1.1, h.1.2, h.2⟩
end Go.Proofs.YthiipodgfbnpeaaDoor
