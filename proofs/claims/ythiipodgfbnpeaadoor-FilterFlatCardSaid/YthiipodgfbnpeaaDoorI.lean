/- Orders and places: which entry of the table a root is. -/
import Derived.Test.YthiipodgfbnpeaaDoorP0
namespace Go.Proofs.YthiipodgfbnpeaaDoor

/-- Ahead of a quarter turn. -/
def qd (i : Nat) : Nat × Nat := if 512 < i then ((tb (1024 - i)).2, (tb (1024 - i)).1) else tb i
def turns : Nat → Nat × Nat → Nat × Nat
  | 0, a => a
  | s + 1, a => turnP (turns s a)
/-- The root at the place i of 4096. -/
def full (i : Nat) : Nat × Nat := turns (i / 1024) (qd (i % 1024))

theorem full_low {i : Nat} (h : i < 1024) : full i = qd i := by
  unfold full
  rw [Nat.div_eq_of_lt h, Nat.mod_eq_of_lt h]
  rfl

theorem full_turn {i : Nat} (h : 1024 ≤ i) : full i = turnP (full (i - 1024)) := by
  unfold full
  rw [show i / 1024 = (i - 1024) / 1024 + 1 by omega, show i % 1024 = (i - 1024) % 1024 by omega]
  rfl

theorem qd_low {i : Nat} (h : i ≤ 512) : qd i = tb i := if_neg (by omega)
theorem qd_high {i : Nat} (h : 512 < i) : qd i = ((tb (1024 - i)).2, (tb (1024 - i)).1) := if_pos h

/-- n is an order, and s places of 4096 are one of its own. -/
def Ord (n s : Nat) : Prop := ∃ e, e ≤ 12 ∧ n = 2 ^ e ∧ s = 2 ^ (12 - e)

theorem ord_cases {n s : Nat} (h : Ord n s) : (n = 1 ∧ s = 4096) ∨ (n = 2 ∧ s = 2048) ∨ (n = 4 ∧ s = 1024) ∨ (n = 8 ∧ s = 512) ∨ (n = 16 ∧ s = 256) ∨ (n = 32 ∧ s = 128) ∨ (n = 64 ∧ s = 64) ∨ (n = 128 ∧ s = 32) ∨
    (n = 256 ∧ s = 16) ∨ (n = 512 ∧ s = 8) ∨ (n = 1024 ∧ s = 4) ∨ (n = 2048 ∧ s = 2) ∨ (n = 4096 ∧ s = 1) := by
  obtain ⟨e, he, rfl, rfl⟩ := h
  have : e = 0 ∨ e = 1 ∨ e = 2 ∨ e = 3 ∨ e = 4 ∨ e = 5 ∨ e = 6 ∨ e = 7 ∨ e = 8 ∨ e = 9 ∨ e = 10 ∨ e = 11 ∨ e = 12 := by omega
  rcases this with rfl | rfl | rfl | rfl | rfl | rfl | rfl | rfl | rfl | rfl | rfl | rfl | rfl <;> decide

theorem ord_half {n s : Nat} (h : Ord n s) (h2 : 2 ≤ n) : Ord (n / 2) (2 * s) := by
  obtain ⟨e, he, rfl, rfl⟩ := h
  match e, he, h2 with
  | e + 1, he, _ =>
    refine ⟨e, by omega, ?_, ?_⟩
    · rw [Nat.pow_succ]; omega
    · rw [show 12 - e = 12 - (e + 1) + 1 by omega, Nat.pow_succ]; omega

theorem ord_le {n s : Nat} (h : Ord n s) : n ≤ 4096 ∧ 1 ≤ n := by
  rcases ord_cases h with h | h | h | h | h | h | h | h | h | h | h | h | h <;> omega

theorem at_turn {n s k : Nat} (h : Ord n s) (h4 : 4 ≤ n) (hk : n / 4 ≤ k) : full (k * s) = turnP (full ((k - n / 4) * s)) := by
  have e : 1024 ≤ k * s ∧ (k - n / 4) * s = k * s - 1024 := by
    rcases ord_cases h with h | h | h | h | h | h | h | h | h | h | h | h | h <;> obtain ⟨rfl, rfl⟩ := h <;> omega
  rw [e.2]
  exact full_turn e.1

theorem at_two : full (1 * 2048) = (13830554455654793216, 0) := by decide +kernel
theorem at_zero (s : Nat) : full (0 * s) = (4607182418800017408, 0) := by
  rw [Nat.zero_mul]; decide +kernel

theorem at_swap {n s k : Nat} (h : Ord n s) (h4 : 4 ≤ n) (hk : n / 8 < k) (hk4 : k < n / 4) : full (k * s) = ((full ((n / 4 - k) * s)).2, (full ((n / 4 - k) * s)).1) := by
  have e : 512 < k * s ∧ (n / 4 - k) * s = 1024 - k * s ∧ k * s < 1024 := by
    rcases ord_cases h with h | h | h | h | h | h | h | h | h | h | h | h | h <;> obtain ⟨rfl, rfl⟩ := h <;> omega
  rw [e.2.1, full_low e.2.2, full_low (by omega), qd_high e.1, qd_low (by omega)]

theorem at_even {k s : Nat} (hk : k % 2 = 0) : full (k / 2 * (2 * s)) = full (k * s) := by
  have : k / 2 * (2 * s) = k * s := by rw [← Nat.mul_assoc, Nat.div_mul_cancel (Nat.dvd_of_mod_eq_zero hk)]
  rw [this]

theorem ord_eight {n s : Nat} (h : Ord n s) (h8 : 8 ≤ n) : ∃ j, j ≤ 9 ∧ n = 8 * 2 ^ j ∧ s = 2 ^ (9 - j) := by
  obtain ⟨e, he, rfl, rfl⟩ := h
  match e, he, h8 with
  | e + 3, he, _ =>
    refine ⟨e, by omega, ?_, ?_⟩
    · rw [Nat.pow_add]; omega
    · rw [show 12 - (e + 3) = 9 - e by omega]
  | 0, _, h => exact absurd h (by decide)
  | 1, _, h => exact absurd h (by decide)
  | 2, _, h => exact absurd h (by decide)

theorem okSteps {j k : Nat} (hj : j ≤ 9) (hk : 2 * k + 1 ≤ 2 ^ j) : mulP (tb (2 * k * 2 ^ (9 - j))) (st j) = some (tb ((2 * k + 1) * 2 ^ (9 - j))) := by
  have : okStep j k = true := by
    by_cases h9 : j = 9
    · subst h9
      exact okSteps9 k (by have : (2 : Nat) ^ 9 = 512 := rfl; omega)
    · have h1 : 2 ^ j ≤ 2 ^ 8 := Nat.pow_le_pow_right (by decide) (by omega)
      exact okSteps0 j (by omega) k (by have : (2 : Nat) ^ 8 = 256 := rfl; omega) (by omega)
  exact eq_of_beq this

theorem pow_split {j : Nat} (hj : j ≤ 9) : 2 ^ j * 2 ^ (9 - j) = 512 := by
  rw [← Nat.pow_add, show j + (9 - j) = 9 by omega]

theorem at_odd {j k : Nat} (hj : j ≤ 9) (hk : k % 2 = 1) (hk8 : k ≤ 2 ^ j) : mulP (full ((k - 1) * 2 ^ (9 - j))) (st j) = some (full (k * 2 ^ (9 - j))) := by
  obtain ⟨c, rfl⟩ : ∃ c, k = 2 * c + 1 := ⟨k / 2, by omega⟩
  have hp := pow_split hj
  have h1 : (2 * c + 1) * 2 ^ (9 - j) ≤ 512 := by rw [← hp]; exact Nat.mul_le_mul_right _ hk8
  have h2 : 2 * c * 2 ^ (9 - j) ≤ (2 * c + 1) * 2 ^ (9 - j) := Nat.mul_le_mul_right _ (by omega)
  rw [show 2 * c + 1 - 1 = 2 * c by omega, full_low (by omega), full_low (by omega), qd_low (by omega), qd_low h1]
  exact okSteps hj hk8
theorem at_nought : full 0 = (4607182418800017408, 0) := by decide +kernel
end Go.Proofs.YthiipodgfbnpeaaDoor
