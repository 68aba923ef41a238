/- Orders, and numbers that are none. -/
import Derived.Test.YthiipodgfbnpeaaDoorRF
namespace Go.Proofs.YthiipodgfbnpeaaDoor
open Go.RowKit

def powB (m : Nat) : Bool := m == 1 || m == 2 || m == 4 || m == 8 || m == 16 || m == 32 || m == 64 || m == 128 || m == 256 || m == 512 || m == 1024 || m == 2048 || m == 4096
theorem pow_of_and0 : ∀ a : Nat, a < 64 → ∀ b : Nat, b < 64 → bits .and .i64 (((64 * a + b : Nat) : Int) + 1) ((64 * a + b : Nat) : Int) = 0 → powB (64 * a + b + 1) = true := by decide +kernel
theorem pow_of_and (m : Nat) (h : m < 4096) : bits .and .i64 ((m : Int) + 1) (m : Int) = 0 → powB (m + 1) = true := by
  have := pow_of_and0 (m / 64) (by omega) (m % 64) (by omega)
  rw [show 64 * (m / 64) + m % 64 = m by omega] at this
  exact this

theorem ord_of_powB {m : Nat} (h : powB m = true) : ∃ s, Ord m s := by
  simp only [powB, Bool.or_eq_true, beq_iff_eq] at h
  rcases h with (((((((((((h | h) | h) | h) | h) | h) | h) | h) | h) | h) | h) | h) | h <;> subst h
  · exact ⟨4096, 0, by decide, rfl, rfl⟩
  · exact ⟨2048, 1, by decide, rfl, rfl⟩
  · exact ⟨1024, 2, by decide, rfl, rfl⟩
  · exact ⟨512, 3, by decide, rfl, rfl⟩
  · exact ⟨256, 4, by decide, rfl, rfl⟩
  · exact ⟨128, 5, by decide, rfl, rfl⟩
  · exact ⟨64, 6, by decide, rfl, rfl⟩
  · exact ⟨32, 7, by decide, rfl, rfl⟩
  · exact ⟨16, 8, by decide, rfl, rfl⟩
  · exact ⟨8, 9, by decide, rfl, rfl⟩
  · exact ⟨4, 10, by decide, rfl, rfl⟩
  · exact ⟨2, 11, by decide, rfl, rfl⟩
  · exact ⟨1, 12, by decide, rfl, rfl⟩

theorem ord_of_and {n : Int} (h1 : 1 ≤ n) (h2 : n ≤ 4096) (h3 : bits .and .i64 n (n - 1) = 0) : ∃ m s : Nat, n = (m : Int) ∧ Ord m s := by
  obtain ⟨m, rfl⟩ : ∃ m : Nat, n = (m : Int) + 1 := ⟨(n - 1).toNat, by omega⟩
  rw [show (m : Int) + 1 - 1 = (m : Int) by omega] at h3
  obtain ⟨s, hs⟩ := ord_of_powB (pow_of_and m (by omega) h3)
  exact ⟨m + 1, s, by omega, hs⟩

/-- The three tests fail somewhere. -/
def Wrong (n : Int) : Prop := n < 1 ∨ 4096 < n ∨ ((1 ≤ n ∧ n ≤ 4096) ∧ (bits .and .i64 n (n - 1) == 0) = false)

theorem ord_or (n : Int) : Wrong n ∨ ∃ m s : Nat, n = (m : Int) ∧ Ord m s := by
  by_cases h1 : n < 1
  · exact .inl (.inl h1)
  · by_cases h2 : 4096 < n
    · exact .inl (.inr (.inl h2))
    · by_cases h3 : bits .and .i64 n (n - 1) = 0
      · exact .inr (ord_of_and (by omega) (by omega) h3)
      · exact .inl (.inr (.inr ⟨⟨by omega, by omega⟩, by rw [beq_eq_false_iff_ne]; exact h3⟩))

set_option maxHeartbeats 400000 in
theorem length_no {n : Int} (h : Wrong n) (w : World) :
    Calls Tryd.prog 16 #[.int .i64 n] w fun e w' => e = .returned (.bool false) ∧ w' = w := by
  rcases h with h | h | ⟨h, h3⟩
  · go_enter Tryd.func16, Tryd.ntmps16
    go_wp2_with fail
    go_ret
    exact ⟨rfl, rfl⟩
  · go_enter Tryd.func16, Tryd.ntmps16
    go_wp2_with fail
    go_ret
    exact ⟨rfl, rfl⟩
  · go_enter Tryd.func16, Tryd.ntmps16
    go_wp2_with fail
    go_ret
    exact ⟨rfl, rfl⟩
end Go.Proofs.YthiipodgfbnpeaaDoor
