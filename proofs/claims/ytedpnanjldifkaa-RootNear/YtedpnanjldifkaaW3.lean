/- Orders; bits of a place; the code's steps and its roots ahead of a quarter turn. -/
import Derived.Test.YtedpnanjldifkaaW2
import Derived.Laws.BitsLemmas
namespace Go.Proofs.Ytedpnanjldifkaa
open Go.RowKit

theorem and_low (k : Int) (t : Nat) (m : Int) (ht : t ≤ 12) (hm : (BitVec.ofInt 64 m).toNat = 2 ^ t - 1) : bits .and .i64 k m = k % ((2 ^ t : Nat) : Int) := by
  have key : (BitVec.ofInt 64 k &&& BitVec.ofInt 64 m).toNat = (k % ((2 ^ 64 : Nat) : Int)).toNat % 2 ^ t := by
    rw [BitVec.toNat_and, BitVec.toNat_ofInt, hm, Nat.and_two_pow_sub_one_eq_mod]
  show IntKind.i64.wrap ((BitVec.ofInt 64 k &&& BitVec.ofInt 64 m).toNat : Nat) = _
  rw [key, IntKind.wrap_i64]
  have : t = 0 ∨ t = 1 ∨ t = 2 ∨ t = 3 ∨ t = 4 ∨ t = 5 ∨ t = 6 ∨ t = 7 ∨ t = 8 ∨ t = 9 ∨ t = 10 ∨ t = 11 ∨ t = 12 := by omega
  rcases this with rfl | rfl | rfl | rfl | rfl | rfl | rfl | rfl | rfl | rfl | rfl | rfl | rfl <;> omega

theorem and_ord {n s : Nat} (h : Ord n s) (k : Int) : bits .and .i64 k ((n : Int) - 1) = k % (n : Int) := by
  obtain ⟨e, he, rfl, -⟩ := h
  refine and_low k e _ he ?_
  have : e = 0 ∨ e = 1 ∨ e = 2 ∨ e = 3 ∨ e = 4 ∨ e = 5 ∨ e = 6 ∨ e = 7 ∨ e = 8 ∨ e = 9 ∨ e = 10 ∨ e = 11 ∨ e = 12 := by omega
  rcases this with rfl | rfl | rfl | rfl | rfl | rfl | rfl | rfl | rfl | rfl | rfl | rfl | rfl <;> decide

theorem and_self_ord {n s : Nat} (h : Ord n s) : bits .and .i64 (n : Int) ((n : Int) - 1) = 0 := by
  rw [and_ord h]; exact Int.emod_self

def powB (m : Nat) : Bool := m == 1 || m == 2 || m == 4 || m == 8 || m == 16 || m == 32 || m == 64 || m == 128 || m == 256 || m == 512 || m == 1024 || m == 2048 || m == 4096
theorem pow_of_and0 : ∀ a : Nat, a < 64 → ∀ b : Nat, b < 64 → bits .and .i64 (((64 * a + b : Nat) : Int) + 1) ((64 * a + b : Nat) : Int) = 0 → powB (64 * a + b + 1) = true := by decide +kernel
theorem pow_of_and (m : Nat) (h : m < 4096) : bits .and .i64 ((m : Int) + 1) (m : Int) = 0 → powB (m + 1) = true := by
  have := pow_of_and0 (m / 64) (by omega) (m % 64) (by omega)
  rw [show 64 * (m / 64) + m % 64 = m by omega] at this
  exact this

theorem ord_of_powB {m : Nat} (h : powB m = true) : ∃ s, Ord m s := by
  simp only [powB, Bool.or_eq_true, beq_iff_eq] at h
  rcases h with (((((((((((h | h) | h) | h) | h) | h) | h) | h) | h) | h) | h) | h) | h <;> subst h
  · exact ⟨4096, 0, by decide, rfl, rfl⟩
  · exact ⟨2048, 1, by decide, rfl, rfl⟩
  · exact ⟨1024, 2, by decide, rfl, rfl⟩
  · exact ⟨512, 3, by decide, rfl, rfl⟩
  · exact ⟨256, 4, by decide, rfl, rfl⟩
  · exact ⟨128, 5, by decide, rfl, rfl⟩
  · exact ⟨64, 6, by decide, rfl, rfl⟩
  · exact ⟨32, 7, by decide, rfl, rfl⟩
  · exact ⟨16, 8, by decide, rfl, rfl⟩
  · exact ⟨8, 9, by decide, rfl, rfl⟩
  · exact ⟨4, 10, by decide, rfl, rfl⟩
  · exact ⟨2, 11, by decide, rfl, rfl⟩
  · exact ⟨1, 12, by decide, rfl, rfl⟩

theorem ord_of_and {n : Int} (h1 : 1 ≤ n) (h2 : n ≤ 4096) (h3 : bits .and .i64 n (n - 1) = 0) : ∃ m s : Nat, n = (m : Int) ∧ Ord m s := by
  obtain ⟨m, rfl⟩ : ∃ m : Nat, n = (m : Int) + 1 := ⟨(n - 1).toNat, by omega⟩
  rw [show (m : Int) + 1 - 1 = (m : Int) by omega] at h3
  obtain ⟨s, hs⟩ := ord_of_powB (pow_of_and m (by omega) h3)
  exact ⟨m + 1, s, by omega, hs⟩

/-- The three tests fail somewhere. -/
def Wrong (n : Int) : Prop := n < 1 ∨ 4096 < n ∨ ((1 ≤ n ∧ n ≤ 4096) ∧ (bits .and .i64 n (n - 1) == 0) = false)

theorem ord_or (n : Int) : Wrong n ∨ ∃ m s : Nat, n = (m : Int) ∧ Ord m s := by
  by_cases h1 : n < 1
  · exact .inl (.inl h1)
  · by_cases h2 : 4096 < n
    · exact .inl (.inr (.inl h2))
    · by_cases h3 : bits .and .i64 n (n - 1) = 0
      · exact .inr (ord_of_and (by omega) (by omega) h3)
      · exact .inl (.inr (.inr ⟨⟨by omega, by omega⟩, by rw [beq_eq_false_iff_ne]; exact h3⟩))

set_option maxHeartbeats 400000 in
theorem isOrder_yes {n s : Nat} (h : Ord n s) (w : World) :
    Calls Try.prog 21 #[.int .i64 n] w fun e w' => e = .returned (.bool true) ∧ w' = w := by
  have h1 := ord_le h
  have h2 := and_self_ord h
  clear h
  go_enter Try.func21, Try.ntmps21
  go_wp2_with fail
  go_ret
  exact ⟨rfl, rfl⟩

set_option maxHeartbeats 400000 in
theorem length_yes {n s : Nat} (h : Ord n s) (w : World) :
    Calls Try.prog 24 #[.int .i64 n] w fun e w' => e = .returned (.bool true) ∧ w' = w := by
  have h1 := ord_le h
  have h2 := and_self_ord h
  clear h
  go_enter Try.func24, Try.ntmps24
  go_wp2_with fail
  go_ret
  exact ⟨rfl, rfl⟩

set_option maxHeartbeats 800000 in
theorem isOrder_no {n : Int} (h : Wrong n) (w : World) :
    Calls Try.prog 21 #[.int .i64 n] w fun e w' => e = .returned (.bool false) ∧ w' = w := by
  rcases h with h | h | ⟨h, h3⟩
  · go_enter Try.func21, Try.ntmps21
    go_wp2_with fail
    go_ret
    exact ⟨rfl, rfl⟩
  · go_enter Try.func21, Try.ntmps21
    go_wp2_with fail
    go_ret
    exact ⟨rfl, rfl⟩
  · go_enter Try.func21, Try.ntmps21
    go_wp2_with fail
    go_ret
    exact ⟨rfl, rfl⟩

set_option maxHeartbeats 800000 in
theorem length_no {n : Int} (h : Wrong n) (w : World) :
    Calls Try.prog 24 #[.int .i64 n] w fun e w' => e = .returned (.bool false) ∧ w' = w := by
  rcases h with h | h | ⟨h, h3⟩
  · go_enter Try.func24, Try.ntmps24
    go_wp2_with fail
    go_ret
    exact ⟨rfl, rfl⟩
  · go_enter Try.func24, Try.ntmps24
    go_wp2_with fail
    go_ret
    exact ⟨rfl, rfl⟩
  · go_enter Try.func24, Try.ntmps24
    go_wp2_with fail
    go_ret
    exact ⟨rfl, rfl⟩

theorem ret_tuple {X Y : Nat × Nat} {e : Int} (h : X = Y) : Ending.returned (Value.tuple #[.complex .f64 X.1 X.2, .int .i64 e]) = .returned (.tuple #[.complex .f64 Y.1 Y.2, .int .i64 e]) := by rw [h]

set_option maxHeartbeats 800000 in
theorem refRoot_no {n : Int} (h : Wrong n) (k : Int) (w : World) :
    Calls Try.prog 9 #[.int .i64 n, .int .i64 k] w fun e w' => e = .returned (.tuple #[.complex .f64 0 0, .int .i64 30]) ∧ w' = w := by
  have hc := hide (length_no h)
  clear h
  go_enter Try.func9, Try.ntmps9
  go_wp2_with (first | (go_at_call 24; refine (unhide hc _).mono ?_; rintro e w' ⟨rfl, rfl⟩))
  go_ret2
  exact ⟨rfl, rfl⟩

set_option maxHeartbeats 800000 in
theorem refRoot_yes {n s : Nat} (h : Ord n s) (k : Int) (w : World) :
    Calls Try.prog 9 #[.int .i64 n, .int .i64 k] w fun e w' => e = .returned (.tuple #[.complex .f64 (full ((k % (n : Int)).toNat * s)).1 (full ((k % (n : Int)).toNat * s)).2, .int .i64 0]) ∧ w' = w := by
  have hc := hide (length_yes h)
  have hl := ord_le h
  have ha := and_ord h k
  have hr : 0 ≤ k % (n : Int) ∧ k % (n : Int) < n := ⟨Int.emod_nonneg _ (by omega), Int.emod_lt_of_pos _ (by omega)⟩
  have hat := hide fun w => at25 (k % (n : Int)).toNat n s n (k % (n : Int)) w (hide h) rfl (by omega) (by omega)
  clear h hr
  go_enter Try.func9, Try.ntmps9
  go_wp2_with (first | (go_at_call 24; refine (unhide hc _).mono ?_; rintro e w' ⟨rfl, rfl⟩) | (go_at_call 25; refine (unhide hat _).mono ?_; rintro e w' ⟨rfl, rfl⟩))
  go_ret2
  exact ⟨rfl, rfl⟩
end Go.Proofs.Ytedpnanjldifkaa
