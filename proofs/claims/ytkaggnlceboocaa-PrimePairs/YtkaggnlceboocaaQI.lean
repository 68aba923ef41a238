/- Package prime's own Is. -/
import Derived.Test.YtkaggnlceboocaaQB
namespace Go.Proofs.Ytkaggnlceboocaa
open Go.RowKit

/-- No divisor up to the root: none at all. -/
theorem noDiv_root {p d : Nat} (h : noDiv p d = true) (hq : p < d * d) : noDiv p p = true := by
  unfold noDiv at h ⊢
  rw [List.all_eq_true] at h ⊢
  intro e he
  have he := List.mem_range.1 he
  by_cases c1 : e < 2
  · simp [c1]
  · simp only [Bool.or_eq_true, decide_eq_true_eq]
    refine Or.inr fun hr => ?_
    have no : ∀ k, 2 ≤ k → k < d → p % k ≠ 0 := by
      intro k k1 k2
      have := h k (List.mem_range.2 k2)
      simp only [Bool.or_eq_true, decide_eq_true_eq] at this
      rcases this with h1 | h1
      · omega
      · exact h1
    by_cases c2 : e < d
    · exact no e (by omega) c2 hr
    · obtain ⟨q, hq2⟩ := Nat.dvd_of_mod_eq_zero hr
      have q0 : q ≠ 0 := by rintro rfl; omega
      have q1 : q ≠ 1 := by rintro rfl; omega
      by_cases c3 : q < d
      · exact no q (by omega) c3 (by rw [hq2]; exact Nat.mul_mod_left _ _)
      · have : d * d ≤ e * q := Nat.mul_le_mul (by omega) (by omega)
        omega

set_option maxHeartbeats 1600000 in
theorem primeIsAny (p : Int) (w : World) : Calls Try.prog 8 #[.int .i64 p] w fun e w' => e = .returned (.bool (isP p)) ∧ w' = w := by
  by_cases h1 : p < 2
  · have q1 : (p < 2) = True := by simp [h1]
    rw [isP_low h1]
    clear h1
    go_enter Try.func8, Try.ntmps8
    go_wp2
    go_ret
    exact ⟨rfl, rfl⟩
  · have q1 : (p < 2) = False := by simp; omega
    by_cases h2 : 61 < p
    · have q2 : (61 < p) = True := by simp [h2]
      rw [isP_high h2]
      clear h1 h2
      go_enter Try.func8, Try.ntmps8
      go_wp2
      go_ret
      exact ⟨rfl, rfl⟩
    · have q2 : (61 < p) = False := by simp; omega
      obtain ⟨N, rfl⟩ : ∃ N : Nat, p = N := ⟨p.toNat, by omega⟩
      have hN : 2 ≤ N := by omega
      have hN2 : N ≤ 61 := by omega
      rw [isP_mid hN hN2]
      clear h1 h2
      go_enter Try.func8, Try.ntmps8
      go_wp2_with fail
      go_loopw [3] (fun dv wr => ∃ d : Nat, 2 ≤ d ∧ d ≤ N ∧ dv = .int .i64 d ∧ Hid (noDiv N d = true) ∧ w = wr) (fun dv _ => N - (intOf dv).toNat)
      case atStart => exact ⟨2, Nat.le_refl _, hN, rfl, by show _ = _; rfl, rfl⟩
      case round =>
        obtain ⟨d, hd, hdN, rfl, hn, rfl⟩ := hrel
        obtain ⟨D, hD⟩ : ∃ D, d * d = D := ⟨_, rfl⟩
        have hDb : D ≤ 3721 := by rw [← hD]; exact Nat.mul_le_mul (Nat.le_trans hdN hN2) (Nat.le_trans hdN hN2)
        have n1 : IntKind.i64.wrap ((d : Int) * (d : Int)) = ((D : Nat) : Int) := by
          rw [← Int.natCast_mul, hD, IntKind.wrap_i64]; omega
        by_cases c0 : D ≤ N
        · have q3 : ((D : Int) ≤ (N : Int)) = True := by simp; omega
          have c : d < N := by
            have : d * 2 ≤ d * d := Nat.mul_le_mul (Nat.le_refl _) hd
            omega
          have e1 := rem_nat N d
          have z0 : ((d : Int) == 0) = false := by simp; omega
          have z1 : ¬ (d : Int) = 0 := by omega
          have z2 : (d = 0) = False := by simp; omega
          clear hD
          by_cases r : N % d = 0
          · have hr := hide (noDiv_no hd c r)
            rw [r] at e1
            clear r hn
            go_wp2_with fail
            go_ret
            rw [unhide hr]
            exact ⟨rfl, rfl⟩
          · have q4 : (((N % d : Nat) : Int) == 0) = false := by simp; omega
            have hr := hide (noDiv_yes (unhide hn) r)
            generalize N % d = re at *
            clear r hn
            go_wp2_with fail
            exact ⟨⟨d + 1, by omega, by omega, by go_num, hr, trivial⟩, by simp [intOf]; omega⟩
        · have q3 : ((D : Int) ≤ (N : Int)) = False := by simp; omega
          have hr := hide (noDiv_root (unhide hn) (by omega))
          clear hn hD
          go_wp2_with fail
          go_ret
          rw [unhide hr]
          exact ⟨rfl, rfl⟩

theorem primeIs : IsOk 8 := fun p w => (primeIsAny p w).mono fun e w' h => by
  obtain ⟨rfl, rfl⟩ := h
  exact ⟨rfl, Below.refl _ _⟩
end Go.Proofs.Ytkaggnlceboocaa
