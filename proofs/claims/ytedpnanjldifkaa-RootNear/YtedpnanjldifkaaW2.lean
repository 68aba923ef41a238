/- What the document's own reckoning gives: the step, and the root at each place. -/
import Derived.Test.YtedpnanjldifkaaI
namespace Go.Proofs.Ytedpnanjldifkaa
open Go.RowKit

theorem ret_eq {X : Nat × Nat} {p q : Nat} (h : X = (p, q)) : Ending.returned (Value.complex .f64 p q) = .returned (.complex .f64 X.1 X.2) := by rw [h]

theorem at_nought : full 0 = (4607182418800017408, 0) := by decide +kernel

theorem st0 : st 0 = (4604544271217802189, 4604544271217802189) := rfl

theorem dbl (i : Nat) : 16 * 2 ^ (i + 1) = 2 * (16 * 2 ^ i) := by rw [Nat.pow_succ]; omega
theorem lt_of_dbl {i j : Nat} (h : i < j) : 16 * 2 ^ i ≤ 8 * 2 ^ j := by
  have : 2 ^ (i + 1) ≤ 2 ^ j := Nat.pow_le_pow_right (by decide) h
  rw [Nat.pow_succ] at this
  omega
theorem ge_of_dbl {j : Nat} : 8 * 2 ^ j < 16 * 2 ^ j := by
  have : 0 < 2 ^ j := Nat.two_pow_pos j
  omega
theorem le_top {j : Nat} (hj : j ≤ 9) : 8 * 2 ^ j ≤ 4096 := by
  have : 2 ^ j ≤ 2 ^ 9 := Nat.pow_le_pow_right (by decide) hj
  have h9 : (2 : Nat) ^ 9 = 512 := rfl
  omega

set_option maxHeartbeats 1000000 in
theorem step38 (j : Nat) (hj : j ≤ 9) (n : Nat) (hn : n = 8 * 2 ^ j) (w : World) :
    Calls Try.prog 38 #[.int .i64 n] w fun e w' => e = .returned (.tuple #[.float .f64 (st j).1, .float .f64 (st j).2]) ∧ w' = w := by
  have hb : n ≤ 4096 := by rw [hn]; exact le_top hj
  have hN := hide hn
  clear hn
  have hq := hide (sqrt_any _ _ sqrt_half)
  go_enter Try.func38, Try.ntmps38
  go_wp2_with (first | (go_at_call 36; refine (unhide hq _).mono ?_; rintro e w' ⟨rfl, rfl⟩))
  go_loopw [4, 5, 6] (fun c s m wr => ∃ i m' : Nat, i ≤ j ∧ c = .float .f64 (st i).1 ∧ s = .float .f64 (st i).2 ∧ m = .int .i64 m' ∧ Hid (m' = 16 * 2 ^ i) ∧ wr = w') (fun _ _ m _ => 8192 - (intOf m).toNat)
  case atStart => exact ⟨0, 16, Nat.zero_le _, rfl, rfl, rfl, rfl, rfl⟩
  case round =>
    obtain ⟨i, m, hi, rfl, rfl, rfl, hm, rfl⟩ := hrel
    by_cases h : i < j
    · have hle : m ≤ n := by rw [unhide hm, unhide hN]; exact lt_of_dbl h
      have hpos : 0 < m := by rw [unhide hm]; have := Nat.two_pow_pos i; omega
      have hx := half_ok i (by omega)
      have hm1 : Hid (2 * m = 16 * 2 ^ (i + 1)) := by rw [unhide hm]; exact (dbl i).symm
      obtain ⟨t, x, d, h1, h2, h3, h4, h5⟩ := hx.ex
      clear hx
      generalize (st i).1 = c0 at *
      generalize (st i).2 = s0 at *
      obtain ⟨c1, hc1⟩ : ∃ c1, c1 = (st (i + 1)).1 := ⟨_, rfl⟩
      obtain ⟨s1, hs1⟩ : ∃ s1, s1 = (st (i + 1)).2 := ⟨_, rfl⟩
      rw [← hc1] at h3 h4
      rw [← hs1] at h5
      have HC := hide hc1
      have HS := hide hs1
      clear hc1 hs1
      have k1 := fun (w : World) y => run_float_arith (P := Try.prog) w .add y .f64 _ c0 t h1
      have k2 := fun (w : World) y => run_float_arith (P := Try.prog) w .mul y .f64 _ t x h2
      have k3 := fun (w : World) y => run_float_arith (P := Try.prog) w .mul y .f64 _ c1 d h4
      have k4 := fun (w : World) y => run_float_arith (P := Try.prog) w .quo y .f64 s0 d s1 h5
      have hs := hide (sqrt_any x c1 h3)
      clear h1 h2 h3 h4 h5
      go_wp2_with (first | (go_at_call 36; refine (unhide hs _).mono ?_; rintro e w' ⟨rfl, rfl⟩))
      go_roundw
      case rel => exact ⟨i + 1, 2 * m, h, by rw [unhide HC], by rw [unhide HS], by go_num, hm1, by trivial⟩
      case measure => simp [intOf]; omega
    · have hij : i = j := by omega
      subst hij
      have hlt : n < m := by rw [unhide hm, unhide hN]; exact ge_of_dbl
      go_wp2_with fail
      go_ret2
      exact ⟨rfl, rfl⟩

set_option maxHeartbeats 4000000 in
theorem at25 (k : Nat) : ∀ (n s : Nat) (nI kI : Int) (w : World), Hid (Ord n s) → nI = n → kI = k → k < n →
    Calls Try.prog 25 #[.int .i64 nI, .int .i64 kI] w fun e w' => e = .returned (.complex .f64 (full (k * s)).1 (full (k * s)).2) ∧ w' = w := by
  induction k using Nat.strongRecOn with
  | ind k ih =>
    intro n s nI kI w ho hn hk hkn
    subst hn hk
    have hle := ord_le (unhide ho)
    have IH := hide ih
    clear ih
    by_cases c1 : 4 ≤ n ∧ n / 4 ≤ k
    · obtain ⟨c1, c2⟩ := c1
      have hr := hide (at_turn (unhide ho) c1 c2)
      have hc := hide fun w => unhide IH (k - n / 4) (by omega) n s n (k - n / 4 : Int) w ho rfl (by omega) (by omega)
      clear IH
      go_enter Try.func25, Try.ntmps25
      go_wp2_with (first | (go_at_call 25; refine (unhide hc _).mono ?_; rintro e w' ⟨rfl, rfl⟩) | (go_at_call 17; refine (turn17 _ _ _).mono ?_; rintro e w' ⟨rfl, rfl⟩) | (go_at_call 15; refine (plain15 _ _ _).mono ?_; rintro e w' ⟨rfl, rfl⟩))
      go_ret
      exact ⟨ret_eq (unhide hr), rfl⟩
    · by_cases c2 : n = 2 ∧ k = 1
      · obtain ⟨c2, c3⟩ := c2
        subst c2 c3
        have hs : s = 2048 := by
          rcases ord_cases (unhide ho) with h | h | h | h | h | h | h | h | h | h | h | h | h <;> omega
        subst hs
        clear IH c1
        go_enter Try.func25, Try.ntmps25
        go_wp2_with fail
        go_ret
        exact ⟨ret_eq at_two, rfl⟩
      · by_cases c3 : k = 0
        · subst c3
          clear IH
          have hr := hide at_nought
          go_enter Try.func25, Try.ntmps25
          go_wp2_with fail
          all_goals go_ret
          all_goals first | exact ⟨ret_eq (unhide hr), rfl⟩ | exact ⟨ret_eq (at_zero s), rfl⟩
        · have h4 : 8 ≤ n := by
            rcases ord_cases (unhide ho) with h | h | h | h | h | h | h | h | h | h | h | h | h <;> omega
          have hk4 : k < n / 4 := by omega
          have h88 : n / 4 = 2 * (n / 8) := by
            rcases ord_cases (unhide ho) with h | h | h | h | h | h | h | h | h | h | h | h | h <;> omega
          clear c1 c2
          by_cases c4 : n / 8 < k
          · have hr := hide (at_swap (unhide ho) (by omega) c4 hk4)
            have hc := hide fun w => unhide IH (n / 4 - k) (by omega) n s n (n / 4 - k : Int) w ho rfl (by omega) (by omega)
            clear IH h88
            go_enter Try.func25, Try.ntmps25
            go_wp2_with (first | (go_at_call 25; refine (unhide hc _).mono ?_; rintro e w' ⟨rfl, rfl⟩))
            go_ret
            exact ⟨ret_eq (unhide hr), rfl⟩
          · by_cases c5 : k % 2 = 0
            · have hr := hide (at_even (s := s) c5)
              have hc := hide fun w => unhide IH (k / 2) (by omega) (n / 2) (2 * s) (n / 2 : Int) (k / 2 : Int) w (ord_half (unhide ho) (by omega)) (by omega) (by omega) (by omega)
              clear IH h88
              go_enter Try.func25, Try.ntmps25
              go_wp2_with (first | (go_at_call 25; refine (unhide hc _).mono ?_; rintro e w' ⟨rfl, rfl⟩))
              go_ret
              refine ⟨?_, rfl⟩
              show Ending.returned (Value.complex .f64 (full (k / 2 * (2 * s))).1 (full (k / 2 * (2 * s))).2) = _
              rw [unhide hr]
            · obtain ⟨j, hj, hn, hs⟩ := ord_eight (unhide ho) h4
              have hm := at_odd hj (show k % 2 = 1 by omega) (by omega)
              rw [← hs] at hm
              obtain ⟨a, b, hab, hfull⟩ := mulTo_of_mulP hm
              have hr := hide hfull
              have hM := hide hab
              have hc := hide fun w => unhide IH (k - 1) (by omega) n s n (k - 1 : Int) w ho rfl (by omega) (by omega)
              have hst := hide (step38 j hj n hn)
              clear IH hn hs hm hfull hab h88
              go_enter Try.func25, Try.ntmps25
              go_wp2_with (first | (go_at_call 25; refine (unhide hc _).mono ?_; rintro e w' ⟨rfl, rfl⟩) | (go_at_call 38; refine (unhide hst _).mono ?_; rintro e w' ⟨rfl, rfl⟩) | (go_at_call 19; refine (mul19 (unhide hM) _).mono ?_; rintro e w' ⟨rfl, rfl⟩) | (go_at_call 15; refine (plain15 _ _ _).mono ?_; rintro e w' ⟨rfl, rfl⟩))
              go_ret
              exact ⟨ret_eq (unhide hr), rfl⟩
end Go.Proofs.Ytedpnanjldifkaa
