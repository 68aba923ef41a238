/- The document's root. -/
import Derived.Test.YthiipodgfbnpeaaDoorR2
namespace Go.Proofs.YthiipodgfbnpeaaDoor
open Go.RowKit

set_option maxHeartbeats 400000 in
theorem plain27 (a : Nat) (w : World) :
    Calls Tryd.prog 39 #[.float .f64 a] w fun e w' => e = .returned (.float .f64 (plainB a)) ∧ w' = w := by
  by_cases h : (FloatKind.f64.format.order a 0 == some .eq) = true
  · have hp : plainB a = 0 := by unfold plainB; rw [if_pos h]
    rw [hp]; clear hp
    go_enter Tryd.func39, Tryd.ntmps39
    go_wp2
    go_ret
    exact ⟨rfl, rfl⟩
  · have hp : plainB a = a := by unfold plainB; rw [if_neg h]
    rw [hp]; clear hp
    rw [Bool.not_eq_true] at h
    go_enter Tryd.func39, Tryd.ntmps39
    go_wp2
    go_ret
    exact ⟨rfl, rfl⟩

set_option maxHeartbeats 400000 in
theorem plain15 (a b : Nat) (w : World) :
    Calls Tryd.prog 27 #[.complex .f64 a b] w fun e w' => e = .returned (.complex .f64 (plainB a) (plainB b)) ∧ w' = w := by
  go_enter Tryd.func27, Tryd.ntmps27
  go_wp2_with (first | (go_at_call 39; refine (plain27 _ _).mono ?_; rintro e w' ⟨rfl, rfl⟩) | go_in)
  go_ret
  exact ⟨rfl, rfl⟩

set_option maxHeartbeats 400000 in
theorem turn17 (a b : Nat) (w : World) :
    Calls Tryd.prog 28 #[.complex .f64 a b, .int .i64 1] w fun e w' => e = .returned (.complex .f64 (negB b) a) ∧ w' = w := by
  have k1 := bits32
  have k2 := from31
  have k3 : bits .and .i64 1 3 = 1 := by decide +kernel
  go_enter Tryd.func28, Tryd.ntmps28
  go_wp2
  clear k3
  refine wp_loop_rounds 2 ?_
  rw [rounds_succ]
  go_wp2
  rw [rounds_succ]
  go_wp2
  go_ret
  exact ⟨rfl, rfl⟩

set_option maxHeartbeats 400000 in
theorem mul19 {a b c d r s : Nat} (h : MulTo a b c d r s) (w : World) :
    Calls Tryd.prog 42 #[.complex .f64 a b, .complex .f64 c d] w fun e w' => e = .returned (.complex .f64 r s) ∧ w' = w := by
  obtain ⟨ac, bd, ad, bc, h1, h2, h3, h4, h5, h6⟩ := h.ex
  have k1 := fun (w : World) t => run_float_arith (P := Tryd.prog) w .mul t .f64 a c ac h1
  have k2 := fun (w : World) t => run_float_arith (P := Tryd.prog) w .mul t .f64 b d bd h2
  have k3 := fun (w : World) t => run_float_arith (P := Tryd.prog) w .mul t .f64 a d ad h3
  have k4 := fun (w : World) t => run_float_arith (P := Tryd.prog) w .mul t .f64 b c bc h4
  have k5 := fun (w : World) t => run_float_arith (P := Tryd.prog) w .sub t .f64 ac bd r h5
  have k6 := fun (w : World) t => run_float_arith (P := Tryd.prog) w .add t .f64 ad bc s h6
  clear h1 h2 h3 h4 h5 h6 h
  go_enter Tryd.func42, Tryd.ntmps42
  go_wp2
  go_ret
  exact ⟨rfl, rfl⟩

set_option maxHeartbeats 1000000 in
theorem step38 (j : Nat) (hj : j ≤ 9) (n : Nat) (hn : n = 8 * 2 ^ j) (w : World) :
    Calls Tryd.prog 41 #[.int .i64 n] w fun e w' => e = .returned (.tuple #[.float .f64 (st j).1, .float .f64 (st j).2]) ∧ w' = w := by
  have hb : n ≤ 4096 := by rw [hn]; exact le_top hj
  have hN := hide hn
  clear hn
  have hq := hide (sqrt_any _ _ sqrt_half)
  go_enter Tryd.func41, Tryd.ntmps41
  go_wp2_with (first | (go_at_call 35; refine (unhide hq _).mono ?_; rintro e w' ⟨rfl, rfl⟩))
  go_loopw [4, 5, 6] (fun c s m wr => ∃ i m' : Nat, i ≤ j ∧ c = .float .f64 (st i).1 ∧ s = .float .f64 (st i).2 ∧ m = .int .i64 m' ∧ Hid (m' = 16 * 2 ^ i) ∧ wr = w') (fun _ _ m _ => 8192 - (intOf m).toNat)
  case atStart => exact ⟨0, 16, Nat.zero_le _, rfl, rfl, rfl, rfl, rfl⟩
  case round =>
    obtain ⟨i, m, hi, rfl, rfl, rfl, hm, rfl⟩ := hrel
    by_cases h : i < j
    · have hle : m ≤ n := by rw [unhide hm, unhide hN]; exact lt_of_dbl h
      have hpos : 0 < m := by rw [unhide hm]; have := Nat.two_pow_pos i; omega
      have hx := half_ok i (by omega)
      have hm1 : Hid (2 * m = 16 * 2 ^ (i + 1)) := by rw [unhide hm]; exact (dbl i).symm
      obtain ⟨t, x, d, h1, h2, h3, h4, h5⟩ := hx.ex
      clear hx
      generalize (st i).1 = c0 at *
      generalize (st i).2 = s0 at *
      obtain ⟨c1, hc1⟩ : ∃ c1, c1 = (st (i + 1)).1 := ⟨_, rfl⟩
      obtain ⟨s1, hs1⟩ : ∃ s1, s1 = (st (i + 1)).2 := ⟨_, rfl⟩
      rw [← hc1] at h3 h4
      rw [← hs1] at h5
      have HC := hide hc1
      have HS := hide hs1
      clear hc1 hs1
      have k1 := fun (w : World) y => run_float_arith (P := Tryd.prog) w .add y .f64 _ c0 t h1
      have k2 := fun (w : World) y => run_float_arith (P := Tryd.prog) w .mul y .f64 _ t x h2
      have k3 := fun (w : World) y => run_float_arith (P := Tryd.prog) w .mul y .f64 _ c1 d h4
      have k4 := fun (w : World) y => run_float_arith (P := Tryd.prog) w .quo y .f64 s0 d s1 h5
      have hs := hide (sqrt_any x c1 h3)
      clear h1 h2 h3 h4 h5
      go_wp2_with (first | (go_at_call 35; refine (unhide hs _).mono ?_; rintro e w' ⟨rfl, rfl⟩))
      go_roundw
      case rel => exact ⟨i + 1, 2 * m, h, by rw [unhide HC], by rw [unhide HS], by go_num, hm1, by trivial⟩
      case measure => simp [intOf]; omega
    · have hij : i = j := by omega
      subst hij
      have hlt : n < m := by rw [unhide hm, unhide hN]; exact ge_of_dbl
      go_wp2_with fail
      go_ret2
      exact ⟨rfl, rfl⟩

set_option maxHeartbeats 4000000 in
theorem at25 (k : Nat) : ∀ (n s : Nat) (nI kI : Int) (w : World), Hid (Ord n s) → nI = n → kI = k → k < n →
    Calls Tryd.prog 29 #[.int .i64 nI, .int .i64 kI] w fun e w' => e = .returned (.complex .f64 (full (k * s)).1 (full (k * s)).2) ∧ w' = w := by
  induction k using Nat.strongRecOn with
  | ind k ih =>
    intro n s nI kI w ho hn hk hkn
    subst hn hk
    have hle := ord_le (unhide ho)
    have IH := hide ih
    clear ih
    by_cases c1 : 4 ≤ n ∧ n / 4 ≤ k
    · obtain ⟨c1, c2⟩ := c1
      have hr := hide (at_turn (unhide ho) c1 c2)
      have hc := hide fun w => unhide IH (k - n / 4) (by omega) n s n (k - n / 4 : Int) w ho rfl (by omega) (by omega)
      clear IH
      go_enter Tryd.func29, Tryd.ntmps29
      go_wp2_with (first | (go_at_call 29; refine (unhide hc _).mono ?_; rintro e w' ⟨rfl, rfl⟩) | (go_at_call 28; refine (turn17 _ _ _).mono ?_; rintro e w' ⟨rfl, rfl⟩) | (go_at_call 27; refine (plain15 _ _ _).mono ?_; rintro e w' ⟨rfl, rfl⟩))
      go_ret
      exact ⟨ret_eq (unhide hr), rfl⟩
    · by_cases c2 : n = 2 ∧ k = 1
      · obtain ⟨c2, c3⟩ := c2
        subst c2 c3
        have hs : s = 2048 := by
          rcases ord_cases (unhide ho) with h | h | h | h | h | h | h | h | h | h | h | h | h <;> omega
        subst hs
        clear IH c1
        go_enter Tryd.func29, Tryd.ntmps29
        go_wp2_with fail
        go_ret
        exact ⟨ret_eq at_two, rfl⟩
      · by_cases c3 : k = 0
        · subst c3
          clear IH
          have hr := hide at_nought
          go_enter Tryd.func29, Tryd.ntmps29
          go_wp2_with fail
          all_goals go_ret
          all_goals first | exact ⟨ret_eq (unhide hr), rfl⟩ | exact ⟨ret_eq (at_zero s), rfl⟩
        · have h4 : 8 ≤ n := by
            rcases ord_cases (unhide ho) with h | h | h | h | h | h | h | h | h | h | h | h | h <;> omega
          have hk4 : k < n / 4 := by omega
          have h88 : n / 4 = 2 * (n / 8) := by
            rcases ord_cases (unhide ho) with h | h | h | h | h | h | h | h | h | h | h | h | h <;> omega
          clear c1 c2
          by_cases c4 : n / 8 < k
          · have hr := hide (at_swap (unhide ho) (by omega) c4 hk4)
            have hc := hide fun w => unhide IH (n / 4 - k) (by omega) n s n (n / 4 - k : Int) w ho rfl (by omega) (by omega)
            clear IH h88
            go_enter Tryd.func29, Tryd.ntmps29
            go_wp2_with (first | (go_at_call 29; refine (unhide hc _).mono ?_; rintro e w' ⟨rfl, rfl⟩))
            go_ret
            exact ⟨ret_eq (unhide hr), rfl⟩
          · by_cases c5 : k % 2 = 0
            · have hr := hide (at_even (s := s) c5)
              have hc := hide fun w => unhide IH (k / 2) (by omega) (n / 2) (2 * s) (n / 2 : Int) (k / 2 : Int) w (ord_half (unhide ho) (by omega)) (by omega) (by omega) (by omega)
              clear IH h88
              go_enter Tryd.func29, Tryd.ntmps29
              go_wp2_with (first | (go_at_call 29; refine (unhide hc _).mono ?_; rintro e w' ⟨rfl, rfl⟩))
              go_ret
              refine ⟨?_, rfl⟩
              show Ending.returned (Value.complex .f64 (full (k / 2 * (2 * s))).1 (full (k / 2 * (2 * s))).2) = _
              rw [unhide hr]
            · obtain ⟨j, hj, hn, hs⟩ := ord_eight (unhide ho) h4
              have hm := at_odd hj (show k % 2 = 1 by omega) (by omega)
              rw [← hs] at hm
              obtain ⟨a, b, hab, hfull⟩ := mulTo_of_mulP hm
              have hr := hide hfull
              have hM := hide hab
              have hc := hide fun w => unhide IH (k - 1) (by omega) n s n (k - 1 : Int) w ho rfl (by omega) (by omega)
              have hst := hide (step38 j hj n hn)
              clear IH hn hs hm hfull hab h88
              go_enter Tryd.func29, Tryd.ntmps29
              go_wp2_with (first | (go_at_call 29; refine (unhide hc _).mono ?_; rintro e w' ⟨rfl, rfl⟩) | (go_at_call 41; refine (unhide hst _).mono ?_; rintro e w' ⟨rfl, rfl⟩) | (go_at_call 42; refine (mul19 (unhide hM) _).mono ?_; rintro e w' ⟨rfl, rfl⟩) | (go_at_call 27; refine (plain15 _ _ _).mono ?_; rintro e w' ⟨rfl, rfl⟩))
              go_ret
              exact ⟨ret_eq (unhide hr), rfl⟩
set_option maxHeartbeats 400000 in
theorem length_yes {n s : Nat} (h : Ord n s) (w : World) :
    Calls Tryd.prog 16 #[.int .i64 n] w fun e w' => e = .returned (.bool true) ∧ w' = w := by
  have h1 := ord_le h
  have h2 := and_self_ord h
  clear h
  go_enter Tryd.func16, Tryd.ntmps16
  go_wp2_with fail
  go_ret
  exact ⟨rfl, rfl⟩

theorem ret_tuple {X Y : Nat × Nat} {e : Int} (h : X = Y) : Ending.returned (Value.tuple #[.complex .f64 X.1 X.2, .int .i64 e]) = .returned (.tuple #[.complex .f64 Y.1 Y.2, .int .i64 e]) := by rw [h]

end Go.Proofs.YthiipodgfbnpeaaDoor
