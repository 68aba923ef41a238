/- The code's root of each order at each place, and the first statement's walk. -/
import Derived.Test.YtedpnanjldifkaaW5
namespace Go.Proofs.Ytedpnanjldifkaa
open Go.RowKit

theorem turn_step {n s q r t : Nat} (ho : Ord n s) (h4 : 4 ≤ n) (hq : n / 4 = q) : full ((r + (t + 1) * q) * s) = turnP (full ((r + t * q) * s)) := by
  have h1 : r + (t + 1) * q - n / 4 = r + t * q := by rw [hq, Nat.add_mul, Nat.one_mul]; omega
  rw [← h1]
  exact at_turn ho h4 (by rw [hq, Nat.add_mul, Nat.one_mul]; omega)

set_option maxHeartbeats 1600000 in
theorem rootAt_four {n s L k : Nat} (ho : Ord n s) (hL : Len n L) (h4 : 4 ≤ n) (hk : k < n) {v : Value} {w : World} (hv : Has w v L) :
    Calls Try.prog 22 #[.int .i64 n, .int .i64 k, v] w fun e w' => e = .returned (.complex .f64 (full (k * s)).1 (full (k * s)).2) ∧ w' = w := by
  have hle := ord_le ho
  obtain ⟨q, hq⟩ : ∃ q, n / 4 = q := ⟨_, rfl⟩
  have hqI : (n : Int) / 4 = (q : Int) := by omega
  have hqpos : 0 < q := by omega
  have hrem : ((k : Int) % (q : Int)) = ((k % q : Nat) : Int) := by simp
  have hquo : ((k : Int) / (q : Int)) = ((k / q : Nat) : Int) := by simp
  have hrlt : k % q < q := Nat.mod_lt _ hqpos
  have hdm : Hid (k % q + k / q * q = k) := by show k % q + k / q * q = k; rw [Nat.mul_comm]; exact Nat.mod_add_div k q
  have hcq : k / q ≤ k := Nat.div_le_self _ _
  have hts := hide fun r t => turn_step (r := r) (t := t) ho h4 hq
  have hc := hide (quarter_any ho hL h4 (k := k % q) (by omega) ((k % q : Nat) : Int) rfl hv)
  clear ho hL hv hq
  obtain ⟨r, hr⟩ : ∃ r, r = k % q := ⟨_, rfl⟩
  obtain ⟨c, hcc⟩ : ∃ c, c = k / q := ⟨_, rfl⟩
  rw [← hr] at hrem hrlt hdm hc
  rw [← hcc] at hquo hdm hcq
  clear hr hcc
  go_enter Try.func22, Try.ntmps22
  go_wp2_with (first | (go_at_call 33; refine (unhide hc).mono ?_; rintro e w' ⟨rfl, rfl⟩))
  go_loopw [8, 28] (fun a ix wr => ∃ t : Nat, t ≤ c ∧ a = .complex .f64 (full ((r + t * q) * s)).1 (full ((r + t * q) * s)).2 ∧ ix = .int .i64 t ∧ wr = w') (fun _ ix _ => c - (intOf ix).toNat)
  case atStart => exact ⟨0, Nat.zero_le _, by rw [Nat.zero_mul, Nat.add_zero], rfl, rfl⟩
  case round =>
    obtain ⟨t, ht, rfl, rfl, rfl⟩ := hrel
    by_cases h : t < c
    · have hs := hide (unhide hts r t)
      clear hts
      go_wp2_with (first | (go_at_call 35; refine (turn35 _ _ _).mono ?_; rintro e w2 ⟨rfl, rfl⟩) | (go_at_call 34; refine (plain34 _ _ _).mono ?_; rintro e w2 ⟨rfl, rfl⟩))
      go_roundw
      case rel => exact ⟨t + 1, by omega, by rw [unhide hs]; rfl, by go_num, by trivial⟩
      case measure => simp [intOf]; omega
    · have htc : t = c := by omega
      subst htc
      go_wp2_with fail
      go_ret
      refine ⟨?_, rfl⟩
      show Ending.returned (Value.complex .f64 (full ((r + t * q) * s)).1 (full ((r + t * q) * s)).2) = _
      rw [unhide hdm]

theorem ord4 : Ord 4 1024 := ⟨2, by decide, rfl, rfl⟩

set_option maxHeartbeats 1600000 in
theorem rootAt_any {n s L k : Nat} (ho : Ord n s) (hL : Len n L) (hk : k < n) (kI : Int) (hkI : kI = k) {v : Value} {w : World} (hv : Has w v L) :
    Calls Try.prog 22 #[.int .i64 n, .int .i64 kI, v] w fun e w' => e = .returned (.complex .f64 (full (k * s)).1 (full (k * s)).2) ∧ w' = w := by
  subst hkI
  by_cases h4 : 4 ≤ n
  · exact rootAt_four ho hL h4 hk hv
  · have hc : (n = 1 ∧ s = 4096) ∨ (n = 2 ∧ s = 2048) := by
      rcases ord_cases ho with h | h | h | h | h | h | h | h | h | h | h | h | h <;> omega
    have hL0 : Len 4 L := by
      rcases hL with ⟨_, h⟩ | ⟨j, _, h, _⟩
      · exact .inl ⟨by decide, h⟩
      · have := Nat.two_pow_pos j; omega
    rcases hc with ⟨rfl, rfl⟩ | ⟨rfl, rfl⟩
    · have hk0 : k = 0 := by omega
      subst hk0
      have hr := hide (rootAt_four ord4 hL0 (by decide) (k := 0) (by decide) hv)
      clear ho hL hL0 hv h4 hk
      go_enter Try.func22, Try.ntmps22
      go_wp2_with (first | (go_at_call 22; refine (unhide hr).mono ?_; rintro e w' ⟨rfl, rfl⟩))
      go_ret
      exact ⟨rfl, rfl⟩
    · have hr := hide (rootAt_four ord4 hL0 (by decide) (k := k * 2) (by omega) hv)
      have hcast : ((k * 2 : Nat) : Int) = (k : Int) * 2 := by simp
      rw [hcast] at hr
      have he : k * 2 * 1024 = k * 2048 := by omega
      rw [he] at hr
      clear ho hL hL0 hv h4 hcast he
      go_enter Try.func22, Try.ntmps22
      go_wp2_with (first | (go_at_call 22; refine (unhide hr).mono ?_; rintro e w' ⟨rfl, rfl⟩))
      go_ret
      exact ⟨rfl, rfl⟩

set_option maxHeartbeats 800000 in
theorem root_no {n : Int} (h : Wrong n) (k : Int) (w : World) :
    Calls Try.prog 8 #[.int .i64 n, .int .i64 k] w fun e w' => e = .returned (.tuple #[.complex .f64 0 0, .int .i64 30]) ∧ w' = w := by
  have hc := hide (isOrder_no h)
  clear h
  go_enter Try.func8, Try.ntmps8
  go_wp2_with (first | (go_at_call 21; refine (unhide hc _).mono ?_; rintro e w' ⟨rfl, rfl⟩))
  go_ret2
  exact ⟨rfl, rfl⟩

set_option maxHeartbeats 800000 in
theorem root_yes {n s : Nat} (h : Ord n s) (k : Int) (w : World) :
    Calls Try.prog 8 #[.int .i64 n, .int .i64 k] w fun e w' => e = .returned (.tuple #[.complex .f64 (full ((k % (n : Int)).toNat * s)).1 (full ((k % (n : Int)).toNat * s)).2, .int .i64 0]) ∧ Below w.heap.size w w' := by
  have hc := hide (isOrder_yes h)
  have hl := ord_le h
  have ha := and_ord h k
  obtain ⟨L, hL⟩ := ord_len h
  have hr : 0 ≤ k % (n : Int) ∧ k % (n : Int) < n := ⟨Int.emod_nonneg _ (by omega), Int.emod_lt_of_pos _ (by omega)⟩
  have hst := hide (len_steps hL hl.1)
  have hat := hide fun (v : Value) (w : World) (hv : Has w v L) => rootAt_any h hL (k := (k % (n : Int)).toNat) (by omega) (k % (n : Int)) (by omega) hv
  clear h hr hL
  go_enter Try.func8, Try.ntmps8
  go_wp2_with (first | (go_at_call 21; refine (unhide hc _).mono ?_; rintro e w' ⟨rfl, rfl⟩))
  refine (unhide hst _).mono ?_
  rintro e w1 ⟨v, rfl, hown, hbel⟩
  have hh := hide (unhide hat v w1 (has_of_owns hown))
  clear hown hat
  go_wp2_with (first | (go_at_call 22; refine (unhide hh).mono ?_; rintro e w' ⟨rfl, rfl⟩))
  go_ret2
  exact ⟨rfl, hbel⟩
end Go.Proofs.Ytedpnanjldifkaa
