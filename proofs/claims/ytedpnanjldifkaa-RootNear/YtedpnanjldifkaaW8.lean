/- The second statement's walk. -/
import Derived.Test.YtedpnanjldifkaaS
namespace Go.Proofs.Ytedpnanjldifkaa
open Go.RowKit

theorem and15 (n : Int) : bits .and .i64 n 15 = n % 16 := by
  have h : (BitVec.ofInt 64 15).toNat = 2 ^ 4 - 1 := by decide
  exact and_low n 4 15 (by decide) h

theorem and40 (n : Int) : bits .and .i64 n 1099511627775 = n % 1099511627776 := by
  have h127 : (BitVec.ofInt 64 1099511627775).toNat = 2 ^ 40 - 1 := by decide
  have key : (BitVec.ofInt 64 n &&& BitVec.ofInt 64 1099511627775).toNat = (n % ((2 ^ 64 : Nat) : Int)).toNat % 2 ^ 40 := by
    rw [BitVec.toNat_and, BitVec.toNat_ofInt, h127, Nat.and_two_pow_sub_one_eq_mod]
  show IntKind.i64.wrap ((BitVec.ofInt 64 n &&& BitVec.ofInt 64 1099511627775).toNat : Nat) = n % 1099511627776
  rw [key, IntKind.wrap_i64]
  omega

theorem pow_lt {i : Nat} (h : i < 12) : 2 ^ i < 4096 := by
  have : (2 : Nat) ^ i < 2 ^ 12 := Nat.pow_lt_pow_right (by decide) h
  exact this

set_option maxHeartbeats 1600000 in
set_option maxRecDepth 100000 in
theorem length14 (n : Int) (w : World) :
    Calls Try.prog 14 #[.int .i64 n, .int .i64 4096] w fun e w' => (∃ m s : Nat, e = .returned (.int .i64 m) ∧ Ord m s) ∧ w' = w := by
  have h15 := and15 n
  have hr : 0 ≤ n % 16 ∧ n % 16 < 16 := by omega
  obtain ⟨c, hc⟩ : ∃ c : Nat, n % 16 = (c : Int) := ⟨(n % 16).toNat, by omega⟩
  rw [hc] at h15 hr
  clear hc
  go_enter Try.func14, Try.ntmps14
  go_wp2_with fail
  go_loopw [5, 6] (fun m ix wr => ∃ i m' : Nat, i ≤ 12 ∧ m = .int .i64 m' ∧ Hid (m' = 2 ^ i) ∧ ix = .int .i64 i ∧ wr = w) (fun _ ix _ => 20 - (intOf ix).toNat)
  case atStart => exact ⟨0, 1, by omega, rfl, rfl, rfl, rfl⟩
  case round =>
    obtain ⟨i, m, hi, rfl, hm, rfl, rfl⟩ := hrel
    by_cases h : i < c
    · by_cases h2 : i < 12
      · have hlt : m < 4096 := by rw [unhide hm]; exact pow_lt h2
        have hm1 : Hid (2 * m = 2 ^ (i + 1)) := by rw [unhide hm]; show 2 * 2 ^ i = 2 ^ (i + 1); rw [Nat.pow_succ]; omega
        go_wp2_with fail
        go_roundw
        case rel => exact ⟨i + 1, 2 * m, by omega, by go_num, hm1, by go_num, by trivial⟩
        case measure => simp [intOf]; omega
      · have h12 : i = 12 := by omega
        have hge : m = 4096 := by rw [unhide hm, h12]
        have ho : Hid (Ord m 1) := ⟨12, by decide, hge, rfl⟩
        clear h12
        go_wp2_with fail
        go_ret
        exact ⟨⟨_, _, rfl, unhide ho⟩, rfl⟩
    · have ho : Hid (Ord m (2 ^ (12 - i))) := ⟨i, hi, unhide hm, rfl⟩
      go_wp2_with fail
      go_ret
      exact ⟨⟨_, _, rfl, unhide ho⟩, rfl⟩

/-- What a call of the code's root gives at places of 4096. -/
theorem root_at {n s : Nat} (h : Ord n s) (k : Int) (i : Nat) (hi : (k % (n : Int)).toNat * s = i) (w : World) :
    Calls Try.prog 8 #[.int .i64 n, .int .i64 k] w fun e w' => e = .returned (.tuple #[.complex .f64 (full i).1 (full i).2, .int .i64 0]) ∧ Below w.heap.size w w' := by
  have := root_yes h k w
  rwa [hi] at this

theorem same_pair {X : Nat × Nat} {a b : Nat} (h : X = (a, b)) (w : World) :
    Calls Try.prog 10 #[.complex .f64 X.1 X.2, .complex .f64 a b] w fun e w' => e = .returned (.bool true) ∧ w' = w := by
  subst h
  exact same10 _ _ w

set_option maxHeartbeats 4000000 in
theorem turns_walk (n k : Int) (w : World) :
    Calls Try.prog 5 #[.int .i64 n, .int .i64 k] w fun e w' => e = .returned (.bool true) ∧ Below w.heap.size w w' := by
  have h40 := and40 k
  have hr : 0 ≤ k % 1099511627776 ∧ k % 1099511627776 < 1099511627776 := by omega
  obtain ⟨K, hK⟩ : ∃ c : Nat, k % 1099511627776 = (c : Int) := ⟨(k % 1099511627776).toNat, by omega⟩
  rw [hK] at h40 hr
  clear hK
  have hl := hide (length14 n)
  go_enter Try.func5, Try.ntmps5
  go_wp2_with fail
  refine (alive_any _).mono ?_
  rintro e w1 ⟨rfl, hb1⟩
  go_wp2_with fail
  refine (unhide hl _).mono ?_
  rintro e w2 ⟨⟨m, s, rfl, ho⟩, rfl⟩
  have hle := ord_le ho
  obtain ⟨i, hi⟩ : ∃ i, i = K * s % 4096 := ⟨_, rfl⟩
  have hi4 : i < 4096 := by rw [hi]; exact Nat.mod_lt _ (by decide)
  have c1 := hide (root_at ho (K : Int) i (by rw [place ho, hi]))
  have c2 := hide (root_at ho (-(K : Int)) ((4096 - i) % 4096) (by rw [place_neg ho, hi]))
  have s1 := hide (same_pair (full_conj hi4))
  have s2 := hide (same_pair (full_plain hi4).symm)
  have s3 := hide (same_pair (show full ((i + 1024) % 4096) = (plainB (negB (full i).2), plainB (full i).1) from full_quarter hi4))
  have c3 : Hid (4 ≤ m → ∀ w, Calls Try.prog 8 #[.int .i64 m, .int .i64 ((K : Int) + (m : Int) / 4)] w fun e w' => e = .returned (.tuple #[.complex .f64 (full ((i + 1024) % 4096)).1 (full ((i + 1024) % 4096)).2, .int .i64 0]) ∧ Below w.heap.size w w') := by
    intro h4 w
    have := root_at ho ((K + m / 4 : Nat) : Int) ((i + 1024) % 4096) (by rw [place ho, place_quarter ho h4, hi]) w
    rwa [show ((K + m / 4 : Nat) : Int) = (K : Int) + (m : Int) / 4 by omega] at this
  have c4 : Hid (m ≠ 4096 → ∀ w, Calls Try.prog 8 #[.int .i64 (2 * (m : Int)), .int .i64 (2 * (K : Int))] w fun e w' => e = .returned (.tuple #[.complex .f64 (full i).1 (full i).2, .int .i64 0]) ∧ Below w.heap.size w w') := by
    intro hm w
    obtain ⟨o2, h2⟩ := ord_twice ho hm
    have := root_at o2 ((2 * K : Nat) : Int) i (by rw [place o2, h2, hi]) w
    rwa [show ((2 * K : Nat) : Int) = 2 * (K : Int) by omega, show ((2 * m : Nat) : Int) = 2 * (m : Int) by omega] at this
  clear ho hi
  go_wp2_with fail
  refine (unhide c1 _).mono ?_
  rintro e w3 ⟨rfl, hb3⟩
  go_wp2_with fail
  refine (unhide c2 _).mono ?_
  rintro e w4 ⟨rfl, hb4⟩
  go_wp2_with fail
  refine (conj16 _ _ _).mono ?_
  rintro e w5 ⟨rfl, rfl⟩
  go_wp2_with fail
  refine (plain15 _ _ _).mono ?_
  rintro e w6 ⟨rfl, rfl⟩
  go_wp2_with fail
  refine (unhide s1 _).mono ?_
  rintro e w7 ⟨rfl, rfl⟩
  go_wp2_with fail
  refine (plain15 _ _ _).mono ?_
  rintro e w8 ⟨rfl, rfl⟩
  go_wp2_with fail
  refine (unhide s2 _).mono ?_
  rintro e w9 ⟨rfl, rfl⟩
  have hb : Below w.heap.size w w9 := hb1.trans ((hb3.mono hb1.size).trans (hb4.mono (Nat.le_trans hb1.size hb3.size)))
  clear hb1 hb3 hb4 s1 s2 c1 c2
  by_cases h4 : 4 ≤ m
  · go_wp2_with fail
    refine (unhide c3 h4 _).mono ?_
    rintro e w10 ⟨rfl, hb5⟩
    have hb' : Below w.heap.size w w10 := hb.trans (hb5.mono hb.size)
    clear hb hb5
    go_wp2_with fail
    refine (turn17 _ _ _).mono ?_
    rintro e w11 ⟨rfl, rfl⟩
    go_wp2_with fail
    refine (plain15 _ _ _).mono ?_
    rintro e w12 ⟨rfl, rfl⟩
    go_wp2_with fail
    refine (unhide s3 _).mono ?_
    rintro e w13 ⟨rfl, rfl⟩
    by_cases hm : m = 4096
    · go_wp2_with fail
      go_ret
      exact ⟨rfl, hb'⟩
    · go_wp2_with fail
      refine (unhide c4 hm _).mono ?_
      rintro e w14 ⟨rfl, hb6⟩
      go_wp2_with fail
      refine (same10 _ _ _).mono ?_
      rintro e w15 ⟨rfl, rfl⟩
      go_wp2_with fail
      go_ret
      exact ⟨rfl, hb'.trans (hb6.mono hb'.size)⟩
  · go_wp2_with fail
    refine (unhide c4 (by omega) _).mono ?_
    rintro e w14 ⟨rfl, hb6⟩
    go_wp2_with fail
    refine (same10 _ _ _).mono ?_
    rintro e w15 ⟨rfl, rfl⟩
    go_wp2_with fail
    go_ret
    exact ⟨rfl, hb.trans (hb6.mono hb.size)⟩
end Go.Proofs.Ytedpnanjldifkaa
