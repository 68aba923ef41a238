/- The landed Left, out of its Open. -/
import Derived.Test.YtgbkfmjkemkajabPM8
namespace Go.Proofs.Ytgbkfmjkemkajab
open Go.RowKit

set_option maxHeartbeats 3200000 in
theorem leftBad : LeftBad 6 := by
  intro n L a cap g o w hN hA h hE
  have kO := hide (openBad n L a cap g o w hN hA h hE)
  generalize openErr n L = er at *
  clear hE hA h
  go_enter Try.func6, Try.ntmps6
  go_wp2_with fail
  refine (unhide kO).mono ?_
  rintro e w1 ⟨rfl, hb1⟩
  have B := hide hb1
  clear hb1 kO
  go_wp2_with fail
  go_loopw [8, 19] (fun kv iv wr => kv = .int .i64 0 ∧ iv = .int .i64 0 ∧ w1 = wr) (fun _ _ _ => 0)
  case atStart => exact ⟨rfl, rfl, rfl⟩
  case round =>
    obtain ⟨rfl, rfl, rfl⟩ := hrel
    go_wp2_with fail
    go_ret2
    exact ⟨rfl, unhide B⟩

set_option maxHeartbeats 3200000 in
theorem leftGood : LeftGood 6 := by
  intro m L a cap g o w hA h hE
  have kO := hide (openGood m L a cap g o w hA h hE)
  obtain ⟨m', hm, S⟩ := sound_of hE
  obtain rfl : m = m' := by omega
  have hM : m * m ≤ 4096 := Nat.mul_le_mul S.n64 S.n64
  generalize m * m = M at *
  clear hE hA h S hm
  go_enter Try.func6, Try.ntmps6
  go_wp2_with fail
  refine (unhide kO).mono ?_
  rintro e w1 ⟨gA, cA, b, rfl, hgA, RA, fA, hb1⟩
  have B := hide hb1
  have RA := hide RA
  have fA := hide fA
  clear hb1 kO
  go_wp2_with fail
  go_loopw [8, 19] (fun kv iv wr => ∃ i c : Nat, i ≤ M ∧ kv = .int .i64 c ∧ iv = .int .i64 i ∧ Hid (c = cntB b i) ∧ c ≤ i ∧ w1 = wr) (fun _ iv _ => M - (intOf iv).toNat)
  case atStart => exact ⟨0, 0, Nat.zero_le _, rfl, rfl, rfl, Nat.le_refl _, rfl⟩
  case round =>
    obtain ⟨i, c, hi, rfl, rfl, hk, hci, rfl⟩ := hrel
    by_cases hc : i < M
    · have q1 : ((i : Int) < (M : Int)) = True := by simp; omega
      have c1 := brow_at (unhide RA) hc
      have hs : Hid (cntB b (i + 1) = c + if b i = true then 1 else 0) := by
        rw [unhide hk]
        rfl
      cases hv : b i
      · rw [hv] at c1 hs
        clear hv hk
        go_wp2_with fail
        exact ⟨⟨i + 1, c, by omega, rfl, by go_num, (show _ = _ by rw [unhide hs]; simp), by omega, trivial⟩, by simp [intOf]; omega⟩
      · rw [hv] at c1 hs
        clear hv hk
        go_wp2_with fail
        exact ⟨⟨i + 1, c + 1, by omega, by go_num, by go_num, (show _ = _ by rw [unhide hs]; simp), by omega, trivial⟩, by simp [intOf]; omega⟩
    · have e : i = M := by omega
      subst e
      have q1 : ((i : Int) < (i : Int)) = False := by simp
      go_wp2_with fail
      go_ret2
      exact ⟨b, by rw [← unhide hk]; rfl, unhide fA, unhide B⟩
end Go.Proofs.Ytgbkfmjkemkajab
