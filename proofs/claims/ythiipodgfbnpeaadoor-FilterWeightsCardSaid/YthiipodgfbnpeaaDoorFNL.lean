/- The program's length. -/
import Derived.Test.YthiipodgfbnpeaaDoorFL
namespace Go.Proofs.YthiipodgfbnpeaaDoor
open Go.RowKit

set_option maxHeartbeats 1600000 in
theorem filterLengthBad : LengthBad 8 := by
  intro b w h
  have hd : (b < 1) = True ∨ ((b < 1) = False ∧ (2048 < b) = True) := by
    by_cases d1 : b < 1
    · exact Or.inl (by simp; omega)
    · exact Or.inr ⟨by simp; omega, by simp; omega⟩
  clear h
  rcases hd with d1 | ⟨d1, d2⟩
  all_goals
    go_enter Tryd.func8, Tryd.ntmps8
    go_wp2_with fail
    go_ret2
    exact ⟨rfl, Below.refl _ _⟩

set_option maxHeartbeats 1600000 in
theorem filterLengthGood : LengthGood 8 := by
  intro b w h1 h2
  have d1 : ((b : Int) < 1) = False := by simp; omega
  have d2 : ((2048 : Int) < (b : Int)) = False := by simp; omega
  have hle := hide (fun e he a c => lenE_of (b := b) (e := e) he a c)
  have n1 : IntKind.i64.wrap (2 * (b : Int)) = ((2 * b : Nat) : Int) := by rw [IntKind.wrap_i64]; omega
  go_enter Tryd.func8, Tryd.ntmps8
  go_wp2_with fail
  go_loopw [4] (fun nv wr => ∃ e m : Nat, e ≤ 12 ∧ m ≤ 4096 ∧ 1 ≤ m ∧ nv = .int .i64 m ∧ Hid (m = 2 ^ e) ∧ Hid (e = 0 ∨ 2 ^ (e - 1) < 2 * b) ∧ w = wr) (fun nv _ => 8192 - (intOf nv).toNat)
  case atStart => exact ⟨0, 1, by omega, by omega, by omega, rfl, rfl, Or.inl rfl, rfl⟩
  case round =>
    obtain ⟨e, m, he, hm, hm1, rfl, hme, hl, rfl⟩ := hrel
    by_cases c : m < 2 * b
    · have q1 : ((m : Int) < ((2 * b : Nat) : Int)) = True := by simp only [eq_iff_iff, iff_true]; omega
      have n2 : IntKind.i64.wrap ((m : Int) * 2) = ((m * 2 : Nat) : Int) := by rw [IntKind.wrap_i64]; omega
      have he2 : e ≤ 11 := by
        by_cases c2 : e = 12
        · exfalso
          rw [unhide hme, c2] at c
          have : (2 : Nat) ^ 12 = 4096 := by decide
          omega
        · omega
      have hp : Hid (m * 2 = 2 ^ (e + 1)) := by
        show _ = _
        rw [unhide hme, Nat.pow_succ]
      have hl2 : Hid (e + 1 = 0 ∨ 2 ^ (e + 1 - 1) < 2 * b) := by
        refine Or.inr ?_
        rw [Nat.add_sub_cancel, ← unhide hme]
        exact c
      have hm3 : m * 2 ≤ 4096 := by
        rw [unhide hp]
        have : (2 : Nat) ^ (e + 1) ≤ 2 ^ 12 := Nat.pow_le_pow_right (by omega) (by omega)
        have e3 : (2 : Nat) ^ 12 = 4096 := by decide
        omega
      clear hme hl
      go_wp2_with fail
      exact ⟨⟨e + 1, m * 2, by omega, hm3, by omega, by go_num, hp, hl2, trivial⟩, by simp [intOf]; omega⟩
    · have q1 : ((m : Int) < ((2 * b : Nat) : Int)) = False := by simp only [eq_iff_iff, iff_false]; omega
      have hfin : Hid (m = 2 ^ lenE b) := by
        show _ = _
        rw [unhide hle e he (by rw [← unhide hme]; omega) (unhide hl)]
        exact unhide hme
      clear hme hl hle
      go_wp2_with fail
      go_ret2
      exact ⟨by rw [← unhide hfin]; rfl, Below.refl _ _⟩
end Go.Proofs.YthiipodgfbnpeaaDoor
