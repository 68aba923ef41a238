/- The document's weights refused; its length. -/
import Derived.Test.YthiipodgfbnpeaaDoorFU
namespace Go.Proofs.YthiipodgfbnpeaaDoor
open Go.RowKit

theorem werr_wrong {n : Int} (h : Wrong n) : wErr n = 30 := by
  unfold wErr
  refine if_neg fun c => ?_
  rcases h with h | h | ⟨_, h⟩
  · omega
  · omega
  · rw [beq_eq_false_iff_ne] at h
    exact h c.1
theorem werr_kind {n s : Nat} (h : Ord n s) : wErr (n : Int) = 160 := by
  obtain ⟨h1, h2⟩ := ord_le h
  unfold wErr
  rw [if_pos ⟨and_self_ord h, by omega, by omega⟩]

set_option maxHeartbeats 3200000 in
theorem refWeightsBad : WeightsBad 7 := by
  intro n kind w hb
  rcases ord_or n with hW | ⟨m, s, rfl, hO⟩
  · have hc := hide (length_no hW)
    rw [werr_wrong hW]
    clear hb hW
    go_enter Tryd.func7, Tryd.ntmps7
    go_wp2_with fail
    refine (unhide hc _).mono ?_
    rintro e w0 ⟨rfl, hw⟩
    obtain rfl := hw.symm
    go_wp2_with fail
    go_ret2
    exact ⟨rfl, Below.refl _ _⟩
  · have hc := hide (length_yes hO)
    have hnw : ¬ Wrong (m : Int) := fun h => by
      obtain ⟨h1, h2⟩ := ord_le hO
      rcases h with h | h | ⟨_, h⟩
      · omega
      · omega
      · rw [and_self_ord hO] at h
        simp at h
    have hk : (kind < 1) = True ∨ ((kind < 1) = False ∧ (3 < kind) = True) := by
      rcases hb with h | h | h
      · exact absurd h hnw
      · exact Or.inl (by simp; omega)
      · exact Or.inr ⟨by simp; omega, by simp; omega⟩
    rw [werr_kind hO]
    clear hb hO hnw
    rcases hk with d1 | ⟨d1, d2⟩
    all_goals
      go_enter Tryd.func7, Tryd.ntmps7
      go_wp2_with fail
      refine (unhide hc _).mono ?_
      rintro e w0 ⟨rfl, hw⟩
      obtain rfl := hw.symm
      go_wp2_with fail
      go_ret2
      exact ⟨rfl, Below.refl _ _⟩

/-- The least power of two that is twice as much. -/
def lenE (b : Nat) : Nat := if 2 * b ≤ 1 then 0 else if 2 * b ≤ 2 then 1 else if 2 * b ≤ 4 then 2 else if 2 * b ≤ 8 then 3 else if 2 * b ≤ 16 then 4 else if 2 * b ≤ 32 then 5 else if 2 * b ≤ 64 then 6 else if 2 * b ≤ 128 then 7 else if 2 * b ≤ 256 then 8 else if 2 * b ≤ 512 then 9 else if 2 * b ≤ 1024 then 10 else if 2 * b ≤ 2048 then 11 else 12
theorem lenE_of {b e : Nat} (he : e ≤ 12) (h1 : 2 * b ≤ 2 ^ e) (h2 : e = 0 ∨ 2 ^ (e - 1) < 2 * b) : lenE b = e := by
  unfold lenE
  have : e = 0 ∨ e = 1 ∨ e = 2 ∨ e = 3 ∨ e = 4 ∨ e = 5 ∨ e = 6 ∨ e = 7 ∨ e = 8 ∨ e = 9 ∨ e = 10 ∨ e = 11 ∨ e = 12 := by omega
  rcases this with rfl | rfl | rfl | rfl | rfl | rfl | rfl | rfl | rfl | rfl | rfl | rfl | rfl
  all_goals
    simp at h1 h2
    repeat (first | rw [if_pos (by omega)] | rw [if_neg (by omega)])

def LengthBad (f : Nat) : Prop := ∀ (b : Int) (w : World), (b < 1 ∨ 2048 < b) → Calls Tryd.prog f #[.int .i64 b] w fun r w' => r = .returned (.tuple #[.int .i64 0, .int .i64 30]) ∧ Below w.heap.size w w'
def LengthGood (f : Nat) : Prop := ∀ (b : Nat) (w : World), 1 ≤ b → b ≤ 2048 → Calls Tryd.prog f #[.int .i64 b] w fun r w' => r = .returned (.tuple #[.int .i64 (2 ^ lenE b : Nat), .int .i64 0]) ∧ Below w.heap.size w w'

set_option maxHeartbeats 1600000 in
theorem refLengthBad : LengthBad 9 := by
  intro b w h
  have hd : (b < 1) = True ∨ ((b < 1) = False ∧ (2048 < b) = True) := by
    by_cases d1 : b < 1
    · exact Or.inl (by simp; omega)
    · exact Or.inr ⟨by simp; omega, by simp; omega⟩
  clear h
  rcases hd with d1 | ⟨d1, d2⟩
  all_goals
    go_enter Tryd.func9, Tryd.ntmps9
    go_wp2_with fail
    go_ret2
    exact ⟨rfl, Below.refl _ _⟩

set_option maxHeartbeats 1600000 in
theorem refLengthGood : LengthGood 9 := by
  intro b w h1 h2
  have d1 : ((b : Int) < 1) = False := by simp; omega
  have d2 : ((2048 : Int) < (b : Int)) = False := by simp; omega
  have hle := hide (fun e he a c => lenE_of (b := b) (e := e) he a c)
  have n1 : IntKind.i64.wrap (2 * (b : Int)) = ((2 * b : Nat) : Int) := by rw [IntKind.wrap_i64]; omega
  go_enter Tryd.func9, Tryd.ntmps9
  go_wp2_with fail
  go_loopw [4] (fun nv wr => ∃ e m : Nat, e ≤ 12 ∧ m ≤ 4096 ∧ 1 ≤ m ∧ nv = .int .i64 m ∧ Hid (m = 2 ^ e) ∧ Hid (e = 0 ∨ 2 ^ (e - 1) < 2 * b) ∧ w = wr) (fun nv _ => 8192 - (intOf nv).toNat)
  case atStart => exact ⟨0, 1, by omega, by omega, by omega, rfl, rfl, Or.inl rfl, rfl⟩
  case round =>
    obtain ⟨e, m, he, hm, hm1, rfl, hme, hl, rfl⟩ := hrel
    by_cases c : m < 2 * b
    · have q1 : ((m : Int) < ((2 * b : Nat) : Int)) = True := by simp only [eq_iff_iff, iff_true]; omega
      have n2 : IntKind.i64.wrap ((m : Int) * 2) = ((m * 2 : Nat) : Int) := by rw [IntKind.wrap_i64]; omega
      have he2 : e ≤ 11 := by
        by_cases c2 : e = 12
        · exfalso
          rw [unhide hme, c2] at c
          have : (2 : Nat) ^ 12 = 4096 := by decide
          omega
        · omega
      have hp : Hid (m * 2 = 2 ^ (e + 1)) := by
        show _ = _
        rw [unhide hme, Nat.pow_succ]
      have hl2 : Hid (e + 1 = 0 ∨ 2 ^ (e + 1 - 1) < 2 * b) := by
        refine Or.inr ?_
        rw [Nat.add_sub_cancel, ← unhide hme]
        exact c
      have hm3 : m * 2 ≤ 4096 := by
        rw [unhide hp]
        have : (2 : Nat) ^ (e + 1) ≤ 2 ^ 12 := Nat.pow_le_pow_right (by omega) (by omega)
        have e3 : (2 : Nat) ^ 12 = 4096 := by decide
        omega
      clear hme hl
      go_wp2_with fail
      exact ⟨⟨e + 1, m * 2, by omega, hm3, by omega, by go_num, hp, hl2, trivial⟩, by simp [intOf]; omega⟩
    · have q1 : ((m : Int) < ((2 * b : Nat) : Int)) = False := by simp only [eq_iff_iff, iff_false]; omega
      have hfin : Hid (m = 2 ^ lenE b) := by
        show _ = _
        rw [unhide hle e he (by rw [← unhide hme]; omega) (unhide hl)]
        exact unhide hme
      clear hme hl hle
      go_wp2_with fail
      go_ret2
      exact ⟨by rw [← unhide hfin]; rfl, Below.refl _ _⟩
end Go.Proofs.YthiipodgfbnpeaaDoor
