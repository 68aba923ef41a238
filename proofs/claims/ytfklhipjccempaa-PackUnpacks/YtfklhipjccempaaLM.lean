/- The program's cells, read in whichever way. -/
import Derived.Test.YtfklhipjccempaaLL
namespace Go.Proofs.Ytfklhipjccempaa
open Go.RowKit Fl Ieee

/-- What is read is what everyone reads of right bytes, and right bytes are those that it is packed to. -/
def Rd (L : List Nat) (f : Nat → Nat × Nat) : Prop := (∀ f', Good L f' → ∀ j, j < side L * side L → f j = f' j) ∧ (∀ a, Sh (side L) (side L * side L) f a → byL a (side L) (side L * side L) f = L → Good L f)
theorem rd_cells {L : List Nat} {f : Nat → Nat × Nat} (hH : Head L) (h : ∀ j, j < side L * side L → CellIs L (L.getD 0 0) j (f j)) : Rd L f :=
  ⟨fun _ hg j hj => good_same hg h j hj, fun a hs he => ⟨hH, h, a, hs, he⟩⟩
theorem rd_steps {L : List Nat} {f : Nat → Nat × Nat} (hH : Head L) (hz : L.getD 0 0 = 2) (hb : ∀ j, j < side L * side L → (f j).1 < 18446744073709551616 ∧ (f j).2 < 18446744073709551616) (h : ∀ f', StepsOf (L.drop 2) (side L * side L) f' → ∀ j, j < side L * side L → f j = f' j) : Rd L f :=
  ⟨fun f' hg j hj => h f' (good_steps hg hz) j hj, fun a hs he => by
    have ha := head_byL he
    obtain rfl : a = 2 := by omega
    refine ⟨hH, fun j hj => ?_, 2, hs, he⟩
    rw [hz]
    exact cell_steps (sh_can hs).1 hb he hj⟩
theorem wide_bits {c x : Nat} (h : WideOk c x) : x < 18446744073709551616 := h.1

def RcPost (w : World) (L : List Nat) (r : Ending) (w' : World) : Prop :=
  ((∃ gz f, r = .returned (.tuple #[.slice (some ⟨gz, 0, none⟩) (side L * side L) (side L * side L), .bool true]) ∧ Row w' gz (side L * side L) f ∧ w.heap.size ≤ gz ∧ (∀ j, j < side L * side L → (f j).1 < 18446744073709551616 ∧ (f j).2 < 18446744073709551616) ∧ Rd L f) ∨ ((∀ f, ¬ Good L f) ∧ r = .returned (.tuple #[.slice none 0 0, .bool false]))) ∧ Below w.heap.size w w'

set_option maxRecDepth 100000 in
set_option maxHeartbeats 6400000 in
theorem readCellsOk {a : Option Addr} {g o c l M z : Nat} {L : List Nat} (h2 : 2 ≤ L.length) (hn1 : 1 ≤ side L) (hn2 : side L ≤ 64) (hz : L.getD 0 0 = z) (hMe : side L * side L = M) (hl : l = (L.drop 2).length) (hc : l ≤ c) (hbig : l ≤ 140737488355328) (w : World) (h : BAt w a g o (L.drop 2)) :
    Calls Try.prog 20 #[.int .i64 z, .slice a l c, .int .i64 M] w (RcPost w L) := by
  have hM : M ≤ 4096 := by rw [← hMe]; exact Nat.mul_le_mul hn2 hn2
  by_cases hz3 : z ≤ 2
  · have hH : Head L := ⟨h2, by omega, hn1, hn2⟩
    have hz' : z = 0 ∨ z = 1 ∨ z = 2 := by omega
    rcases hz' with rfl | rfl | rfl
    · have k : Hid (Calls Try.prog 23 #[.slice a l c, .int .i64 M, .func (.func 12) #[] #[]] w fun r w' => ∃ (v : Value) (t : Bool), r = .returned (.tuple #[v, .bool t]) ∧ RcPost w L r w') := by
        refine (readParts64 hM hl hc w h).mono ?_
        rintro r w' ⟨⟨he, gz, f, rfl, hR, hg, hQ⟩ | ⟨he, rfl⟩, hb⟩
        · refine ⟨_, _, rfl, .inl ⟨gz, f, by rw [hMe], by rw [hMe]; exact hR, hg, ?_, rd_cells hH ?_⟩, hb⟩
          · intro j hj
            rw [hQ j (by omega)]
            exact ⟨Nat.lt_of_lt_of_le (numB_lt h.lt _ 8) (by decide), Nat.lt_of_lt_of_le (numB_lt h.lt _ 8) (by decide)⟩
          · intro j hj
            rw [hz]
            refine .inl ⟨rfl, ?_⟩
            rw [hQ j (by omega), numB_drop, numB_drop, stU0, Nat.add_assoc]
        · refine ⟨_, _, rfl, .inr ⟨fun f hf => he ?_, rfl⟩, hb⟩
          rw [hl, good_len0 hf hz, hMe]
      clear h hl hn1 hn2 hH hMe
      go_enter Try.func20, Try.ntmps20
      go_wp2_with fail
      refine (unhide k).mono ?_
      rintro e w1 ⟨v, t, rfl, hP⟩
      have P1 := hide hP
      clear hP k
      go_wp2_with fail
      go_ret2
      exact unhide P1
    · have k : Hid (Calls Try.prog 24 #[.slice a l c, .int .i64 M, .func (.func 25) #[] #[]] w fun r w' => ∃ (v : Value) (t : Bool), r = .returned (.tuple #[v, .bool t]) ∧ RcPost w L r w') := by
        refine (readParts32 hM hl hc w h).mono ?_
        rintro r w' ⟨⟨he, gz, f, rfl, hR, hg, hQ⟩ | ⟨he, rfl⟩, hb⟩
        · refine ⟨_, _, rfl, .inl ⟨gz, f, by rw [hMe], by rw [hMe]; exact hR, hg, ?_, rd_cells hH ?_⟩, hb⟩
          · intro j hj
            have := hQ j (by omega)
            exact ⟨this.1.1, this.2.1⟩
          · intro j hj
            rw [hz]
            refine .inr (.inl ⟨rfl, ?_, ?_⟩)
            · rw [stU1, ← numB_drop]
              exact (hQ j (by omega)).1
            · rw [stU1, Nat.add_assoc, ← numB_drop]
              exact (hQ j (by omega)).2
        · refine ⟨_, _, rfl, .inr ⟨fun f hf => he ?_, rfl⟩, hb⟩
          rw [hl, good_len1 hf hz, hMe]
      clear h hl hn1 hn2 hH hMe
      go_enter Try.func20, Try.ntmps20
      go_wp2_with fail
      refine (unhide k).mono ?_
      rintro e w1 ⟨v, t, rfl, hP⟩
      have P1 := hide hP
      clear hP k
      go_wp2_with fail
      go_ret2
      exact unhide P1
    · have k : Hid (Calls Try.prog 26 #[.slice a l c, .int .i64 M] w fun r w' => ∃ (v : Value) (t : Bool), r = .returned (.tuple #[v, .bool t]) ∧ RcPost w L r w') := by
        refine (progReadSteps hM hl hc hbig w h).mono ?_
        rintro r w' ⟨⟨gz, f, rfl, hR, hg, hb2, hQ⟩ | ⟨he, rfl⟩, hb⟩
        · exact ⟨_, _, rfl, .inl ⟨gz, f, by rw [hMe], by rw [hMe]; exact hR, hg, by rw [hMe]; exact hb2, rd_steps hH hz (by rw [hMe]; exact hb2) (by rw [hMe]; exact hQ)⟩, hb⟩
        · refine ⟨_, _, rfl, .inr ⟨fun f hf => he f ?_, rfl⟩, hb⟩
          rw [← hMe]
          exact good_steps hf hz
      clear h hl hn1 hn2 hH hMe
      go_enter Try.func20, Try.ntmps20
      go_wp2_with fail
      refine (unhide k).mono ?_
      rintro e w1 ⟨v, t, rfl, hP⟩
      have P1 := hide hP
      clear hP k
      go_wp2_with fail
      go_ret2
      exact unhide P1
  · have q0 : ((z : Int) == 0) = false := by rw [beq_eq_false_iff_ne]; omega
    have q1 : ((z : Int) == 1) = false := by rw [beq_eq_false_iff_ne]; omega
    have q2 : ((z : Int) == 2) = false := by rw [beq_eq_false_iff_ne]; omega
    have NO : Hid (∀ f, ¬ Good L f) := fun f hf => by have := hf.1.way; omega
    clear h hl hn1 hn2 hMe hz
    go_enter Try.func20, Try.ntmps20
    go_wp2_with fail
    go_ret2
    exact ⟨.inr ⟨unhide NO, rfl⟩, Below.refl _ _⟩

set_option maxHeartbeats 800000 in
theorem isSideOk (n : Nat) (w : World) : Calls Try.prog 19 #[.int .i64 n] w fun r w' => ∃ t : Bool, r = .returned (.bool t) ∧ (t = true ↔ 1 ≤ n ∧ n ≤ 64) ∧ w' = w := by
  by_cases c1 : 1 ≤ n
  · have q1 : ((1 : Int) ≤ (n : Int)) = True := by simp; omega
    go_enter Try.func19, Try.ntmps19
    go_wp2_with fail
    go_ret
    refine ⟨_, rfl, ?_, rfl⟩
    simp
    omega
  · have q1 : ((1 : Int) ≤ (n : Int)) = False := by simp; omega
    go_enter Try.func19, Try.ntmps19
    go_wp2_with fail
    go_ret
    refine ⟨false, rfl, ?_, rfl⟩
    simp
    omega
end Go.Proofs.Ytfklhipjccempaa
