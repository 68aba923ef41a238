/- The statement's own within. -/
import Derived.Test.YthbghcebcahlnaaBA
namespace Go.Proofs.Ythbghcebcahlnaa
open Go.RowKit

set_option maxHeartbeats 3200000 in
theorem withinYes {A B C D : List Int} {u v x y : Value} (hA : A.length ≤ 9223372036854775807) (e1 : B.length = A.length) (e2 : C.length = A.length) (e3 : D.length = A.length) (hw : ∀ i, i < A.length → C.getD i 0 ≤ A.getD i 0 ∧ B.getD i 0 ≤ D.getD i 0) (w : World) (h1 : Ints w u A) (h2 : Ints w v B) (h3 : Ints w x C) (h4 : Ints w y D) :
    Calls (barP Try.prog) 10 #[u, v, x, y] w fun e w' => e = .returned (.bool true) ∧ Below w.heap.size w w' := by
  obtain ⟨a1, c1, g1, o1, rfl, h1⟩ := h1
  obtain ⟨a2, c2, g2, o2, rfl, h2⟩ := h2
  obtain ⟨a3, c3, g3, o3, rfl, h3⟩ := h3
  obtain ⟨a4, c4, g4, o4, rfl, h4⟩ := h4
  have s1 := hide h1.at_
  have s2 := hide h2.at_
  have s3 := hide h3.at_
  have s4 := hide h4.at_
  have t1 := hide (fun i (hi : i < A.length) => h1.get hi)
  have t2 := hide (fun i (hi : i < B.length) => h2.get hi)
  have t3 := hide (fun i (hi : i < C.length) => h3.get hi)
  have t4 := hide (fun i (hi : i < D.length) => h4.get hi)
  have HW := hide hw
  rw [e1] at s2 t2 ⊢
  rw [e2] at s3 t3 ⊢
  rw [e3] at s4 t4 ⊢
  clear h1 h2 h3 h4 hw e1 e2 e3
  generalize A.length = N at *
  go_enter Bar.func10, Bar.ntmps10
  go_wp2_with fail
  go_loopw [9] (fun iv wr => ∃ i : Nat, i ≤ N ∧ iv = .int .i64 i ∧ Hid (wr.heap = w.heap) ∧ Hid (Below w.heap.size w wr)) (fun iv _ => N - (intOf iv).toNat)
  case atStart => exact ⟨0, Nat.zero_le _, rfl, rfl, Below.refl _ _⟩
  case round =>
    obtain ⟨i, hi, rfl, hh, hB⟩ := hrel
    by_cases c : i < N
    · have q1 : ((i : Int) < (N : Int)) = True := by simp; omega
      have k1 := (heapCell (unhide hh) _).trans (unhide t1 i c)
      have k2 := (heapCell (unhide hh) _).trans (unhide t2 i c)
      have k3 := (heapCell (unhide hh) _).trans (unhide t3 i c)
      have k4 := (heapCell (unhide hh) _).trans (unhide t4 i c)
      obtain ⟨w1, w2⟩ := unhide HW i c
      rw [(unhide s1 (by omega)).1, (unhide s2 (by omega)).1, (unhide s3 (by omega)).1, (unhide s4 (by omega)).1]
      generalize A.getD i 0 = x1 at *
      generalize B.getD i 0 = x2 at *
      generalize C.getD i 0 = x3 at *
      generalize D.getD i 0 = x4 at *
      have q2 : (x1 < x3) = False := by simp; omega
      have q3 : (x4 < x2) = False := by simp; omega
      go_wp2_with fail
      go_quiet (fail)
      go_wp2_with fail
      have hb := unhide hB
      exact ⟨⟨i + 1, c, by go_num, unhide hh, ⟨hb.os, hb.tape, hb.output, hb.size, hb.block⟩⟩, by simp [intOf]; omega⟩
    · have q1 : ((i : Int) < (N : Int)) = False := by simp; omega
      go_wp2_with fail
      go_ret
      exact ⟨rfl, unhide hB⟩
end Go.Proofs.Ythbghcebcahlnaa
