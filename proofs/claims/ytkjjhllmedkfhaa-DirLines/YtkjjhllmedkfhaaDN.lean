/- The third statement's walk: bins, a cell's line, a line's cells. -/
import Derived.Test.YtkjjhllmedkfhaaDF
import Derived.Test.YtkjjhllmedkfhaaDM
namespace Go.Proofs.Ytkjjhllmedkfhaa
open Go.RowKit

theorem six_cells (w : World) (a b c d e f : Value) (t : TypeId) {w' : World} (hb : Below (w.heap.size + 1) (w.alloc (.cells #[a, b, c, d, e, f] t)) w') :
    w'.cell? ⟨w.heap.size, 0, none⟩ = some a ∧ w'.cell? ⟨w.heap.size, 1, none⟩ = some b ∧ w'.cell? ⟨w.heap.size, 2, none⟩ = some c ∧ w'.cell? ⟨w.heap.size, 3, none⟩ = some d ∧ w'.cell? ⟨w.heap.size, 4, none⟩ = some e ∧ w'.cell? ⟨w.heap.size, 5, none⟩ = some f := by
  refine ⟨?_, ?_, ?_, ?_, ?_, ?_⟩
  all_goals rw [hb.cell (by simp)]; simp [go_sem]

/-- A list's cell, as the walk reads it. -/
theorem pairs2_at {w : World} {L : List (Int × Int)} {g o i : Nat} (h3 : ∀ i c, L[i]? = some c → w.cell? ⟨g, o + i * 2, none⟩ = some (.int .i64 c.1) ∧ w.cell? ⟨g, o + i * 2 + 1, none⟩ = some (.int .i64 c.2)) (hi : i < L.length) :
    ∃ x y, L[i]? = some (x, y) ∧ w.cell? ⟨g, o + i * 2, none⟩ = some (.int .i64 x) ∧ w.cell? ⟨g, o + i * 2 + 1, none⟩ = some (.int .i64 y) := by
  have e : L[i]? = some (L[i].1, L[i].2) := List.getElem?_eq_getElem hi
  exact ⟨_, _, e, (h3 i _ e).1, (h3 i _ e).2⟩

set_option maxHeartbeats 12800000 in
set_option maxRecDepth 100000 in
theorem linesWalk {n X Y bin : Int} {a : Int × Int} (ha : Dir64 a) (w : World) :
    Calls Try.prog 5 #[.agg #[.int .i64 n, .int .i64 a.1, .int .i64 a.2, .int .i64 X, .int .i64 Y, .int .i64 bin]] w fun e w' => e = .returned (.bool true) ∧ Below w.heap.size w w' := by
  have kB := hide (fun w => dirBins (n := n) ha w)
  have rB := hide (fun w => binsAny (n := n) ha w)
  have kI := hide (fun w => dirIndex (n := n) (x := X) (y := Y) ha w)
  have rI := hide (fun w => indexAny (n := n) (x := X) (y := Y) ha w)
  have kL := hide (fun w => dirLine (n := n) (bin := bin) ha w)
  have rL := hide (fun w => lineAny (n := n) (bin := bin) ha w)
  have hlen : (lineS n a bin).1.length ≤ 4096 := by
    unfold lineS
    split
    · exact Nat.zero_le _
    · rename_i c1
      split
      · exact Nat.zero_le _
      · obtain ⟨r1, r2, _⟩ := binsS_ok (n := n) (a := a) (by omega)
        refine Nat.le_trans (lineL_len _ _ _ _ _ _) ?_
        exact Nat.mul_le_mul (by omega : n.toNat ≤ 64) (by omega : n.toNat ≤ 64)
  generalize binsS n a = bb at kB rB
  generalize indexS n a X Y = ii at kI rI
  generalize lineS n a bin = ll at kL rL hlen
  obtain ⟨P, Q⟩ := a
  obtain ⟨L, le⟩ := ll
  obtain ⟨b1, b2⟩ := bb
  obtain ⟨i1, i2⟩ := ii
  unfold dirV at *
  dsimp only at *
  clear ha
  go_enter Try.func5, Try.ntmps5
  go_wp2_with fail
  refine (aliveAny _).mono ?_
  rintro e w1 ⟨rfl, hb1⟩
  have hB1 : Hid (Below w.heap.size w w1) := below_on (below_alloc w _) hb1
  have hF : Hid (∀ w' : World, Below w1.heap.size w1 w' → w'.cell? ⟨w.heap.size, 0, none⟩ = some (.int .i64 n) ∧ w'.cell? ⟨w.heap.size, 1, none⟩ = some (.int .i64 P) ∧ w'.cell? ⟨w.heap.size, 2, none⟩ = some (.int .i64 Q) ∧ w'.cell? ⟨w.heap.size, 3, none⟩ = some (.int .i64 X) ∧ w'.cell? ⟨w.heap.size, 4, none⟩ = some (.int .i64 Y) ∧ w'.cell? ⟨w.heap.size, 5, none⟩ = some (.int .i64 bin)) := by
    intro w' h
    have h1 : Below (w.heap.size + 1) (w.alloc (.cells #[.int .i64 n, .int .i64 P, .int .i64 Q, .int .i64 X, .int .i64 Y, .int .i64 bin] 38)) w1 := hb1.mono (by simp)
    exact six_cells w _ _ _ _ _ _ _ (h1.trans (h.mono (by have := hb1.size; simpa using this)))
  obtain ⟨q0, q1, q2, q3, q4, q5⟩ := unhide hF w1 (Below.refl _ _)
  clear hb1
  go_wp2_with fail
  refine (unhide kB _).mono ?_
  rintro e w2 ⟨rfl, hb2⟩
  have hC2 := hide hb2
  obtain ⟨q0, q1, q2, q3, q4, q5⟩ := unhide hF w2 hb2
  clear hb2 kB
  go_wp2_with fail
  refine (unhide rB _).mono ?_
  rintro e w3 ⟨rfl, hb3⟩
  have hC3 := hide (below_on (unhide hC2) hb3)
  obtain ⟨q0, q1, q2, q3, q4, q5⟩ := unhide hF w3 (unhide hC3)
  clear hb3 rB hC2
  go_wp2_with fail
  refine (unhide kI _).mono ?_
  rintro e w4 ⟨rfl, hb4⟩
  have hC4 := hide (below_on (unhide hC3) hb4)
  obtain ⟨q0, q1, q2, q3, q4, q5⟩ := unhide hF w4 (unhide hC4)
  clear hb4 kI hC3
  go_wp2_with fail
  refine (unhide rI _).mono ?_
  rintro e w5 ⟨rfl, hb5⟩
  have hC5 := hide (below_on (unhide hC4) hb5)
  obtain ⟨q0, q1, q2, q3, q4, q5⟩ := unhide hF w5 (unhide hC5)
  clear hb5 rI hC4
  go_wp2_with fail
  refine (unhide kL _).mono ?_
  rintro e w6 ⟨v, rfl, hP6, hb6⟩
  have hC6 := hide (below_on (unhide hC5) hb6)
  obtain ⟨q0, q1, q2, q3, q4, q5⟩ := unhide hF w6 (unhide hC6)
  have hP6 := hide hP6
  clear hb6 kL hC5
  go_wp2_with fail
  refine (unhide rL _).mono ?_
  rintro e w7 ⟨v', rfl, hO7, hb7⟩
  obtain ⟨a1, cap1, g1, o1, rfl, s1, t1⟩ := pairs2_below (unhide hP6) hb7
  obtain ⟨a2, cap2, g2, o2, rfl, s2, t2⟩ := pairs2_owns hO7
  have hB7 := hide (below_on (unhide hB1) (below_on (unhide hC6) hb7))
  have t1 := hide t1
  have t2 := hide t2
  have s1 := hide s1
  have s2 := hide s2
  clear hb7 rL hC6 hO7 hF hP6 q0 q1 q2 q3 q4 q5 hB1
  go_wp2_with fail
  go_loopw [15] (fun ix wr => ∃ i : Nat, i ≤ L.length ∧ ix = .int .i64 i ∧ Hid (wr.heap = w7.heap) ∧ Hid (Below w.heap.size w wr)) (fun ix _ => L.length - (intOf ix).toNat)
  case atStart => exact ⟨0, Nat.zero_le _, rfl, rfl, hB7⟩
  case round =>
    obtain ⟨i, hi, rfl, hh, hBr⟩ := hrel
    by_cases hc : i < L.length
    · have qq : ((i : Int) < (L.length : Int)) = True := by simp; omega
      obtain ⟨x, y, e1, c1, c2⟩ := pairs2_at (unhide t1) hc
      obtain ⟨x', y', e2, c3, c4⟩ := pairs2_at (unhide t2) hc
      rw [e1] at e2
      obtain ⟨rfl, rfl⟩ : x = x' ∧ y = y' := by simpa using e2
      have c1 := (cell_heap (unhide hh) _).trans c1
      have c2 := (cell_heap (unhide hh) _).trans c2
      have c3 := (cell_heap (unhide hh) _).trans c3
      have c4 := (cell_heap (unhide hh) _).trans c4
      rw [(unhide s1 (by omega)).1, (unhide s2 (by omega)).1]
      clear e1 e2
      generalize L.length = N at *
      go_wp2_with fail
      go_quiet (fail)
      go_wp2_with fail
      have hb := unhide hBr
      exact ⟨⟨i + 1, hc, by go_num, unhide hh, ⟨hb.os, hb.tape, hb.output, hb.size, hb.block⟩⟩, by simp [intOf]; omega⟩
    · have qq : ((i : Int) < (L.length : Int)) = False := by simp; omega
      generalize L.length = N at *
      go_wp2_with fail
      go_ret
      exact ⟨rfl, unhide hBr⟩
end Go.Proofs.Ytkjjhllmedkfhaa
