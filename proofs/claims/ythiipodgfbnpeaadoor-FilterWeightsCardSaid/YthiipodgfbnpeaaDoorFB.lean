/- The weights of a filter are what the document says: the walk at right numbers. -/
import Derived.Test.YthiipodgfbnpeaaDoorFA
import Derived.Deep.QuietTactic
import Derived.BigQuiet
namespace Go.Proofs.YthiipodgfbnpeaaDoor
open Go.RowKit

theorem store_float {P : Program} {w : World} {a : Addr} {m : Mode} (k : FloatKind) (x : Nat) : (store a (.float k x) m).run P w = stored P w a (.float k x) m := run_store P w a _ m rfl
attribute [local go_sem] store_float

set_option maxRecDepth 100000 in
set_option maxHeartbeats 12800000 in
theorem weightsGoodWalk (hWG : WeightsGood 6) (hLB : LengthBad 8) (hLG : LengthGood 8) {n s kind : Nat} (hO : Ord n s) (hk1 : 1 ≤ kind) (hk3 : kind ≤ 3) (w : World)
    (hal : Calls Tryd.prog 5 #[] w fun e w' => e = .returned (.bool true) ∧ Below w.heap.size w w') :
    Calls Tryd.prog 3 #[.int .i64 n, .int .i64 kind] w fun e w' => e = .returned (.bool true) ∧ Below w.heap.size w w' := by
  have k1 := hide (fun W => hWG n s kind W hO hk1 hk3)
  have k2 := hide (fun W => refWeightsGood n s kind W hO hk1 hk3)
  obtain ⟨x, xe, l1, l2⟩ := length_any hLB hLG (n : Int)
  have l2 := hide (fun W => l2 refLengthBad refLengthGood W)
  have l1 := hide l1
  have hal := hide hal
  obtain ⟨hn2, hn1⟩ := ord_le hO
  have hms := ord_mul hO
  have hs0 : 0 < s := by
    rcases Nat.eq_zero_or_pos s with h | h
    · rw [h] at hms; omega
    · exact h
  have hgood : Hid (∀ k, k < n → ∃ X : Nat, wV kind s k = .float .f64 X ∧ (FloatKind.f64.format.order X X == some .eq) = true ∧ (FloatKind.f64.format.order X 0 == some .lt) = false ∧ (FloatKind.f64.format.order X 4607182418800017408 == some .gt) = false ∧ (0 < k → wV kind s (n - k) = .float .f64 X)) := fun k hk => by
    have hK : k * s < 4096 := by rw [← hms]; exact Nat.mul_lt_mul_of_pos_right hk hs0
    obtain ⟨g1, g2, g3⟩ := good_parts (w_good (kind := kind) hK)
    refine ⟨_, rfl, g1, g2, g3, fun h0 => ?_⟩
    unfold wV
    rw [Nat.sub_mul, hms, w_mirror (Nat.mul_pos h0 hs0) hK]
  clear hWG hLB hLG hO hms hs0 hk1 hk3
  go_enter Tryd.func3, Tryd.ntmps3
  go_wp2_with fail
  refine (unhide hal).mono ?_
  rintro e w1 ⟨rfl, hb1⟩
  have B1 := hide hb1
  clear hb1 hal
  go_wp2_with fail
  refine (unhide k1 _).mono ?_
  rintro e w2 ⟨ga, ca, rfl, hga, Ra, hb2⟩
  have B2 := hide ((unhide B1).trans (hb2.mono (unhide B1).size))
  have ha0 : w.heap.size ≤ ga := Nat.le_trans (unhide B1).size hga
  have RA := hide Ra
  clear hb2 B1 Ra hga
  go_wp2_with fail
  refine (unhide k2 _).mono ?_
  rintro e w3 ⟨gb, cb, rfl, hgb, Rb, hb3⟩
  have hne : ga ≠ gb := by have := wrow_lt (unhide RA); omega
  have B3 := hide ((unhide B2).trans (hb3.mono (unhide B2).size))
  have RA := hide (wrow_below (unhide RA) hb3)
  have RB := hide Rb
  clear hb3 B2 Rb hgb k2
  go_wp2_with fail
  refine (unhide l1 _).mono ?_
  rintro e w4 ⟨rfl, hb4⟩
  have B4 := hide ((unhide B3).trans (hb4.mono (unhide B3).size))
  have RA := hide (wrow_below (unhide RA) hb4)
  have RB := hide (wrow_below (unhide RB) hb4)
  clear hb4 B3 l1
  go_wp2_with fail
  refine (unhide l2 _).mono ?_
  rintro e w5 ⟨rfl, hb5⟩
  have B5 := hide ((unhide B4).trans (hb5.mono (unhide B4).size))
  have RA := hide (wrow_below (unhide RA) hb5)
  have RB := hide (wrow_below (unhide RB) hb5)
  clear hb5 B4 l2
  go_wp2_with fail
  go_loopw [13] (fun kv wr => ∃ k : Nat, k ≤ n ∧ kv = .int .i64 k ∧ Hid (wr.heap = w5.heap) ∧ Hid (Below w.heap.size w wr)) (fun kv _ => n - (intOf kv).toNat)
  case atStart => exact ⟨0, Nat.zero_le _, rfl, rfl, B5⟩
  case round =>
    obtain ⟨k, hk, rfl, hh, hB⟩ := hrel
    by_cases hkn : k < n
    · have q1 : ((k : Int) < (n : Int)) = True := by simp; omega
      obtain ⟨X, hX, g1, g2, g3, hm⟩ := unhide hgood k hkn
      have c1 := (cell_heap (unhide hh) _).trans (wrow_at (unhide RA) hkn)
      have c2 := (cell_heap (unhide hh) _).trans (wrow_at (unhide RB) hkn)
      rw [hX] at c1 c2
      have g1' : FloatKind.f64.format.order X X = some .eq := by simpa using g1
      have g4 : (FloatKind.f64.format.order X X != some .eq) = false := by rw [g1']; rfl
      by_cases h0 : 0 < k
      · have q2 : ((0 : Int) < (k : Int)) = True := by simp; omega
        have c3 := (cell_heap (unhide hh) ⟨ga, n - k, none⟩).trans (wrow_at (unhide RA) (i := n - k) (by omega))
        rw [hm h0] at c3
        have n1 : IntKind.i64.wrap ((n : Int) - (k : Int)) = ((n - k : Nat) : Int) := by rw [IntKind.wrap_i64]; omega
        have q3 : (((n - k : Nat) : Int) < (n : Int)) = True := by simp only [eq_iff_iff, iff_true]; omega
        clear hm hX
        go_wp2_with fail
        go_quiet (fail)
        go_wp2_with fail
        have hb := unhide hB
        exact ⟨⟨k + 1, hkn, by go_num, unhide hh, ⟨hb.os, hb.tape, hb.output, hb.size, hb.block⟩⟩, by simp [intOf]; omega⟩
      · obtain rfl : k = 0 := by omega
        clear hm hX
        go_wp2_with fail
        go_quiet (fail)
        go_wp2_with fail
        have hb := unhide hB
        exact ⟨⟨0 + 1, hkn, by go_num, unhide hh, ⟨hb.os, hb.tape, hb.output, hb.size, hb.block⟩⟩, by simp [intOf]; omega⟩
    · have q1 : ((k : Int) < (n : Int)) = False := by simp; omega
      have RA2 : Hid (WRow wr ga n (wV kind s)) := wrow_keep (unhide RA) (by rw [unhide hh])
      have RB2 : Hid (WRow wr gb n (wV kind s)) := wrow_keep (unhide RB) (by rw [unhide hh])
      clear RA RB B5 hh
      go_wp2_with fail
      go_loopw [14] (fun iv wx => ∃ (i : Nat) (f : Nat → Value), i ≤ n ∧ iv = .int .i64 i ∧ Hid (WRow wx ga n f) ∧ Hid (WRow wx gb n (wV kind s)) ∧ Hid (Below w.heap.size w wx)) (fun iv _ => n - (intOf iv).toNat)
      case atStart => exact ⟨0, _, Nat.zero_le _, rfl, RA2, RB2, hB⟩
      case round =>
        clear RA2 RB2 hB
        obtain ⟨i, f, hi, rfl, hA, hBB, hB⟩ := hrel
        by_cases hin : i < n
        · have q2 : ((i : Int) < (n : Int)) = True := by simp; omega
          have c1 := wrow_at (unhide hA) hin
          have f1 := wrow_frozen (unhide hA) i
          have hA2 := hide (wrow_set (unhide hA) i (.float .f64 4621256167635550208))
          have hB2 : Hid (WRow (wr.setCell ⟨ga, i, none⟩ (.float .f64 4621256167635550208)) gb n (wV kind s)) := wrow_keep (unhide hBB) (Below.heap_setCell _ _ _ _ (by show gb ≠ ga; exact hne.symm))
          have hb3 := hide ((unhide hB).setCell (p := ⟨ga, i, none⟩) ha0 (.float .f64 4621256167635550208))
          clear hA hBB hB
          go_wp2_with fail
          exact ⟨⟨i + 1, _, hin, by go_num, hA2, hB2, hb3⟩, by simp [intOf]; omega⟩
        · have q2 : ((i : Int) < (n : Int)) = False := by simp; omega
          obtain ⟨X, hX, g1, _, _, _⟩ := unhide hgood 0 (by omega)
          have g1' : FloatKind.f64.format.order X X = some .eq := by simpa using g1
          go_wp2_with fail
          refine (unhide k1 _).mono ?_
          rintro e w6 ⟨gc, cc, rfl, hgc, Rc, hb6⟩
          have B6 := hide ((unhide hB).trans (hb6.mono (unhide hB).size))
          have c1 := wrow_at (wrow_below (unhide hBB) hb6) (i := 0) (by omega)
          have c2 := wrow_at Rc (i := 0) (by omega)
          rw [hX] at c1 c2
          have z0 : ((n : Int) == 0) = false := by simp; omega
          have z1 : ¬ (n : Int) = 0 := by omega
          have z2 : (n = 0) = False := by simp; omega
          have z3 : ((0 : Int) < (n : Int)) = True := by simp; omega
          clear hb6 hgc Rc hX hA hBB
          go_wp2_with fail
          go_quiet (fail)
          go_wp2_with fail
          go_ret
          have hb := unhide B6
          exact ⟨rfl, ⟨hb.os, hb.tape, hb.output, hb.size, hb.block⟩⟩
end Go.Proofs.YthiipodgfbnpeaaDoor
