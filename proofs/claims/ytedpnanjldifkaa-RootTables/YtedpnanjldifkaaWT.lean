/- The document's table, and the statement's own walk. -/
import Derived.Test.YtedpnanjldifkaaWS
namespace Go.Proofs.Ytedpnanjldifkaa
open Go.RowKit
attribute [local go_sem] store_complex

set_option maxHeartbeats 1600000 in
theorem refTable_yes {n s : Nat} (h : Ord n s) (w : World) :
    Calls Try.prog 12 #[.int .i64 n] w fun e w' => ∃ g, e = .returned (.tuple #[.slice (some ⟨g, 0, none⟩) n n, .int .i64 0]) ∧ w.heap.size ≤ g ∧ Tab w' g n s n ∧ Below w.heap.size w w' := by
  obtain ⟨i0, hi0, hz0, hz1, hz2⟩ := info_parts info23
  have hc := hide (length_yes h)
  have hl := ord_le h
  have hO := hide h
  clear h
  go_enter Try.func12, Try.ntmps12
  go_wp2_with (first
    | (go_at_call 24; refine (unhide hc _).mono ?_; rintro e w' ⟨rfl, rfl⟩)
    | (at_make; refine wpList_make_full _ rfl (.tmp 9) (.tmp 9) 29 rfl w'.heap.size 23 i0 (.complex .f64 0 0) 1 Try.underlying29 hi0 hz0 hz1 .i64 .i64 n n n rfl rfl rfl rfl ?c1 ?c2 ?c3 ?_))
  case c1 => rw [hz2]; omega
  case c2 => unfold maxLen; omega
  case c3 => exact Nat.le_refl _
  intro w2 hown2 hg2
  have hT := hide (tab_made (s := s) hown2)
  have hB := hide (grown_below hg2)
  clear hown2 hg2
  go_wp2_with fail
  go_loopw [5] (fun ix wr => ∃ k : Nat, k ≤ n ∧ ix = .int .i64 k ∧ Hid (Tab wr w'.heap.size n s k) ∧ Hid (Below w'.heap.size w' wr)) (fun ix _ => n - (intOf ix).toNat)
  case atStart => exact ⟨0, Nat.zero_le _, rfl, unhide hT, unhide hB⟩
  case round =>
    obtain ⟨k, hk, rfl, hTr, hBr⟩ := hrel
    by_cases hkn : k < n
    · have hI : (k : Int) < (n : Int) := by omega
      obtain ⟨⟨u, hu⟩, hf⟩ := row_cell (unhide hTr) hkn
      have hR := hide (tab_store (unhide hTr) hkn)
      have hBn := hide ((unhide hBr).setCell (p := ⟨w'.heap.size, k, none⟩) (Nat.le_refl _) (val s k))
      by_cases hq : 4 ≤ n ∧ n / 4 ≤ k
      · obtain ⟨h4, hq⟩ := hq
        have hcell : wr.cell? ⟨w'.heap.size, k - n / 4, none⟩ = some (val s (k - n / 4)) := tab_cell (unhide hTr) hk (by omega)
        have hturn := at_turn (unhide hO) h4 hq
        unfold val at hcell
        have hv : Hid (val s k = .complex .f64 (plainB (negB (full ((k - n / 4) * s)).2)) (plainB (full ((k - n / 4) * s)).1)) := by
          show val s k = _
          unfold val; rw [hturn]; rfl
        generalize (full ((k - n / 4) * s)).1 = x at hcell hv
        generalize (full ((k - n / 4) * s)).2 = y at hcell hv
        rw [unhide hv] at hR hBn
        have hqI : (n : Int) / 4 ≤ (k : Int) := by omega
        clear hTr hBr hT hB hturn
        go_wp2_with (first | (go_at_call 17; refine (turn17 _ _ _).mono ?_; rintro e w3 ⟨rfl, rfl⟩) | (go_at_call 15; refine (plain15 _ _ _).mono ?_; rintro e w3 ⟨rfl, rfl⟩))
        go_roundw
        case rel => exact ⟨k + 1, hkn, by go_num, unhide hR, unhide hBn⟩
        case measure => simp [intOf]; omega
      · have hc := hide fun w => at25 k n s n k w hO rfl rfl hkn
        clear hTr hBr hT hB
        go_wp2_with (first | (go_at_call 25; refine (unhide hc _).mono ?_; rintro e w3 ⟨rfl, rfl⟩))
        all_goals go_roundw
        all_goals first
          | exact ⟨k + 1, hkn, by go_num, unhide hR, unhide hBn⟩
          | (simp [intOf]; omega)
    · have hkn' : k = n := by omega
      subst hkn'
      go_wp2_with fail
      go_ret2
      exact ⟨_, rfl, Nat.le_refl _, unhide hTr, unhide hBr⟩

theorem row_store {w : World} {g n s k : Nat} (h : Tab w g n s 0) (u : Value) : Tab (w.setCell ⟨g, k, none⟩ u) g n s 0 := by
  obtain ⟨xs, h1, h2⟩ := h
  exact ⟨xs.set k u, (h1.stored k u).1, fun i hi => absurd hi (by omega)⟩

theorem tab_weak {w : World} {g n s k : Nat} (h : Tab w g n s k) : Tab w g n s 0 := by
  obtain ⟨xs, h1, h2⟩ := h
  exact ⟨xs, h1, fun i hi => absurd hi (by omega)⟩

theorem tab_heap {w w' : World} {g n s k : Nat} (h : Tab w g n s k) (hb : w'.heap = w.heap) : Tab w' g n s k := tab_block h (by rw [hb])

set_option maxHeartbeats 1600000 in
theorem tables_no (n : Int) (h : Wrong n) (w : World) :
    Calls Try.prog 4 #[.int .i64 n] w fun e w' => e = .returned (.bool true) ∧ Below w.heap.size w w' := by
  have h1 := hide (table_no h)
  have h2 := hide (refTable_no h)
  clear h
  go_enter Try.func4, Try.ntmps4
  go_wp2_with fail
  refine (alive_any _).mono ?_
  rintro e w1 ⟨rfl, hb1⟩
  go_wp2_with fail
  refine (unhide h1 _).mono ?_
  rintro e w2 ⟨rfl, rfl⟩
  go_wp2_with fail
  refine (unhide h2 _).mono ?_
  rintro e w3 ⟨rfl, rfl⟩
  go_wp2_with fail
  refine (sameList_nil _).mono ?_
  rintro e w4 ⟨rfl, rfl⟩
  go_wp2_with fail
  refine wp_loop_rounds 1 ?_
  rw [rounds_succ]
  go_wp2_with fail
  refine (unhide h1 _).mono ?_
  rintro e w5 ⟨rfl, rfl⟩
  go_wp2_with fail
  refine (sameList_nil _).mono ?_
  rintro e w6 ⟨rfl, rfl⟩
  go_wp2_with fail
  go_ret
  exact ⟨rfl, hb1⟩

set_option maxHeartbeats 1600000 in
theorem tables_yes (n s : Nat) (h : Ord n s) (w : World) :
    Calls Try.prog 4 #[.int .i64 n] w fun e w' => e = .returned (.bool true) ∧ Below w.heap.size w w' := by
  have h1 := hide (table_yes h)
  have h2 := hide (refTable_yes h)
  have hl := ord_le h
  clear h
  go_enter Try.func4, Try.ntmps4
  go_wp2_with fail
  refine (alive_any _).mono ?_
  rintro e w1 ⟨rfl, hb1⟩
  go_wp2_with fail
  refine (unhide h1 _).mono ?_
  rintro e w2 ⟨ga, rfl, hga, hTa, hb2⟩
  go_wp2_with fail
  refine (unhide h2 _).mono ?_
  rintro e w3 ⟨gb, rfl, hgb, hTb, hb3⟩
  have hTa3 : Tab w3 ga n s n := tab_block hTa (hb3.block ga (tab_lt hTa))
  have hS := hide (sameList_any n s ga gb hl.1 w3 hTa3 hTb)
  have hab : gb ≠ ga := by have := tab_lt hTa; omega
  have hA := hide hTa3
  have hB := hide hTb
  have hbel : Hid (Below w.heap.size w w3) := hb1.trans ((hb2.mono hb1.size).trans (hb3.mono (Nat.le_trans hb1.size hb2.size)))
  have hgaw : Hid (w.heap.size ≤ ga) := Nat.le_trans hb1.size hga
  clear hTa hTb hTa3 hb1 hb2 hb3 hga hgb
  go_wp2_with fail
  refine (unhide hS).mono ?_
  rintro e w4 ⟨rfl, hh, hb4⟩
  have hA4 := hide (tab_weak (tab_heap (unhide hA) hh))
  have hB4 := hide (tab_heap (unhide hB) hh)
  have hbel4 : Hid (Below w.heap.size w w4) := (unhide hbel).trans (hb4.mono (unhide hbel).size)
  clear hA hB hS hbel hh hb4
  go_wp2_with fail
  go_loopw [7] (fun ix wr => ∃ i : Nat, i ≤ n ∧ ix = .int .i64 i ∧ Hid (Tab wr ga n s 0) ∧ Hid (Tab wr gb n s n) ∧ Hid (Below w.heap.size w wr)) (fun ix _ => n - (intOf ix).toNat)
  case atStart => exact ⟨0, Nat.zero_le _, rfl, hA4, hB4, hbel4⟩
  case round =>
    obtain ⟨i, hi, rfl, hAr, hBr, hbr⟩ := hrel
    by_cases hin : i < n
    · have hI : (i : Int) < (n : Int) := by omega
      obtain ⟨⟨u, hu⟩, hf⟩ := row_cell (unhide hAr) hin
      have hA' := hide (row_store (k := i) (unhide hAr) (.complex .f64 4636666922610458624 0))
      have hB' : Hid (Tab (wr.setCell ⟨ga, i, none⟩ (.complex .f64 4636666922610458624 0)) gb n s n) := tab_block (unhide hBr) (Below.heap_setCell wr ⟨ga, i, none⟩ _ gb hab)
      have hb' := hide ((unhide hbr).setCell (p := ⟨ga, i, none⟩) (unhide hgaw) (.complex .f64 4636666922610458624 0))
      clear hAr hBr hbr
      go_wp2_with fail
      go_roundw
      case rel => exact ⟨i + 1, hin, by go_num, hA', hB', hb'⟩
      case measure => simp [intOf]; omega
    · clear hA4 hB4 hbel4 hAr
      go_wp2_with fail
      refine (unhide h1 _).mono ?_
      rintro e w5 ⟨gc, rfl, hgc, hTc, hb5⟩
      have hS := hide (sameList_any n s gc gb hl.1 w5 hTc (tab_block (unhide hBr) (hb5.block gb (tab_lt (unhide hBr)))))
      have hbel : Hid (Below w.heap.size w w5) := (unhide hbr).trans (hb5.mono (unhide hbr).size)
      clear hTc hb5 hgc hBr hbr
      go_wp2_with fail
      refine (unhide hS).mono ?_
      rintro e w6 ⟨rfl, -, hb6⟩
      go_wp2_with fail
      go_ret
      exact ⟨rfl, (unhide hbel).trans (hb6.mono (unhide hbel).size)⟩

theorem tables_walk (n : Int) (w : World) :
    Calls Try.prog 4 #[.int .i64 n] w fun e w' => e = .returned (.bool true) ∧ Below w.heap.size w w' := by
  rcases ord_or n with h | ⟨m, s, rfl, h⟩
  · exact tables_no n h w
  · exact tables_yes m s h w
end Go.Proofs.Ytedpnanjldifkaa
