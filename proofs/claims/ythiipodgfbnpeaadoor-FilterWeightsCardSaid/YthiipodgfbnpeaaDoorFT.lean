/- The document's table of roots. -/
import Derived.Test.YthiipodgfbnpeaaDoorFO
import Derived.Test.YthiipodgfbnpeaaDoorM2
import Derived.OwnWalk
namespace Go.Proofs.YthiipodgfbnpeaaDoor
open Go.RowKit
attribute [local go_sem] store_complex

set_option maxHeartbeats 1600000 in
theorem refTable_yes {n s : Nat} (h : Ord n s) (w : World) :
    Calls Tryd.prog 17 #[.int .i64 n] w fun e w' => ∃ g, e = .returned (.tuple #[.slice (some ⟨g, 0, none⟩) n n, .int .i64 0]) ∧ w.heap.size ≤ g ∧ Tab w' g n s n ∧ Below w.heap.size w w' := by
  obtain ⟨i0, hi0, hz0, hz1, hz2⟩ := info_parts infoC
  have hc := hide (length_yes h)
  have hl := ord_le h
  have hO := hide h
  clear h
  go_enter Tryd.func17, Tryd.ntmps17
  go_wp2_with (first
    | (go_at_call 16; refine (unhide hc _).mono ?_; rintro e w' ⟨rfl, rfl⟩)
    | (at_make; refine wpList_make_full _ rfl (.tmp 9) (.tmp 9) 32 rfl w'.heap.size 33 i0 (.complex .f64 0 0) 1 Tryd.underlying32 hi0 hz0 hz1 .i64 .i64 n n n rfl rfl rfl rfl ?c1 ?c2 ?c3 ?_))
  case c1 => rw [hz2]; omega
  case c2 => unfold maxLen; omega
  case c3 => exact Nat.le_refl _
  intro w2 hown2 hg2
  have hT := hide (tab_made (s := s) hown2)
  have hB := hide (grown_below hg2)
  clear hown2 hg2
  go_wp2_with fail
  go_loopw [5] (fun ix wr => ∃ k : Nat, k ≤ n ∧ ix = .int .i64 k ∧ Hid (Tab wr w'.heap.size n s k) ∧ Hid (Below w'.heap.size w' wr)) (fun ix _ => n - (intOf ix).toNat)
  case atStart => exact ⟨0, Nat.zero_le _, rfl, unhide hT, unhide hB⟩
  case round =>
    obtain ⟨k, hk, rfl, hTr, hBr⟩ := hrel
    by_cases hkn : k < n
    · have hI : (k : Int) < (n : Int) := by omega
      obtain ⟨⟨u, hu⟩, hf⟩ := row_cell (unhide hTr) hkn
      have hR := hide (tab_store (unhide hTr) hkn)
      have hBn := hide ((unhide hBr).setCell (p := ⟨w'.heap.size, k, none⟩) (Nat.le_refl _) (val s k))
      by_cases hq : 4 ≤ n ∧ n / 4 ≤ k
      · obtain ⟨h4, hq⟩ := hq
        have hcell : wr.cell? ⟨w'.heap.size, k - n / 4, none⟩ = some (val s (k - n / 4)) := tab_cell (unhide hTr) hk (by omega)
        have hturn := at_turn (unhide hO) h4 hq
        unfold val at hcell
        have hv : Hid (val s k = .complex .f64 (plainB (negB (full ((k - n / 4) * s)).2)) (plainB (full ((k - n / 4) * s)).1)) := by
          show val s k = _
          unfold val; rw [hturn]; rfl
        generalize (full ((k - n / 4) * s)).1 = x at hcell hv
        generalize (full ((k - n / 4) * s)).2 = y at hcell hv
        rw [unhide hv] at hR hBn
        have hqI : (n : Int) / 4 ≤ (k : Int) := by omega
        clear hTr hBr hT hB hturn
        go_wp2_with (first | (go_at_call 28; refine (turn17 _ _ _).mono ?_; rintro e w3 ⟨rfl, rfl⟩) | (go_at_call 27; refine (plain15 _ _ _).mono ?_; rintro e w3 ⟨rfl, rfl⟩))
        go_roundw
        case rel => exact ⟨k + 1, hkn, by go_num, unhide hR, unhide hBn⟩
        case measure => simp [intOf]; omega
      · have hc := hide fun w => at25 k n s n k w hO rfl rfl hkn
        clear hTr hBr hT hB
        go_wp2_with (first | (go_at_call 29; refine (unhide hc _).mono ?_; rintro e w3 ⟨rfl, rfl⟩))
        all_goals go_roundw
        all_goals first
          | exact ⟨k + 1, hkn, by go_num, unhide hR, unhide hBn⟩
          | (simp [intOf]; omega)
    · have hkn' : k = n := by omega
      subst hkn'
      go_wp2_with fail
      go_ret2
      exact ⟨_, rfl, Nat.le_refl _, unhide hTr, unhide hBr⟩


end Go.Proofs.YthiipodgfbnpeaaDoor
