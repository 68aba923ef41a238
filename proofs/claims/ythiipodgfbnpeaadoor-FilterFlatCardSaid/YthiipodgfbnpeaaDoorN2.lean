/- Lists compared and rounded. -/
import Derived.Test.YthiipodgfbnpeaaDoorN1
import Derived.Test.YthiipodgfbnpeaaDoorSA
namespace Go.Proofs.YthiipodgfbnpeaaDoor
open Go.RowKit Fl
attribute [local go_sem] store_complex

set_option maxHeartbeats 1600000 in
theorem alikeAny {n ga gb ca cb : Nat} {f h : Nat → Nat × Nat} (hf : ∀ i, i < n → FloatKind.f64.format.order (f i).1 (h i).1 = some .eq ∧ FloatKind.f64.format.order (f i).2 (h i).2 = some .eq) (w : World) (hA : Row w ga n f) (hB : Row w gb n h) (hn : n ≤ 4096) :
    Calls Tryd.prog 12 #[.slice (some ⟨ga, 0, none⟩) n ca, .slice (some ⟨gb, 0, none⟩) n cb] w fun e w' => e = .returned (.bool true) ∧ w'.heap = w.heap ∧ Below w.heap.size w w' := by
  have cA := hide fun i (hi : i < n) => row_at hA hi
  have cB := hide fun i (hi : i < n) => row_at hB hi
  have hf := hide hf
  clear hA hB
  go_enter Tryd.func12, Tryd.ntmps12
  go_wp2_with fail
  go_loopw [5] (fun ix wr => ∃ i : Nat, i ≤ n ∧ ix = .int .i64 i ∧ Hid (wr.heap = w.heap) ∧ Below w.heap.size w wr) (fun ix _ => n - (intOf ix).toNat)
  case atStart => exact ⟨0, Nat.zero_le _, rfl, rfl, Below.refl _ _⟩
  case round =>
    obtain ⟨i, hi, rfl, hh, hbel⟩ := hrel
    by_cases hc : i < n
    · have h1 : wr.cell? ⟨ga, i, none⟩ = some (.complex .f64 (f i).1 (f i).2) := (cell_heap (unhide hh) _).trans (unhide cA i hc)
      have h2 : wr.cell? ⟨gb, i, none⟩ = some (.complex .f64 (h i).1 (h i).2) := (cell_heap (unhide hh) _).trans (unhide cB i hc)
      have hI : ((i : Int) < (n : Int)) = True := by simp; omega
      obtain ⟨k1, k2⟩ := unhide hf i hc
      generalize (f i).1 = x at h1 k1
      generalize (f i).2 = y at h1 k2
      generalize (h i).1 = x' at h2 k1
      generalize (h i).2 = y' at h2 k2
      go_wp2_with fail
      go_quiet (fail)
      go_wp2_with fail
      go_roundw
      case rel => exact ⟨i + 1, hc, by go_num, unhide hh, below_drewN hbel _⟩
      case measure => simp [intOf]; omega
    · have hI : ((i : Int) < (n : Int)) = False := by simp; omega
      go_wp2_with fail
      go_ret
      exact ⟨rfl, unhide hh, hbel⟩

/-- The row's first k numbers rounded. -/
def rounding (f : Nat → Nat × Nat) (k : Nat) : Nat → Nat × Nat := fun i => if i < k then (plainB (roundB (f i).1), plainB (roundB (f i).2)) else (0, 0)

set_option maxHeartbeats 1600000 in
theorem wholeAny {n g cap : Nat} {f : Nat → Nat × Nat} (hf : ∀ i, i < n → ∃ Z, CV (f i) Z) (hn : n ≤ 4096) (w : World) (hR : Row w g n f) :
    Calls Tryd.prog 13 #[.slice (some ⟨g, 0, none⟩) n cap] w fun e w' =>
      ∃ g', e = .returned (.slice (some ⟨g', 0, none⟩) n n) ∧ w.heap.size ≤ g' ∧ Row w' g' n (fun i => (plainB (roundB (f i).1), plainB (roundB (f i).2))) ∧ Below w.heap.size w w' := by
  obtain ⟨i0, hi0, hz0, hz1, hz2⟩ := info_parts infoC
  have hf := hide hf
  have hR := hide hR
  go_enter Tryd.func13, Tryd.ntmps13
  go_wp2_with (first
    | (at_make; refine wpList_make_full _ rfl (.tmp 7) (.tmp 7) 32 rfl w.heap.size 33 i0 (.complex .f64 0 0) 1 Tryd.underlying32 hi0 hz0 hz1 .i64 .i64 n n n rfl rfl rfl rfl ?c1 ?c2 ?c3 ?_))
  case c1 => rw [hz2]; omega
  case c2 => unfold maxLen; omega
  case c3 => exact Nat.le_refl _
  intro w2 hown2 hg2
  have hT : Hid (Row w2 w.heap.size n (rounding f 0)) := row_ext (row_made hown2 (fun _ => (0, 0)) (fun i hi => zeros_get n i hi) (fun _ _ => rfl)) fun i _ => by unfold rounding; rw [if_neg (by omega)]
  have hB := hide (grown_below hg2)
  clear hown2 hg2
  go_wp2_with fail
  go_loopw [11] (fun ix wr => ∃ k : Nat, k ≤ n ∧ ix = .int .i64 k ∧ Hid (Row wr w.heap.size n (rounding f k)) ∧ Hid (Below w.heap.size w wr)) (fun ix _ => n - (intOf ix).toNat)
  case atStart => exact ⟨0, Nat.zero_le _, rfl, hT, hB⟩
  case round =>
    obtain ⟨k, hk, rfl, hRr, hBr⟩ := hrel
    by_cases hkn : k < n
    · have hI : (k : Int) < (n : Int) := by omega
      obtain ⟨Z, hZ⟩ := unhide hf k hkn
      have k1 := fun w => roundAny hZ.one w
      have k2 := fun w => roundAny hZ.two w
      have r1 : wr.cell? ⟨g, k, none⟩ = some (.complex .f64 (f k).1 (f k).2) := ((unhide hBr).cell (p := ⟨g, k, none⟩) (row_lt (unhide hR))).trans (row_at (unhide hR) hkn)
      have c1 := row_at (unhide hRr) hkn
      have f1 := row_frozen (unhide hRr) k
      unfold cv at c1
      have hRn : Hid (Row (wr.setCell ⟨w.heap.size, k, none⟩ (.complex .f64 (plainB (roundB (f k).1)) (plainB (roundB (f k).2)))) w.heap.size n (rounding f (k + 1))) := by
        refine row_ext (row_set (unhide hRr) k (plainB (roundB (f k).1), plainB (roundB (f k).2))) fun i _ => ?_
        unfold upd rounding
        by_cases e : i = k
        · subst e
          rw [if_pos rfl, if_pos (by omega)]
        · rw [if_neg e]
          by_cases e2 : i < k
          · rw [if_pos e2, if_pos (by omega)]
          · rw [if_neg e2, if_neg (by omega)]
      have hBn := hide ((unhide hBr).setCell (p := ⟨w.heap.size, k, none⟩) (Nat.le_refl _) (.complex .f64 (plainB (roundB (f k).1)) (plainB (roundB (f k).2))))
      generalize roundB (f k).1 = p1 at k1 hRn hBn
      generalize roundB (f k).2 = p2 at k2 hRn hBn
      generalize (f k).1 = x at r1 k1
      generalize (f k).2 = y at r1 k2
      clear hRr hBr hZ
      go_wp2_with (first | (go_at_call 19; refine (plain34 _ _ _).mono ?_; rintro e w3 ⟨rfl, rfl⟩))
      go_roundw
      case rel => exact ⟨k + 1, hkn, by go_num, hRn, hBn⟩
      case measure => simp [intOf]; omega
    · have hkn' : k = n := by omega
      subst hkn'
      go_wp2_with fail
      go_ret
      exact ⟨_, rfl, Nat.le_refl _, row_ext (unhide hRr) fun i hi => by unfold rounding; rw [if_pos hi], unhide hBr⟩

theorem plain_iv {r : Nat} {v : Int} (h : IV r v) : IV (plainB r) v := by
  unfold plainB
  split
  · rename_i h1
    have h2 : FloatKind.f64.format.order r 0 = some (compare v 0) := iv_order h iv_zero
    rw [h2] at h1
    have : v = 0 := Int.compare_eq_eq.1 (by
      generalize compare v 0 = o at h1
      cases o <;> first | rfl | exact absurd h1 (by decide))
    rw [this]
    exact iv_zero
  · exact h

end Go.Proofs.YthiipodgfbnpeaaDoor
