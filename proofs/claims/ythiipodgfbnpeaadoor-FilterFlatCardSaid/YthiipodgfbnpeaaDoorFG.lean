/- The statement's own copy of a list. -/
import Derived.Test.YthiipodgfbnpeaaDoorFF
namespace Go.Proofs.YthiipodgfbnpeaaDoor
open Go.RowKit Fl
attribute [local go_sem] store_complex

set_option maxHeartbeats 1600000 in
theorem copiedAny {n g cap : Nat} {f : Nat → Nat × Nat} (hn : 1 ≤ n) (hn4 : n ≤ 4096) (w : World) (hR : Row w g n f) :
    Calls Tryd.prog 11 #[.slice (some ⟨g, 0, none⟩) n cap] w fun e w' =>
      ∃ g' cap', e = .returned (.slice (some ⟨g', 0, none⟩) n cap') ∧ n ≤ cap' ∧ w.heap.size ≤ g' ∧ Row w' g' n f ∧ Below w.heap.size w w' := by
  obtain ⟨i0, hi0, hz0, hz1, hz2⟩ := info_parts infoC
  have hown0 := hide (World.ownsRow_lit (base := w.heap.size) (e := 33) (size := 1) w #[] 0 (Nat.le_refl _) (Nat.zero_le _) rfl)
  have hR := hide hR
  go_enter Tryd.func11, Tryd.ntmps11
  go_wp2_with (first
    | (at_builtin; refine wpList_append_own _ rfl (.tmp 3) (.tmp 4) 32 rfl w.heap.size 33 i0 (.complex .f64 0 0) 1 16 Tryd.underlying32 hi0 hz0 hz1 hz2 rfl (by decide) _ 0 _ rfl (unhide hown0) ⟨g, 0, none⟩ n cap (vals n f) rfl ?c0 ?c1 ?c2 ?c3 ?c4 ?c5 ?_))
  case c0 => exact vals_length n f
  case c1 =>
    intro j u hj
    obtain ⟨hj1, rfl⟩ := vals_lt hj
    exact row_at (row_keep (unhide hR) (Below.heap_alloc _ _ _ (row_lt (unhide hR)))) hj1
  case c2 =>
    intro u hu
    unfold vals at hu
    simp at hu
    obtain ⟨i, _, rfl⟩ := hu
    rfl
  case c3 => unfold maxLen; omega
  case c4 => omega
  intro v' w1 hown' hgrow _
  obtain ⟨g', cap', rfl, h1, h2, h3⟩ := row_owned hown' (by omega) (f := f) (fun i hi => by
    show (vals n f)[i]? = _
    exact vals_get f (by omega))
  have hB : Hid (Below w.heap.size w w1) := ((Below.refl _ _).alloc (Nat.le_refl _) _).grown hgrow (by simp) (fun k hk => by cases hk; exact Nat.le_refl _)
  have h3 := hide h3
  clear hown' hgrow
  go_wp2_with fail
  go_ret
  exact ⟨g', cap', rfl, h1, h2, unhide h3, unhide hB⟩
end Go.Proofs.YthiipodgfbnpeaaDoor
