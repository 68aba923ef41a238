/- That two tables are the same. -/
import Derived.Test.YtedpnanjldifkaaW9
namespace Go.Proofs.Ytedpnanjldifkaa
open Go.RowKit

set_option maxHeartbeats 1600000 in
theorem sameList_any (n s ga gb : Nat) (hn : n ≤ 4096) (w : World) (ha : Tab w ga n s n) (hb : Tab w gb n s n) :
    Calls Try.prog 13 #[.slice (some ⟨ga, 0, none⟩) n n, .slice (some ⟨gb, 0, none⟩) n n] w fun e w' => e = .returned (.bool true) ∧ w'.heap = w.heap ∧ Below w.heap.size w w' := by
  have cA := hide fun i (h : i < n) => tab_cell ha (Nat.le_refl _) h
  have cB := hide fun i (h : i < n) => tab_cell hb (Nat.le_refl _) h
  clear ha hb
  go_enter Try.func13, Try.ntmps13
  go_wp2_with fail
  go_loopw [5] (fun ix wr => ∃ i : Nat, i ≤ n ∧ ix = .int .i64 i ∧ Hid (wr.heap = w.heap) ∧ Below w.heap.size w wr) (fun ix _ => n - (intOf ix).toNat)
  case atStart => exact ⟨0, Nat.zero_le _, rfl, rfl, Below.refl _ _⟩
  case round =>
    obtain ⟨i, hi, rfl, hh, hbel⟩ := hrel
    by_cases h : i < n
    · have h1 : wr.cell? ⟨ga, i, none⟩ = some (.complex .f64 (full (i * s)).1 (full (i * s)).2) := (cell_heap (unhide hh) _).trans (unhide cA i h)
      have h2 : wr.cell? ⟨gb, i, none⟩ = some (.complex .f64 (full (i * s)).1 (full (i * s)).2) := (cell_heap (unhide hh) _).trans (unhide cB i h)
      have hI : (i : Int) < (n : Int) := by omega
      generalize (full (i * s)).1 = x at h1 h2
      generalize (full (i * s)).2 = y at h1 h2
      go_wp2_with fail
      go_quiet (first | (go_at_call 10; refine Calls.quiet_of_same (same10 _ _ _)))
      go_wp2_with fail
      go_roundw
      case rel => exact ⟨i + 1, h, by go_num, unhide hh, below_drewN hbel _⟩
      case measure => simp [intOf]; omega
    · go_wp2_with fail
      go_ret
      exact ⟨rfl, unhide hh, hbel⟩

end Go.Proofs.Ytedpnanjldifkaa
