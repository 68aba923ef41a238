/- The table of roots. -/
import Derived.Test.YtgbffbikieikdaaR3
import Derived.Deep.QuietTactic
import Derived.BigQuiet
namespace Go.Proofs.Ytgbffbikieikdaa
open Go.RowKit

theorem store_complex {P : Program} {w : World} {a : Addr} {m : Mode} (k : FloatKind) (x y : Nat) : (store a (.complex k x y) m).run P w = stored P w a (.complex k x y) m := run_store P w a _ m rfl
attribute [local go_sem] store_complex

def val (s i : Nat) : Value := .complex .f64 (full (i * s)).1 (full (i * s)).2

/-- Block g is a row of n cells, the first k of which are roots. -/
def Tab (w : World) (g n s k : Nat) : Prop := ∃ xs, w.ownsRow g 28 1 (.slice (some ⟨g, 0, none⟩) n n) n xs ∧ ∀ i, i < k → xs[i]? = some (val s i)

theorem tab_cell {w : World} {g n s k i : Nat} (h : Tab w g n s k) (hk : k ≤ n) (hi : i < k) : w.cell? ⟨g, i, none⟩ = some (val s i) := by
  obtain ⟨xs, h1, h2⟩ := h
  rw [h1.cellAt i (by omega)]
  exact h2 i hi

theorem row_cell {w : World} {g n s k i : Nat} (h : Tab w g n s k) (hi : i < n) : (∃ u, w.cell? ⟨g, i, none⟩ = some u) ∧ w.frozen? ⟨g, i, none⟩ = false := by
  obtain ⟨xs, h1, h2⟩ := h
  refine ⟨?_, h1.frozenAt i⟩
  rw [h1.cellAt i (by omega)]
  have hl : xs.length = n * 1 := h1.1
  exact ⟨xs[i]'(by omega), List.getElem?_eq_getElem (by omega)⟩

theorem tab_store {w : World} {g n s k : Nat} (h : Tab w g n s k) (hk : k < n) : Tab (w.setCell ⟨g, k, none⟩ (val s k)) g n s (k + 1) := by
  obtain ⟨xs, h1, h2⟩ := h
  have hl : xs.length = n * 1 := h1.1
  refine ⟨xs.set k (val s k), (h1.stored k _).1, fun i hi => ?_⟩
  by_cases c : i = k
  · subst c
    rw [List.getElem?_set_self (by omega)]
  · rw [List.getElem?_set_ne (by omega)]
    exact h2 i (by omega)

theorem tab_block {w w' : World} {g n s k : Nat} (h : Tab w g n s k) (hb : w'.heap[g]? = w.heap[g]?) : Tab w' g n s k := by
  obtain ⟨xs, ⟨h0, h1⟩, h2⟩ := h
  refine ⟨xs, ⟨h0, ?_⟩, h2⟩
  rcases h1 with ⟨h3, h4⟩ | ⟨g', cap, cur, h3, h4⟩
  · exact .inl ⟨h3, h4⟩
  · have hg : g' = g := by
      simp only [Value.slice.injEq, Option.some.injEq, Addr.mk.injEq, and_true] at h3
      exact h3.1.symm
    subst hg
    exact .inr ⟨g', cap, cur, h3, h4.1, by rw [hb]; exact h4.2.1, h4.2.2⟩

theorem tab_lt {w : World} {g n s k : Nat} (h : Tab w g n s k) : g < w.heap.size := by
  obtain ⟨xs, h1, h2⟩ := h
  exact (h1.lt g rfl).2

theorem tab_made {w w' : World} {n s : Nat} {xs : List Value} (h : w'.ownsRow w.heap.size 28 1 (.slice (some ⟨w.heap.size, 0, none⟩) n n) n xs) : Tab w' w.heap.size n s 0 :=
  ⟨xs, h, fun i hi => absurd hi (by omega)⟩

theorem has_below {w w' : World} {v : Value} {L B : Nat} (h : Has w v L) (hb : Below B w w') (hv : ∀ g, v.ownBlock = some g → g < B) : Has w' v L := by
  rcases h with h | ⟨g, cap, rfl, h⟩
  · exact .inl h
  · exact .inr ⟨g, cap, rfl, fun i hi => (hb.cell (hv g rfl)).trans (h i hi)⟩

theorem cell_heap {w w' : World} (h : w'.heap = w.heap) (a : Addr) : w'.cell? a = w.cell? a := World.cell?_of_block (by rw [h])

theorem grown_below {w w' : World} (h : w.grownBy w' none) : Below w.heap.size w w' := (Below.refl _ _).grown h (Nat.le_refl _) (fun k hk => by cases hk)

set_option maxHeartbeats 1600000 in
theorem table_yes {n s : Nat} (h : Ord n s) (w : World) :
    Calls Try.prog 30 #[.int .i64 n] w fun e w' => ∃ g, e = .returned (.tuple #[.slice (some ⟨g, 0, none⟩) n n, .int .i64 0]) ∧ w.heap.size ≤ g ∧ Tab w' g n s n ∧ Below w.heap.size w w' := by
  obtain ⟨i0, hi0, hz0, hz1, hz2⟩ := info_parts infoC
  have hc := hide (isOrder_yes h)
  have hl := ord_le h
  obtain ⟨L, hL⟩ := ord_len h
  have hst := hide (len_steps hL hl.1)
  have hat := hide fun (k : Nat) (hk : k < n) (v : Value) (w : World) (hv : Has w v L) => rootAt_any h hL hk (k : Int) rfl hv
  clear h hL
  go_enter Try.func30, Try.ntmps30
  go_wp2_with (first | (go_at_call 38; refine (unhide hc _).mono ?_; rintro e w' ⟨rfl, rfl⟩))
  refine (unhide hst _).mono ?_
  rintro e w1 ⟨v, rfl, hown, hbel⟩
  have hH := hide (has_of_owns hown)
  have hV : Hid (∀ g, v.ownBlock = some g → g < w1.heap.size) := fun g hg => (hown.lt g hg).2
  clear hown
  go_wp2_with (first
    | (at_make; refine wpList_make_full _ rfl (.tmp 12) (.tmp 12) 24 rfl w1.heap.size 28 i0 (.complex .f64 0 0) 1 Try.underlying24 hi0 hz0 hz1 .i64 .i64 n n n rfl rfl rfl rfl ?c1 ?c2 ?c3 ?_))
  case c1 => rw [hz2]; omega
  case c2 => unfold maxLen; omega
  case c3 => exact Nat.le_refl _
  intro w2 hown2 hg2
  have hT := hide (tab_made (s := s) hown2)
  have hB := hide (grown_below hg2)
  clear hown2 hg2
  go_wp2_with fail
  go_loopw [16] (fun ix wr => ∃ k : Nat, k ≤ n ∧ ix = .int .i64 k ∧ Hid (Tab wr w1.heap.size n s k) ∧ Hid (Below w1.heap.size w1 wr)) (fun ix _ => n - (intOf ix).toNat)
  case atStart => exact ⟨0, Nat.zero_le _, rfl, unhide hT, unhide hB⟩
  case round =>
    obtain ⟨k, hk, rfl, hTr, hBr⟩ := hrel
    by_cases hkn : k < n
    · have hc := hide (unhide hat k hkn v wr (has_below (unhide hH) (unhide hBr) (unhide hV)))
      have hI : (k : Int) < (n : Int) := by omega
      obtain ⟨⟨u, hu⟩, hf⟩ := row_cell (unhide hTr) hkn
      have hR := hide (tab_store (unhide hTr) hkn)
      have hBn := hide ((unhide hBr).setCell (p := ⟨w1.heap.size, k, none⟩) (Nat.le_refl _) (val s k))
      clear hat hTr hBr hT hB
      go_wp2_with (first | (go_at_call 40; refine (unhide hc).mono ?_; rintro e w' ⟨rfl, rfl⟩))
      go_roundw
      case rel => exact ⟨k + 1, hkn, by go_num, unhide hR, unhide hBn⟩
      case measure => simp [intOf]; omega
    · have hkn' : k = n := by omega
      subst hkn'
      go_wp2_with fail
      go_ret2
      exact ⟨_, rfl, hbel.size, unhide hTr, hbel.trans ((unhide hBr).mono hbel.size)⟩
end Go.Proofs.Ytgbffbikieikdaa
