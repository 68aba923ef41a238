/- The program's weights. -/
import Derived.Test.YthiipodgfbnpeaaDoorFNC
import Derived.Test.YthiipodgfbnpeaaDoorFNT
import Derived.Test.YthiipodgfbnpeaaDoorFL
namespace Go.Proofs.YthiipodgfbnpeaaDoor
open Go.RowKit

theorem store_real {P : Program} {w : World} {a : Addr} {m : Mode} (k : FloatKind) (x : Nat) : (store a (.float k x) m).run P w = stored P w a (.float k x) m := run_store P w a _ m rfl
attribute [local go_sem] store_real

/-- A row of n numbers of which the first k are weights. -/
def WTab (w : World) (g n k : Nat) (f : Nat → Value) : Prop := ∃ xs, w.ownsRow g 29 1 (.slice (some ⟨g, 0, none⟩) n n) n xs ∧ ∀ i, i < k → xs[i]? = some (f i)

theorem wtab_cell {w : World} {g n k i : Nat} {f : Nat → Value} (h : WTab w g n k f) (hi : i < n) : (∃ u, w.cell? ⟨g, i, none⟩ = some u) ∧ w.frozen? ⟨g, i, none⟩ = false := by
  obtain ⟨xs, h1, h2⟩ := h
  refine ⟨?_, h1.frozenAt i⟩
  rw [h1.cellAt i (by omega)]
  have hl : xs.length = n * 1 := h1.1
  exact ⟨xs[i]'(by omega), List.getElem?_eq_getElem (by omega)⟩

theorem wtab_store {w : World} {g n k : Nat} {f : Nat → Value} (h : WTab w g n k f) (hk : k < n) : WTab (w.setCell ⟨g, k, none⟩ (f k)) g n (k + 1) f := by
  obtain ⟨xs, h1, h2⟩ := h
  have hl : xs.length = n * 1 := h1.1
  refine ⟨xs.set k (f k), (h1.stored k _).1, fun i hi => ?_⟩
  by_cases c : i = k
  · subst c
    rw [List.getElem?_set_self (by omega)]
  · rw [List.getElem?_set_ne (by omega)]
    exact h2 i (by omega)

theorem wtab_made {w w' : World} {n : Nat} {f : Nat → Value} {xs : List Value} (h : w'.ownsRow w.heap.size 29 1 (.slice (some ⟨w.heap.size, 0, none⟩) n n) n xs) : WTab w' w.heap.size n 0 f :=
  ⟨xs, h, fun i hi => absurd hi (Nat.not_lt_zero i)⟩

theorem wtab_keep {w w' : World} {g n k : Nat} {f : Nat → Value} (h : WTab w g n k f) (hb : w'.heap = w.heap) : WTab w' g n k f := by
  obtain ⟨xs, ⟨h0, h1⟩, h2⟩ := h
  refine ⟨xs, ⟨h0, ?_⟩, h2⟩
  rcases h1 with ⟨h3, h4⟩ | ⟨g', cap, cur, h3, h4⟩
  · exact .inl ⟨h3, h4⟩
  · exact .inr ⟨g', cap, cur, h3, h4.1, by rw [hb]; exact h4.2.1, h4.2.2⟩

theorem wrow_tab {w : World} {g n : Nat} {f : Nat → Value} (h : WTab w g n n f) : WRow w g n f := by
  obtain ⟨xs, h1, h2⟩ := h
  rcases h1.2 with ⟨h', _⟩ | ⟨g', cap, cur, h', _, hg, _, _, hcs, htake⟩
  · simp at h'
  · simp only [Value.slice.injEq, Option.some.injEq, Addr.mk.injEq, and_true, true_and] at h'
    obtain ⟨rfl, rfl⟩ := h'
    refine ⟨cur, hg, by omega, fun i hi => ?_⟩
    have h3 := h2 i hi
    rw [← htake, List.getElem?_take, if_pos (by omega)] at h3
    simpa using h3

set_option maxHeartbeats 3200000 in
theorem filterWeightsBad : WeightsBad 6 := by
  intro n kind w hb
  rcases ord_or n with hW | ⟨m, s, rfl, hO⟩
  · have hc := hide (table_no hW)
    rw [werr_wrong hW]
    clear hb hW
    go_enter Tryd.func6, Tryd.ntmps6
    go_wp2_with fail
    refine (unhide hc _).mono ?_
    rintro e w0 ⟨rfl, hw⟩
    obtain rfl := hw.symm
    go_wp2_with fail
    go_ret2
    exact ⟨rfl, Below.refl _ _⟩
  · have hc := hide (table_yes hO)
    have hnw : ¬ Wrong (m : Int) := fun h => by
      obtain ⟨h1, h2⟩ := ord_le hO
      rcases h with h | h | ⟨_, h⟩
      · omega
      · omega
      · rw [and_self_ord hO] at h
        simp at h
    have hk : kind < 1 ∨ 3 < kind := by
      rcases hb with h | h
      · exact absurd h hnw
      · exact h
    have hN := hide (fun a n c w => by_none hk a n c w)
    rw [werr_kind hO]
    clear hb hO hnw hk
    go_enter Tryd.func6, Tryd.ntmps6
    go_wp2_with fail
    refine (unhide hc _).mono ?_
    rintro e w1 ⟨gt, rfl, _, _, hb1⟩
    have B1 := hide hb1
    clear hb1
    go_wp2_with fail
    refine (unhide hN _ _ _ _).mono ?_
    rintro e w2 ⟨rfl, hb2⟩
    have B2 := hide ((unhide B1).trans (hb2.mono (unhide B1).size))
    clear hb2
    go_wp2_with fail
    go_ret2
    exact ⟨rfl, unhide B2⟩

set_option maxHeartbeats 6400000 in
theorem filterWeightsGood : WeightsGood 6 := by
  intro n s kind w hO hk1 hk3
  obtain ⟨i0, hi0, hz0, hz1, hz2⟩ := info_parts infoF
  obtain ⟨hn2, hn1⟩ := ord_le hO
  have hT := hide (table_yes hO)
  have hK := hide (fun a n c w => by_kind hk1 hk3 a n c w)
  have H := hide hO
  have q5 : kind = 1 ∨ kind = 2 ∨ kind = 3 := by omega
  clear hO hk1 hk3
  go_enter Tryd.func6, Tryd.ntmps6
  go_wp2_with fail
  refine (unhide hT _).mono ?_
  rintro e w1 ⟨gt, rfl, hgt, hTab, hb1⟩
  have B1 := hide hb1
  have TT := hide hTab
  have hgl : gt < w1.heap.size := tab_lt hTab
  clear hb1 hTab hT
  go_wp2_with fail
  refine (unhide hK _ _ _ _).mono ?_
  rintro e w2 ⟨rfl, hBx, hb2⟩
  have B2 := hide ((unhide B1).trans (hb2.mono (unhide B1).size))
  have TT := hide (tab_block (unhide TT) (hb2.block gt hgl))
  have hx2 : w1.heap.size + 1 + 1 < w2.heap.size := hBx.2.2.2
  have BX := hide hBx
  clear hb2 hBx hK B1
  go_wp2_with (first
    | (at_make; refine wpList_make_full _ rfl (.tmp 28) (.tmp 28) 23 rfl w2.heap.size 29 i0 (.float .f64 0) 1 Tryd.underlying23 hi0 hz0 hz1 .i64 .i64 n n n rfl rfl rfl rfl ?c1 ?c2 ?c3 ?_))
  case c1 => rw [hz2]; omega
  case c2 => unfold maxLen; omega
  case c3 => exact Nat.le_refl _
  intro w3 hown3 hg3
  have W3 := hide (wtab_made (f := wV kind s) hown3)
  have B3 := hide (grown_below hg3)
  clear hown3 hg3
  go_wp2_with fail
  go_loopw [32] (fun kv wr => ∃ k : Nat, k ≤ n ∧ kv = .int .i64 k ∧ Hid (WTab wr w2.heap.size n k (wV kind s)) ∧ Hid (Below w2.heap.size w2 wr)) (fun kv _ => n - (intOf kv).toNat)
  case atStart => exact ⟨0, Nat.zero_le _, rfl, W3, B3⟩
  case round =>
    clear W3 B3
    obtain ⟨k, hk, rfl, hW, hB⟩ := hrel
    by_cases hkn : k < n
    · have q1 : ((k : Int) < (n : Int)) = True := by simp; omega
      obtain ⟨⟨u, hu⟩, hf⟩ := wtab_cell (unhide hW) hkn
      have hW2 := hide (wtab_store (unhide hW) hkn)
      have hB2 := hide ((unhide hB).setCell (p := ⟨w2.heap.size, k, none⟩) (Nat.le_refl _) (wV kind s k))
      have TT := hide (tab_block (unhide TT) ((unhide hB).block gt (by omega)))
      have BX := hide (boxes_below (unhide BX) (unhide hB) hx2)
      have k1 := hide (flat_at s k wr)
      have k2 := hide (ramp_at (unhide H) hkn wr (unhide BX).2.1)
      have k3 := hide (soft_at (unhide H) hkn wr (unhide BX) (unhide TT))
      clear hW hB TT BX
      rcases q5 with rfl | rfl | rfl
      · rw [show byV 1 w1.heap.size = .func (.func 24) #[] #[] from rfl]
        clear k2 k3
        unfold wV at k1 hW2 hB2
        generalize wT 1 (k * s) = X at k1 hW2 hB2
        go_wp2_with fail
        refine (unhide k1).mono ?_
        rintro e w5 ⟨rfl, hw⟩
        obtain rfl := hw.symm
        clear k1
        go_wp2_with fail
        go_roundw
        case rel => exact ⟨_, _, _, _, _, _, _, _, _, _, _, ⟨k + 1, hkn, by go_num, hW2, hB2⟩, rfl⟩
        case measure => simp [intOf]; omega
      · rw [show byV 2 w1.heap.size = .func (.func 25) #[] #[.pointer (some ⟨w1.heap.size + 1, 0, none⟩)] from rfl]
        clear k1 k3
        unfold wV at k2 hW2 hB2
        generalize wT 2 (k * s) = X at k2 hW2 hB2
        go_wp2_with fail
        refine (unhide k2).mono ?_
        rintro e w5 ⟨rfl, hw⟩
        obtain rfl := hw.symm
        clear k2
        go_wp2_with fail
        go_roundw
        case rel => exact ⟨_, _, _, _, _, _, _, _, _, _, _, ⟨k + 1, hkn, by go_num, hW2, hB2⟩, rfl⟩
        case measure => simp [intOf]; omega
      · rw [show byV 3 w1.heap.size = .func (.func 26) #[] #[.pointer (some ⟨w1.heap.size + 1 + 1, 0, none⟩), .pointer (some ⟨w1.heap.size, 0, none⟩)] from rfl]
        clear k1 k2
        unfold wV at k3 hW2 hB2
        generalize wT 3 (k * s) = X at k3 hW2 hB2
        go_wp2_with fail
        refine (unhide k3).mono ?_
        rintro e w5 ⟨rfl, nq, rfl⟩
        clear k3
        go_wp2_with fail
        go_roundw
        case rel => exact ⟨_, _, _, _, _, _, _, _, _, _, _, ⟨k + 1, hkn, by go_num, wtab_keep hW2 rfl, (unhide hB2).trans ⟨rfl, rfl, rfl, Nat.le_refl _, fun _ _ => rfl⟩⟩, rfl⟩
        case measure => simp [intOf]; omega
    · have q1 : ((k : Int) < (n : Int)) = False := by simp; omega
      have e : k = n := by omega
      rw [e] at hW
      have hfin := hide (wrow_tab (unhide hW))
      have Bf : Hid (Below w.heap.size w wr) := (unhide B2).trans ((unhide hB).mono (unhide B2).size)
      have hs1 : w.heap.size ≤ w2.heap.size := (unhide B2).size
      have e' := hide e
      clear e hW hB
      go_wp2_with fail
      go_ret2
      exact ⟨_, _, rfl, hs1, unhide hfin, unhide Bf⟩
end Go.Proofs.YthiipodgfbnpeaaDoor
