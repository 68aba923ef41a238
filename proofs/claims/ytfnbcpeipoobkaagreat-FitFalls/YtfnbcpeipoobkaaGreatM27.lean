/- back.look, back.strips of right projections. Tables of structs; back.strips. The cells of a square tile, row by row: package back's own iterator. -/
import Derived.Test.YtfnbcpeipoobkaaGreatM26
import Derived.Deep.OwnRows
namespace Go.Proofs.YtfnbcpeipoobkaaGreat
open Go.RowKit Go.Shelf Fl Ieee
attribute [local go_sem] store_complex

theorem dir64_ok {d : Int × Int} (h : okD d.1 d.2 = true) : Dir64 d := by
  obtain ⟨b1, b2, b3⟩ := okD_bounds h
  exact ⟨by unfold I64; omega, by unfold I64; omega⟩
set_option maxRecDepth 100000 in
theorem bsideYes {n : Nat} (h1 : 1 ≤ n) (h2 : n ≤ 64) (w : World) : Calls (barP Tryz.prog) 85 #[.int .i64 n] w fun e w' => e = .returned (.bool true) ∧ w' = w := by
  have q1 : ((1 : Int) ≤ (n : Int)) = True := by simp; omega
  have q2 : ((n : Int) ≤ 64) = True := by simp; omega
  go_enter Bar.func85, Bar.ntmps85
  go_wp2_with fail
  go_ret
  exact ⟨rfl, rfl⟩
set_option maxRecDepth 100000 in
set_option maxHeartbeats 3200000 in
theorem blookOk {n gq cq : Nat} {ps : List PJ} (h1 : 1 ≤ n) (h2 : n ≤ 64) (hps : ps.length ≤ 64) (hP : ∀ i, i < ps.length → PJok n (ps.getD i pj0)) (w : World) (hA : PJAt w gq ps) :
    Calls (barP Tryz.prog) 60 #[.int .i64 n, .slice (some ⟨gq, 0, none⟩) ps.length cq] w fun e w' => e = .returned (.int .i64 0) ∧ Below w.heap.size w w' := by
  have HA := hide hA
  have HP := hide hP
  clear hA hP
  obtain ⟨N, hN⟩ : ∃ N, ps.length = N := ⟨_, rfl⟩
  rw [hN] at hps ⊢
  have q0 : ((64 : Int) < (N : Int)) = False := by simp; omega
  have kS := hide (fun W => bsideYes h1 h2 W)
  have hNh := hide hN
  clear hN
  go_enter Bar.func60, Bar.ntmps60
  go_wp2_with fail
  refine (unhide kS _).mono ?_
  rintro e w0 ⟨rfl, rfl⟩
  clear kS
  go_wp2_with fail
  go_loopw [7, 8, 17] (fun _ _ kv wr => ∃ k : Nat, k ≤ N ∧ kv = .int .i64 k ∧ Hid (Below w0.heap.size w0 wr)) (fun _ _ kv _ => N - (intOf kv).toNat)
  case atStart => exact ⟨0, Nat.zero_le _, rfl, Below.refl _ _⟩
  case round =>
    obtain ⟨k, hk, rfl, hB⟩ := hrel
    by_cases c : k < N
    · have q3 : ((k : Int) < (N : Int)) = True := by simp; omega
      have hkl : k < ps.length := by rw [unhide hNh]; exact c
      obtain ⟨c1, c2, c3⟩ := ((unhide HA).below (unhide hB)).cells k hkl
      obtain ⟨p1, p2, p3, p4⟩ := unhide HP k hkl
      have kB := hide (fun W => dirBins (n := n) (dir64_ok p1) W)
      rw [p2] at kB
      unfold dirV at kB
      have m1 : k * 3 < N * 3 := by omega
      clear p1 p2
      generalize ps.getD k pj0 = p at *
      obtain ⟨⟨d1, d2⟩, gb, cb, nb, b⟩ := p
      dsimp only at *
      have y1 := (Below.refl wr.heap.size wr).alloc (Nat.le_refl _) (.cells #[.int .i64 d1, .int .i64 d2, .slice (some ⟨gb, 0, none⟩) nb cb] 40)
      have r1 := heap_alloc_new wr (.cells #[.int .i64 d1, .int .i64 d2, .slice (some ⟨gb, 0, none⟩) nb cb] 40)
      have hsz : (wr.alloc (.cells #[.int .i64 d1, .int .i64 d2, .slice (some ⟨gb, 0, none⟩) nb cb] 40)).heap.size = wr.heap.size + 1 := World.size_alloc _ _
      have Y1 := hide y1
      have R1 := hide r1
      have hs9 := (unhide hB).size
      clear y1 r1
      go_wp2_with fail
      refine (unhide kB _).mono ?_
      rintro e w1 ⟨rfl, hb1⟩
      have x2 := cell_of_row _ wr.heap.size 2 _ _ (0, 0) (unhide R1)
      simp only [List.getElem?_toArray, List.getElem?_cons_zero, List.getElem?_cons_succ] at x2
      have x2 := (hb1.cell (p := ⟨wr.heap.size, 2, none⟩) (by show wr.heap.size < _; omega)).trans x2
      have B2 := hide ((unhide hB).trans (((unhide Y1).trans (hb1.mono (unhide Y1).size)).mono hs9))
      clear hb1 kB Y1 R1 hsz
      go_wp2_with fail
      exact ⟨⟨k + 1, c, by go_num, B2⟩, by simp [intOf]; omega⟩
    · have q3 : ((k : Int) < (N : Int)) = False := by simp; omega
      go_wp2_with fail
      go_ret
      exact ⟨rfl, unhide hB⟩
end Go.Proofs.YtfnbcpeipoobkaaGreat

namespace Go.Proofs.YtfnbcpeipoobkaaGreat
open Go.RowKit Go.Shelf Fl Ieee
attribute [local go_sem] store_complex

/-- Block g is a row of N structs of sz cells, of which the first k are laid. -/
def Tab (w : World) (g t N sz k : Nat) (c : Nat → Nat → Value) : Prop := ∃ cur : Array Value, w.heap[g]? = some (.cells cur t (0, 0)) ∧ cur.size = N * sz ∧ ∀ i j, i < k → j < sz → cur[i * sz + j]? = some (c i j)
theorem tab_lt {w : World} {g t N sz k : Nat} {c : Nat → Nat → Value} (h : Tab w g t N sz k c) : g < w.heap.size := by
  obtain ⟨cur, h1, _⟩ := h
  exact (Array.getElem?_eq_some_iff.1 h1).1
theorem tab_keep {w w' : World} {g t N sz k : Nat} {c : Nat → Nat → Value} (h : Tab w g t N sz k c) (hb : w'.heap[g]? = w.heap[g]?) : Tab w' g t N sz k c := by
  obtain ⟨cur, h1, h2⟩ := h
  exact ⟨cur, by rw [hb]; exact h1, h2⟩
theorem tab_cell {w : World} {g t N sz k : Nat} {c : Nat → Nat → Value} (h : Tab w g t N sz k c) {i j : Nat} (hi : i < k) (hj : j < sz) : w.cell? ⟨g, i * sz + j, none⟩ = some (c i j) := by
  obtain ⟨cur, h1, h2, h3⟩ := h
  rw [cell_of_row w g _ cur _ (0, 0) h1]
  exact h3 i j hi hj
theorem tab_frozen {w : World} {g t N sz k : Nat} {c : Nat → Nat → Value} (h : Tab w g t N sz k c) (i : Nat) : w.frozen? ⟨g, i, none⟩ = false := by
  obtain ⟨cur, h1, _⟩ := h
  exact frozen_of_row w g i cur _ h1
/-- A cell of it, whatever it holds. -/
theorem tab_any {w : World} {g t N sz k : Nat} {c : Nat → Nat → Value} (h : Tab w g t N sz k c) {i : Nat} (hi : i < N * sz) : ∃ v, w.cell? ⟨g, i, none⟩ = some v := by
  obtain ⟨cur, h1, h2, _⟩ := h
  rw [cell_of_row w g _ cur _ (0, 0) h1]
  exact ⟨_, Array.getElem?_eq_getElem (by omega)⟩
theorem tab_made {w w' : World} {e N sz : Nat} {xs : List Value} (h : w'.ownsRow w.heap.size e sz (.slice (some ⟨w.heap.size, 0, none⟩) N N) N xs) (c : Nat → Nat → Value) : Tab w' w.heap.size e N sz 0 c := by
  rcases h.2 with ⟨h', _⟩ | ⟨g', cap, cur, h', _, hg, _, _, hcs, htake⟩
  · simp at h'
  · simp only [Value.slice.injEq, Option.some.injEq, Addr.mk.injEq, and_true, true_and] at h'
    obtain ⟨e1, e2⟩ := h'
    rw [← e1] at hg
    exact ⟨cur, hg, by rw [hcs, ← e2], fun i j hi => by omega⟩
theorem ne_cell {i j k l sz : Nat} (hj : j < sz) (hl : l < sz) (h : i ≠ k) : i * sz + j ≠ k * sz + l := by
  intro e
  rcases Nat.lt_or_gt_of_ne h with h | h
  · have := Nat.mul_le_mul_right sz (show i + 1 ≤ k by omega)
    rw [Nat.add_mul, Nat.one_mul] at this
    omega
  · have := Nat.mul_le_mul_right sz (show k + 1 ≤ i by omega)
    rw [Nat.add_mul, Nat.one_mul] at this
    omega
/-- One cell set, not among those that are laid. -/
theorem tab_put {w : World} {g t N sz k : Nat} {c : Nat → Nat → Value} (h : Tab w g t N sz k c) (l : Nat) (hl : l < sz) (v : Value) : Tab (w.setCell ⟨g, k * sz + l, none⟩ v) g t N sz k c := by
  obtain ⟨cur, h1, h2, h3⟩ := h
  refine ⟨cur.setIfInBounds (k * sz + l) v, heap_setCell_same w g _ cur _ _ h1, by simpa using h2, fun i j hi hj => ?_⟩
  rw [Array.getElem?_setIfInBounds_ne (ne_cell hl hj (show k ≠ i by omega))]
  exact h3 i j hi hj
/-- The next struct is laid. -/
theorem tab_next {w : World} {g t N sz k : Nat} {c : Nat → Nat → Value} (h : Tab w g t N sz k c) (hc : ∀ j, j < sz → w.cell? ⟨g, k * sz + j, none⟩ = some (c k j)) : Tab w g t N sz (k + 1) c := by
  obtain ⟨cur, h1, h2, h3⟩ := h
  refine ⟨cur, h1, h2, fun i j hi hj => ?_⟩
  by_cases e : i = k
  · subst e
    have := hc j hj
    rwa [cell_of_row w g _ cur _ (0, 0) h1] at this
  · exact h3 i j (by omega) hj
/-- The next struct of four cells, laid cell by cell. -/
theorem tab_four {w : World} {g t N k : Nat} {c : Nat → Nat → Value} {x0 x1 x2 x3 : Value} (h : Tab w g t N 4 k c) (hk : k < N) (e0 : c k 0 = x0) (e1 : c k 1 = x1) (e2 : c k 2 = x2) (e3 : c k 3 = x3) :
    Tab ((((w.setCell ⟨g, k * 4, none⟩ x0).setCell ⟨g, k * 4 + 1, none⟩ x1).setCell ⟨g, k * 4 + 2, none⟩ x2).setCell ⟨g, k * 4 + 3, none⟩ x3) g t N 4 (k + 1) c := by
  subst e0 e1 e2 e3
  obtain ⟨cur, h1, h2, h3⟩ := h
  refine ⟨(((cur.setIfInBounds (k * 4) (c k 0)).setIfInBounds (k * 4 + 1) (c k 1)).setIfInBounds (k * 4 + 2) (c k 2)).setIfInBounds (k * 4 + 3) (c k 3), ?_, by simpa using h2, fun i j hi hj => ?_⟩
  · exact heap_setCell_same _ g _ _ _ _ (heap_setCell_same _ g _ _ _ _ (heap_setCell_same _ g _ _ _ _ (heap_setCell_same w g _ cur _ _ h1)))
  · by_cases e : i = k
    · subst e
      have hs : i * 4 + 3 < cur.size := by omega
      match j, hj with
      | 0, _ => simp [Array.getElem?_setIfInBounds]; omega
      | 1, _ => simp [Array.getElem?_setIfInBounds]; omega
      | 2, _ => simp [Array.getElem?_setIfInBounds]; omega
      | 3, _ => simp [Array.getElem?_setIfInBounds]; omega
    · rw [Array.getElem?_setIfInBounds_ne (by omega), Array.getElem?_setIfInBounds_ne (by omega), Array.getElem?_setIfInBounds_ne (by omega), Array.getElem?_setIfInBounds_ne (by omega)]
      exact h3 i j (by omega) hj
/-- The next struct of three cells. -/
theorem tab_three {w : World} {g t N k : Nat} {c : Nat → Nat → Value} {x0 x1 x2 : Value} (h : Tab w g t N 3 k c) (hk : k < N) (e0 : c k 0 = x0) (e1 : c k 1 = x1) (e2 : c k 2 = x2) :
    Tab (((w.setCell ⟨g, k * 3, none⟩ x0).setCell ⟨g, k * 3 + 1, none⟩ x1).setCell ⟨g, k * 3 + 2, none⟩ x2) g t N 3 (k + 1) c := by
  subst e0 e1 e2
  obtain ⟨cur, h1, h2, h3⟩ := h
  refine ⟨((cur.setIfInBounds (k * 3) (c k 0)).setIfInBounds (k * 3 + 1) (c k 1)).setIfInBounds (k * 3 + 2) (c k 2), ?_, by simpa using h2, fun i j hi hj => ?_⟩
  · exact heap_setCell_same _ g _ _ _ _ (heap_setCell_same _ g _ _ _ _ (heap_setCell_same w g _ cur _ _ h1))
  · by_cases e : i = k
    · subst e
      have hs : i * 3 + 2 < cur.size := by omega
      match j, hj with
      | 0, _ => simp [Array.getElem?_setIfInBounds]; omega
      | 1, _ => simp [Array.getElem?_setIfInBounds]; omega
      | 2, _ => simp [Array.getElem?_setIfInBounds]; omega
    · rw [Array.getElem?_setIfInBounds_ne (by omega), Array.getElem?_setIfInBounds_ne (by omega), Array.getElem?_setIfInBounds_ne (by omega)]
      exact h3 i j (by omega) hj
theorem infoStrip : ((barP Tryz.prog).info? 147).map (fun i => (i.zero, i.size, i.bytes)) = some (some (.agg #[.int .i64 0, .int .i64 0, .slice none 0 0, .int .i64 0]), 4, 48) := by kernel_rfl
/-- The cells of a strip. -/
def stC (n : Nat) (ps : List PJ) (i j : Nat) : Value := if j = 0 then .int .i64 (ps.getD i pj0).d.1 else if j = 1 then .int .i64 (ps.getD i pj0).d.2 else if j = 2 then .slice (some ⟨(ps.getD i pj0).gb, 0, none⟩) (ps.getD i pj0).nb (ps.getD i pj0).cb else .int .i64 (startS n (ps.getD i pj0).d)
theorem index_first {n nb : Nat} {d : Int × Int} (h1 : 1 ≤ n) (hb : binsS n d = ((nb : Int), 0)) : indexS n d 0 0 = (startS n d, 0) := by
  unfold indexS
  rw [hb]
  dsimp only
  rw [if_neg (by simp), if_neg (by omega)]
  simp
set_option maxRecDepth 100000 in
set_option maxHeartbeats 3200000 in
theorem stripsOk {n gq cq : Nat} {ps : List PJ} (h1 : 1 ≤ n) (hps : ps.length ≤ 64) (hP : ∀ i, i < ps.length → PJok n (ps.getD i pj0)) (w : World) (hA : PJAt w gq ps) :
    Calls (barP Tryz.prog) 63 #[.int .i64 n, .slice (some ⟨gq, 0, none⟩) ps.length cq] w fun e w' => ∃ gs, e = .returned (.slice (some ⟨gs, 0, none⟩) ps.length ps.length) ∧ StAt w' gs n ps ∧ Below w.heap.size w w' := by
  obtain ⟨i0, hi0, hz0, hz1, hz2⟩ := info_parts infoStrip
  have HA := hide hA
  have HP := hide hP
  clear hA hP
  obtain ⟨N, hN⟩ : ∃ N, ps.length = N := ⟨_, rfl⟩
  rw [hN] at hps ⊢
  have hNh := hide hN
  clear hN
  go_enter Bar.func63, Bar.ntmps63
  go_wp2_with (first
    | (at_make; refine wpList_make_full _ rfl (.tmp 11) (.tmp 11) 119 rfl w.heap.size 147 i0 (.agg #[.int .i64 0, .int .i64 0, .slice none 0 0, .int .i64 0]) 4 Bar.underlying119 hi0 hz0 hz1 .i64 .i64 N N N rfl rfl rfl rfl ?c1 ?c2 ?c3 ?_))
  case c1 => rw [hz2]; omega
  case c2 => unfold maxLen; omega
  case c3 => omega
  intro w0 hown hgr
  have T0 := hide (tab_made hown (stC n ps))
  have B0 := hide (grown_below hgr)
  clear hown hgr hi0 hz0 hz1 hz2
  generalize hgs : w.heap.size = gs at *
  go_wp2_with fail
  go_loopw [6, 7, 8, 9, 15] (fun _ _ _ _ kv wr => ∃ k : Nat, k ≤ N ∧ kv = .int .i64 k ∧ Hid (Tab wr gs 147 N 4 k (stC n ps)) ∧ Hid (Below gs w wr)) (fun _ _ _ _ kv _ => N - (intOf kv).toNat)
  case atStart => exact ⟨0, Nat.zero_le _, rfl, T0, B0⟩
  case round =>
    clear T0 B0
    obtain ⟨k, hk, rfl, hT, hB⟩ := hrel
    by_cases c : k < N
    · have q3 : ((k : Int) < (N : Int)) = True := by simp; omega
      have hkl : k < ps.length := by rw [unhide hNh]; exact c
      obtain ⟨c1, c2, c3⟩ := ((unhide HA).below (by rw [hgs]; exact unhide hB)).cells k hkl
      obtain ⟨p1, p2, p3, p4⟩ := unhide HP k hkl
      have kI := hide (fun W => dirIndex (n := n) (x := 0) (y := 0) (dir64_ok p1) W)
      rw [index_first h1 p2] at kI
      unfold dirV at kI
      have sc : Hid (∀ j v, v = stC n ps k j → stC n ps k j = v) := fun j v h => h.symm
      have e0 : Hid (stC n ps k 0 = .int .i64 (ps.getD k pj0).d.1) := rfl
      have e1 : Hid (stC n ps k 1 = .int .i64 (ps.getD k pj0).d.2) := rfl
      have e2 : Hid (stC n ps k 2 = .slice (some ⟨(ps.getD k pj0).gb, 0, none⟩) (ps.getD k pj0).nb (ps.getD k pj0).cb) := rfl
      have e3 : Hid (stC n ps k 3 = .int .i64 (startS n (ps.getD k pj0).d)) := rfl
      have m1 : k * 3 < N * 3 := by omega
      have m2 : k * 4 < N * 4 := by omega
      clear p1 p2 sc
      generalize startS n (ps.getD k pj0).d = st at *
      generalize ps.getD k pj0 = p at *
      obtain ⟨⟨d1, d2⟩, gb, cb, nb, b⟩ := p
      dsimp only at *
      have y1 := (Below.refl wr.heap.size wr).alloc (Nat.le_refl _) (.cells #[.int .i64 d1, .int .i64 d2, .slice (some ⟨gb, 0, none⟩) nb cb] 40)
      have r1 := heap_alloc_new wr (.cells #[.int .i64 d1, .int .i64 d2, .slice (some ⟨gb, 0, none⟩) nb cb] 40)
      have hsz : (wr.alloc (.cells #[.int .i64 d1, .int .i64 d2, .slice (some ⟨gb, 0, none⟩) nb cb] 40)).heap.size = wr.heap.size + 1 := World.size_alloc _ _
      have Y1 := hide y1
      have R1 := hide r1
      have hs9 := (unhide hB).size
      have hgl := tab_lt (unhide hT)
      clear y1 r1
      go_wp2_with fail
      refine (unhide kI _).mono ?_
      rintro e w1 ⟨rfl, hb1⟩
      have z := fun (j : Nat) (v : Value) (h : (#[Value.int .i64 d1, .int .i64 d2, .slice (some ⟨gb, 0, none⟩) nb cb] : Array Value)[j]? = some v) => (hb1.cell (p := ⟨wr.heap.size, j, none⟩) (by show wr.heap.size < _; omega)).trans ((cell_of_row _ wr.heap.size j _ _ (0, 0) (unhide R1)).trans h)
      have z0 := z 0 _ rfl
      have z1 := z 1 _ rfl
      have z2 := z 2 _ rfl
      have F1 := hide ((unhide Y1).trans (hb1.mono (unhide Y1).size))
      have T1 := hide (tab_keep (w' := w1) (unhide hT) ((unhide F1).block gs hgl))
      obtain ⟨v0, a0⟩ := tab_any (unhide T1) (i := k * 4) (by omega)
      obtain ⟨v1, a1⟩ := tab_any (unhide T1) (i := k * 4 + 1) (by omega)
      obtain ⟨v2, a2⟩ := tab_any (unhide T1) (i := k * 4 + 2) (by omega)
      obtain ⟨v3, a3⟩ := tab_any (unhide T1) (i := k * 4 + 3) (by omega)
      have f0 := tab_frozen (unhide T1) (k * 4)
      have f1 := tab_frozen (unhide T1) (k * 4 + 1)
      have f2 := tab_frozen (unhide T1) (k * 4 + 2)
      have f3 := tab_frozen (unhide T1) (k * 4 + 3)
      clear z hb1 kI Y1 R1 hsz
      go_wp2_with fail
      have hF := (unhide hB).trans ((unhide F1).mono (show gs ≤ wr.heap.size by omega))
      refine ⟨⟨k + 1, c, by go_num, tab_four (unhide T1) c (unhide e0) (unhide e1) (unhide e2) (unhide e3), (((hF.setCell (Nat.le_refl gs) _).setCell (Nat.le_refl gs) _).setCell (Nat.le_refl gs) _).setCell (Nat.le_refl gs) _⟩, by simp [intOf]; omega⟩
    · have q3 : ((k : Int) < (N : Int)) = False := by simp; omega
      obtain rfl : k = N := by omega
      go_wp2_with fail
      go_ret
      have hB' : Below w.heap.size w wr := by rw [hgs]; exact unhide hB
      refine ⟨gs, rfl, ⟨tab_lt (unhide hT), fun i hi => ?_, fun i hi => ?_⟩, hB'⟩
      · rw [unhide hNh] at hi
        exact ⟨tab_cell (unhide hT) (j := 0) hi (by omega), tab_cell (unhide hT) (j := 1) hi (by omega), tab_cell (unhide hT) (j := 2) hi (by omega), tab_cell (unhide hT) (j := 3) hi (by omega)⟩
      · exact ((unhide HA).below hB').bins i hi
end Go.Proofs.YtfnbcpeipoobkaaGreat

namespace Go.Proofs.YtfnbcpeipoobkaaGreat
open Go.RowKit Go.Shelf
attribute [local go_sem] Oper.semAt_some

def tX (r k : Nat) : Nat := k % r
def tY (r k : Nat) : Nat := k / r
abbrev encT (r : Nat) (x : CellNo r) : Array Value := #[.agg #[.int .i64 (tX r x.1), .int .i64 (tY r x.1)]]
theorem row_pos {r x y : Nat} (hx : x < r) (hy : y < r) : y * r + x < r * r ∧ (y * r + x) % r = x ∧ (y * r + x) / r = y := by
  have : (y + 1) * r ≤ r * r := Nat.mul_le_mul_right r (by omega)
  rw [Nat.add_mul, Nat.one_mul] at this
  exact ⟨by omega, by rw [Nat.add_comm, Nat.add_mul_mod_self_right, Nat.mod_eq_of_lt hx], by rw [Nat.add_comm, Nat.add_mul_div_right _ _ (by omega), Nat.div_eq_of_lt hx, Nat.zero_add]⟩
set_option maxRecDepth 100000 in
set_option maxHeartbeats 2000000 in
theorem tile_stops {r : Nat} (hr : 1 ≤ r) (h64 : r ≤ 64) (m : Nat) (hm : 1 ≤ m) (Bt : Nat) (w : World) (hBt : Bt < w.heap.size)
    (c0 : w.cell? ⟨Bt, 0, none⟩ = some (.int .i64 0)) (c1 : w.cell? ⟨Bt, 1, none⟩ = some (.int .i64 0)) (c2 : w.cell? ⟨Bt, 2, none⟩ = some (.int .i64 ((r : Int) - 1))) (c3 : w.cell? ⟨Bt, 3, none⟩ = some (.int .i64 ((r : Int) - 1))) :
    SeqStopsK Fence.wide m (barP Tryz.prog) 97 #[.pointer (some ⟨Bt, 0, none⟩)] (encT r) (Keep2 Bt Bt) (fun xs => xs.map (·.1) = List.range (r * r)) (fun _ => True) (r * r) w := fun l J Jx W hW hJ hJx hY h0 => by
  have C0 := hide ((hW.cell (p := ⟨Bt, 0, none⟩) (by show Bt < _; omega)).trans c0)
  have C1 := hide ((hW.cell (p := ⟨Bt, 1, none⟩) (by show Bt < _; omega)).trans c1)
  have C2 := hide ((hW.cell (p := ⟨Bt, 2, none⟩) (by show Bt < _; omega)).trans c2)
  have C3 := hide ((hW.cell (p := ⟨Bt, 3, none⟩) (by show Bt < _; omega)).trans c3)
  have hsz := hW.size
  clear c0 c1 c2 c3 hW
  have d1 := unhide C1
  have hJ := hide hJ
  have hY := hide hY
  refine callsIn_of_wp Bar.func97 rfl trivial ?_ rfl
  simp only [Bar.ntmps97, List.size_toArray, List.length_cons, List.length_nil, Nat.reduceAdd, Nat.reduceSub, Array.replicate_succ, Array.replicate_zero, List.push_toArray, List.append_toArray, List.nil_append, List.cons_append]
  gi_wp2_with fail
  clear d1
  gi_loopw [3] (fun yv wr => ∃ (y : Nat) (pre : List (CellNo r)), y ≤ r ∧ yv = .int .i64 y ∧ Hid (pre.map (·.1) = List.range (y * r)) ∧ Hid (J pre wr) ∧ Hid (Keep2 Bt Bt W wr)) (fun yv _ => r - (intOf yv).toNat)
  case atStart => exact ⟨0, [], Nat.zero_le _, rfl, by rw [Nat.zero_mul]; rfl, h0, ⟨rfl, rfl⟩⟩
  case round =>
    obtain ⟨y, pre, hy, rfl, hp, hJr, hBr⟩ := hrel
    by_cases hyr : y < r
    · have q1 : ((y : Int) ≤ (r : Int) - 1) = True := by simp; omega
      have d0 := ((unhide hBr).cell1 0).trans (unhide C0)
      have d3 := ((unhide hBr).cell1 3).trans (unhide C3)
      gi_wp2_with fail
      clear d0 d3
      gi_loopw [4] (fun xv ws => ∃ (x : Nat) (prf : List (CellNo r)), x ≤ r ∧ xv = .int .i64 x ∧ Hid (prf.map (·.1) = List.range (y * r + x)) ∧ Hid (J prf ws) ∧ Hid (Keep2 Bt Bt W ws)) (fun xv _ => r - (intOf xv).toNat)
      case atStart => exact ⟨0, pre, Nat.zero_le _, rfl, hp, hJr, hBr⟩
      case round =>
        clear hp hJr hBr pre
        obtain ⟨x, pre, hx, rfl, hp, hJr, hBr⟩ := hrel
        by_cases hxr : x < r
        · have q2 : ((x : Int) ≤ (r : Int) - 1) = True := by simp; omega
          obtain ⟨hk, hkx, hky⟩ := row_pos hxr hyr
          have d2 := ((unhide hBr).cell1 2).trans (unhide C2)
          have hpn := hide (pre_snoc (unhide hp) hk)
          obtain ⟨fn, tmps, assign, body, hyl, hR⟩ := unhide hY pre ⟨y * r + x, hk⟩ wr (unhide hJr) (by rw [pre_len (unhide hp)]; exact hk)
          dsimp only [encT] at hyl
          rw [show tX r (y * r + x) = x from hkx, show tY r (y * r + x) = y from hky] at hyl
          gi_wp2
          refine hR.mono ?_
          rintro e W3 (⟨rfl, hJ3, hk3⟩ | ⟨rfl, hJx3⟩)
          · have hJ3 := hide hJ3
            have hB3 := hide (keep2_t (unhide hBr) hk3)
            clear d2 hyl hR
            gi_wp2
            go_roundw
            case rel => exact ⟨x + 1, _, by omega, by simp, hpn, hJ3, hB3⟩
            case measure => simp [intOf]; omega
          · gi_wp2
            refine bodyPost_ret (results_none rfl _ _ _) rfl ?_
            exact ⟨⟨_, rfl⟩, .inr ⟨_, trivial, hJx3⟩⟩
        · obtain rfl : x = r := by omega
          have q2 : ((x : Int) ≤ (x : Int) - 1) = False := by simp; omega
          have d2 := ((unhide hBr).cell1 2).trans (unhide C2)
          gi_wp2
          go_roundw
          case rel => exact ⟨y + 1, pre, by omega, by simp, by rw [Nat.add_mul, Nat.one_mul]; exact hp, hJr, hBr⟩
          case measure => simp [intOf]; omega
    · obtain rfl : y = r := by omega
      have q1 : ((y : Int) ≤ (y : Int) - 1) = False := by simp; omega
      have d3 := ((unhide hBr).cell1 3).trans (unhide C3)
      gi_wp2
      go_end0
      exact ⟨⟨_, rfl⟩, .inl ⟨_, unhide hp, unhide hJr⟩⟩
end Go.Proofs.YtfnbcpeipoobkaaGreat
