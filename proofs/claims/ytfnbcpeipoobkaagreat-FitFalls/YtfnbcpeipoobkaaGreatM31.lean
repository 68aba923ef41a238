/- What is left of the bins: fit.rests. The library's Clone of complex numbers; fit.Rests. The rounds of a fit in whole numbers: the field and what is left behind t of them, in units of 2 to the -p t. The document's own Line. -/
import Derived.Test.YtfnbcpeipoobkaaGreatM30
import Derived.Test.YtfnbcpeipoobkaaGreatM22
import Derived.Laws.AppendOwn
import Derived.Laws.OwnMore
import Derived.OwnWalk
import Derived.Deep.Onto
namespace Go.Proofs.YtfnbcpeipoobkaaGreat
open Go.RowKit Go.Shelf Fl Ieee
attribute [local go_sem] store_complex

theorem infoProj : ((barP Tryz.prog).info? 40).map (fun i => (i.zero, i.size, i.bytes)) = some (some (.agg #[.int .i64 0, .int .i64 0, .slice none 0 0]), 3, 40) := by kernel_rfl
theorem tab_ext {w : World} {g t N sz k : Nat} {c c' : Nat → Nat → Value} (h : Tab w g t N sz k c) (he : ∀ i j, i < k → j < sz → c i j = c' i j) : Tab w g t N sz k c' := by
  obtain ⟨cur, h1, h2, h3⟩ := h
  exact ⟨cur, h1, h2, fun i j hi hj => by rw [← he i j hi hj]; exact h3 i j hi hj⟩
theorem tab_made' {w' : World} {base g e N sz : Nat} {xs : List Value} (h : w'.ownsRow base e sz (.slice (some ⟨g, 0, none⟩) N N) N xs) (c : Nat → Nat → Value) : Tab w' g e N sz 0 c := by
  rcases h.2 with ⟨h', _⟩ | ⟨g', cap, cur, h', _, hg, _, _, hcs, htake⟩
  · simp at h'
  · simp only [Value.slice.injEq, Option.some.injEq, Addr.mk.injEq, and_true, true_and] at h'
    obtain ⟨e1, e2⟩ := h'
    rw [← e1] at hg
    exact ⟨cur, hg, by rw [hcs, ← e2], fun i j hi => by omega⟩
/-- The cells of a projection. -/
def pjC (ps : List PJ) (i j : Nat) : Value := if j = 0 then .int .i64 (ps.getD i pj0).d.1 else if j = 1 then .int .i64 (ps.getD i pj0).d.2 else .slice (some ⟨(ps.getD i pj0).gb, 0, none⟩) (ps.getD i pj0).nb (ps.getD i pj0).cb
/-- What is left of one bin. -/
def resZ (n : Nat) (ps : List PJ) (zb : Nat → Nat → Int × Int) (z : Nat → Int × Int) (i j : Nat) : Int × Int := subZ (zb i j) (accZ (ixN n (ps.getD i pj0).d) z (n * n) j)
/-- The first k projections of what is left. -/
structure RestAt (w : World) (g s n N k : Nat) (ps ps' : List PJ) (zr : Nat → Nat → Int × Int) : Prop where
  len : ps'.length = k
  tab : Tab w g 40 N 3 k (pjC ps')
  row : ∀ i, i < k → Row w (ps'.getD i pj0).gb (ps'.getD i pj0).nb (ps'.getD i pj0).b
  far : ∀ i, i < k → g < (ps'.getD i pj0).gb
  ok : ∀ i, i < k → (ps'.getD i pj0).d = (ps.getD i pj0).d ∧ (ps'.getD i pj0).nb = (ps.getD i pj0).nb ∧ (ps'.getD i pj0).cb = (ps.getD i pj0).nb ∧ ∀ j, j < (ps.getD i pj0).nb → DC s ((ps'.getD i pj0).b j) (zr i j)
theorem getD_old {ps : List PJ} {p : PJ} {i : Nat} (h : i < ps.length) : (ps ++ [p]).getD i pj0 = ps.getD i pj0 := by simp [List.getD_eq_getElem?_getD, List.getElem?_append_left h]
theorem getD_new {ps : List PJ} {p : PJ} : (ps ++ [p]).getD ps.length pj0 = p := by simp [List.getD_eq_getElem?_getD]
theorem RestAt.keep {w w' : World} {g s n N k : Nat} {ps ps' : List PJ} {zr : Nat → Nat → Int × Int} (h : RestAt w g s n N k ps ps' zr) (hb : Below w.heap.size w w') : RestAt w' g s n N k ps ps' zr :=
  ⟨h.len, tab_keep h.tab (hb.block _ (tab_lt h.tab)), fun i hi => row_keep (h.row i hi) (hb.block _ (row_lt (h.row i hi))), h.far, h.ok⟩
/-- One more. -/
theorem RestAt.next {w : World} {g s n N k : Nat} {ps ps' : List PJ} {zr : Nat → Nat → Int × Int} (h : RestAt w g s n N k ps ps' zr) (hk : k < N) {d1 d2 : Int} {gb nb : Nat} {b : Nat → Nat × Nat} (hd : (ps.getD k pj0).d = (d1, d2)) (hn : (ps.getD k pj0).nb = nb) (hg : g < gb) (hr : Row w gb nb b) (hz : ∀ j, j < nb → DC s (b j) (zr k j)) :
    RestAt (((w.setCell ⟨g, k * 3, none⟩ (.int .i64 d1)).setCell ⟨g, k * 3 + 1, none⟩ (.int .i64 d2)).setCell ⟨g, k * 3 + 2, none⟩ (.slice (some ⟨gb, 0, none⟩) nb nb)) g s n N (k + 1) ps (ps' ++ [⟨(d1, d2), gb, nb, nb, b⟩]) zr := by
  have hl := h.len
  have old : ∀ i, i < k → (ps' ++ [PJ.mk (d1, d2) gb nb nb b]).getD i pj0 = ps'.getD i pj0 := fun i hi => getD_old (by omega)
  have new : (ps' ++ [PJ.mk (d1, d2) gb nb nb b]).getD k pj0 = PJ.mk (d1, d2) gb nb nb b := by rw [← hl]; exact getD_new
  have keep : ∀ q m f, Row w q m f → g < q → Row (((w.setCell ⟨g, k * 3, none⟩ (.int .i64 d1)).setCell ⟨g, k * 3 + 1, none⟩ (.int .i64 d2)).setCell ⟨g, k * 3 + 2, none⟩ (.slice (some ⟨gb, 0, none⟩) nb nb)) q m f := fun q m f hq hgq => row_keep hq (by
    rw [Below.heap_setCell _ _ _ _ (by show q ≠ g; omega), Below.heap_setCell _ _ _ _ (by show q ≠ g; omega), Below.heap_setCell _ _ _ _ (by show q ≠ g; omega)])
  refine ⟨by simp [hl], tab_three (tab_ext h.tab fun i j hi hj => ?_) hk ?_ ?_ ?_, fun i hi => ?_, fun i hi => ?_, fun i hi => ?_⟩
  · unfold pjC; rw [old i hi]
  · unfold pjC; rw [new, if_pos rfl]
  · unfold pjC; rw [new, if_neg (by decide), if_pos rfl]
  · unfold pjC; rw [new, if_neg (by decide), if_neg (by decide)]
  · by_cases e : i < k
    · rw [old i e]; exact keep _ _ _ (h.row i e) (h.far i e)
    · obtain rfl : i = k := by omega
      rw [new]; exact keep _ _ _ hr hg
  · by_cases e : i < k
    · rw [old i e]; exact h.far i e
    · obtain rfl : i = k := by omega
      rw [new]; exact hg
  · by_cases e : i < k
    · rw [old i e]; exact h.ok i e
    · obtain rfl : i = k := by omega
      rw [new, hd, hn]
      exact ⟨rfl, rfl, rfl, hz⟩
theorem subZ_sm {a b : Int × Int} {A B : Nat} (ha : Sm A a) (hb : Sm B b) : Sm (A + B) (subZ a b) := by
  have a1 := ha.1
  have a2 := ha.2
  have b1 := hb.1
  have b2 := hb.2
  unfold subZ
  exact ⟨by dsimp only; omega, by dsimp only; omega⟩
set_option maxRecDepth 100000 in
set_option maxHeartbeats 3200000 in
theorem restsOk {s n gc cc gq cq B C : Nat} {ps : List PJ} {zb : Nat → Nat → Int × Int} {f : Nat → Nat × Nat} {z : Nat → Int × Int} (h1 : 1 ≤ n) (h2 : n ≤ 64) (hs : s ≤ 1074) (hps : ps.length ≤ 64) (hZ : BinsZ s n ps zb B) (hC : B + 4096 * C < 2 ^ 53) (hcc : n * n ≤ cc) (w : World) (hA : PJAt w gq ps) (hR : Row w gc (n * n) f) (hz : ∀ k, k < n * n → DC s (f k) (z k) ∧ Sm C (z k)) :
    Calls (barP Tryz.prog) 14 #[gridV n gc cc, .slice (some ⟨gq, 0, none⟩) ps.length cq] w fun e w' => ∃ g ps', e = .returned (.slice (some ⟨g, 0, none⟩) ps.length ps.length) ∧ RestAt w' g s n ps.length ps.length ps ps' (resZ n ps zb z) ∧ w.heap.size ≤ g ∧ Below w.heap.size w w' := by
  obtain ⟨i0, hi0, hz0, hz1, hz2⟩ := info_parts infoProj
  have HA := hide hA
  have HR := hide hR
  have HZ := hide hZ
  have Hz := hide hz
  have hgcl := row_lt hR
  clear hA hR hZ hz
  obtain ⟨N, hN⟩ : ∃ N, ps.length = N := ⟨_, rfl⟩
  rw [hN] at hps ⊢
  have hNh := hide hN
  clear hN
  have y0 := (Below.refl w.heap.size w).alloc (Nat.le_refl _) (.cells #[.int .i64 n, .slice (some ⟨gc, 0, none⟩) (n * n : Nat) cc] 27)
  have x0 := World.alloc_heap_new w (.cells #[.int .i64 n, .slice (some ⟨gc, 0, none⟩) (n * n : Nat) cc] 27)
  have z0 : (w.alloc (.cells #[.int .i64 n, .slice (some ⟨gc, 0, none⟩) (n * n : Nat) cc] 27)).heap.size = w.heap.size + 1 := World.size_alloc _ _
  have Y0 := hide y0
  have X0 := hide x0
  clear y0 x0
  unfold gridV
  go_enter Bar.func14, Bar.ntmps14
  go_wp2_with (first
    | (at_make; refine wpList_make_full _ rfl (.tmp 12) (.tmp 12) 31 rfl w.heap.size 40 i0 (.agg #[.int .i64 0, .int .i64 0, .slice none 0 0]) 3 Bar.underlying31 hi0 hz0 hz1 .i64 .i64 N N N rfl rfl rfl rfl ?c1 ?c2 ?c3 ?_))
  case c1 => rw [hz2]; omega
  case c2 => unfold maxLen; omega
  case c3 => omega
  intro w1 hown hgr
  generalize w.alloc (.cells #[.int .i64 n, .slice (some ⟨gc, 0, none⟩) (n * n : Nat) cc] 27) = w0 at *
  have T1 := hide (tab_made' hown (pjC []))
  have hb1 := grown_below hgr
  have Y1 := hide ((unhide Y0).trans (hb1.mono (unhide Y0).size))
  have X1 := hide ((hb1.block w.heap.size (by omega)).trans (unhide X0))
  clear hown hgr hi0 hz0 hz1 hz2 hb1 Y0 X0
  generalize hG : w.heap.size + 1 = G at *
  go_wp2_with fail
  go_loopw [16] (fun kv wr => ∃ k : Nat, k ≤ N ∧ kv = .int .i64 k ∧ Hid (∃ ps', RestAt wr G s n N k ps ps' (resZ n ps zb z)) ∧ Hid (Below w.heap.size w wr) ∧ Hid (wr.heap[w.heap.size]? = some (.cells #[.int .i64 n, .slice (some ⟨gc, 0, none⟩) (n * n : Nat) cc] 27 (0, 0)))) (fun kv _ => N - (intOf kv).toNat)
  case atStart => exact ⟨0, Nat.zero_le _, rfl, ⟨[], rfl, unhide T1, fun i hi => by omega, fun i hi => by omega, fun i hi => by omega⟩, Y1, X1⟩
  case round =>
    clear T1 Y1 X1
    obtain ⟨k, hk, rfl, hT, hB, hX⟩ := hrel
    by_cases c : k < N
    · have q3 : ((k : Int) < (N : Int)) = True := by simp; omega
      have hkl : k < ps.length := by rw [unhide hNh]; exact c
      obtain ⟨c1, c2, c3⟩ := ((unhide HA).below (unhide hB)).cells k hkl
      have hrow := ((unhide HA).below (unhide hB)).bins k hkl
      obtain ⟨⟨p1, p2, p3, p4⟩, hbz⟩ := unhide HZ k hkl
      have kS := hide (fun (W : World) (hb : Below wr.heap.size wr W) => sumsOk (s := s) (n := n) (gc := gc) (cc := cc) (C := C) (f := f) (z := z) h1 h2 hs p1 p2 (by omega) hcc W (row_below (row_below (unhide HR) (unhide hB) hgcl) hb (Nat.lt_of_lt_of_le hgcl (unhide hB).size)) (unhide Hz))
      have hzr : Hid (∀ j, resZ n ps zb z k j = subZ (zb k j) (accZ (ixN n (ps.getD k pj0).d) z (n * n) j)) := fun j => rfl
      have hac : Hid (∀ j, Sm (4096 * C) (accZ (ixN n (ps.getD k pj0).d) z (n * n) j)) := fun j => (accZ_sm (fun i hi => (unhide Hz i hi).2) j).mono (Nat.mul_le_mul_right C (square_le h2))
      have hdk : Hid ((ps.getD k pj0).d = ((ps.getD k pj0).d.1, (ps.getD k pj0).d.2)) := rfl
      have hnk : Hid ((ps.getD k pj0).nb = (ps.getD k pj0).nb) := rfl
      have m1 : k * 3 < N * 3 := by omega
      have hbz := hide hbz
      have HRw := hide hrow
      have hpl := row_lt hrow
      have hgl : G < wr.heap.size := by
        obtain ⟨ps', hT'⟩ := unhide hT
        exact tab_lt hT'.tab
      clear p1 p2 hrow
      unfold gridV dirV at kS
      generalize hpk : ps.getD k pj0 = p at kS hzr hac hbz HRw hpl c1 c2 c3 p3 p4
      rw [hpk] at hdk hnk
      have hpkh := hide hpk
      clear hpk
      obtain ⟨⟨d1, d2⟩, gb, cb, nb, b⟩ := p
      dsimp only at *
      have y1 := (Below.refl wr.heap.size wr).alloc (Nat.le_refl _) (.cells #[.int .i64 d1, .int .i64 d2, .slice (some ⟨gb, 0, none⟩) nb cb] 40)
      have r1 := heap_alloc_new wr (.cells #[.int .i64 d1, .int .i64 d2, .slice (some ⟨gb, 0, none⟩) nb cb] 40)
      have hsz : (wr.alloc (.cells #[.int .i64 d1, .int .i64 d2, .slice (some ⟨gb, 0, none⟩) nb cb] 40)).heap.size = wr.heap.size + 1 := World.size_alloc _ _
      have hs9 := (unhide hB).size
      have hX1 := (y1.block w.heap.size (by omega)).trans (unhide hX)
      have g0 := block_cell hX1 0
      have g1 := block_cell hX1 1
      simp only [List.getElem?_toArray, List.getElem?_cons_zero, List.getElem?_cons_succ] at g0 g1
      have kS1 := hide (unhide kS _ y1)
      have Y1 := hide y1
      have R1 := hide r1
      have HX1 := hide hX1
      clear y1 r1 hX1 kS
      generalize hNN : n * n = NN at *
      go_wp2_with fail
      refine (unhide kS1).mono ?_
      rintro e w2 ⟨g, f', rfl, hRg, hgg, hD, hb2⟩
      have F2 := hide ((unhide Y1).trans (hb2.mono (unhide Y1).size))
      have Rg := hide hRg
      have Dg := hide hD
      have z := fun (j : Nat) (v : Value) (h : (#[Value.int .i64 d1, .int .i64 d2, .slice (some ⟨gb, 0, none⟩) nb cb] : Array Value)[j]? = some v) => (hb2.cell (p := ⟨wr.heap.size, j, none⟩) (by show wr.heap.size < _; omega)).trans ((cell_of_row _ wr.heap.size j _ _ (0, 0) (unhide R1)).trans h)
      have Z0 := hide (z 0 _ rfl)
      have Z1 := hide (z 1 _ rfl)
      have Z2 := hide (z 2 _ rfl)
      have P2 := hide (row_keep (unhide HRw) ((unhide F2).block gb hpl))
      have X2 := hide (((unhide F2).block w.heap.size (by omega)).trans (unhide hX))
      have hgl2 := row_lt hRg
      have hsz2 := hb2.size
      clear z hb2 kS1 Y1 R1 hRg hD HRw g0 g1 HX1
      go_wp2_with fail
      obtain ⟨wo, rfl⟩ : ∃ wo : World, wo = wr := ⟨_, rfl⟩
      go_loopw [30] (fun jv ws => ∃ j : Nat, j ≤ nb ∧ jv = .int .i64 j ∧ Hid (∃ f2, Row ws g nb f2 ∧ ∀ i, i < nb → DC s (f2 i) (if i < j then resZ n ps zb z k i else accZ (ixN n (d1, d2)) z NN i)) ∧ Hid (w2.grownBy ws (some g))) (fun jv _ => nb - (intOf jv).toNat)
      case atStart => exact ⟨0, Nat.zero_le _, rfl, ⟨f', unhide Rg, fun i hi => by rw [if_neg (by omega)]; exact unhide Dg i hi⟩, grown_refl _ _⟩
      case round =>
        obtain ⟨j, hj, rfl, hF, hgw⟩ := hrel
        have kX := cells_kept (unhide X2) (unhide hgw) (by omega)
        have kZ := (unhide hgw).block wo.heap.size (by omega) (by intro e; cases e; omega)
        have e2 := (World.cell?_of_block (a := ⟨wo.heap.size, 2, none⟩) kZ).trans (unhide Z2)
        have e0 := (World.cell?_of_block (a := ⟨wo.heap.size, 0, none⟩) kZ).trans (unhide Z0)
        have e1 := (World.cell?_of_block (a := ⟨wo.heap.size, 1, none⟩) kZ).trans (unhide Z1)
        by_cases cj : j < nb
        · have q4 : ((j : Int) < (nb : Int)) = True := by simp; omega
          obtain ⟨f2, r1, r2⟩ := unhide hF
          have rp := row_grown (unhide P2) (unhide hgw) (by intro e; cases e; omega)
          have d2' := r2 j cj
          rw [if_neg (by omega)] at d2'
          obtain ⟨hd1, hsm1⟩ := unhide hbz j cj
          obtain ⟨t, hto, hdt⟩ := dc_sub hd1 d2' (M := B + 4096 * C) hC (subZ_sm hsm1 (unhide hac j))
          rw [← unhide hzr j] at hdt
          have c1 := row_at r1 cj
          have c2 := row_at rp cj
          have c3 := row_frozen r1 j
          have kSub := hide (fun W => subAny hto W)
          have hr1 := hide r1
          have hr2 := hide r2
          have hdt := hide hdt
          clear r1 r2 rp d2' hd1 hsm1 hto hF kX kZ e0 e1
          generalize f2 j = a at *
          generalize b j = v at *
          obtain ⟨a1, a2⟩ := a
          obtain ⟨v1, v2⟩ := v
          obtain ⟨t1, t2⟩ := t
          unfold cv at c1 c2
          dsimp only at *
          go_wp2_with fail
          refine (unhide kSub _).mono ?_
          rintro e w5 ⟨rfl, rfl⟩
          go_wp2_with fail
          go_roundw
          case measure => simp [intOf]; omega
          case rel =>
            refine ⟨j + 1, cj, by go_num, ⟨_, row_set (unhide hr1) j (t1, t2), fun i hi => ?_⟩, grown_trans (unhide hgw) (grown_set _ _ _ _)⟩
            unfold upd
            by_cases e : i = j
            · subst e
              rw [if_pos rfl, if_pos (by omega)]
              exact unhide hdt
            · rw [if_neg e]
              have h := unhide hr2 i hi
              by_cases e' : i < j
              · rw [if_pos e'] at h
                rw [if_pos (by omega)]
                exact h
              · rw [if_neg e'] at h
                rw [if_neg (by omega)]
                exact h
        · have q4 : ((j : Int) < (nb : Int)) = False := by simp; omega
          obtain rfl : j = nb := by omega
          obtain ⟨ps', hT'⟩ := unhide hT
          obtain ⟨f2, r1, r2⟩ := unhide hF
          have hbo : Below wo.heap.size wo wr := (unhide F2).grown (unhide hgw) (by omega) (fun q hq => by cases hq; omega)
          have hT2 := hT'.keep hbo
          obtain ⟨v0, a0⟩ := tab_any hT2.tab (i := k * 3) (by omega)
          obtain ⟨v1, a1⟩ := tab_any hT2.tab (i := k * 3 + 1) (by omega)
          obtain ⟨v2, a2⟩ := tab_any hT2.tab (i := k * 3 + 2) (by omega)
          have f0 := tab_frozen hT2.tab (k * 3)
          have f1 := tab_frozen hT2.tab (k * 3 + 1)
          have f2' := tab_frozen hT2.tab (k * 3 + 2)
          have hdk' := unhide hpkh
          have HN := hide (hT2.next c (d1 := d1) (d2 := d2) (gb := g) (nb := j) (b := f2) (by rw [hdk']) (by rw [hdk']) (by omega) r1 (fun i hi => by have := r2 i hi; rwa [if_pos hi] at this))
          have HB := hide (((unhide hB).trans (hbo.mono (by omega))))
          have HX := hide kX
          clear hT2 hT' r1 r2 hbo hT hF hdk' kX kZ
          go_wp2_with fail
          refine ⟨⟨k + 1, c, by go_num, ⟨_, unhide HN⟩, (((unhide HB).setCell (by show w.heap.size ≤ G; omega) _).setCell (by show w.heap.size ≤ G; omega) _).setCell (by show w.heap.size ≤ G; omega) _, ?_⟩, by simp [intOf]; omega⟩
          show _ = _
          rw [Below.heap_setCell _ _ _ _ (by show w.heap.size ≠ G; omega), Below.heap_setCell _ _ _ _ (by show w.heap.size ≠ G; omega), Below.heap_setCell _ _ _ _ (by show w.heap.size ≠ G; omega)]
          exact unhide HX
    · have q3 : ((k : Int) < (N : Int)) = False := by simp; omega
      obtain rfl : k = N := by omega
      go_wp2_with fail
      go_ret
      obtain ⟨ps', hT'⟩ := unhide hT
      exact ⟨G, ps', rfl, hT', by omega, unhide hB⟩
end Go.Proofs.YtfnbcpeipoobkaaGreat

namespace Go.Proofs.YtfnbcpeipoobkaaGreat
open Go.RowKit Go.Shelf Fl Ieee
attribute [local go_sem] store_complex

theorem not_nilC (a : Addr) (m c : Nat) (w : World) : (binOp .eql 25 (.slice (some a) m c) (.slice none 0 0)).run (barP Tryz.prog) w = .ok (.bool false) w := by kernel_rfl
def cxL (f : Nat → Nat × Nat) (m : Nat) : List Value := (List.range m).map fun j => .complex .f64 (f j).1 (f j).2
theorem cxL_len (f : Nat → Nat × Nat) (m : Nat) : (cxL f m).length = m := by simp [cxL]
theorem cxL_at (f : Nat → Nat × Nat) {m i : Nat} (h : i < m) : (cxL f m)[i]? = some (cv (f i)) := by simp [cxL, h, cv]
set_option maxRecDepth 100000 in
set_option maxHeartbeats 1600000 in
theorem cloneCx {gs m c : Nat} {f : Nat → Nat × Nat} (h1 : 1 ≤ m) (hm : m ≤ 4096) (w : World) (h : Row w gs m f) :
    Calls (barP Tryz.prog) 13 #[.slice (some ⟨gs, 0, none⟩) m c] w fun e w' => ∃ g' c', e = .returned (.slice (some ⟨g', 0, none⟩) m c') ∧ m ≤ c' ∧ w.heap.size ≤ g' ∧ Row w' g' m f ∧ Below w.heap.size w w' := by
  obtain ⟨i2, hi2, hx0, hx1, hx2⟩ := info_parts infoC
  have hlt := row_lt h
  have y1 := (Below.refl w.heap.size w).alloc (Nat.le_refl _) (.cells #[] 28)
  have R1 := row_keep h (y1.block _ hlt)
  have own0 : (w.alloc (.cells #[] 28)).ownsRow w.heap.size 28 1 (.slice (some ⟨w.heap.size, 0, none⟩) 0 0) 0 [] := ⟨rfl, Or.inr ⟨w.heap.size, 0, #[], rfl, Nat.le_refl _, heap_alloc_new w _, Nat.le_refl _, Nat.zero_le _, rfl, rfl⟩⟩
  have hnews : Hid (∀ j u, (cxL f m)[j]? = some u → (w.alloc (.cells #[] 28)).cell? ((⟨gs, 0, none⟩ : Addr).add j) = some u) := fun j u hu => by
    have hj : j < m := by
      have := (List.getElem?_eq_some_iff.1 hu).1
      rw [cxL_len] at this
      exact this
    rw [addr_add, row_at R1 hj]
    rw [cxL_at _ hj] at hu
    exact hu
  have h1c : Hid (∀ u ∈ cxL f m, u.oneCell' = true) := fun u hu => by
    unfold cxL at hu
    obtain ⟨j, _, rfl⟩ := List.mem_map.1 hu
    rfl
  have hl : (cxL f m).length = m * 1 := by rw [cxL_len, Nat.mul_one]
  have y1 := hide y1
  have hnn := not_nilC ⟨gs, 0, none⟩ m c
  clear h R1
  go_enter Bar.func13, Bar.ntmps13
  go_wp2_with (first
    | (at_builtin; refine wpList_append_own_at _ rfl (.tmp 5) (.tmp 6) 25 rfl w.heap.size 28 i2 (.complex .f64 0 0) 1 16 Bar.underlying25 hi2 hx0 hx1 hx2 rfl (by decide) _ _ _ rfl own0 ⟨gs, 0, none⟩ m c (cxL f m) rfl hl (unhide hnews) (unhide h1c) ?c3 ?c4 ?c5 ?_))
  case c3 => unfold maxLen; omega
  case c4 => omega
  case c5 => rw [World.size_alloc]; omega
  intro v' w5 hown' hgrow _ hat
  have hown2 := hown'
  have hb5 : Below w.heap.size w w5 := (unhide y1).grown hgrow (by rw [World.size_alloc]; omega) (fun q hq => by
    have : q = w.heap.size := by simpa [Value.ownBlock] using hq.symm
    omega)
  rcases hown2.2 with ⟨_, h0⟩ | ⟨g', c', cur, rfl, hg', hh, hn, hc, hs, ht⟩
  · omega
  have R5 : Hid (Row w5 g' m f) := by
    refine ⟨cur, hh, by omega, fun i hi => ?_⟩
    have h3 := cxL_at f hi
    rw [← ht, List.getElem?_take, if_pos (by omega)] at h3
    simpa using h3
  have hmc : m ≤ c' := by omega
  have B5 := hide hb5
  clear hown' hown2 hgrow hat hh hs ht hb5
  go_wp2_with fail
  go_ret
  exact ⟨g', c', rfl, hmc, hg', unhide R5, unhide B5⟩
set_option maxRecDepth 100000 in
set_option maxHeartbeats 1600000 in
theorem restsAll {s n gc cc gq cq B C : Nat} {ps : List PJ} {zb : Nat → Nat → Int × Int} {f : Nat → Nat × Nat} {z : Nat → Int × Int} (h1 : 1 ≤ n) (h2 : n ≤ 64) (hs : s ≤ 1074) (hps : ps.length ≤ 64) (hZ : BinsZ s n ps zb B) (hB : 64 * B < 2 ^ 53) (hC : B + 4096 * C < 2 ^ 53) (hcc : n * n ≤ cc) (w : World) (hA : PJAt w gq ps) (hR : Row w gc (n * n) f) (hz : ∀ k, k < n * n → DC s (f k) (z k) ∧ Sm C (z k)) :
    Calls (barP Tryz.prog) 7 #[gridV n gc cc, .slice (some ⟨gq, 0, none⟩) ps.length cq] w fun e w' => ∃ g ps', e = .returned (.tuple #[.slice (some ⟨g, 0, none⟩) ps.length ps.length, .int .i64 0]) ∧ RestAt w' g s n ps.length ps.length ps ps' (resZ n ps zb z) ∧ w.heap.size ≤ g ∧ Below w.heap.size w w' := by
  have kL := hide (fun (W : World) hA' => flookOk (gc := gc) (cc := cc) (gq := gq) (cq := cq) h1 h2 hs hps hZ hB W hA')
  have kR := hide (fun (W : World) hA' hR' => restsOk (gc := gc) (cc := cc) (gq := gq) (cq := cq) (f := f) (z := z) h1 h2 hs hps hZ hC hcc W hA' hR' hz)
  have HA := hide hA
  have HR := hide hR
  have hgl := row_lt hR
  clear hA hR hZ hz
  have y0 := (Below.refl w.heap.size w).alloc (Nat.le_refl _) (.cells #[.int .i64 n, .slice (some ⟨gc, 0, none⟩) (n * n : Nat) cc] 27)
  have x0 := World.alloc_heap_new w (.cells #[.int .i64 n, .slice (some ⟨gc, 0, none⟩) (n * n : Nat) cc] 27)
  have z0 : (w.alloc (.cells #[.int .i64 n, .slice (some ⟨gc, 0, none⟩) (n * n : Nat) cc] 27)).heap.size = w.heap.size + 1 := World.size_alloc _ _
  have A0 := hide ((unhide HA).below y0)
  have Y0 := hide y0
  have X0 := hide x0
  clear y0 x0
  unfold gridV at *
  generalize hNN : n * n = NN at *
  generalize ps.length = N at *
  go_enter Bar.func7, Bar.ntmps7
  go_wp2_with fail
  generalize w.alloc (.cells #[.int .i64 n, .slice (some ⟨gc, 0, none⟩) (NN : Nat) cc] 27) = w0 at *
  refine (unhide kL w0 (unhide A0)).mono ?_
  rintro e w1 ⟨rfl, hb1⟩
  have Y1 := hide ((unhide Y0).trans (hb1.mono (unhide Y0).size))
  have X1 := (hb1.block w.heap.size (by omega)).trans (unhide X0)
  have k0 := block_cell X1 0
  have k1 := block_cell X1 1
  simp only [List.getElem?_toArray, List.getElem?_cons_zero, List.getElem?_cons_succ] at k0 k1
  have kR1 := hide (unhide kR w1 ((unhide HA).below (unhide Y1)) (row_below (unhide HR) (unhide Y1) hgl))
  clear hb1 kL kR A0 Y0 X0 X1
  go_wp2_with fail
  refine (unhide kR1).mono ?_
  rintro e w2 ⟨g, ps', rfl, hT, hg, hb2⟩
  have Y2 := hide ((unhide Y1).trans (hb2.mono (unhide Y1).size))
  have HT := hide hT
  have hs1 := (unhide Y1).size
  clear hb2 hT kR1
  go_wp2_with fail
  go_ret2
  exact ⟨g, ps', rfl, unhide HT, by omega, unhide Y2⟩
end Go.Proofs.YtfnbcpeipoobkaaGreat

namespace Go.Proofs.YtfnbcpeipoobkaaGreat
open Go.RowKit Go.Shelf Fl Ieee

def upZ (k : Nat) (a : Int × Int) : Int × Int := (a.1 * 2 ^ k, a.2 * 2 ^ k)
theorem upZ_zero (a : Int × Int) : upZ 0 a = a := by simp [upZ]
theorem upZ_upZ (k l : Nat) (a : Int × Int) : upZ k (upZ l a) = upZ (l + k) a := by
  unfold upZ
  rw [Int.mul_assoc, Int.mul_assoc, ← Int.pow_add]
/-- One round. -/
def stepZ (p n : Nat) (ps : List PJ) (zb : Nat → Nat → Int × Int) (z : Nat → Int × Int) (k : Nat) : Int × Int := addZ (upZ p (z k)) (layZ (ixP n ps) (resZ n ps zb z) k ps.length)
/-- The field behind t rounds. -/
def fitZ (p n : Nat) (ps : List PJ) (zb : Nat → Nat → Int × Int) (z : Nat → Int × Int) : Nat → Nat → Int × Int
  | 0 => z
  | t + 1 => stepZ p n ps (fun i j => upZ (p * t) (zb i j)) (fitZ p n ps zb z t)
/-- What is left then. -/
def fitR (p n : Nat) (ps : List PJ) (zb : Nat → Nat → Int × Int) (z : Nat → Int × Int) (t : Nat) : Nat → Nat → Int × Int := resZ n ps (fun i j => upZ (p * t) (zb i j)) (fitZ p n ps zb z t)
theorem Sm.of_up {M k : Nat} {a : Int × Int} (h : Sm M (upZ k a)) : Sm M a := by
  have hp : 1 ≤ 2 ^ k := Nat.one_le_two_pow
  have key : ∀ x : Int, x.natAbs ≤ (x * 2 ^ k).natAbs := fun x => by
    rw [natAbs_scale]
    exact Nat.le_mul_of_pos_right _ hp
  exact ⟨Nat.le_trans (key _) h.1, Nat.le_trans (key _) h.2⟩
/-- How great the numbers are. -/
structure FitBd (p n rounds B C : Nat) (ps : List PJ) (zb : Nat → Nat → Int × Int) (z : Nat → Int × Int) : Prop where
  cell : ∀ t, t ≤ rounds → ∀ k, k < n * n → Sm C (upZ p (fitZ p n ps zb z t k))
  bin : ∀ t, t ≤ rounds → ∀ i, i < ps.length → ∀ j, j < (ps.getD i pj0).nb → Sm B (upZ (p * t) (zb i j))
  rest : ∀ t, t ≤ rounds → ∀ i, i < ps.length → ∀ j, j < (ps.getD i pj0).nb → Sm B (fitR p n ps zb z t i j)
theorem layZ_ext {ix ix' : Nat → Nat → Nat} {zb zb' : Nat → Nat → Int × Int} {i : Nat} : ∀ {k : Nat}, (∀ q, q < k → zb q (ix q i) = zb' q (ix' q i)) → layZ ix zb i k = layZ ix' zb' i k
  | 0, _ => rfl
  | k + 1, h => by
    show addZ (layZ ix zb i k) _ = addZ (layZ ix' zb' i k) _
    rw [layZ_ext fun q hq => h q (by omega), h k (by omega)]
theorem layZ_none {ix : Nat → Nat → Nat} {zb : Nat → Nat → Int × Int} {i : Nat} : ∀ {k : Nat}, (∀ q, q < k → zb q (ix q i) = (0, 0)) → layZ ix zb i k = (0, 0)
  | 0, _ => rfl
  | k + 1, h => by
    show addZ (layZ ix zb i k) _ = _
    rw [layZ_none fun q hq => h q (by omega), h k (by omega)]
    rfl
/-- Where nothing is left the field stays. -/
theorem fitZ_stays {p n t : Nat} {ps : List PJ} {zb : Nat → Nat → Int × Int} {z : Nat → Int × Int} (h1 : 1 ≤ n) (h2 : n ≤ 64) (hP : ∀ i, i < ps.length → PJok n (ps.getD i pj0)) (h : ∀ i, i < ps.length → ∀ j, j < (ps.getD i pj0).nb → fitR p n ps zb z t i j = (0, 0)) {k : Nat} (hk : k < n * n) : fitZ p n ps zb z (t + 1) k = upZ p (fitZ p n ps zb z t k) := by
  show addZ (upZ p (fitZ p n ps zb z t k)) (layZ (ixP n ps) (fitR p n ps zb z t) k ps.length) = _
  rw [layZ_none fun q hq => ?_]
  · unfold addZ
    simp
  · refine h q hq _ ?_
    obtain ⟨p1, p2, _, _⟩ := hP q hq
    have hx := ix_bounds h1 h2 p1 hk
    rw [p2] at hx
    have := hx.2
    unfold ixP ixN
    dsimp only at this
    omega
theorem accZ_lin {ix : Nat → Nat} {a b : Nat → Int × Int} (p : Nat) : ∀ (k j : Nat), accZ ix (fun i => addZ (upZ p (a i)) (b i)) k j = addZ (upZ p (accZ ix a k j)) (accZ ix b k j)
  | 0, j => by simp [accZ, upZ, addZ]
  | k + 1, j => by
    show (if j = ix k then addZ (accZ ix _ k j) _ else accZ ix _ k j) = addZ (upZ p (if j = ix k then addZ (accZ ix a k j) (a k) else accZ ix a k j)) (if j = ix k then addZ (accZ ix b k j) (b k) else accZ ix b k j)
    rw [accZ_lin p k j]
    split
    · unfold addZ upZ
      simp only [Int.add_mul, Prod.mk.injEq]
      omega
    · rfl
/-- What is left behind one round more. -/
theorem fitR_next (p n t : Nat) (ps : List PJ) (zb : Nat → Nat → Int × Int) (z : Nat → Int × Int) (i j : Nat) :
    fitR p n ps zb z (t + 1) i j = subZ (upZ p (fitR p n ps zb z t i j)) (accZ (ixN n (ps.getD i pj0).d) (fun k => layZ (ixP n ps) (fitR p n ps zb z t) k ps.length) (n * n) j) := by
  show subZ (upZ (p * (t + 1)) (zb i j)) (accZ (ixN n (ps.getD i pj0).d) (fun k => addZ (upZ p (fitZ p n ps zb z t k)) (layZ (ixP n ps) (fitR p n ps zb z t) k ps.length)) (n * n) j) = subZ (upZ p (subZ (upZ (p * t) (zb i j)) (accZ (ixN n (ps.getD i pj0).d) (fitZ p n ps zb z t) (n * n) j))) _
  rw [accZ_lin, Nat.mul_add, Nat.mul_one, ← upZ_upZ]
  generalize upZ (p * t) (zb i j) = A
  generalize accZ (ixN n (ps.getD i pj0).d) (fitZ p n ps zb z t) (n * n) j = D
  unfold subZ upZ addZ
  simp only [Int.sub_mul, Prod.mk.injEq]
  omega
end Go.Proofs.YtfnbcpeipoobkaaGreat

namespace Go.Proofs.YtfnbcpeipoobkaaGreat
open Go.RowKit

/-- Pairs of ints, cell by cell. -/
def flat2 (L : List (Int × Int)) : List Value := L.flatMap fun c => [.int .i64 c.1, .int .i64 c.2]
theorem flat2_length (L : List (Int × Int)) : (flat2 L).length = L.length * 2 := by
  unfold flat2
  induction L with
  | nil => rfl
  | cons a l ih => simp [List.flatMap_cons, ih]; omega
theorem flat2_snoc (L : List (Int × Int)) (x y : Int) : flat2 (L ++ [(x, y)]) = flat2 L ++ [.int .i64 x, .int .i64 y] := by
  unfold flat2
  simp [List.flatMap_append]

/-- The cells of a line, of the first k cells of a grid of side n, row by row. -/
def onLine (P Q st bin : Int) (n i : Nat) : Bool := decide (Q * ((i % n : Nat) : Int) - P * ((i / n : Nat) : Int) + st = bin)
def lineL (P Q st bin : Int) (n k : Nat) : List (Int × Int) := ((List.range k).filter (onLine P Q st bin n)).map fun i => (((i % n : Nat) : Int), ((i / n : Nat) : Int))

theorem lineL_zero (P Q st bin : Int) (n : Nat) : lineL P Q st bin n 0 = [] := rfl
theorem place_div {n y x : Nat} (hx : x < n) : (y * n + x) / n = y ∧ (y * n + x) % n = x := by
  constructor
  · rw [Nat.mul_comm, Nat.mul_add_div (by omega), Nat.div_eq_of_lt hx, Nat.add_zero]
  · rw [Nat.mul_comm, Nat.mul_add_mod, Nat.mod_eq_of_lt hx]
theorem lineL_yes {P Q st bin : Int} {n y x : Nat} (hx : x < n) (h : Q * (x : Int) - P * (y : Int) + st = bin) : lineL P Q st bin n (y * n + (x + 1)) = lineL P Q st bin n (y * n + x) ++ [((x : Int), (y : Int))] := by
  obtain ⟨e1, e2⟩ := place_div (y := y) hx
  unfold lineL
  rw [← Nat.add_assoc, List.range_succ, List.filter_append, List.map_append]
  have : onLine P Q st bin n (y * n + x) = true := by
    unfold onLine
    rw [e1, e2]
    exact decide_eq_true h
  have h2 : List.filter (onLine P Q st bin n) [y * n + x] = [y * n + x] := by simp [this]
  rw [h2]
  show _ ++ [((((y * n + x) % n : Nat) : Int), (((y * n + x) / n : Nat) : Int))] = _
  rw [e1, e2]
theorem lineL_no {P Q st bin : Int} {n y x : Nat} (hx : x < n) (h : ¬ Q * (x : Int) - P * (y : Int) + st = bin) : lineL P Q st bin n (y * n + (x + 1)) = lineL P Q st bin n (y * n + x) := by
  obtain ⟨e1, e2⟩ := place_div (y := y) hx
  unfold lineL
  rw [← Nat.add_assoc, List.range_succ, List.filter_append, List.map_append]
  have : onLine P Q st bin n (y * n + x) = false := by
    unfold onLine
    rw [e1, e2]
    exact decide_eq_false h
  simp [this]
theorem lineL_len (P Q st bin : Int) (n k : Nat) : (lineL P Q st bin n k).length ≤ k := by
  unfold lineL
  rw [List.length_map]
  exact Nat.le_trans (List.length_filter_le _ _) (by simp)

def lineS (n : Int) (a : Int × Int) (bin : Int) : List (Int × Int) × Int :=
  if (binsS n a).2 ≠ 0 then ([], (binsS n a).2) else if bin < 0 ∨ (binsS n a).1 ≤ bin then ([], 1) else (lineL a.1 a.2 (startS n a) bin n.toNat (n.toNat * n.toNat), 0)

theorem owns_below {w w' : World} {base : Nat} {e : TypeId} {size : Nat} {v : Value} {n : Nat} {xs : List Value} (h : w.ownsRow base e size v n xs) (hb : Below w.heap.size w w') : w'.ownsRow base e size v n xs := by
  have hg : w.grownBy w' none := ⟨hb.os, hb.tape, hb.output, hb.size, fun k hk _ => hb.block k hk⟩
  by_cases c : v.ownBlock = none
  · exact h.kept hg (Or.inl c)
  · exact h.kept hg (Or.inr c)

theorem infoCell : ((barP Tryz.prog).info? 79).map (fun i => (i.zero, i.size, i.bytes)) = some (some (.agg #[.int .i64 0, .int .i64 0]), 2, 16) := by kernel_rfl
theorem info_parts {e : TypeId} {z : Value} {s b : Nat} (h : ((barP Tryz.prog).info? e).map (fun i => (i.zero, i.size, i.bytes)) = some (some z, s, b)) : ∃ i, (barP Tryz.prog).info? e = some i ∧ i.zero = some z ∧ i.size = s ∧ i.bytes = b := by
  cases hq : (barP Tryz.prog).info? e with
  | none => rw [hq] at h; cases h
  | some i =>
    rw [hq] at h
    simp at h
    exact ⟨i, rfl, h.1, h.2.1, h.2.2⟩
theorem news_two (w : World) (x y : Value) (t : TypeId) : ∀ j u, [x, y][j]? = some u → (w.alloc (.cells #[x, y] t)).cell? ((⟨w.heap.size, 0, none⟩ : Addr).add j) = some u := by
  intro j u hj
  rw [addr_add]
  match j, hj with
  | 0, hj => simp at hj; subst hj; simp [go_sem]
  | 1, hj => simp at hj; subst hj; simp [go_sem]

end Go.Proofs.YtfnbcpeipoobkaaGreat
