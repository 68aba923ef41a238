/- The landed linesOf: the lines of projections that were looked at. -/
import Derived.Test.YthbghcebcahlnaaM23
import Derived.Test.YthbghcebcahlnaaM24
namespace Go.Proofs.Ythbghcebcahlnaa
open Go.RowKit

/-- A projection in memory, its bins as bits and as whole numbers. -/
structure PD where
  d : Int × Int
  gb : Nat
  cb : Nat
  nb : Nat
  z : Nat → Nat × Nat
  iz : Nat → Int
def p0 : PD := ⟨(0, 0), 0, 0, 0, fun _ => (0, 0), fun _ => 0⟩
structure ProjsAt (w : World) (gq : Nat) (ps : List PD) : Prop where
  lt : gq < w.heap.size
  cells : ∀ i, i < ps.length → w.cell? ⟨gq, i * 3, none⟩ = some (.int .i64 (ps.getD i p0).d.1) ∧ w.cell? ⟨gq, i * 3 + 1, none⟩ = some (.int .i64 (ps.getD i p0).d.2) ∧ w.cell? ⟨gq, i * 3 + 2, none⟩ = some (.slice (some ⟨(ps.getD i p0).gb, 0, none⟩) (ps.getD i p0).nb (ps.getD i p0).cb)
  bins : ∀ i, i < ps.length → VRow w 39 (ps.getD i p0).gb (ps.getD i p0).nb (fun j => .complex .f64 ((ps.getD i p0).z j).1 ((ps.getD i p0).z j).2)
theorem ProjsAt.below {w w' : World} {gq : Nat} {ps : List PD} (h : ProjsAt w gq ps) (hb : Below w.heap.size w w') : ProjsAt w' gq ps :=
  ⟨Nat.lt_of_lt_of_le h.lt hb.size, fun i hi => ⟨(hb.cell (p := ⟨gq, i * 3, none⟩) h.lt).trans (h.cells i hi).1, (hb.cell (p := ⟨gq, i * 3 + 1, none⟩) h.lt).trans (h.cells i hi).2.1, (hb.cell (p := ⟨gq, i * 3 + 2, none⟩) h.lt).trans (h.cells i hi).2.2⟩,
    fun i hi => vrow_keep (h.bins i hi) (hb.block _ (vrow_lt (h.bins i hi)))⟩

/-- Where the cells of a line stand. -/
def cellsS (n : Int) (d : Int × Int) (j : Nat) : List (Int × Int) := (lineS n d (j : Int)).1
def placesS (n : Int) (d : Int × Int) (j : Nat) : List Nat := (cellsS n d j).map fun c => (c.2 * n + c.1).toNat
def pairS (n : Int) (p : PD) (j : Nat) : List Nat × Int := (placesS n p.d j, p.iz j)
def allS' (n : Int) (p : PD) : List (List Nat × Int) := (List.range p.nb).map (pairS n p)
/-- What is there behind so many projections and so many bins of the next. -/
def lk (n : Int) (ps : List PD) (i j : Nat) : List (List Nat × Int) := (ps.take i).flatMap (allS' n) ++ (List.range j).map (pairS n (ps.getD i p0))
theorem lk_bin (n : Int) (ps : List PD) (i j : Nat) : lk n ps i (j + 1) = lk n ps i j ++ [pairS n (ps.getD i p0) j] := by
  unfold lk
  rw [List.range_succ, List.map_append, List.append_assoc]
  rfl
theorem lk_next (n : Int) (ps : List PD) {i : Nat} (hi : i < ps.length) : lk n ps (i + 1) 0 = lk n ps i (ps.getD i p0).nb := by
  unfold lk
  rw [List.take_add_one, List.flatMap_append]
  have e : ps[i]? = some (ps.getD i p0) := by rw [List.getD_eq_getElem?_getD, List.getElem?_eq_getElem hi]; rfl
  rw [e]
  simp [allS']

def pr (l : LineD) : List Nat × Int := (l.P, l.b)
def flatL (ls : List LineD) : List Value := ls.flatMap fun l => [placesV l.gp l.cp l.P, .int .i64 l.b]
theorem flatL_snoc (ls : List LineD) (l : LineD) : flatL (ls ++ [l]) = flatL ls ++ [placesV l.gp l.cp l.P, .int .i64 l.b] := by simp [flatL]

/-- The lines so far. -/
structure LN (base : Nat) (w : World) (v : Value) (ls : List LineD) : Prop where
  own : w.ownsRow base 94 2 v ls.length (flatL ls)
  rows : ∀ l, l ∈ ls → PRow w l.gp l.P ∧ base ≤ l.gp ∧ v.ownBlock ≠ some l.gp

theorem own_stay {w w' : World} {base : Nat} {e : TypeId} {size n : Nat} {v : Value} {xs : List Value} (h : w.ownsRow base e size v n xs) (hk : ∀ b, v.ownBlock = some b → w'.heap[b]? = w.heap[b]?) : w'.ownsRow base e size v n xs := by
  refine ⟨h.1, ?_⟩
  rcases h.2 with hn | ⟨g, cap, cur, rfl, hb, hg, rest⟩
  · exact .inl hn
  · exact .inr ⟨g, cap, cur, rfl, hb, (hk g rfl).trans hg, rest⟩
theorem LN.below {base : Nat} {w w' : World} {v : Value} {ls : List LineD} (h : LN base w v ls) (hb : Below w.heap.size w w') : LN base w' v ls :=
  ⟨own_stay h.own (fun b hv => hb.block b (h.own.lt b hv).2), fun l hl => ⟨vrow_keep (h.rows l hl).1 (hb.block _ (vrow_lt (h.rows l hl).1)), (h.rows l hl).2⟩⟩
theorem LN.push {base : Nat} {w w' : World} {v v' : Value} {ls : List LineD} {l : LineD} (h : LN base w v ls) (hl : PRow w l.gp l.P) (hb : base ≤ l.gp) (hne : v.ownBlock ≠ some l.gp)
    (hown : w'.ownsRow base 94 2 v' (ls.length + 1) (flatL ls ++ [placesV l.gp l.cp l.P, .int .i64 l.b])) (hg : w.grownBy w' v.ownBlock) (hat : v'.ownBlock = v.ownBlock ∨ v'.ownBlock = some w.heap.size) : LN base w' v' (ls ++ [l]) := by
  have kp : ∀ g, g < w.heap.size → v.ownBlock ≠ some g → w'.heap[g]? = w.heap[g]? := fun g h1 h2 => hg.block g h1 (fun e => h2 e.symm)
  have nw : ∀ g, g < w.heap.size → v.ownBlock ≠ some g → v'.ownBlock ≠ some g := fun g h1 h2 e => by
    rcases hat with ha | ha
    · exact h2 (ha ▸ e)
    · rw [ha] at e
      have : w.heap.size = g := by simpa using e
      omega
  refine ⟨by rw [flatL_snoc, List.length_append]; exact hown, fun x hx => ?_⟩
  rcases List.mem_append.1 hx with hx | hx
  · obtain ⟨r1, r2, r3⟩ := h.rows x hx
    exact ⟨vrow_keep r1 (kp _ (vrow_lt r1) r3), r2, nw _ (vrow_lt r1) r3⟩
  · have : x = l := by simpa using hx
    subst this
    exact ⟨vrow_keep hl (kp _ (vrow_lt hl) hne), hb, nw _ (vrow_lt hl) hne⟩

theorem infoLine : ((barP Try.prog).info? 94).map (fun i => (i.zero, i.size, i.bytes)) = some (some (.agg #[.slice none 0 0, .int .i64 0]), 2, 32) := by kernel_rfl

/-- What is asked of the numbers: all by kernel reckoning at one input. -/
structure Sound (n : Nat) (ps : List PD) : Prop where
  n16 : n ≤ 16
  few : ps.length ≤ 64
  bins : ∀ i, i < ps.length → (ps.getD i p0).nb ≤ 512 ∧ Dir64 (ps.getD i p0).d
  size : ∀ i j, i < ps.length → j < (ps.getD i p0).nb → (cellsS n (ps.getD i p0).d j).length ≤ 256
  cell : ∀ i j k, i < ps.length → j < (ps.getD i p0).nb → k < (cellsS n (ps.getD i p0).d j).length →
    wrap64 (wrap64 (((cellsS n (ps.getD i p0).d j).getD k (0, 0)).2 * (n : Int)) + ((cellsS n (ps.getD i p0).d j).getD k (0, 0)).1) = (((placesS n (ps.getD i p0).d j).getD k 0 : Nat) : Int)
  conv : ∀ i j, i < ps.length → j < (ps.getD i p0).nb → ∀ W : World, (convert 38 3 (.float .f64 ((ps.getD i p0).z j).1)).run (barP Try.prog) W = .ok (.int .i64 ((ps.getD i p0).iz j)) W

theorem placesS_len (n : Int) (d : Int × Int) (j : Nat) : (placesS n d j).length = (cellsS n d j).length := by simp [placesS]

set_option maxRecDepth 100000 in
set_option maxHeartbeats 6400000 in
theorem linesOk {n gq cq : Nat} {ps : List PD} (hS : Sound n ps) (w : World) (h : ProjsAt w gq ps) :
    Calls (barP Try.prog) 21 #[.int .i64 n, .slice (some ⟨gq, 0, none⟩) ps.length cq] w fun e w' => ∃ v ls, e = .returned v ∧ LN w.heap.size w' v ls ∧ ls.map pr = lk n ps ps.length 0 ∧ Below w.heap.size w w' := by
  obtain ⟨i0, hi0, hz0, hz1, hz2⟩ := info_parts infoLine
  have H := hide h
  have HS := hide hS
  have hn := hS.n16
  have hf := hS.few
  clear h hS
  go_enter Bar.func21, Bar.ntmps21
  go_wp2_with fail
  go_loopw [5, 17] (fun v kv wr => ∃ (i : Nat) (ls : List LineD), i ≤ ps.length ∧ ls.length ≤ i * 512 ∧ kv = .int .i64 i ∧ Hid (LN w.heap.size wr v ls) ∧ Hid (ls.map pr = lk n ps i 0) ∧ Hid (Below w.heap.size w wr)) (fun _ kv _ => ps.length - (intOf kv).toNat)
  case atStart => exact ⟨0, [], Nat.zero_le _, Nat.zero_le _, rfl, ⟨World.ownsRow_nil _ _ _ _, fun l hl => by cases hl⟩, rfl, Below.refl _ _⟩
  case round =>
    obtain ⟨i, ls, hi, hll, rfl, hN, hM, hB⟩ := hrel
    by_cases c : i < ps.length
    · have q1 : ((i : Int) < (ps.length : Int)) = True := by simp; omega
      have A2 := (unhide H).below (unhide hB)
      obtain ⟨c1, c2, c3⟩ := A2.cells i c
      obtain ⟨nb1, h64⟩ := (unhide HS).bins i c
      have hsz := hide (fun j => (unhide HS).size i j c)
      have hcl := hide (fun j k => (unhide HS).cell i j k c)
      have hcv := hide (fun j => (unhide HS).conv i j c)
      have hb1 := hide ((unhide H).bins i c)
      have hln := hide (lk_next n ps c)
      have LKn := hide (show ∀ j, lk n ps i (j + 1) = lk n ps i j ++ [pairS n (ps.getD i p0) j] from lk_bin n ps i)
      generalize ps.getD i p0 = p at *
      obtain ⟨⟨d1, d2⟩, gb, cb, nb, z, iz⟩ := p
      dsimp only at *
      have y1 := (Below.refl wr.heap.size wr).alloc (Nat.le_refl _) (.cells #[.int .i64 d1, .int .i64 d2, .slice (some ⟨gb, 0, none⟩) nb cb] 49)
      have r1 := heap_alloc_new wr (.cells #[.int .i64 d1, .int .i64 d2, .slice (some ⟨gb, 0, none⟩) nb cb] 49)
      have N1 := hide ((unhide hN).below y1)
      have nv1 : Hid (u5.ownBlock ≠ some wr.heap.size) := fun e => by have := ((unhide hN).own.lt _ e).2; omega
      have B1 := hide ((unhide hB).trans (y1.mono (unhide hB).size))
      have R1 := hide r1
      clear A2 hN hB r1 y1
      go_wp2_with fail
      clear c1 c2 c3
      generalize wr.alloc (.cells #[.int .i64 d1, .int .i64 d2, .slice (some ⟨gb, 0, none⟩) nb cb] 49) = w1 at *
      generalize hpd : wr.heap.size = pd at *
      go_loopw [5, 24] (fun v kv wx => ∃ (j : Nat) (ls' : List LineD), j ≤ nb ∧ ls'.length ≤ i * 512 + j ∧ kv = .int .i64 j ∧ Hid (LN w.heap.size wx v ls') ∧ Hid (ls'.map pr = lk n ps i j) ∧ Hid (Below w.heap.size w wx) ∧ Hid (wx.heap[pd]? = some (.cells #[.int .i64 d1, .int .i64 d2, .slice (some ⟨gb, 0, none⟩) nb cb] 49 (0, 0))) ∧ Hid (v.ownBlock ≠ some pd)) (fun _ kv _ => nb - (intOf kv).toNat)
      case atStart => exact ⟨0, ls, Nat.zero_le _, hll, rfl, N1, hM, B1, R1, nv1⟩
      case round =>
        clear N1 hM B1 R1 nv1
        obtain ⟨j, ls', hj, hlj, rfl, hN, hM, hB, hR, hv⟩ := hrel
        by_cases cj : j < nb
        · have q2 : ((j : Int) < (nb : Int)) = True := by simp; omega
          have c1 := cell_of_row _ pd 0 _ _ (0, 0) (unhide hR)
          have c2 := cell_of_row _ pd 1 _ _ (0, 0) (unhide hR)
          simp only [List.getElem?_toArray, List.getElem?_cons_zero, List.getElem?_cons_succ] at c1 c2
          have c3 := vrow_at (vrow_keep (unhide hb1) ((unhide hB).block _ (vrow_lt (unhide hb1)))) cj
          have hpl : pd < wr.heap.size := (Array.getElem?_eq_some_iff.1 (unhide hR)).1
          have kL := hide (dirLine (n := (n : Int)) (bin := (j : Int)) h64 wr)
          have hm := unhide hsz j cj
          have cv := hide (unhide hcv j cj)
          have cl := hide (fun k => unhide hcl j k cj)
          have LKj : Hid (lk n ps i (j + 1) = lk n ps i j ++ [(placesS n (d1, d2) j, iz j)]) := unhide LKn j
          unfold dirV at kL
          dsimp only at c3 kL
          generalize z j = zj at *
          obtain ⟨zr, zi⟩ := zj
          dsimp only at *
          go_wp2_with fail
          refine (unhide kL).mono ?_
          rintro e w2 ⟨v2, rfl, hP, hb2⟩
          replace hP : Pairs2 w2 v2 (cellsS n (d1, d2) j) := hP
          obtain ⟨a2, cap2, g2, o2, rfl, p1, p2⟩ := hP
          have N2 := hide ((unhide hN).below hb2)
          have B2 := hide ((unhide hB).trans (hb2.mono (unhide hB).size))
          have R2 := hide ((hb2.block _ hpl).trans (unhide hR))
          have P1 := hide p1
          have P2 : Hid (∀ k, k < (cellsS n (d1, d2) j).length → w2.cell? ⟨g2, o2 + k * 2, none⟩ = some (.int .i64 ((cellsS n (d1, d2) j).getD k (0, 0)).1) ∧ w2.cell? ⟨g2, o2 + k * 2 + 1, none⟩ = some (.int .i64 ((cellsS n (d1, d2) j).getD k (0, 0)).2)) := fun k hk => p2 k _ (by rw [List.getD_eq_getElem?_getD, List.getElem?_eq_getElem hk]; rfl)
          have hpl2 := Nat.lt_of_lt_of_le hpl hb2.size
          have pl := hide (placesS_len n (d1, d2) j)
          clear hb2 kL hN hB hR p1 p2 c1 c2 c3 hpl
          generalize placesS n (d1, d2) j = PL at *
          generalize cellsS n (d1, d2) j = CL at *
          generalize CL.length = m at *
          have hmk := run_make_row' (P := (barP Try.prog)) 35 3 (.int .i64 0) 8 Bar.underlying35 infoInt rfl .i64 .i64 m (by omega) (by omega)
          have V3 : Hid (VRow (w2.alloc (.cells (madeCells #[.int .i64 0] m) 3)) 3 w2.heap.size m (fun _ => .int .i64 0)) := vrow_new w2 (.int .i64 0) m 3
          have B3 : Hid (Below w2.heap.size w2 (w2.alloc (.cells (madeCells #[.int .i64 0] m) 3))) := (Below.refl _ _).alloc (Nat.le_refl _) _
          go_wp2_with fail
          clear hmk
          go_loopw [42] (fun kv wy => ∃ k : Nat, k ≤ m ∧ kv = .int .i64 k ∧ Hid (VRow wy 3 w2.heap.size m (fun t => .int .i64 (if t < k then ((PL.getD t 0 : Nat) : Int) else 0))) ∧ Hid (Below w2.heap.size w2 wy)) (fun kv _ => m - (intOf kv).toNat)
          case atStart => exact ⟨0, Nat.zero_le _, rfl, vrow_ext (unhide V3) (fun t _ => by simp), B3⟩
          case round =>
            clear V3 B3
            obtain ⟨k, hk, rfl, hV, hB4⟩ := hrel
            by_cases ck : k < m
            · have q3 : ((k : Int) < (m : Int)) = True := by simp; omega
              obtain ⟨rfl, l2⟩ := unhide P1 (by omega)
              obtain ⟨e1, e2⟩ := unhide P2 k ck
              have e1 := ((unhide hB4).cell (p := ⟨g2, o2 + k * 2, none⟩) l2).trans e1
              have e2 := ((unhide hB4).cell (p := ⟨g2, o2 + k * 2 + 1, none⟩) l2).trans e2
              have e3 := unhide cl k ck
              generalize (CL.getD k (0, 0)) = cc at *
              obtain ⟨cx, cy⟩ := cc
              dsimp only at *
              have y4 := (Below.refl wr.heap.size wr).alloc (Nat.le_refl _) (.cells #[.int .i64 cx, .int .i64 cy] 92)
              have V4 := vrow_keep (unhide hV) (y4.block _ (vrow_lt (unhide hV)))
              have k3 := vrow_at V4 ck
              rw [if_neg (Nat.lt_irrefl k)] at k3
              have f3 := vrow_frozen V4 k
              have V5 : Hid (VRow ((wr.alloc (.cells #[.int .i64 cx, .int .i64 cy] 92)).setCell ⟨w2.heap.size, k, none⟩ (.int .i64 ((PL.getD k 0 : Nat) : Int))) 3 w2.heap.size m (fun t => .int .i64 (if t < k + 1 then ((PL.getD t 0 : Nat) : Int) else 0))) := vrow_ext (vrow_set V4 k _) fun t _ => by
                by_cases e : t = k
                · subst e
                  rw [if_pos rfl, if_pos (by omega)]
                · rw [if_neg e]
                  by_cases e2 : t < k
                  · rw [if_pos e2, if_pos (by omega)]
                  · rw [if_neg e2, if_neg (by omega)]
              have B5 := hide (((unhide hB4).trans (y4.mono (unhide hB4).size)).setCell (p := ⟨w2.heap.size, k, none⟩) (Nat.le_refl _) (.int .i64 ((PL.getD k 0 : Nat) : Int)))
              clear V4 y4 hV hB4
              generalize ((PL.getD k 0 : Nat) : Int) = pv at *
              go_wp2_with fail
              exact ⟨⟨k + 1, by omega, by go_num, V5, B5⟩, by simp [intOf]; omega⟩
            · have q3 : ((k : Int) < (m : Int)) = False := by simp; omega
              obtain rfl : k = m := by omega
              have V6 : Hid (PRow wr w2.heap.size PL) := by
                show VRow _ _ _ _ _
                rw [unhide pl]
                exact vrow_ext (unhide hV) fun t ht => by rw [if_pos ht]
              have hB5 := unhide hB4
              have N6 := hide ((unhide N2).below hB5)
              have B6 := hide ((unhide B2).trans (hB5.mono (unhide B2).size))
              have R6 := hide ((hB5.block _ hpl2).trans (unhide R2))
              have hs6 := hB5.size
              have nv6 : Hid (u5.ownBlock ≠ some w2.heap.size) := fun e => by have := ((unhide N2).own.lt _ e).2; omega
              have cv := unhide cv
              have y7 := (Below.refl wr.heap.size wr).alloc (Nat.le_refl _) (.cells #[.slice (some ⟨w2.heap.size, 0, none⟩) k k, .int .i64 (iz j)] 94)
              have N7 := hide ((unhide N6).below y7)
              have V7 := hide (vrow_keep (unhide V6) (y7.block _ (vrow_lt (unhide V6))))
              have B7 := hide ((unhide B6).trans (y7.mono (unhide B6).size))
              have R7 := hide ((y7.block _ (by omega)).trans (unhide R6))
              have own7 := (unhide N7).own
              have hsz7 : wr.heap.size + 1 = (wr.alloc (.cells #[.slice (some ⟨w2.heap.size, 0, none⟩) k k, .int .i64 (iz j)] 94)).heap.size := by rw [World.size_alloc]
              have hbs : w.heap.size ≤ wr.heap.size := (unhide B6).size
              have hbw2 : w.heap.size ≤ w2.heap.size := (unhide B2).size
              have hi64 : i * 512 ≤ 64 * 512 := Nat.mul_le_mul_right _ (by omega)
              clear hV hB4 hB5 y7 N6 V6 B6 R6 N2 B2 R2 P1 P2 cl
              go_wp2_with (first
                | (at_builtin; refine wpList_append_own_at _ rfl (.tmp 58) (.tmp 64) 59 rfl w.heap.size 94 i0 (.agg #[.slice none 0 0, .int .i64 0]) 2 32 Bar.underlying59 hi0 hz0 hz1 hz2 rfl (by decide) _ _ _ rfl own7 ⟨wr.heap.size, 0, none⟩ 1 1 [.slice (some ⟨w2.heap.size, 0, none⟩) k k, .int .i64 (iz j)] rfl rfl (news_two _ _ _ _) ?c2 ?c3 ?c4 ?c5 ?_))
              case c2 => intro u hu; simp at hu; rcases hu with rfl | rfl <;> rfl
              case c3 => unfold maxLen; omega
              case c4 => omega
              case c5 => rw [World.size_alloc]; omega
              intro v' w6 hown' hgrow _ hat
              have hln8 : PL.length = k := unhide pl
              have N8 : Hid (LN w.heap.size w6 v' (ls' ++ [⟨w2.heap.size, k, PL, iz j⟩])) := by
                refine (unhide N7).push (l := ⟨w2.heap.size, k, PL, iz j⟩) (unhide V7) hbw2 (unhide nv6) ?_ hgrow hat
                show w6.ownsRow _ _ _ _ _ (flatL ls' ++ [.slice (some ⟨w2.heap.size, 0, none⟩) PL.length k, .int .i64 (iz j)])
                rw [hln8]
                exact hown'
              have B8 := hide ((unhide B7).grown hgrow (by omega) (fun x hx => ((unhide N7).own.lt x hx).1))
              have R8 := hide ((hgrow.block pd (by omega) (fun e => unhide hv e.symm)).trans (unhide R7))
              have hv8 : Hid (v'.ownBlock ≠ some pd) := fun e => by
                rcases hat with ha | ha
                · exact unhide hv (ha ▸ e)
                · rw [ha] at e
                  have : (wr.alloc (.cells #[.slice (some ⟨w2.heap.size, 0, none⟩) k k, .int .i64 (iz j)] 94)).heap.size = pd := by simpa using e
                  omega
              have M8 : Hid ((ls' ++ [(⟨w2.heap.size, k, PL, iz j⟩ : LineD)]).map pr = lk n ps i (j + 1)) := by
                show _ = _
                rw [unhide LKj, List.map_append, unhide hM]
                rfl
              clear hown' hgrow hat own7 N7 V7 B7 R7 hv hM
              go_wp2_with fail
              exact ⟨⟨j + 1, _, by omega, by rw [List.length_append]; simp; omega, by go_num, N8, M8, B8, R8, hv8⟩, by simp [intOf]; omega⟩
        · have q2 : ((j : Int) < (nb : Int)) = False := by simp; omega
          obtain rfl : j = nb := by omega
          have hM2 : Hid (ls'.map pr = lk n ps (i + 1) 0) := (unhide hM).trans (unhide hln).symm
          go_wp2_with fail
          exact ⟨⟨i + 1, ls', by omega, by omega, by go_num, hN, hM2, hB⟩, by simp [intOf]; omega⟩
    · have q1 : ((i : Int) < (ps.length : Int)) = False := by simp; omega
      obtain rfl : i = ps.length := by omega
      go_wp2_with fail
      go_ret
      exact ⟨_, ls, rfl, unhide hN, unhide hM, unhide hB⟩
end Go.Proofs.Ythbghcebcahlnaa
