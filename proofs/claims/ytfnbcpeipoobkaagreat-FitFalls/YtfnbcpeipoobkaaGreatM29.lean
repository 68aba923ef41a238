/- The sums of a field's cells on the lines of a direction. One round: the rests laid back, scaled, added to the field. How great a complex number is: cx.Size; the greater of two floats. How great bins are: fit.Great. -/
import Derived.Test.YtfnbcpeipoobkaaGreatM28
import Derived.WalkMore
namespace Go.Proofs.YtfnbcpeipoobkaaGreat
open Go.RowKit Go.Shelf Fl Ieee
attribute [local go_sem] store_complex

theorem accZ_sm {ix : Nat → Nat} {v : Nat → Int × Int} {C k : Nat} (h : ∀ i, i < k → Sm C (v i)) (j : Nat) : Sm (k * C) (accZ ix v k j) := by
  have := accM_le (ix := ix) (v := v) (M := C) (l := List.range k) (fun i hi => ⟨(h i (List.mem_range.1 hi)).1, (h i (List.mem_range.1 hi)).2⟩) j
  rw [accM_range, List.length_range] at this
  exact this
theorem cells_kept {A B : World} {b G : Nat} {cs : Array Value} {t : TypeId} (h : A.heap[b]? = some (.cells cs t (0, 0))) (hg : A.grownBy B (some G)) (hb : b ≠ G) : B.heap[b]? = some (.cells cs t (0, 0)) :=
  (hg.block b (Array.getElem?_eq_some_iff.1 h).1 (by intro e; cases e; exact hb rfl)).trans h
theorem line_bounds {n y : Nat} {d1 d2 st : Int} (h1 : 1 ≤ n) (h2 : n ≤ 64) (ho : okD d1 d2 = true) (hst : startS n (d1, d2) = st) (hy : y < n) : (-1024 ≤ d1 * (y : Int) ∧ d1 * (y : Int) ≤ 1024) ∧ st.natAbs ≤ 1024 := by
  obtain ⟨b1, b2, b3⟩ := okD_bounds ho
  have s1 := small16 (p := d1) (x := y) b1 (by omega)
  have s2 := start_le (a := (d1, d2)) h1 h2 ho
  rw [hst] at s2
  exact ⟨by omega, s2⟩
/-- The next cell, on its line. -/
theorem acc_next {s n nb k C : Nat} {ix : Nat → Nat} {f' f : Nat → Nat × Nat} {z : Nat → Int × Int} (hk : k < n * n) (h4 : n * n ≤ 4096) (hC : 4096 * C < 2 ^ 53) (hz : ∀ k, k < n * n → DC s (f k) (z k) ∧ Sm C (z k)) (hf : ∀ j, j < nb → DC s (f' j) (accZ ix z k j)) (hb : ix k < nb) :
    ∃ t, AddTo (f' (ix k)) (f k) t ∧ ∀ j, j < nb → DC s (if j = ix k then t else f' j) (accZ ix z (k + 1) j) := by
  have hle : (k + 1) * C ≤ 4096 * C := Nat.mul_le_mul_right C (by omega)
  have hsm := accZ_sm (ix := ix) (v := z) (k := k + 1) (fun i hi => (hz i (by omega)).2) (ix k)
  have e : accZ ix z (k + 1) (ix k) = addZ (accZ ix z k (ix k)) (z k) := by
    show (if ix k = ix k then _ else _) = _
    rw [if_pos rfl]
  rw [e] at hsm
  obtain ⟨t, ht, hd⟩ := dc_add (hf (ix k) hb) (hz k hk).1 (M := (k + 1) * C) (Nat.lt_of_le_of_lt hle hC) hsm
  refine ⟨t, ht, fun j hj => ?_⟩
  show DC s _ (if j = ix k then _ else _)
  split
  · rename_i e
    rw [e]
    exact hd
  · exact hf j hj
set_option maxRecDepth 100000 in
set_option maxHeartbeats 3200000 in
theorem sumsOk {s n gc cc nb C : Nat} {d : Int × Int} {f : Nat → Nat × Nat} {z : Nat → Int × Int} (h1 : 1 ≤ n) (h2 : n ≤ 64) (hs : s ≤ 1074) (ho : okD d.1 d.2 = true) (hb : binsS n d = ((nb : Int), 0)) (hC : 4096 * C < 2 ^ 53) (hcc : n * n ≤ cc) (w : World) (hR : Row w gc (n * n) f) (hz : ∀ k, k < n * n → DC s (f k) (z k) ∧ Sm C (z k)) :
    Calls (barP Tryz.prog) 28 #[gridV n gc cc, dirV d, .int .i64 nb] w fun e w' => ∃ g f', e = .returned (.slice (some ⟨g, 0, none⟩) nb nb) ∧ Row w' g nb f' ∧ w.heap.size ≤ g ∧ (∀ j, j < nb → DC s (f' j) (accZ (ixN n d) z (n * n) j)) ∧ Below w.heap.size w w' := by
  obtain ⟨i0, hi0, hz0, hz1, hz2⟩ := info_parts infoC
  obtain ⟨B, hB, hB1, hB2⟩ := bins_le h1 h2 ho
  have hnb : nb ≤ 2017 := by
    rw [hb] at hB
    have := congrArg Prod.fst hB
    dsimp only at this
    omega
  clear hB hB1 hB2
  have kI := hide (fun W => dirIndex (n := n) (x := 0) (y := 0) (dir64_ok ho) W)
  rw [index_first h1 hb] at kI
  unfold gridV dirV at *
  have HR := hide hR
  have HZ := hide hz
  have HO := hide ho
  have HB := hide hb
  clear hR hz ho hb
  obtain ⟨d1, d2⟩ := d
  generalize hst : startS n (d1, d2) = st at *
  dsimp only at *
  have y0 := ((Below.refl w.heap.size w).alloc (Nat.le_refl _) (.cells #[.int .i64 n, .slice (some ⟨gc, 0, none⟩) (n * n : Nat) cc] 27)).alloc (by rw [World.size_alloc]; omega) (.cells #[.int .i64 d1, .int .i64 d2] 38)
  have x0 : ((w.alloc (.cells #[.int .i64 n, .slice (some ⟨gc, 0, none⟩) (n * n : Nat) cc] 27)).alloc (.cells #[.int .i64 d1, .int .i64 d2] 38)).heap[w.heap.size]? = _ := (Below.heap_alloc _ _ _ (by simp)).trans (World.alloc_heap_new w (.cells #[.int .i64 n, .slice (some ⟨gc, 0, none⟩) (n * n : Nat) cc] 27))
  have x1 := World.alloc_heap_new (w.alloc (.cells #[.int .i64 n, .slice (some ⟨gc, 0, none⟩) (n * n : Nat) cc] 27)) (.cells #[.int .i64 d1, .int .i64 d2] 38)
  rw [World.size_alloc] at x1
  have z0 : ((w.alloc (.cells #[.int .i64 n, .slice (some ⟨gc, 0, none⟩) (n * n : Nat) cc] 27)).alloc (.cells #[.int .i64 d1, .int .i64 d2] 38)).heap.size = w.heap.size + 2 := by simp
  have Y0 := hide y0
  have X0 := hide x0
  have X1 := hide x1
  clear y0 x0 x1
  go_enter Bar.func28, Bar.ntmps28
  go_wp2_with (first
    | (at_make; refine wpList_make_full _ rfl (.tmp 14) (.tmp 14) 25 rfl w.heap.size 28 i0 (.complex .f64 0 0) 1 Bar.underlying25 hi0 hz0 hz1 .i64 .i64 nb nb nb rfl rfl rfl rfl ?c1 ?c2 ?c3 ?_))
  case c1 => rw [hz2]; omega
  case c2 => unfold maxLen; omega
  case c3 => omega
  intro w1 hown hgr
  generalize (w.alloc (.cells #[.int .i64 n, .slice (some ⟨gc, 0, none⟩) (n * n : Nat) cc] 27)).alloc (.cells #[.int .i64 d1, .int .i64 d2] 38) = w0 at *
  have hb1 := grown_below hgr
  have R1 := hide (row_owned hown (fun _ => (0, 0)) (fun i hi => zeros_get nb i hi))
  have z1 := row_lt (unhide R1)
  have Y1 := hide ((unhide Y0).trans (hb1.mono (unhide Y0).size))
  have X2 := (hb1.block w.heap.size (by omega)).trans (unhide X0)
  have X3 := (hb1.block (w.heap.size + 1) (by omega)).trans (unhide X1)
  have c0 := block_cell X2 0
  have c1 := block_cell X2 1
  have c2 := block_cell X3 0
  have c3 := block_cell X3 1
  simp only [List.getElem?_toArray, List.getElem?_cons_zero, List.getElem?_cons_succ] at c0 c1 c2 c3
  have X2 := hide X2
  have X3 := hide X3
  clear hown hgr hb1 Y0 X0 X1 hi0 hz0 hz1 hz2
  go_wp2_with fail
  refine (unhide kI w1).mono ?_
  rintro e w2 ⟨rfl, hb2⟩
  have R2 := hide (row_keep (unhide R1) (hb2.block _ z1))
  have z2 := row_lt (unhide R2)
  have Y2 := hide ((unhide Y1).trans (hb2.mono (unhide Y1).size))
  have X4 := hide ((hb2.block w.heap.size (by omega)).trans (unhide X2))
  have X5 := hide ((hb2.block (w.heap.size + 1) (by omega)).trans (unhide X3))
  have k0 := block_cell (unhide X4) 0
  have k1 := block_cell (unhide X4) 1
  have k2 := block_cell (unhide X5) 0
  have k3 := block_cell (unhide X5) 1
  simp only [List.getElem?_toArray, List.getElem?_cons_zero, List.getElem?_cons_succ] at k0 k1 k2 k3
  clear hb2 R1 Y1 X2 X3 c0 c1 c2 c3 kI
  go_wp2_with fail
  have hsq := square_le h2
  clear k0 k1 k2 k3
  generalize hG : w.heap.size + 2 = G at *
  go_loopw [25] (fun kv wr => ∃ y : Nat, y ≤ n ∧ kv = .int .i64 y ∧ Hid (∃ f', Row wr G nb f' ∧ ∀ j, j < nb → DC s (f' j) (accZ (ixN n (d1, d2)) z (y * n) j)) ∧ Hid (w2.grownBy wr (some G))) (fun kv _ => n - (intOf kv).toNat)
  case atStart => exact ⟨0, Nat.zero_le _, rfl, ⟨_, unhide R2, fun j _ => by rw [Nat.zero_mul]; exact dc_zero hs⟩, grown_refl _ _⟩
  case round =>
    obtain ⟨y, hy, rfl, hF, hgr⟩ := hrel
    by_cases c : y < n
    · have q1 : ((y : Int) < (n : Int)) = True := by simp; omega
      have g0 := cells_kept (unhide X4) (unhide hgr) (by omega)
      have g1 := cells_kept (unhide X5) (unhide hgr) (by omega)
      have k0 := block_cell g0 0
      have k1 := block_cell g0 1
      have k2 := block_cell g1 0
      have k3 := block_cell g1 1
      simp only [List.getElem?_toArray, List.getElem?_cons_zero, List.getElem?_cons_succ] at k0 k1 k2 k3
      obtain ⟨p1, p2⟩ := line_bounds h1 h2 (unhide HO) hst c
      obtain ⟨b1, b2, b3⟩ := okD_bounds (unhide HO)
      obtain ⟨lo, hlo⟩ : ∃ lo, y * n = lo := ⟨_, rfl⟩
      have m1 : (y : Int) * (n : Int) = (lo : Int) := by rw [← hlo, Int.natCast_mul]
      have m2 : ((y : Int) + 1) * (n : Int) = ((lo + n : Nat) : Int) := by rw [Int.add_mul, m1, Int.one_mul, Int.natCast_add]
      have m3 : lo + n ≤ n * n := by
        have := Nat.mul_le_mul_right n (show y + 1 ≤ n by omega)
        rw [Nat.add_mul, Nat.one_mul, hlo] at this
        exact this
      have hY := hide (rfl : d1 * (y : Int) = d1 * (y : Int))
      have hloh := hide hlo
      rw [hlo] at hF
      clear hlo
      generalize hYp : d1 * (y : Int) = Yp at *
      have hYp := hide hYp
      generalize hNN : n * n = NN at *
      have hNNh := hide hNN
      clear hY
      go_wp2_with fail
      clear k0 k1 k2 k3 g0 g1
      rw [show lo + n - lo = n by omega]
      go_loopw [11, 47] (fun bv kv ws => ∃ (x : Nat) (bx : Int), x ≤ n ∧ kv = .int .i64 x ∧ bv = .int .i64 bx ∧ Hid (bx = st - Yp + d2 * (x : Int)) ∧ Hid (∃ f', Row ws G nb f' ∧ ∀ j, j < nb → DC s (f' j) (accZ (ixN n (d1, d2)) z (lo + x) j)) ∧ Hid (w2.grownBy ws (some G))) (fun _ kv _ => n - (intOf kv).toNat)
      case atStart => exact ⟨0, st - Yp, Nat.zero_le _, rfl, rfl, by show st - Yp = st - Yp + d2 * ((0 : Nat) : Int); simp, hF, hgr⟩
      case round =>
        clear hF hgr
        obtain ⟨x, bx, hx, rfl, rfl, hbx, hF, hgr⟩ := hrel
        by_cases cx : x < n
        · have q2 : ((x : Int) < (n : Int)) = True := by simp; omega
          obtain ⟨_, _, _, a4, a5⟩ := at_place h1 h2 (unhide HO) (unhide HB) cx c
          dsimp only at a4 a5
          have hix : bx = ((ixN n (d1, d2) (y * n + x) : Nat) : Int) := by
            have w1' := small16 (p := d2) (x := x) (by omega) (by omega)
            rw [hst, unhide hYp, wrapF (by omega) (by omega)] at a4
            rw [← a4, unhide hbx]
            omega
          rw [unhide hloh] at hix a5
          obtain ⟨f', r1, r2⟩ := unhide hF
          obtain ⟨t, hto, hnx⟩ := acc_next (n := n) (k := lo + x) (by rw [unhide hNNh]; omega) (by rw [unhide hNNh]; exact hsq) hC (by rw [unhide hNNh]; exact unhide HZ) r2 a5
          have hnx := hide hnx
          have kAdd := hide (fun W => addAny hto W)
          have rg := row_grown (row_below (unhide HR) (unhide Y2) (row_lt (unhide HR))) (unhide hgr) (by intro e; cases e; have := row_lt (unhide HR); omega)
          have e1 := row_at rg (i := lo + x) (by omega)
          have e2 := row_at r1 a5
          have e3 := row_frozen r1 (ixN n (d1, d2) (lo + x))
          have hr1 := hide r1
          have g1 := cells_kept (unhide X5) (unhide hgr) (by omega)
          have k3 := block_cell g1 1
          simp only [List.getElem?_toArray, List.getElem?_cons_zero, List.getElem?_cons_succ] at k3
          clear rg r1 r2 hto a4 hF g1
          subst hix
          generalize hbi : ixN n (d1, d2) (lo + x) = bi at *
          have hbi := hide hbi
          have q3 : ((bi : Int) < (nb : Int)) = True := by simp; omega
          generalize hfb : f' bi = fb at *
          generalize f (lo + x) = fv at *
          obtain ⟨t1, t2⟩ := t
          obtain ⟨fb1, fb2⟩ := fb
          obtain ⟨fv1, fv2⟩ := fv
          unfold cv at e1 e2
          dsimp only at *
          go_wp2_with fail
          refine (unhide kAdd _).mono ?_
          rintro e w5 ⟨rfl, rfl⟩
          have k4 : (w5.setCell ⟨G, bi, none⟩ (.complex .f64 t1 t2)).cell? ⟨w.heap.size + 1, 1, none⟩ = some (.int .i64 d2) := (World.cell?_of_block (Below.heap_setCell _ _ _ _ (by show w.heap.size + 1 ≠ G; omega))).trans k3
          clear k3
          go_wp2_with fail
          go_roundw
          case measure => simp [intOf]; omega
          refine ⟨x + 1, (bi : Int) + d2, cx, by go_num, rfl, ?_, ⟨_, row_set (unhide hr1) bi (t1, t2), fun j hj => ?_⟩, grown_trans (unhide hgr) (grown_set _ _ _ _)⟩
          · show (bi : Int) + d2 = st - Yp + d2 * ((x + 1 : Nat) : Int)
            rw [unhide hbx, Int.natCast_add, Int.mul_add]
            omega
          · have h := unhide hnx j hj
            unfold upd
            rw [← Nat.add_assoc]
            exact h
        · have q2 : ((x : Int) < (n : Int)) = False := by simp; omega
          obtain rfl : x = n := by omega
          go_wp2_with fail
          refine ⟨⟨y + 1, c, by go_num, ?_, hgr⟩, by simp [intOf]; omega⟩
          rw [Nat.add_mul, Nat.one_mul, unhide hloh]
          exact hF
    · have q1 : ((y : Int) < (n : Int)) = False := by simp; omega
      obtain rfl : y = n := by omega
      go_wp2_with fail
      go_ret
      obtain ⟨f', r1, r2⟩ := unhide hF
      exact ⟨G, f', rfl, r1, by omega, r2, (unhide Y2).grown (unhide hgr) (unhide Y2).size fun k e => by cases e; omega⟩
end Go.Proofs.YtfnbcpeipoobkaaGreat

namespace Go.Proofs.YtfnbcpeipoobkaaGreat
open Go.RowKit Go.Shelf Fl Ieee
attribute [local go_sem] store_complex

section
variable {F : Fence} {n : Nat} {P : Program}
/-- A region that draws its order: the first m leave a world of one kind, in whatever order; the rest come one behind the other. -/
theorem region_cls {id : Nat} {Q : Exit → Act → World → Prop} {a : Act} {w : World} {l : List Oper} (m : Nat) (C : World → Prop) (h0 : C w.drew) (hm : P.follows .mixedOrders = true) (hB : regionOk l.toArray m = true)
    (h : wpQuietIn F n P l.toArray C (fun a' => ∀ w', C w' → wpListIn F n P l.toArray Q (l.drop m) a' w') (l.take m) a) : (Code.region id l.toArray true).wpIn F n P Q a w := by
  simp only [regionOk, Bool.and_eq_true, decide_eq_true_eq, List.size_toArray] at hB
  obtain ⟨⟨⟨⟨⟨h1, h2⟩, h3⟩, h4⟩, h5⟩, h6⟩ := hB
  have hlen : (l.take m).length = m := by rw [List.length_take]; omega
  have hdl : (l.drop m).length = l.length - m := List.length_drop
  refine wpIn_region_any hm ?_
  have key := anyT_lex (F := F) (n := n) (P := P) (ops := l.toArray) (md := .any) (C := C) (m := m) (T := fun a' => ∀ w', C w' → wpListIn F n P l.toArray Q (l.drop m) a' w') h2 (l.take m) 0 (Array.replicate l.length false) a
    (by omega) (fun j hj => by simp [List.getElem?_take]; omega) (fun i hi => by omega) (by rw [hlen]; exact h4) h
  rw [hlen] at key
  have fin := any_of_T (Q := Q) (g := l.length - m) h3 h5 (H := Array.replicate m true ++ Array.replicate (l.length - m) false) (by simp; omega)
    (fun i hi => by simp [Array.getElem?_append, hi]) (fun i hi hi2 => by
      simp at hi2
      have : ¬ i < m := by omega
      simp [Array.getElem?_append, this]
      have : i - m < l.length - m := by omega
      simp [this]) (by simp; omega)
    (fun a w' hC hT => by
      have := any_of_rest (md := .any) (Q := Q) (l.drop m) m (Array.replicate m true ++ Array.replicate (l.length - m) false) a w' (fun j hj => by simp [List.getElem?_drop]) (by rw [hdl]; exact h6) (hT w' hC)
      rw [hdl] at this
      exact this) m (Array.replicate l.length false) a { w with drawn := w.drawn + 1 } (by simp) (fun i _ hi => by simp at hi; simp [hi]) h0 key
  rw [show m + (l.length - m) = l.length by omega] at fin
  simpa using fin
variable {ops : Array Oper} {C : World → Prop} {Q : Act → Prop} {a : Act} {o : Oper} {rest : List Oper}
/-- An operation that yields one value in all worlds of the kind. -/
theorem quiet_val (v : Value) (hall : ∀ f, F.fn f) (hw : Region.wanted o (yielded ops a.tmps) = true) (hrun : ∀ w, C w → (execOp a.eval o).run P w = .ok (.value v) w) (h : wpQuietIn F n P ops C Q rest (a.put o.dst v)) : wpQuietIn F n P ops C Q (o :: rest) a := by
  refine ⟨fun _ _ f _ => hall f, ?_⟩
  rw [if_pos hw]
  refine ⟨v, fun w hC => ?_, h⟩
  unfold Oper.quietAtIn
  rw [hrun w hC]
  exact ⟨rfl, rfl⟩
/-- A call that hands back one value, and a world of the kind. -/
theorem quiet_call (v : Value) {f : FuncId} {args : Array Value} (hall : ∀ f, F.fn f) (hn : F.depth.isSome = true → 1 ≤ n) (hw : Region.wanted o (yielded ops a.tmps) = true) (hrun : ∀ w, C w → (execOp a.eval o).run P w = .ok (.enter f args) w) (hc : ∀ w, C w → CallsIn F (n - 1) P f args w fun e w' => e = .returned v ∧ C w') (h : wpQuietIn F n P ops C Q rest (a.put o.dst v)) : wpQuietIn F n P ops C Q (o :: rest) a := by
  refine ⟨fun _ _ f _ => hall f, ?_⟩
  rw [if_pos hw]
  refine ⟨v, fun w hC => ?_, h⟩
  unfold Oper.quietAtIn
  rw [hrun w hC]
  exact ⟨rfl, hn, hc w hC⟩
end
set_option maxRecDepth 100000 in
set_option maxHeartbeats 3200000 in
theorem advanceOk {s p n gc cc gq cq B C : Nat} {ps : List PJ} {zb : Nat → Nat → Int × Int} {f : Nat → Nat × Nat} {z : Nat → Int × Int} (h1 : 1 ≤ n) (h2 : n ≤ 64) (hp : p ≤ 12) (hs : s + p ≤ 1074) (hps : ps.length ≤ 64) (hZ : BinsZ s n ps zb B) (hB : 64 * B < 2 ^ 53) (hC : C + 64 * B < 2 ^ 53) (w : World) (hA : PJAt w gq ps) (hR : Row w gc (n * n) f) (hz : ∀ k, k < n * n → DC (s + p) (f k) (z k) ∧ Sm C (z k)) :
    Calls (barP Tryz.prog) 16 #[gridV n gc cc, .slice (some ⟨gq, 0, none⟩) ps.length cq, .int .i64 p] w fun e w' => (∃ u, e = .returned u) ∧ (∃ f', Row w' gc (n * n) f' ∧ ∀ k, k < n * n → DC (s + p) (f' k) (addZ (z k) (layZ (ixP n ps) zb k ps.length))) ∧ w.grownBy w' (some gc) := by
  have kA := hide (fun (W : World) hA' => allOk (gq := gq) (cq := cq) h1 h2 (by omega) hps hZ hB W hA')
  have HA := hide hA
  have HR := hide hR
  have HZ := hide hz
  have HB : Hid (∀ q k, q < ps.length → k < n * n → Sm B (zb q (ixP n ps q k))) := fun q k hq hk => by
    obtain ⟨hok, hbz⟩ := hZ q hq
    have hx := ix_bounds h1 h2 hok.1 hk
    rw [hok.2.1] at hx
    refine (hbz _ ?_).2
    unfold ixP ixN
    have := hx.2
    dsimp only at this
    omega
  unfold gridV
  go_enter Bar.func16, Bar.ntmps16
  have y0 := (Below.refl w.heap.size w).alloc (Nat.le_refl _) (.cells #[.int .i64 n, .slice (some ⟨gc, 0, none⟩) (n * n : Nat) cc] 27)
  have x0 := World.alloc_heap_new w (.cells #[.int .i64 n, .slice (some ⟨gc, 0, none⟩) (n * n : Nat) cc] 27)
  have z0 : (w.alloc (.cells #[.int .i64 n, .slice (some ⟨gc, 0, none⟩) (n * n : Nat) cc] 27)).heap.size = w.heap.size + 1 := World.size_alloc _ _
  have A0 := hide ((unhide HA).below y0)
  have Y0 := hide y0
  have X0 := hide x0
  clear y0 x0 HA hA hR hz hZ
  go_wp2_with fail
  generalize w.alloc (.cells #[.int .i64 n, .slice (some ⟨gc, 0, none⟩) (n * n : Nat) cc] 27) = w0 at *
  refine (unhide kA w0 (unhide A0)).mono ?_
  rintro e w1 ⟨g, fl, rfl, hRl, hg, hD, hb1⟩
  have R1 := hide hRl
  have D1 := hide hD
  have Y1 := hide ((unhide Y0).trans (hb1.mono (unhide Y0).size))
  have X1 := hide ((hb1.block w.heap.size (by omega)).trans (unhide X0))
  have z1 := hb1.size
  have k0 := block_cell (unhide X1) 0
  have k1 := block_cell (unhide X1) 1
  simp only [List.getElem?_toArray, List.getElem?_cons_zero, List.getElem?_cons_succ] at k0 k1
  clear hb1 hRl hD A0 Y0 X0 kA
  go_wp2_with fail
  have y2 := (Below.refl w1.heap.size w1).alloc (Nat.le_refl _) (.cells #[.int .i64 n, .slice (some ⟨g, 0, none⟩) (n * n : Nat) (n * n : Nat)] 27)
  have R2 := hide (row_below (unhide R1) y2 (row_lt (unhide R1)))
  have X2 := hide ((y2.block w.heap.size (by omega)).trans (unhide X1))
  have Y2 := hide ((unhide Y1).trans (y2.mono (by omega)))
  have F2 := hide (row_below (unhide HR) (unhide Y2) (row_lt (unhide HR)))
  have hgc := row_lt (unhide HR)
  clear y2 R1 X1 Y1 k0 k1
  generalize w1.alloc (.cells #[.int .i64 n, .slice (some ⟨g, 0, none⟩) (n * n : Nat) (n * n : Nat)] 27) = w2 at *
  have hsq := square_le h2
  have eNN : (n : Int) * (n : Int) = ((n * n : Nat) : Int) := (Int.natCast_mul n n).symm
  rw [eNN]
  generalize hNN : n * n = NN at *
  have hsm := hide (fun k (hk : k < NN) => layZ_sm (i := k) (B := B) (k := ps.length) (fun q hq => unhide HB q k hq hk))
  go_loopw [20] (fun kv wr => ∃ k : Nat, k ≤ NN ∧ kv = .int .i64 k ∧ Hid (∃ f', Row wr gc NN f' ∧ ∀ i, i < NN → DC (s + p) (f' i) (if i < k then addZ (z i) (layZ (ixP n ps) zb i ps.length) else z i)) ∧ Hid (w2.grownBy wr (some gc))) (fun kv _ => NN - (intOf kv).toNat)
  case atStart => exact ⟨0, Nat.zero_le _, rfl, ⟨f, unhide F2, fun i hi => by rw [if_neg (by omega)]; exact (unhide HZ i hi).1⟩, grown_refl _ _⟩
  case round =>
    obtain ⟨k, hk, rfl, hF, hgr⟩ := hrel
    by_cases c : k < NN
    · have q1 : ((k : Int) < (NN : Int)) = True := by simp; omega
      obtain ⟨f', r1, r2⟩ := unhide hF
      have d1 := r2 k c
      rw [if_neg (by omega)] at d1
      obtain ⟨sc, hsc, kSc⟩ := dc_scale hp (unhide D1 k c) (M := 64 * B) (Nat.lt_trans hB (by decide)) ((unhide hsm k c).mono (Nat.mul_le_mul_right B hps)) hs
      obtain ⟨t, hto, hdt⟩ := dc_add d1 hsc (M := C + 64 * B) hC (by
        have a1 := (unhide HZ k c).2
        have a2 := (unhide hsm k c).mono (Nat.mul_le_mul_right B hps)
        unfold addZ
        exact ⟨by have := a1.1; have := a2.1; dsimp only; omega, by have := a1.2; have := a2.2; dsimp only; omega⟩)
      have g0 := cells_kept (unhide X2) (unhide hgr) (by omega)
      have rl := row_grown (unhide R2) (unhide hgr) (by intro e; cases e; omega)
      have e1 := row_at rl (i := k) c
      have e2 := row_at r1 (i := k) c
      have e3 := row_frozen r1 k
      have e4 := block_cell g0 1
      simp only [List.getElem?_toArray, List.getElem?_cons_zero, List.getElem?_cons_succ] at e4
      have hdt := hide hdt
      have hr1 := hide r1
      have hr2 := hide r2
      rw [show -(p : Int) = IntKind.i64.wrap (-(p : Int)) by rw [IntKind.wrap_i64]; omega] at kSc
      have kSc := hide kSc
      have kAdd := hide (fun W => addAny hto W)
      have hgl := row_lt r1
      have hbl : w.heap.size < wr.heap.size := (Array.getElem?_eq_some_iff.1 g0).1
      clear d1 hsc hto rl g0 r1 r2 hF
      generalize f' k = a at *
      generalize fl k = v at *
      obtain ⟨a1, a2⟩ := a
      obtain ⟨v1, v2⟩ := v
      obtain ⟨sc1, sc2⟩ := sc
      obtain ⟨t1, t2⟩ := t
      unfold cv at e1 e2
      dsimp only at *
      go_wp2_with fail
      have u1 := hide (fun W (hb : Below wr.heap.size wr W) => (hb.cell (p := ⟨w.heap.size, 1, none⟩) (by show w.heap.size < _; omega)).trans e4)
      have u2 := hide (fun W (hb : Below wr.heap.size wr W) => (hb.cell (p := ⟨gc, k, none⟩) (by show gc < _; omega)).trans e2)
      clear e2 e3 e4
      refine (wpIn_wide (n := 3)).1 ?_
      refine region_cls 13 (fun W => Below wr.heap.size wr W) ⟨rfl, rfl, rfl, Nat.le_refl _, fun _ _ => rfl⟩ mixed (by kernel_rfl) ?_
      simp only [List.take_succ_cons, List.take_zero, List.drop_succ_cons, List.drop_zero]
      refine quiet_val (.pointer (some ⟨w.heap.size, 1, none⟩)) (fun _ => trivial) rfl (fun W hW => ?_) ?_
      · go_simp
      refine quiet_val (.slice (some ⟨gc, 0, none⟩) NN cc) (fun _ => trivial) rfl (fun W hW => ?_) ?_
      · have := unhide u1 W hW
        go_simp
      refine quiet_val (.int .i64 k) (fun _ => trivial) rfl (fun W hW => ?_) ?_
      · go_simp
      refine quiet_val (.pointer (some ⟨w.heap.size, 1, none⟩)) (fun _ => trivial) rfl (fun W hW => ?_) ?_
      · go_simp
      refine quiet_val (.slice (some ⟨gc, 0, none⟩) NN cc) (fun _ => trivial) rfl (fun W hW => ?_) ?_
      · have := unhide u1 W hW
        go_simp
      refine quiet_val (.int .i64 k) (fun _ => trivial) rfl (fun W hW => ?_) ?_
      · go_simp
      refine quiet_val (.pointer (some ⟨gc, k, none⟩)) (fun _ => trivial) rfl (fun W hW => ?_) ?_
      · go_simp
      refine quiet_val (.complex .f64 a1 a2) (fun _ => trivial) rfl (fun W hW => ?_) ?_
      · have := unhide u2 W hW
        go_simp
      refine quiet_val (.complex .f64 v1 v2) (fun _ => trivial) rfl (fun W hW => ?_) ?_
      · go_simp
      refine quiet_val (.int .i64 p) (fun _ => trivial) rfl (fun W hW => ?_) ?_
      · go_simp
      refine quiet_val (.int .i64 (IntKind.i64.wrap (-(p : Int)))) (fun _ => trivial) rfl (fun W hW => ?_) ?_
      · go_simp
      refine quiet_call (.complex .f64 sc1 sc2) (f := 34) (args := #[.complex .f64 v1 v2, .int .i64 (IntKind.i64.wrap (-(p : Int)))]) (fun _ => trivial) (by decide) rfl (fun W hW => ?_) (fun W hW => callsIn_wide.2 ((unhide kSc W).mono fun e w' ⟨h8, h9⟩ => ⟨h8, hW.trans (h9.mono hW.size)⟩)) ?_
      · go_simp
      refine quiet_call (.complex .f64 t1 t2) (f := 33) (args := #[.complex .f64 a1 a2, .complex .f64 sc1 sc2]) (fun _ => trivial) (by decide) rfl (fun W hW => ?_) (fun W hW => callsIn_wide.2 ((unhide kAdd W).mono fun e w' ⟨h8, h9⟩ => ⟨h8, by rw [h9]; exact hW⟩)) ?_
      · go_simp
      refine wpQuietIn_nil ?_
      intro w5 hw5
      have r5 := row_below (unhide hr1) hw5 hgl
      have e5 := row_at r5 (i := k) c
      have f5 := row_frozen r5 k
      have r5 := hide r5
      have hgn := hide (grown_trans (unhide hgr) (below_grown (r := some gc) hw5))
      gi_wp2
      go_wp2_with fail
      refine ⟨⟨k + 1, c, by go_num, ⟨upd f' k (t1, t2), row_set (unhide r5) k (t1, t2), fun i hi => ?_⟩, grown_trans (unhide hgn) (grown_set _ _ _ _)⟩, by simp [intOf]; omega⟩
      unfold upd
      by_cases e : i = k
      · subst e
        rw [if_pos rfl, if_pos (by omega)]
        exact unhide hdt
      · rw [if_neg e]
        have h := unhide hr2 i hi
        by_cases e' : i < k
        · rw [if_pos e'] at h
          rw [if_pos (by omega)]
          exact h
        · rw [if_neg e'] at h
          rw [if_neg (by omega)]
          exact h
    · have q1 : ((k : Int) < (NN : Int)) = False := by simp; omega
      obtain rfl : k = NN := by omega
      go_wp2_with fail
      go_end0
      obtain ⟨f', r1, r2⟩ := unhide hF
      rw [hNN]
      exact ⟨⟨_, rfl⟩, ⟨f', r1, fun i hi => by have := r2 i hi; rwa [if_pos hi] at this⟩, grown_trans (below_grown (unhide Y2)) (unhide hgr)⟩
end Go.Proofs.YtfnbcpeipoobkaaGreat

namespace Go.Proofs.YtfnbcpeipoobkaaGreat
open Go.RowKit Go.Shelf Fl Ieee
attribute [local go_sem] store_complex

/-- The greater of two. -/
theorem run_maxF {s a b : Nat} {x y : Int} (ha : DV s a x) (hb : DV s b y) : ∃ r, DV s r (max x y) ∧ ∀ (w : World) (ts : Array TypeId) (t : TypeId), (Builtin.max_ ts t #[.float .f64 a, .float .f64 b]).run (barP Tryz.prog) w = .ok (.float .f64 r) w := by
  have ho : FloatKind.f64.format.order a b = some (compare x y) := dv_order ha hb
  rcases hc : compare x y with _ | _ | _
  · refine ⟨b, ?_, fun w ts t => ?_⟩
    · rw [Int.max_eq_right (Int.le_of_lt (Int.compare_eq_lt.1 hc))]; exact hb
    · rw [hc] at ho
      simp [Builtin.max_, Builtin.max2, go_sem, ho]
  · have e := Int.compare_eq_eq.1 hc
    subst e
    rw [hc] at ho
    refine ⟨if (FloatKind.f64.decode a).neg then b else a, ?_, fun w ts t => ?_⟩
    · rw [Int.max_self]
      split
      · exact hb
      · exact ha
    · simp [Builtin.max_, Builtin.max2, go_sem, ho]
  · refine ⟨a, ?_, fun w ts t => ?_⟩
    · rw [Int.max_eq_left (Int.le_of_lt (Int.compare_eq_gt.1 hc))]; exact ha
    · rw [hc] at ho
      simp [Builtin.max_, Builtin.max2, go_sem, ho]
theorem dv_self {s b : Nat} {x : Int} (h : DV s b x) : FloatKind.f64.format.order b b = some .eq := by
  have : FloatKind.f64.format.order b b = some (compare x x) := dv_order h h
  rw [this, Int.compare_eq_eq.2 rfl]
set_option maxRecDepth 100000 in
set_option maxHeartbeats 800000 in
theorem hasNaNNo {b1 b2 : Nat} (h1 : FloatKind.f64.format.order b1 b1 = some .eq) (h2 : FloatKind.f64.format.order b2 b2 = some .eq) (w : World) :
    Calls (barP Tryz.prog) 67 #[.complex .f64 b1 b2] w fun e w' => e = .returned (.bool false) ∧ w' = w := by
  have k1 := hide (fun W => isNaNNo b1 h1 W)
  have k2 := hide (fun W => isNaNNo b2 h2 W)
  clear h1 h2
  go_enter Bar.func67, Bar.ntmps67
  go_wp2_with fail
  refine (unhide k1 w).mono ?_
  rintro e w1 ⟨rfl, rfl⟩
  go_wp2_with fail
  refine (unhide k2 _).mono ?_
  rintro e w1 ⟨rfl, rfl⟩
  go_wp2_with fail
  go_ret
  exact ⟨rfl, rfl⟩
def szZ (z : Int × Int) : Nat := max z.1.natAbs z.2.natAbs
set_option maxRecDepth 100000 in
set_option maxHeartbeats 800000 in
theorem sizeOk {s : Nat} {b : Nat × Nat} {z : Int × Int} (h : DC s b z) : ∃ r, DV s r (szZ z) ∧ ∀ w : World, Calls (barP Tryz.prog) 30 #[.complex .f64 b.1 b.2] w fun e w' => e = .returned (.float .f64 r) ∧ w' = w := by
  obtain ⟨b1, b2⟩ := b
  obtain ⟨z1, z2⟩ := z
  obtain ⟨r, hr, hrun⟩ := run_maxF (dv_abs h.one) (dv_abs h.two)
  refine ⟨r, by rw [show ((szZ (z1, z2) : Nat) : Int) = max (z1.natAbs : Int) (z2.natAbs : Int) by unfold szZ; dsimp only; omega]; exact hr, fun w => ?_⟩
  have kN := hide (fun W => hasNaNNo (dv_self h.one) (dv_self h.two) W)
  have kA := hide (fun W => absAny b1 W h.lt1)
  have kB := hide (fun W => absAny b2 W h.lt2)
  dsimp only at *
  generalize b1 % 9223372036854775808 = a1 at *
  generalize b2 % 9223372036854775808 = a2 at *
  clear hr h
  go_enter Bar.func30, Bar.ntmps30
  go_wp2_with fail
  refine (unhide kN w).mono ?_
  rintro e w1 ⟨rfl, rfl⟩
  go_wp2_with fail
  refine (unhide kA _).mono ?_
  rintro e w1 ⟨rfl, rfl⟩
  go_wp2_with fail
  refine (unhide kB _).mono ?_
  rintro e w1 ⟨rfl, rfl⟩
  go_wp2_with fail
  go_ret
  exact ⟨rfl, rfl⟩
/-- The greatest of some numbers, and of m. -/
def mxRow (v : Nat → Int × Int) (m : Nat) : Nat → Nat
  | 0 => m
  | j + 1 => max (mxRow v m j) (szZ (v j))
def mxAll (nb : Nat → Nat) (zr : Nat → Nat → Int × Int) : Nat → Nat
  | 0 => 0
  | k + 1 => mxRow (zr k) (mxAll nb zr k) (nb k)
theorem szZ_zero {z : Int × Int} (h : szZ z = 0) : z = (0, 0) := by
  obtain ⟨a, b⟩ := z
  unfold szZ at h
  dsimp only at h
  have h1 : a.natAbs = 0 := by omega
  have h2 : b.natAbs = 0 := by omega
  rw [Int.natAbs_eq_zero.1 h1, Int.natAbs_eq_zero.1 h2]
theorem mxRow_zero {v : Nat → Int × Int} {m : Nat} : ∀ {n : Nat}, mxRow v m n = 0 → m = 0 ∧ ∀ j, j < n → v j = (0, 0)
  | 0, h => ⟨h, fun j hj => by omega⟩
  | n + 1, h => by
    unfold mxRow at h
    obtain ⟨h1, h2⟩ := mxRow_zero (v := v) (m := m) (n := n) (by omega)
    refine ⟨h1, fun j hj => ?_⟩
    by_cases e : j < n
    · exact h2 j e
    · obtain rfl : j = n := by omega
      exact szZ_zero (by omega)
theorem mxAll_zero {nb : Nat → Nat} {zr : Nat → Nat → Int × Int} : ∀ {k : Nat}, mxAll nb zr k = 0 → ∀ i, i < k → ∀ j, j < nb i → zr i j = (0, 0)
  | 0, _, i, hi, _, _ => by omega
  | k + 1, h, i, hi, j, hj => by
    obtain ⟨h1, h2⟩ := mxRow_zero h
    by_cases e : i < k
    · exact mxAll_zero h1 i e j hj
    · obtain rfl : i = k := by omega
      exact h2 j hj
end Go.Proofs.YtfnbcpeipoobkaaGreat

namespace Go.Proofs.YtfnbcpeipoobkaaGreat
open Go.RowKit Go.Shelf Fl Ieee
attribute [local go_sem] store_complex

set_option maxRecDepth 100000 in
set_option maxHeartbeats 3200000 in
theorem greatOk {s gq cq N : Nat} {ps : List PJ} {zr : Nat → Nat → Int × Int} (hs : s ≤ 1074) (hN : ps.length = N) (hps : N ≤ 64) (hnb : ∀ i, i < N → (ps.getD i pj0).nb ≤ 4096) (hZ : ∀ i, i < N → ∀ j, j < (ps.getD i pj0).nb → DC s ((ps.getD i pj0).b j) (zr i j)) (w : World) (hA : PJAt w gq ps) :
    Calls (barP Tryz.prog) 15 #[.slice (some ⟨gq, 0, none⟩) N cq] w fun e w' => (∃ r, e = .returned (.float .f64 r) ∧ DV s r (mxAll (fun i => (ps.getD i pj0).nb) zr N)) ∧ Below w.heap.size w w' := by
  have HA := hide hA
  have HZ := hide hZ
  have HN := hide hnb
  have hNh := hide hN
  clear hA hZ hnb hN
  go_enter Bar.func15, Bar.ntmps15
  go_wp2_with fail
  go_step3
  go_wp2_with fail
  go_step3
  go_wp2_with fail
  go_loopw [3, 10] (fun mv kv wr => ∃ (k m : Nat), k ≤ N ∧ kv = .int .i64 k ∧ mv = .float .f64 m ∧ Hid (DV s m (mxAll (fun i => (ps.getD i pj0).nb) zr k)) ∧ Hid (Below w.heap.size w wr)) (fun _ kv _ => N - (intOf kv).toNat)
  case atStart => exact ⟨0, 0, Nat.zero_le _, rfl, rfl, dv_zero hs, Below.refl _ _⟩
  case round =>
    obtain ⟨k, m, hk, rfl, rfl, hM, hB⟩ := hrel
    by_cases c : k < N
    · have q3 : ((k : Int) < (N : Int)) = True := by simp; omega
      have hkl : k < ps.length := by rw [unhide hNh]; exact c
      obtain ⟨c1, c2, c3⟩ := ((unhide HA).below (unhide hB)).cells k hkl
      have hrow := ((unhide HA).below (unhide hB)).bins k hkl
      have hbz := hide (unhide HZ k c)
      have hb4 := unhide HN k c
      have hmx : Hid (mxAll (fun i => (ps.getD i pj0).nb) zr (k + 1) = mxRow (zr k) (mxAll (fun i => (ps.getD i pj0).nb) zr k) (ps.getD k pj0).nb) := rfl
      have m1 : k * 3 < N * 3 := by omega
      have HRw := hide hrow
      have hpl := row_lt hrow
      have hs9 := (unhide hB).size
      clear hrow
      generalize mxAll (fun i => (ps.getD i pj0).nb) zr k = m0 at *
      generalize hpk : ps.getD k pj0 = p at hbz HRw hpl c1 c2 c3 hb4
      have hpkh := hide hpk
      clear hpk
      obtain ⟨⟨d1, d2⟩, gb, cb, nb, b⟩ := p
      dsimp only at *
      have y1 := (Below.refl wr.heap.size wr).alloc (Nat.le_refl _) (.cells #[.int .i64 d1, .int .i64 d2, .slice (some ⟨gb, 0, none⟩) nb cb] 40)
      have R1 := hide (row_below (unhide HRw) y1 hpl)
      have B1 := hide ((unhide hB).trans (y1.mono hs9))
      have z2 := (cell_of_row _ wr.heap.size 2 _ _ (0, 0) (heap_alloc_new wr (.cells #[.int .i64 d1, .int .i64 d2, .slice (some ⟨gb, 0, none⟩) nb cb] 40)))
      clear y1 HRw
      go_wp2_with fail
      obtain ⟨wo, rfl⟩ : ∃ wo : World, wo = wr := ⟨_, rfl⟩
      generalize wo.alloc (.cells #[.int .i64 d1, .int .i64 d2, .slice (some ⟨gb, 0, none⟩) nb cb] 40) = w1 at *
      go_loopw [3, 17] (fun mv jv ws => ∃ (j mj : Nat), j ≤ nb ∧ jv = .int .i64 j ∧ mv = .float .f64 mj ∧ Hid (DV s mj (mxRow (zr k) m0 j)) ∧ ws = w1) (fun _ jv _ => nb - (intOf jv).toNat)
      case atStart => exact ⟨0, m, Nat.zero_le _, rfl, rfl, hM, rfl⟩
      case round =>
        obtain ⟨j, mj, hj, rfl, rfl, hMj, rfl⟩ := hrel
        by_cases cj : j < nb
        · have q4 : ((j : Int) < (nb : Int)) = True := by simp; omega
          have c4 := row_at (unhide R1) cj
          obtain ⟨sz, hsz, kSz⟩ := sizeOk (unhide hbz j cj)
          obtain ⟨mn, hmn, kMx⟩ := run_maxF (unhide hMj) hsz
          have kNo := hide (fun W => isNaNNo mn (dv_self hmn) W)
          have kSz := hide kSz
          have hmn : Hid (DV s mn (mxRow (zr k) m0 (j + 1))) := by
            rw [show ((mxRow (zr k) m0 (j + 1) : Nat) : Int) = max ((mxRow (zr k) m0 j : Nat) : Int) (szZ (zr k j)) by show ((max (mxRow (zr k) m0 j) (szZ (zr k j)) : Nat) : Int) = _; omega]
            exact hmn
          clear hsz hMj hM
          generalize b j = v at *
          obtain ⟨v1, v2⟩ := v
          unfold cv at c4
          dsimp only at *
          go_wp2_with fail
          refine (unhide kSz _).mono ?_
          rintro e w5 ⟨rfl, rfl⟩
          go_wp2_with fail
          refine (unhide kNo _).mono ?_
          rintro e w6 ⟨rfl, rfl⟩
          go_wp2_with fail
          exact ⟨⟨j + 1, mn, cj, by go_num, rfl, hmn, trivial⟩, by simp [intOf]; omega⟩
        · have q4 : ((j : Int) < (nb : Int)) = False := by simp; omega
          obtain rfl : j = nb := by omega
          go_wp2_with fail
          refine ⟨⟨k + 1, mj, c, by go_num, rfl, ?_, B1⟩, by simp [intOf]; omega⟩
          rw [unhide hmx, unhide hpkh]
          exact hMj
    · have q3 : ((k : Int) < (N : Int)) = False := by simp; omega
      obtain rfl : k = N := by omega
      go_wp2_with fail
      rw [Exit.noGoto_ret]
      go_ret
      exact ⟨⟨m, rfl, unhide hM⟩, unhide hB⟩
end Go.Proofs.YtfnbcpeipoobkaaGreat
