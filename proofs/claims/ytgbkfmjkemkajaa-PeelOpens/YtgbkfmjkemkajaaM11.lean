/- The landed sino.Check of sound projections. The landed Solve: what is done with each bin of a cell. Package grid's own New. The rests of small grids, as sums over the open cells. Pure. All that is no block of the peeling's is left alone. -/
import Derived.Test.YtgbkfmjkemkajaaPV4
import Derived.Test.YtgbkfmjkemkajaaM10
import Derived.Test.YtgbkfmjkemkajaaPYQ
import Derived.Test.YtgbkfmjkemkajaaM8
import Derived.Test.YtgbkfmjkemkajaaM5
import Derived.Test.YtgbkfmjkemkajaaM1
import Derived.Maps.AppendAt
import Derived.Test.YtgbkfmjkemkajaaM7
import Derived.Test.YtgbkfmjkemkajaaM9
namespace Go.Proofs.Ytgbkfmjkemkajaa
open Go.RowKit Go.Shelf

theorem take_dk {L : List (Int × Int)} {k : Nat} (hk : k < L.length) : L.take (k + 1) = L.take k ++ [dk L k] := by
  rw [List.take_add_one, dk_at hk]
  rfl
theorem not_ahead {L : List (Int × Int)} (hn : L.Nodup) {k : Nat} (hk : k < L.length) : ¬ dk L k ∈ L.take k := by
  have h := hn
  have e : L = L.take k ++ dk L k :: L.drop (k + 1) := by
    conv => lhs; rw [← List.take_append_drop k L]
    congr 1
    rw [List.drop_eq_getElem_cons hk]
    congr 1
    have := dk_at hk
    rw [List.getElem?_eq_getElem hk] at this
    exact Option.some.inj this
  rw [e, List.nodup_append] at h
  intro hm
  exact h.2.2 _ hm _ (List.mem_cons_self ..) rfl

set_option maxRecDepth 100000 in
set_option maxHeartbeats 6400000 in
theorem sinoCheckOk {n : Nat} {L : List (Int × Int)} {gp cap : Nat} {gb : Nat → Nat} {z : Nat → Nat → Nat} (hn : 1 ≤ n) (h64 : n ≤ 64) (hL : L.length ≤ 64) (ho : ∀ d, d ∈ L → okD d.1 d.2 = true) (hnd : L.Nodup) (hz : ∀ k j, z k j ≤ 16) (w : World) (h : SinoAt w n L gp gb (fun k j => nb (z k j))) :
    Calls Try.prog 25 #[.agg #[.int .i64 n, .slice (some ⟨gp, 0, none⟩) L.length cap]] w fun e w' => e = .returned (.int .i64 0) ∧ Below w.heap.size w w' := by
  have H := hide h
  have q1 : ((n : Int) < 1) = False := by simp; omega
  have q2 : ((64 : Int) < (n : Int)) = False := by simp; omega
  have q3 : ((64 : Int) < (L.length : Int)) = False := by simp; omega
  have hmk := @run_makeMap Try.prog
  have y0 := (Below.refl w.heap.size w).alloc (Nat.le_refl _) (.cells #[.int .i64 n, .slice (some ⟨gp, 0, none⟩) L.length cap] 44)
  have y1 := hide (y0.alloc (by rw [World.size_alloc]; omega) (.map #[] 0))
  have M0 := hide (mapD_made (w.alloc (.cells #[.int .i64 n, .slice (some ⟨gp, 0, none⟩) L.length cap] 44)))
  have X0 : Hid (((w.alloc (.cells #[.int .i64 n, .slice (some ⟨gp, 0, none⟩) L.length cap] 44)).alloc (.map #[] 0)).cell? ⟨w.heap.size, 0, none⟩ = some (.int .i64 n)) :=
    (World.cell?_of_block (a := ⟨w.heap.size, 0, none⟩) (Below.heap_alloc _ _ _ (by rw [World.size_alloc]; show w.heap.size < _; omega))).trans (cell_of_row _ w.heap.size 0 _ _ (0, 0) (heap_alloc_new w _))
  rw [World.size_alloc] at M0
  clear h y0
  go_enter Try.func25, Try.ntmps25
  go_wp2_with fail
  clear hmk
  generalize (w.alloc (.cells #[.int .i64 n, .slice (some ⟨gp, 0, none⟩) L.length cap] 44)).alloc (.map #[] 0) = w2 at *
  obtain ⟨base, hbase⟩ : ∃ x, w.heap.size = x := ⟨_, rfl⟩
  rw [hbase] at y1 M0 X0
  have hgp : gp < base := by rw [← hbase]; exact (unhide H).lt
  rw [hbase]
  replace hbase := hide hbase
  go_loopw [26] (fun kv wr => ∃ k : Nat, k ≤ L.length ∧ kv = .int .i64 k ∧ Hid (MapD wr (base + 1) (L.take k)) ∧ Hid (wr.cell? ⟨base, 0, none⟩ = some (.int .i64 n)) ∧ Hid (Below base w wr)) (fun kv _ => L.length - (intOf kv).toNat)
  case atStart => exact ⟨0, Nat.zero_le _, rfl, M0, X0, y1⟩
  case round =>
    clear M0 X0 y1
    obtain ⟨k, hk, rfl, hM, hX, hB⟩ := hrel
    by_cases hkL : k < L.length
    · have q4 : ((k : Int) < (L.length : Int)) = True := by simp; omega
      have hS := (unhide H).below (w' := wr) (by have := unhide hB; rw [← unhide hbase] at this; exact this)
      obtain ⟨p1, p2, p3⟩ := hS.proj k hkL
      have hok := ho _ (dk_mem hkL)
      obtain ⟨o1, o2, o3⟩ := okD_bounds hok
      have h6 : Dir64 (dk L k) := ⟨by unfold I64; omega, by unfold I64; omega⟩
      have kB := hide (fun (W : World) => dirBins (n := (n : Int)) h6 W)
      rw [binN_eq hn h64 hok] at kB
      unfold dirV at kB
      dsimp only at kB
      have hbn := binN_le h64 hok
      have hlt := (unhide hM).lt
      have y1 := (Below.refl wr.heap.size wr).alloc (Nat.le_refl _) (.cells #[.int .i64 (dk L k).1, .int .i64 (dk L k).2, .slice (some ⟨gb k, 0, none⟩) (binN n (dk L k)) (binN n (dk L k))] 41)
      have M1 := hide ((unhide hM).below y1)
      have S1 := hide (hS.below y1)
      have B1 := hide ((unhide hB).trans (y1.mono (by omega)))
      have c0 := (y1.cell (p := ⟨base, 0, none⟩) (by show base < _; omega)).trans (unhide hX)
      have r1 := heap_alloc_new wr (.cells #[.int .i64 (dk L k).1, .int .i64 (dk L k).2, .slice (some ⟨gb k, 0, none⟩) (binN n (dk L k)) (binN n (dk L k))] 41)
      have x1 := cell_of_row _ wr.heap.size 0 _ _ (0, 0) r1
      have x2 := cell_of_row _ wr.heap.size 1 _ _ (0, 0) r1
      have x3 := cell_of_row _ wr.heap.size 2 _ _ (0, 0) r1
      simp only [List.getElem?_toArray, List.getElem?_cons_zero, List.getElem?_cons_succ] at x1 x2 x3
      have hl1 : wr.heap.size < (wr.alloc (.cells #[.int .i64 (dk L k).1, .int .i64 (dk L k).2, .slice (some ⟨gb k, 0, none⟩) (binN n (dk L k)) (binN n (dk L k))] 41)).heap.size := by rw [World.size_alloc]; omega
      have hbl : base + 1 < wr.heap.size := hlt
      clear hS y1 r1 hM hX hB o1 o2 o3
      go_wp2_with fail
      clear p1 p2 p3
      generalize wr.alloc (.cells #[.int .i64 (dk L k).1, .int .i64 (dk L k).2, .slice (some ⟨gb k, 0, none⟩) (binN n (dk L k)) (binN n (dk L k))] 41) = w3 at *
      generalize wr.heap.size = pd at *
      refine (unhide kB w3).mono ?_
      rintro e w4 ⟨rfl, hb4⟩
      have M4 := (unhide M1).below hb4
      have S4 := hide ((unhide S1).below hb4)
      have B4 := hide ((unhide B1).trans (hb4.mono (by omega)))
      have c4 := (hb4.cell (p := ⟨base, 0, none⟩) (by show base < _; omega)).trans c0
      have z1 := (hb4.cell (p := ⟨pd, 0, none⟩) hl1).trans x1
      have z2 := (hb4.cell (p := ⟨pd, 1, none⟩) hl1).trans x2
      have z3 := (hb4.cell (p := ⟨pd, 2, none⟩) hl1).trans x3
      have hl4 := Nat.lt_of_lt_of_le hl1 hb4.size
      have hlk := M4.look h6
      rw [decide_eq_false (not_ahead hnd hkL)] at hlk
      have y5 := (Below.refl w4.heap.size w4).alloc (Nat.le_refl _) (.cells #[] 74)
      obtain ⟨w6, hput, M6, hgr⟩ := (M4.below y5).put h6 (by rw [List.length_take]; unfold maxLen; omega)
      rw [← take_dk hkL] at M6
      have hsz5 : (w4.alloc (.cells #[] 74)).heap.size = w4.heap.size + 1 := World.size_alloc _ _
      have k6 : ∀ x, x < w4.heap.size → x ≠ base + 1 → w6.heap[x]? = w4.heap[x]? := fun x hx hne => (hgr.block x (by omega) (fun e => hne (by simpa using e))).trans (y5.block x hx)
      have u0 := (World.cell?_of_block (a := ⟨base, 0, none⟩) (k6 base (by omega) (by omega))).trans c4
      have u3 := (World.cell?_of_block (a := ⟨pd, 2, none⟩) (k6 pd hl4 (by omega))).trans z3
      have hgbl : gb k ≠ base + 1 ∧ gb k < w4.heap.size := ⟨fun e => by
        have := vrow_lt ((unhide H).bins k hkL)
        have hh := unhide hbase
        omega, vrow_lt ((unhide S4).bins k hkL)⟩
      have ka := hide (areBinsOk (c := binN n (dk L k)) (v := z k) hbn (fun j _ => hz k j) w6 (vrow_keep ((unhide S4).bins k hkL) (k6 _ hgbl.2 hgbl.1)))
      have B6 := hide (((unhide B4).trans (y5.mono (by have := hl4; omega))).grown hgr (by omega) (fun x hx => (by
        have e : base + 1 = x := by simpa using hx
        omega)))
      have M6 := hide M6
      have hs6 : w4.heap.size < w6.heap.size := by have := hgr.size; omega
      clear kB S1 B1 M1 c0 x1 x2 x3 hl1 hb4 M4 y5 hgr k6 S4 B4
      go_wp2_with fail
      refine (unhide ka).mono ?_
      rintro e w7 ⟨rfl, hb7⟩
      have M7 := hide ((unhide M6).below hb7)
      have X7 := hide ((hb7.cell (p := ⟨base, 0, none⟩) (by show base < _; omega)).trans u0)
      have B7 := hide ((unhide B6).trans (hb7.mono (by omega)))
      clear hb7 ka M6 B6 u0 u3
      go_wp2_with fail
      exact ⟨⟨k + 1, by omega, by go_num, M7, X7, B7⟩, by simp [intOf]; omega⟩
    · have e : k = L.length := by omega
      subst e
      have q4 : ((L.length : Int) < (L.length : Int)) = False := by simp
      go_wp2_with fail
      go_ret
      exact ⟨rfl, by rw [unhide hbase]; exact unhide hB⟩
end Go.Proofs.Ytgbkfmjkemkajaa

namespace Go.Proofs.Ytgbkfmjkemkajaa
open Go.RowKit Go.Shelf
attribute [local go_sem] store_complex

set_option maxRecDepth 100000 in
set_option maxHeartbeats 3200000 in
theorem solveDo {bR bV gv K cap q bn cr k j v : Nat} {zc : Nat → Nat} (hmix : Try.prog.follows .mixedOrders = true) (hk : k < K) (hj : j < bn) (hv : v ≤ zc j) (hz : zc j ≤ 16) (W : World)
    (xR : W.cell? ⟨bR, 0, none⟩ = some (.slice (some ⟨gv, 0, none⟩) K cap)) (xV : W.cell? ⟨bV, 0, none⟩ = some (.complex .f64 (nb v).1 (nb v).2)) (xk : W.cell? ⟨gv, k, none⟩ = some (.slice (some ⟨q, 0, none⟩) bn cr)) (hr : VRow W 38 q bn (fun i => .complex .f64 (nb (zc i)).1 (nb (zc i)).2)) (lR : bR < W.heap.size) (lV : bV < W.heap.size) (lG : gv < W.heap.size) :
    Calls Try.prog 31 #[.agg #[.int .i64 k, .int .i64 j], .pointer (some ⟨bR, 0, none⟩), .pointer (some ⟨bV, 0, none⟩)] W fun e W' => (∃ u, e = .returned u) ∧ ∃ W1, Below W.heap.size W W1 ∧ W' = W1.setCell ⟨q, j, none⟩ (.complex .f64 (nb (zc j - v)).1 (nb (zc j - v)).2) := by
  have y1 := hide (heap_alloc_new W (.cells #[.int .i64 k, .int .i64 j] 81))
  have y2 := hide ((Below.refl W.heap.size W).alloc (Nat.le_refl _) (.cells #[.int .i64 k, .int .i64 j] 81))
  have lq := vrow_lt hr
  have x1 : (W.alloc (.cells #[.int .i64 k, .int .i64 j] 81)).cell? ⟨W.heap.size, 0, none⟩ = some (.int .i64 k) := cell_of_row _ W.heap.size 0 _ _ (0, 0) (unhide y1)
  have x2 : (W.alloc (.cells #[.int .i64 k, .int .i64 j] 81)).cell? ⟨W.heap.size, 1, none⟩ = some (.int .i64 j) := cell_of_row _ W.heap.size 1 _ _ (0, 0) (unhide y1)
  have d1 := ((unhide y2).cell (p := ⟨bR, 0, none⟩) lR).trans xR
  have d2 := ((unhide y2).cell (p := ⟨bV, 0, none⟩) lV).trans xV
  have d3 := ((unhide y2).cell (p := ⟨gv, k, none⟩) lG).trans xk
  have R1 := vrow_keep hr ((unhide y2).block _ lq)
  have d4 := vrow_at R1 hj
  have f4 := vrow_frozen R1 j
  have q1 : ((k : Int) < (K : Int)) = True := by simp; omega
  have q2 : ((j : Int) < (bn : Int)) = True := by simp; omega
  have kS := hide (fun (w : World) => cxSub hv hz w)
  have kP := hide (fun (w : World) => cxPlain (a := zc j - v) (by omega) w)
  clear R1 hr xR xV xk y1
  generalize nb (zc j) = a1 at *
  generalize nb v = a2 at *
  generalize nb (zc j - v) = a3 at *
  obtain ⟨a1, a1'⟩ := a1
  obtain ⟨a2, a2'⟩ := a2
  obtain ⟨a3, a3'⟩ := a3
  dsimp only at *
  go_enter Try.func31, Try.ntmps31
  go_wp2_with fail
  generalize W.alloc (.cells #[.int .i64 k, .int .i64 j] 81) = w1 at *
  go_quiet (fail)
  go_wp2_with fail
  have B2 : Hid (Below W.heap.size W (w1.drewN nq)) := ⟨(unhide y2).os, (unhide y2).tape, (unhide y2).output, (unhide y2).size, (unhide y2).block⟩
  have e2 : (w1.drewN nq).cell? ⟨bV, 0, none⟩ = some (.complex .f64 a2 a2') := d2
  have e4 : (w1.drewN nq).cell? ⟨q, j, none⟩ = some (.complex .f64 a1 a1') := d4
  have g4 : (w1.drewN nq).frozen? ⟨q, j, none⟩ = false := f4
  clear d1 d2 d3 d4 f4 x1 x2 y2
  generalize w1.drewN nq = w2 at *
  have hfn : ∀ f, Fence.wide.fn f = True := fun _ => rfl
  refine (wpIn_wide (n := 0)).1 ?_
  refine region_far 7 hmix (by kernel_rfl) ?_
  simp only [List.take_succ_cons, List.take_zero, List.drop_succ_cons, List.drop_zero]
  repeat (gi_big_quiet_step (first | (refine ⟨rfl, CallsIn.quiet_of_same (callsIn_wide.2 (unhide kS _))⟩) | (refine ⟨rfl, CallsIn.quiet_of_same (callsIn_wide.2 (unhide kP _))⟩)))
  refine wpQuietIn_nil ?_
  intro _ hw'
  obtain ⟨nq2, rfl⟩ := hw'
  have e5 : (w2.drewN nq2).cell? ⟨q, j, none⟩ = some (.complex .f64 a1 a1') := e4
  have g5 : (w2.drewN nq2).frozen? ⟨q, j, none⟩ = false := g4
  have B3 : Hid (Below W.heap.size W (w2.drewN nq2)) := ⟨(unhide B2).os, (unhide B2).tape, (unhide B2).output, (unhide B2).size, (unhide B2).block⟩
  clear e2 e4 g4 B2
  generalize w2.drewN nq2 = w3 at *
  gi_wp2
  go_end0
  exact ⟨⟨_, rfl⟩, w3, unhide B3, rfl⟩
end Go.Proofs.Ytgbkfmjkemkajaa

namespace Go.Proofs.Ytgbkfmjkemkajaa
open Go.RowKit

theorem block_cell {w : World} {b : Nat} {cs : Array Value} {t : TypeId} (h : w.heap[b]? = some (.cells cs t (0, 0))) (i : Nat) : w.cell? ⟨b, i, none⟩ = cs[i]? := by simp [World.cell?, h]
theorem block_frozen {w : World} {b : Nat} {cs : Array Value} {t : TypeId} (h : w.heap[b]? = some (.cells cs t (0, 0))) (i : Nat) : w.frozen? ⟨b, i, none⟩ = false := by simp [World.frozen?, h]
set_option maxHeartbeats 400000 in
theorem gridSide {n : Nat} (h1 : 1 ≤ n) (h2 : n ≤ 64) (w : World) :
    Calls Try.prog 54 #[.int .i64 n] w fun e w' => e = .returned (.bool true) ∧ w' = w := by
  have q1 : (1 ≤ (n : Int)) = True := by simp; omega
  have q2 : ((n : Int) ≤ 64) = True := by simp; omega
  go_enter Try.func54, Try.ntmps54
  go_wp2_with fail
  go_ret
  exact ⟨rfl, rfl⟩

set_option maxHeartbeats 1600000 in
/-- Package grid's own: a field of noughts. -/
theorem blankAny {n M : Nat} (hM : n * n = M) (h4 : M ≤ 4096) (w : World) :
    Calls Try.prog 55 #[.int .i64 n] w fun e w' => ∃ g', e = .returned (.agg #[.int .i64 n, .slice (some ⟨g', 0, none⟩) M M]) ∧ w.heap.size ≤ g' ∧ Row w' g' M (fun _ => (0, 0)) ∧ Below w.heap.size w w' := by
  obtain ⟨i0, hi0, hz0, hz1, hz2⟩ := info_parts infoC
  have q5 : (n : Int) * (n : Int) = (M : Int) := by rw [← hM, Int.natCast_mul]
  have q6 : IntKind.i64.wrap (M : Int) = M := by rw [IntKind.wrap_i64]; omega
  have hM' := hide hM
  clear hM
  have hb1 := hide ((Below.refl w.heap.size w).alloc (Nat.le_refl _) (.cells #[.int .i64 0, .slice none 0 0] 46))
  have hc1 := hide (heap_alloc_new w (.cells #[.int .i64 0, .slice none 0 0] 46))
  go_enter Try.func55, Try.ntmps55
  go_wp2_with (first
    | (at_make; refine wpList_make_full _ rfl (.tmp 6) (.tmp 6) 39 rfl w.heap.size 38 i0 (.complex .f64 0 0) 1 Try.underlying39 hi0 hz0 hz1 .i64 .i64 M M M rfl rfl rfl rfl ?c1 ?c2 ?c3 ?_))
  case c1 => rw [hz2]; omega
  case c2 => unfold maxLen; omega
  case c3 => simp
  intro W2 hown2 hg2
  have hT : Hid (Row W2 (w.heap.size + 1) M (fun _ => (0, 0))) := row_made hown2 (fun _ => (0, 0)) (fun i hi => zeros_get M i hi) (fun _ _ => rfl)
  have hb2 := grown_below hg2
  rw [World.size_alloc] at hb2
  have hc2 := (hb2.block _ (Nat.lt_succ_self _)).trans (unhide hc1)
  have e0 := block_cell hc2 0
  have e1 := block_cell hc2 1
  have g0 := block_frozen hc2 0
  have g1 := block_frozen hc2 1
  simp only [List.getElem?_toArray, List.getElem?_cons_zero, List.getElem?_cons_succ] at e0 e1
  have hc3 := hide hc2
  have hb3 := hide ((unhide hb1).trans (hb2.mono (Nat.le_succ _)))
  clear hown2 hg2 hc1 hb1 hb2 hc2
  go_wp2
  have x1 := heap_setCell_same W2 w.heap.size 0 _ _ (.int .i64 n) (unhide hc3)
  have x2 := heap_setCell_same _ w.heap.size 1 _ _ (.slice (some ⟨w.heap.size + 1, 0, none⟩) M M) x1
  refine bodyPost_ret (results_two (P := Try.prog) rfl _ _ w.heap.size (.int .i64 n) (.slice (some ⟨w.heap.size + 1, 0, none⟩) M M) _ rfl (by rw [block_cell x2]; rfl) (by rw [block_cell x2]; rfl) Try.underlying46 rfl (by kernel_rfl)) rfl ?_
  refine ⟨w.heap.size + 1, rfl, by omega, row_keep (unhide hT) ?_, ((unhide hb3).setCell (p := ⟨w.heap.size, 0, none⟩) (Nat.le_refl _) _).setCell (p := ⟨w.heap.size, 1, none⟩) (Nat.le_refl _) _⟩
  rw [Below.heap_setCell _ _ _ _ (by show w.heap.size + 1 ≠ w.heap.size; omega), Below.heap_setCell _ _ _ _ (by show w.heap.size + 1 ≠ w.heap.size; omega)]

set_option maxHeartbeats 1600000 in
/-- Package grid's own: a new grid. -/
theorem newAny {n M : Nat} (h1 : 1 ≤ n) (h2 : n ≤ 64) (hM : n * n = M) (h4 : M ≤ 4096) (w : World) :
    Calls Try.prog 28 #[.int .i64 n] w fun e w' => ∃ g', e = .returned (.tuple #[.agg #[.int .i64 n, .slice (some ⟨g', 0, none⟩) M M], .int .i64 0]) ∧ w.heap.size ≤ g' ∧ Row w' g' M (fun _ => (0, 0)) ∧ Below w.heap.size w w' := by
  have kS := hide fun w => gridSide h1 h2 w
  have kB := hide fun w => blankAny hM h4 w
  have hb1 := hide ((Below.refl w.heap.size w).alloc (Nat.le_refl _) (.cells #[.int .i64 0, .slice none 0 0] 46))
  have hc1 := hide (heap_alloc_new w (.cells #[.int .i64 0, .slice none 0 0] 46))
  have hs1 := hide (World.size_alloc w (.cells #[.int .i64 0, .slice none 0 0] 46))
  clear hM
  go_enter Try.func28, Try.ntmps28
  go_wp2_with (first | (go_at_call 54; refine (unhide kS _).mono ?_; rintro e w' ⟨rfl, rfl⟩))
  generalize w.alloc (.cells #[.int .i64 0, .slice none 0 0] 46) = W1 at hb1 hc1 hs1 ⊢
  refine (unhide kB W1).mono ?_
  rintro e W2 ⟨g', rfl, hg, hR, hb2⟩
  have hsz := unhide hs1
  have hc2 := (hb2.block _ (by omega)).trans (unhide hc1)
  have e0 := block_cell hc2 0
  have e1 := block_cell hc2 1
  have g0 := block_frozen hc2 0
  have g1 := block_frozen hc2 1
  simp only [List.getElem?_toArray, List.getElem?_cons_zero, List.getElem?_cons_succ] at e0 e1
  have hc2 := hide hc2
  have hR := hide hR
  have hb2 := hide ((unhide hb1).trans (hb2.mono (by omega)))
  have hg : Hid (w.heap.size < g') := by show w.heap.size < g'; omega
  clear hc1 hb1 hsz hs1 kB kS
  go_wp2
  have x1 := heap_setCell_same W2 w.heap.size 0 _ _ (.int .i64 n) (unhide hc2)
  have x2 := heap_setCell_same _ w.heap.size 1 _ _ (.slice (some ⟨g', 0, none⟩) M M) x1
  have hg := unhide hg
  refine bodyPost_ret (results_two_tmp (P := Try.prog) rfl _ _ w.heap.size (.int .i64 n) (.slice (some ⟨g', 0, none⟩) M M) (.int .i64 0) _ rfl rfl (by rw [block_cell x2]; rfl) (by rw [block_cell x2]; rfl) Try.underlying46 rfl (by kernel_rfl)) rfl ?_
  refine ⟨g', rfl, by omega, row_keep (unhide hR) ?_, ((unhide hb2).setCell (p := ⟨w.heap.size, 0, none⟩) (Nat.le_refl _) _).setCell (p := ⟨w.heap.size, 1, none⟩) (Nat.le_refl _) _⟩
  rw [Below.heap_setCell _ _ _ _ (by show g' ≠ w.heap.size; omega), Below.heap_setCell _ _ _ _ (by show g' ≠ w.heap.size; omega)]

end Go.Proofs.Ytgbkfmjkemkajaa

namespace Go.Proofs.Ytgbkfmjkemkajaa

/-- What the places' values add up to. -/
def sumV (val : Nat → Nat) (p : Nat → Bool) : Nat → Nat
  | 0 => 0
  | k + 1 => sumV val p k + if p k = true then val k else 0
section
variable {val : Nat → Nat}
theorem sumV_step (p : Nat → Bool) (k : Nat) : sumV val p (k + 1) = sumV val p k + if p k = true then val k else 0 := rfl
theorem sumV_same {p p' : Nat → Bool} {k : Nat} (h : ∀ i, i < k → p i = p' i) : sumV val p k = sumV val p' k := by
  induction k with
  | zero => rfl
  | succ k ih => rw [sumV_step, sumV_step, ih fun i hi => h i (by omega), h k (by omega)]
theorem sumV_none {p : Nat → Bool} {k : Nat} (h : ∀ i, i < k → p i = false) : sumV val p k = 0 := by
  induction k with
  | zero => rfl
  | succ k ih =>
    rw [sumV_step, ih fun i hi => h i (by omega), h k (by omega)]
    rfl
theorem sumV_mono {p p' : Nat → Bool} {k : Nat} (h : ∀ i, i < k → p i = true → p' i = true) : sumV val p k ≤ sumV val p' k := by
  induction k with
  | zero => exact Nat.le_refl _
  | succ k ih =>
    have i1 := ih fun i hi => h i (by omega)
    rw [sumV_step, sumV_step]
    by_cases c : p k = true
    · rw [if_pos c, if_pos (h k (by omega) c)]
      omega
    · rw [if_neg c]
      omega
theorem sumV_less {p : Nat → Bool} {c k : Nat} (hc : c < k) (h : p c = true) : sumV val (fun i => if i = c then false else p i) k + val c = sumV val p k := by
  induction k with
  | zero => omega
  | succ k ih =>
    rw [sumV_step, sumV_step]
    by_cases e : c = k
    · subst e
      rw [sumV_same (p := fun i => if i = c then false else p i) (p' := p) (fun i hi => if_neg (by omega)), if_neg (by simp), if_pos h]
      omega
    · have i1 := ih (by omega)
      have e2 : (if k = c then false else p k) = p k := if_neg (by omega)
      rw [e2]
      omega
theorem sumV_one {p : Nat → Bool} {k : Nat} (h : cntB p k = 1) : sumV val p k = val (sumB p k) := by
  obtain ⟨h1, h2⟩ := sum_one h
  have e := sumV_less (val := val) h1 h2
  rw [sumV_none fun i hi => ?_] at e
  · omega
  · by_cases c : i = sumB p k
    · rw [if_pos c]
    · rw [if_neg c]
      cases hp : p i
      · rfl
      · exact absurd (cnt_only h1 h2 h hi hp) c

/-- The rest of a line. -/
def restZ (val : Nat → Nat) (n : Nat) (L : List (Int × Int)) (b : Nat → Bool) (k j : Nat) : Nat := sumV val (onB n (dk L k) b (j : Int)) (n * n)
theorem restZ_shut {n : Nat} {L : List (Int × Int)} {b : Nat → Bool} {c : Nat} (hc : c < n * n) (h : b c = true) (k j : Nat) : restZ val n L (shutB b c) k j + (if lnI n (dk L k) c = (j : Int) then val c else 0) = restZ val n L b k j := by
  unfold restZ
  by_cases e : lnI n (dk L k) c = (j : Int)
  · rw [if_pos e, ← sumV_less (val := val) (p := onB n (dk L k) b (j : Int)) hc (onB_true.2 ⟨h, e⟩)]
    congr 1
    refine sumV_same fun i _ => ?_
    unfold onB shutB
    by_cases ec : i = c
    · rw [if_pos ec, if_pos ec]
      rfl
    · rw [if_neg ec, if_neg ec]
  · rw [if_neg e, Nat.add_zero]
    refine sumV_same fun i _ => ?_
    unfold onB shutB
    by_cases ec : i = c
    · subst ec
      rw [if_pos rfl]
      simp [e]
    · rw [if_neg ec]
theorem restZ_one {n : Nat} {L : List (Int × Int)} {b : Nat → Bool} {k j : Nat} (h : cntL n (dk L k) b (j : Int) = 1) : restZ val n L b k j = val (sumL n (dk L k) b (j : Int)) := sumV_one h
theorem restZ_none {n : Nat} {L : List (Int × Int)} {b : Nat → Bool} (h : ∀ i, i < n * n → b i = false) (k j : Nat) : restZ val n L b k j = 0 := sumV_none fun i hi => by
  unfold onB
  rw [h i hi]
  rfl
theorem restZ_le {n : Nat} {L : List (Int × Int)} {b : Nat → Bool} (k j : Nat) : restZ val n L b k j ≤ sumV val (fun _ => true) (n * n) := sumV_mono fun _ _ _ => rfl
end
end Go.Proofs.Ytgbkfmjkemkajaa

namespace Go.Proofs.Ytgbkfmjkemkajaa
open Go.RowKit

/-- A block of the peeling's own. -/
def inPeel (K : Nat) (V : PV) (v : Value) (x : Nat) : Prop := x = V.B ∨ (∃ r, PLive K r ∧ x = V.blk r) ∨ v.ownBlock = some x
/-- What lies in the heap and is none of them. -/
def asideS (K : Nat) (V : PV) (v : Value) (w : World) (x : Nat) : Prop := x < w.heap.size ∧ ¬ inPeel K V v x

section
variable {S : Nat → Prop} {w w' : World} {n : Nat} {L : List (Int × Int)} {a : Option Addr} {cap g o : Nat} {V : PV} {bo : Nat → Bool} {bk : Nat → Nat → Bool} {v : Value} {m : Nat} {f : Nat → Nat × Nat}

theorem Peel.notIn (h : Peel S w n L a cap g o V bo bk v m f) {x : Nat} (hx : S x) : ¬ inPeel L.length V v x := by
  rintro (e | ⟨r, hr, e⟩ | e)
  · exact h.sB (e ▸ hx)
  · exact h.sR r hr (e ▸ hx)
  · exact h.sQ x e hx
theorem Peel.inLt (h : Peel S w n L a cap g o V bo bk v m f) {x : Nat} (hx : inPeel L.length V v x) : x < w.heap.size := by
  rcases hx with e | ⟨r, hr, e⟩ | e
  · rw [e]; exact h.heap.lt
  · rw [e]; exact h.lt hr
  · exact h.heap.qv.lt e
theorem Peel.canon (h : Peel S w n L a cap g o V bo bk v m f) : Peel (asideS L.length V v w) w n L a cap g o V bo bk v m f :=
  h.more (fun _ hx => hx.1) (fun hx => hx.2 (Or.inl rfl)) (fun r hr hx => hx.2 (Or.inr (Or.inl ⟨r, hr, rfl⟩))) (fun _ hq hx => hx.2 (Or.inr (Or.inr hq))) (fun hl => ⟨(h.dirs.at_ hl).2, h.notIn (h.dS hl)⟩)
/-- What is new since is none of them. -/
theorem Peel.newNot (h : Peel S w n L a cap g o V bo bk v m f) {x : Nat} (hx : w.heap.size ≤ x) : ¬ inPeel L.length V v x := fun hi => by
  have := h.inLt hi
  omega
/-- The types of its blocks. -/
def peelType (t : TypeId) : Prop := t = 58 ∨ t = 4 ∨ t = 3 ∨ t = 93 ∨ t = 100 ∨ t = 81
theorem peelType_row (r : Nat) : peelType (PTv r) := by
  match r with
  | 0 => exact Or.inr (Or.inl rfl)
  | 1 => exact Or.inr (Or.inr (Or.inl rfl))
  | 2 => exact Or.inr (Or.inr (Or.inr (Or.inl rfl)))
  | r + 3 => exact Or.inr (Or.inr (Or.inr (Or.inr (Or.inl rfl))))
/-- A block of another type is none of them. -/
theorem Peel.notType (h : Peel S w n L a cap g o V bo bk v m f) {x : Nat} {cs : Array Value} {t : TypeId} {z : Nat × Nat} (hx : w.heap[x]? = some (.cells cs t z)) (ht : ¬ peelType t) : ¬ inPeel L.length V v x := by
  rintro (e | ⟨r, hr, e⟩ | e)
  · subst e
    rw [h.heap.st] at hx
    injection hx with hx
    injection hx with _ hx _
    exact ht (hx ▸ Or.inl rfl)
  · subst e
    obtain ⟨cur, h1, _⟩ := h.mem.row r hr
    rw [h1] at hx
    injection hx with hx
    injection hx with _ hx _
    exact ht (hx ▸ peelType_row r)
  · rcases h.heap.qv with ⟨e2, _⟩ | ⟨q, c, e2, cur, h1, _⟩
    · rw [e2] at e; cases e
    · rw [e2] at e
      have e : q = x := by simpa [Value.ownBlock] using e
      subst e
      rw [h1] at hx
      injection hx with hx
      injection hx with _ hx _
      exact ht (hx ▸ Or.inr (Or.inr (Or.inr (Or.inr (Or.inr rfl)))))
end
end Go.Proofs.Ytgbkfmjkemkajaa
