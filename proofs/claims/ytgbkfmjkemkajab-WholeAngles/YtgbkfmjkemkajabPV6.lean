/- The landed Solve: what is done with each bin of a cell. -/
import Derived.Test.YtgbkfmjkemkajabPV4
import Derived.Test.YtgbkfmjkemkajabPYQ
import Derived.Test.YtgbkfmjkemkajabPS2a
namespace Go.Proofs.Ytgbkfmjkemkajab
open Go.RowKit Go.Shelf
attribute [local go_sem] store_complex

set_option maxRecDepth 100000 in
set_option maxHeartbeats 3200000 in
theorem solveDo {bR bV gv K cap q bn cr k j v : Nat} {zc : Nat → Nat} (hmix : Try.prog.follows .mixedOrders = true) (hk : k < K) (hj : j < bn) (hv : v ≤ zc j) (hz : zc j ≤ 16) (W : World)
    (xR : W.cell? ⟨bR, 0, none⟩ = some (.slice (some ⟨gv, 0, none⟩) K cap)) (xV : W.cell? ⟨bV, 0, none⟩ = some (.complex .f64 (nb v).1 (nb v).2)) (xk : W.cell? ⟨gv, k, none⟩ = some (.slice (some ⟨q, 0, none⟩) bn cr)) (hr : VRow W 32 q bn (fun i => .complex .f64 (nb (zc i)).1 (nb (zc i)).2)) (lR : bR < W.heap.size) (lV : bV < W.heap.size) (lG : gv < W.heap.size) :
    Calls Try.prog 20 #[.agg #[.int .i64 k, .int .i64 j], .pointer (some ⟨bR, 0, none⟩), .pointer (some ⟨bV, 0, none⟩)] W fun e W' => (∃ u, e = .returned u) ∧ ∃ W1, Below W.heap.size W W1 ∧ W' = W1.setCell ⟨q, j, none⟩ (.complex .f64 (nb (zc j - v)).1 (nb (zc j - v)).2) := by
  have y1 := hide (heap_alloc_new W (.cells #[.int .i64 k, .int .i64 j] 58))
  have y2 := hide ((Below.refl W.heap.size W).alloc (Nat.le_refl _) (.cells #[.int .i64 k, .int .i64 j] 58))
  have lq := vrow_lt hr
  have x1 : (W.alloc (.cells #[.int .i64 k, .int .i64 j] 58)).cell? ⟨W.heap.size, 0, none⟩ = some (.int .i64 k) := cell_of_row _ W.heap.size 0 _ _ (0, 0) (unhide y1)
  have x2 : (W.alloc (.cells #[.int .i64 k, .int .i64 j] 58)).cell? ⟨W.heap.size, 1, none⟩ = some (.int .i64 j) := cell_of_row _ W.heap.size 1 _ _ (0, 0) (unhide y1)
  have d1 := ((unhide y2).cell (p := ⟨bR, 0, none⟩) lR).trans xR
  have d2 := ((unhide y2).cell (p := ⟨bV, 0, none⟩) lV).trans xV
  have d3 := ((unhide y2).cell (p := ⟨gv, k, none⟩) lG).trans xk
  have R1 := vrow_keep hr ((unhide y2).block _ lq)
  have d4 := vrow_at R1 hj
  have f4 := vrow_frozen R1 j
  have q1 : ((k : Int) < (K : Int)) = True := by simp; omega
  have q2 : ((j : Int) < (bn : Int)) = True := by simp; omega
  have kS := hide (fun (w : World) => cxSub hv hz w)
  have kP := hide (fun (w : World) => cxPlain (a := zc j - v) (by omega) w)
  clear R1 hr xR xV xk y1
  generalize nb (zc j) = a1 at *
  generalize nb v = a2 at *
  generalize nb (zc j - v) = a3 at *
  obtain ⟨a1, a1'⟩ := a1
  obtain ⟨a2, a2'⟩ := a2
  obtain ⟨a3, a3'⟩ := a3
  dsimp only at *
  go_enter Try.func20, Try.ntmps20
  go_wp2_with fail
  generalize W.alloc (.cells #[.int .i64 k, .int .i64 j] 58) = w1 at *
  go_quiet (fail)
  go_wp2_with fail
  have B2 : Hid (Below W.heap.size W (w1.drewN nq)) := ⟨(unhide y2).os, (unhide y2).tape, (unhide y2).output, (unhide y2).size, (unhide y2).block⟩
  have e2 : (w1.drewN nq).cell? ⟨bV, 0, none⟩ = some (.complex .f64 a2 a2') := d2
  have e4 : (w1.drewN nq).cell? ⟨q, j, none⟩ = some (.complex .f64 a1 a1') := d4
  have g4 : (w1.drewN nq).frozen? ⟨q, j, none⟩ = false := f4
  clear d1 d2 d3 d4 f4 x1 x2 y2
  generalize w1.drewN nq = w2 at *
  have hfn : ∀ f, Fence.wide.fn f = True := fun _ => rfl
  refine (wpIn_wide (n := 0)).1 ?_
  refine region_far 7 hmix (by kernel_rfl) ?_
  simp only [List.take_succ_cons, List.take_zero, List.drop_succ_cons, List.drop_zero]
  repeat (gi_big_quiet_step (first | (refine ⟨rfl, CallsIn.quiet_of_same (callsIn_wide.2 (unhide kS _))⟩) | (refine ⟨rfl, CallsIn.quiet_of_same (callsIn_wide.2 (unhide kP _))⟩)))
  refine wpQuietIn_nil ?_
  intro _ hw'
  obtain ⟨nq2, rfl⟩ := hw'
  have e5 : (w2.drewN nq2).cell? ⟨q, j, none⟩ = some (.complex .f64 a1 a1') := e4
  have g5 : (w2.drewN nq2).frozen? ⟨q, j, none⟩ = false := g4
  have B3 : Hid (Below W.heap.size W (w2.drewN nq2)) := ⟨(unhide B2).os, (unhide B2).tape, (unhide B2).output, (unhide B2).size, (unhide B2).block⟩
  clear e2 e4 g4 B2
  generalize w2.drewN nq2 = w3 at *
  gi_wp2
  go_end0
  exact ⟨⟨_, rfl⟩, w3, unhide B3, rfl⟩
end Go.Proofs.Ytgbkfmjkemkajab
