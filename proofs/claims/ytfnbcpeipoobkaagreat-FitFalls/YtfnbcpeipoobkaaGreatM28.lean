/- A tile's cells, laid back. back.All and back.Region of right projections; fit.look. -/
import Derived.Test.YtfnbcpeipoobkaaGreatM27
import Derived.RangeFuncBox
namespace Go.Proofs.YtfnbcpeipoobkaaGreat
open Go.RowKit Go.Shelf Fl Ieee
attribute [local go_sem] Oper.semAt_some store_complex

theorem choice_fn {α β : Type} {r : α → β → Prop} (h : ∀ x, ∃ y, r x y) : ∃ f : α → β, ∀ x, r x (f x) := ⟨fun x => Classical.choose (h x), fun x => Classical.choose_spec (h x)⟩
/-- The tile of side r at the field's corner. -/
def tileV (r : Nat) : Value := .agg #[.int .i64 0, .int .i64 0, .int .i64 ((r : Int) - 1), .int .i64 ((r : Int) - 1)]
set_option maxRecDepth 100000 in
theorem countOk {r : Nat} (hr : 1 ≤ r) (h64 : r ≤ 64) (w : World) : Calls (barP Tryz.prog) 86 #[tileV r] w fun e w' => e = .returned (.int .i64 ((r * r : Nat) : Int)) ∧ Below w.heap.size w w' := by
  have hsq := square_le h64
  obtain ⟨M, hM⟩ : ∃ M, r * r = M := ⟨_, rfl⟩
  have q5 : (r : Int) * (r : Int) = (M : Int) := by rw [← hM, Int.natCast_mul]
  rw [hM] at hsq ⊢
  have q1 : (r : Int) - 1 - 0 + 1 = (r : Int) := by omega
  have hB := (Below.refl _ w).alloc (Nat.le_refl _) (.cells #[.int .i64 0, .int .i64 0, .int .i64 ((r : Int) - 1), .int .i64 ((r : Int) - 1)] 122)
  unfold tileV
  go_enter Bar.func86, Bar.ntmps86
  go_wp2_with fail
  go_ret
  exact ⟨rfl, hB⟩
set_option maxRecDepth 100000 in
set_option maxHeartbeats 800000 in
theorem cellsOk (r : Nat) (w : World) :
    Calls (barP Tryz.prog) 87 #[tileV r] w fun e w' =>
      e = .returned (.func (.func 97) #[] #[.pointer (some ⟨w.heap.size, 0, none⟩)]) ∧ w' = w.alloc (.cells #[.int .i64 0, .int .i64 0, .int .i64 ((r : Int) - 1), .int .i64 ((r : Int) - 1)] 122) := by
  unfold tileV
  go_enter Bar.func87, Bar.ntmps87
  go_wp2_with fail
  go_ret
  exact ⟨by simp, rfl⟩
section
variable {F : Fence} {n : Nat} {P : Program}
theorem count_dec {L : Array Bool} {i : Nat} (h : L.getD i true = false) : (L.setIfInBounds i true).count false + 1 = L.count false := by
  have hi : i < L.size := by
    rcases Nat.lt_or_ge i L.size with c | c
    · exact c
    · rw [Array.getD, dif_neg (by omega)] at h
      cases h
  have hv : L[i] = false := by rw [Array.getD, dif_pos hi] at h; exact h
  have h1 : 0 < L.count false := Array.count_pos_iff.2 (by rw [← hv]; exact Array.getElem_mem hi)
  rw [Array.setIfInBounds, dif_pos hi, Array.count_set hi, hv]
  simp
  omega
/-- A region in whatever order, by what holds between its operations. -/
theorem any_inv {md : Region.Mode} {ops : Array Oper} {Q : Exit → Act → World → Prop} (I : Array Bool → Act → World → Prop) (hstep : ∀ L a w i, I L a w → i ∈ Region.ready md ops L → wpOpIn F n P ops Q i (I (L.setIfInBounds i true)) a w) (hfin : ∀ L a w, I L a w → Region.ready md ops L = [] → Q .normal a w) :
    ∀ (f : Nat) (L : Array Bool) (a : Act) (w : World), L.count false ≤ f → I L a w → wpAnyIn F n P md ops Q f L a w
  | 0, L, a, w, hc, hI => by
    have hr : Region.ready md ops L = [] := by
      rcases h : Region.ready md ops L with _ | ⟨i, t⟩
      · rfl
      · have := count_dec (mem_ready.1 (show i ∈ Region.ready md ops L by rw [h]; exact List.mem_cons_self)).1
        omega
    exact ⟨hr, hfin L a w hI hr⟩
  | f + 1, L, a, w, hc, hI => ⟨fun h => hfin L a w hI h, fun i hi => wpOpIn_mono (fun a' w' h' => any_inv I hstep hfin f _ a' w' (by have := count_dec (mem_ready.1 hi).1; omega) h') (hstep L a w i hI hi)⟩
theorem region_inv {id : Nat} {Q : Exit → Act → World → Prop} {a : Act} {w : World} {ops : Array Oper} (hm : P.follows .mixedOrders = true) (I : Array Bool → Act → World → Prop) (h0 : I (Array.replicate ops.size false) a w.drew)
    (hstep : ∀ L a w i, I L a w → i ∈ Region.ready .any ops L → wpOpIn F n P ops Q i (I (L.setIfInBounds i true)) a w) (hfin : ∀ L a w, I L a w → Region.ready .any ops L = [] → Q .normal a w) : (Code.region id ops true).wpIn F n P Q a w := by
  refine wpIn_region_any hm ?_
  exact any_inv I hstep hfin _ _ _ _ (by simp) h0
variable {ops : Array Oper} {Q : Exit → Act → World → Prop} {K : Act → World → Prop} {a : Act} {o : Oper} {w w' : World} {i : Nat}
theorem op_val (v : Value) (hall : ∀ f, F.fn f) (hd : ∀ c, o.op ≠ .defer c) (ho : ops[i]? = some o) (hg : o.guard = none) (hrun : (execOp a.eval o).run P w = .ok (.value v) w') (hK : K (a.put o.dst v) w') : wpOpIn F n P ops Q i K a w := by
  unfold wpOpIn
  rw [ho]
  dsimp only
  rw [if_pos (by unfold Region.wanted; rw [hg])]
  refine ⟨fun f _ => hall f, ?_⟩
  rw [Oper.semAt_eq _ _ _ hd, hrun]
  exact hK
theorem op_skip (hall : ∀ f, F.fn f) (hd : ∀ c, o.op ≠ .defer c) (ho : ops[i]? = some o) (hg : o.guard = none) (hrun : (execOp a.eval o).run P w = .ok .skip w') (hK : K (a.put o.dst undef) w') : wpOpIn F n P ops Q i K a w := by
  unfold wpOpIn
  rw [ho]
  dsimp only
  rw [if_pos (by unfold Region.wanted; rw [hg])]
  refine ⟨fun f _ => hall f, ?_⟩
  rw [Oper.semAt_eq _ _ _ hd, hrun]
  exact hK
theorem op_call {f : FuncId} {args : Array Value} (hall : ∀ f, F.fn f) (hn : 1 ≤ n) (hd : ∀ c, o.op ≠ .defer c) (ho : ops[i]? = some o) (hg : o.guard = none) (hrun : (execOp a.eval o).run P w = .ok (.enter f args) w') (hc : CallsIn F (n - 1) P f args w' fun e w'' => ∃ v, e = .returned v ∧ K (a.put o.dst v) w'') : wpOpIn F n P ops Q i K a w := by
  unfold wpOpIn
  rw [ho]
  dsimp only
  rw [if_pos (by unfold Region.wanted; rw [hg])]
  refine ⟨fun f _ => hall f, ?_⟩
  rw [Oper.semAt_eq _ _ _ hd, hrun]
  refine ⟨fun _ => hn, hc.mono ?_⟩
  rintro e w'' ⟨v, rfl, h⟩
  exact h
theorem eval_put {b : Act} {d t : Nat} {v : Value} (h : d ≠ t) : (b.put (some d) v).eval (.tmp t) = b.eval (.tmp t) := by
  show (b.tmps.setIfInBounds d v).getD t undef = b.tmps.getD t undef
  simp [Array.getD_eq_getD_getElem?, Array.getElem?_setIfInBounds_ne h]
theorem eval_put_same {b : Act} {d : Nat} {v : Value} (h : d < b.tmps.size) : (b.put (some d) v).eval (.tmp d) = v := by
  show (b.tmps.setIfInBounds d v).getD d undef = v
  simp [Array.getD_eq_getD_getElem?, h]
end
/-- What the rounds keep: the cells so far, in a row of their own; the boxes. -/
structure LayI (w : World) (r g M bo ba : Nat) (all : Value) (R : CellNo r → Nat × Nat) (pre : List (CellNo r)) (W : World) : Prop where
  own : W.ownsRow w.heap.size 28 1 (.slice (some ⟨g, 0, none⟩) pre.length M) pre.length (pre.map fun x => cv (R x))
  box : Boxed W bo 25 (.slice (some ⟨g, 0, none⟩) pre.length M)
  bax : Boxed W ba 119 all
  below : Below w.heap.size w W
  lt : bo + 1 < W.heap.size
theorem boxed_from {X Y : World} {B : Nat} {t : TypeId} {v : Value} {row : Option Nat} (h : Boxed X B t v) (hg : X.grownBy Y row) (hr : ∀ k, row = some k → ∃ o : Obj, X.heap[k]? = some o ∧ o.isCells = false) : Boxed Y B t v :=
  cells_own h hg hr
theorem owns_from {X Y : World} {base e size g k cap : Nat} {xs : List Value} {row : Option Nat} (h : X.ownsRow base e size (.slice (some ⟨g, 0, none⟩) k cap) k xs) (hg : X.grownBy Y row) (hr : ∀ k, row = some k → ∃ o : Obj, X.heap[k]? = some o ∧ o.isCells = false) : Y.ownsRow base e size (.slice (some ⟨g, 0, none⟩) k cap) k xs := by
  refine h.kept hg (.inr fun e' => ?_)
  rcases h.2 with ⟨e1, _⟩ | ⟨g', cap', cur, e1, _, hgb, _⟩
  · simp at e1
  · simp only [Value.slice.injEq, Option.some.injEq, Addr.mk.injEq, and_true, true_and] at e1
    obtain ⟨o, ho, hc⟩ := hr g (by simpa [Value.ownBlock] using e'.symm)
    rw [e1.1, hgb] at ho
    cases ho
    cases hc
theorem LayI.on {w W W' : World} {r g M bo ba : Nat} {all : Value} {R : CellNo r → Nat × Nat} {pre : List (CellNo r)} (h : LayI w r g M bo ba all R pre W) (hb : Below W.heap.size W W') : LayI w r g M bo ba all R pre W' :=
  ⟨owns_from h.own (below_grown (r := none) hb) (fun k e => by cases e), boxed_from h.box (below_grown (r := none) hb) (fun k e => by cases e), boxed_from h.bax (below_grown (r := none) hb) (fun k e => by cases e), h.below.trans (hb.mono h.below.size), Nat.lt_of_lt_of_le h.lt hb.size⟩
theorem keepsFrom_below {B : Nat} {W W' : World} (h : Below W.heap.size W W') : KeepsFrom B W W' := ⟨h.size, fun k _ _ hk _ => (h.block k (Array.getElem?_eq_some_iff.1 hk).1).trans hk⟩
/-- The next cell, appended. -/
theorem lay_more {w w5 w6 : World} {r g M bo ba : Nat} {all : Value} {R : CellNo r → Nat × Nat} {pre : List (CellNo r)} (x : CellNo r) (h : LayI w r g M bo ba all R pre w5) (hba : ba < g) (hwb : w.heap.size ≤ ba) (hgb : g < bo)
    (hown : w6.ownsRow w.heap.size 28 1 (.slice (some ⟨g, 0, none⟩) (pre.length + 1) M) (pre.length + 1) ((pre.map fun x => cv (R x)) ++ [cv (R x)])) (hgr : w5.grownBy w6 (some g)) :
    Boxed w6 bo 25 (.slice (some ⟨g, 0, none⟩) pre.length M) ∧ LayI w r g M bo ba all R (pre ++ [x]) (w6.setCell ⟨bo, 0, none⟩ (.slice (some ⟨g, 0, none⟩) (pre.length + 1) M)) ∧ (∀ B, bo < B → KeepsFrom B w5 (w6.setCell ⟨bo, 0, none⟩ (.slice (some ⟨g, 0, none⟩) (pre.length + 1) M))) ∧ Keep2 (bo + 1) (bo + 1) w5 (w6.setCell ⟨bo, 0, none⟩ (.slice (some ⟨g, 0, none⟩) (pre.length + 1) M)) := by
  have hv1 := h.box.kept hgr (by intro e; cases e; omega)
  have hx1 := h.bax.kept hgr (by intro e; cases e; omega)
  have el : (pre ++ [x]).length = pre.length + 1 := by simp
  have k1 : w6.heap[bo + 1]? = w5.heap[bo + 1]? := hgr.block _ h.lt (by intro e; cases e; omega)
  have k2 : (w6.setCell ⟨bo, 0, none⟩ (.slice (some ⟨g, 0, none⟩) (pre.length + 1) M)).heap[bo + 1]? = w5.heap[bo + 1]? := (Below.heap_setCell _ _ _ _ (by show bo + 1 ≠ bo; omega)).trans k1
  refine ⟨hv1, ⟨?_, ?_, ?_, ?_, ?_⟩, fun B hB => ⟨Nat.le_trans hgr.size (grownBy_setCell' _ _ _).size, fun k o hk ho _ => ?_⟩, ⟨k2, k2⟩⟩
  · rw [el, List.map_append]
    exact hown.kept (grownBy_setCell' w6 bo _) (.inr (by simp [Value.ownBlock]; omega))
  · rw [el]
    exact hv1.set _
  · exact hx1.kept (grownBy_setCell' w6 bo _) (by intro e; cases e; omega)
  · exact (h.below.grown hgr h.below.size fun k e => by cases e; omega).setCell (p := ⟨bo, 0, none⟩) (by show w.heap.size ≤ bo; omega) _
  · exact Nat.lt_of_lt_of_le h.lt (Nat.le_trans hgr.size (grownBy_setCell' _ _ _).size)
  · rw [Below.heap_setCell _ _ _ _ (by show k ≠ bo; omega), hgr.block k (Array.getElem?_eq_some_iff.1 ho).1 (by intro e; cases e; omega)]
    exact ho
theorem row_owned {w' : World} {base g n : Nat} {xs : List Value} (h : w'.ownsRow base 28 1 (.slice (some ⟨g, 0, none⟩) n n) n xs) (f : Nat → Nat × Nat) (hx : ∀ i, i < n → xs[i]? = some (cv (f i))) : Row w' g n f := by
  rcases h.2 with ⟨h', _⟩ | ⟨g', cap, cur, h', _, hg, _, _, hcs, htake⟩
  · simp at h'
  · simp only [Value.slice.injEq, Option.some.injEq, Addr.mk.injEq, and_true, true_and] at h'
    obtain ⟨rfl, rfl⟩ := h'
    refine ⟨cur, hg, by omega, fun i hi => ?_⟩
    have h3 := hx i hi
    rw [← htake, List.getElem?_take_of_lt (by omega)] at h3
    simpa using h3
theorem layI_own {w : World} {r g M bo ba S : Nat} {all : Value} {R : CellNo r → Nat × Nat} (hS : w.heap.size ≤ S) : OwnFrom S (LayI w r g M bo ba all R) := by
  intro pre W W' row h hg hr
  exact ⟨owns_from h.own hg fun r e => (hr r e).2, boxed_from h.box hg fun r e => (hr r e).2, boxed_from h.bax hg fun r e => (hr r e).2, h.below.grown hg h.below.size fun k e => Nat.le_trans hS (hr k e).1, Nat.lt_of_lt_of_le h.lt hg.size⟩
set_option maxRecDepth 100000 in
set_option maxHeartbeats 4000000 in
theorem laidOk {s n r gs cs B : Nat} {ps : List PJ} {zb : Nat → Nat → Int × Int} (h1 : 1 ≤ n) (h2 : n ≤ 64) (hr : 1 ≤ r) (hrn : r ≤ n) (hs : s ≤ 1074) (hps : ps.length ≤ 64) (hZ : BinsZ s n ps zb B) (hB : 64 * B < 2 ^ 53) (w : World) (hS : StAt w gs n ps) :
    Calls (barP Tryz.prog) 62 #[.slice (some ⟨gs, 0, none⟩) ps.length cs, tileV r] w fun e w' => ∃ g f, e = .returned (.slice (some ⟨g, 0, none⟩) (r * r : Nat) (r * r : Nat)) ∧ Row w' g (r * r) f ∧ w.heap.size ≤ g ∧ (∀ k, k < r * r → DC s (f k) (layZ (ixP n ps) zb (tY r k * n + tX r k) ps.length)) ∧ Below w.heap.size w w' := by
  have HS := hide hS
  have HZ := hide hZ
  clear hS hZ
  obtain ⟨i0, hi0, hz0, hz1, hz2⟩ := info_parts infoC
  have kC := hide (fun (W : World) => countOk hr (by omega) W)
  obtain ⟨N, hN⟩ : ∃ N, ps.length = N := ⟨_, rfl⟩
  rw [hN]
  have hNh := hide hN
  unfold tileV at *
  have hpos : ∀ x : CellNo r, tX r x.1 < n ∧ tY r x.1 < n := fun x => ⟨Nat.lt_of_lt_of_le (Nat.mod_lt _ (by omega)) hrn, Nat.lt_of_lt_of_le ((Nat.div_lt_iff_lt_mul (by omega)).2 x.2) hrn⟩
  obtain ⟨R, hR⟩ := choice_fn fun x : CellNo r => sumOk (gs := gs) (cs := cs) h1 h2 hs hps (unhide HZ) hB (hpos x).1 (hpos x).2
  rw [hN] at hR
  have hRh := hide hR
  clear hR HZ hpos
  have hsq : r * r ≤ 4096 := square_le (by omega)
  obtain ⟨M, hM⟩ : ∃ M, r * r = M := ⟨_, rfl⟩
  rw [hM] at kC hsq
  have hM := hide hM
  have y0 := (((Below.refl _ w).alloc (Nat.le_refl _) (.cells #[.slice (some ⟨gs, 0, none⟩) N cs] 119)).alloc (by rw [World.size_alloc]; omega) (.cells #[.int .i64 0, .int .i64 0, .int .i64 ((r : Int) - 1), .int .i64 ((r : Int) - 1)] 122))
  have x0 := (Boxed.new w 119 (.slice (some ⟨gs, 0, none⟩) N cs)).alloc (.cells #[.int .i64 0, .int .i64 0, .int .i64 ((r : Int) - 1), .int .i64 ((r : Int) - 1)] 122)
  have t0 := World.alloc_heap_new (w.alloc (.cells #[.slice (some ⟨gs, 0, none⟩) N cs] 119)) (.cells #[.int .i64 0, .int .i64 0, .int .i64 ((r : Int) - 1), .int .i64 ((r : Int) - 1)] 122)
  rw [World.size_alloc] at t0
  have z0 : ((w.alloc (.cells #[.slice (some ⟨gs, 0, none⟩) N cs] 119)).alloc (.cells #[.int .i64 0, .int .i64 0, .int .i64 ((r : Int) - 1), .int .i64 ((r : Int) - 1)] 122)).heap.size = w.heap.size + 2 := by simp
  have Y0 := hide y0
  have X0 := hide x0
  have T0 := hide t0
  clear y0 x0 t0
  refine (callsIn_wide (n := 6)).1 ?_
  refine callsIn_of_wp_marks Bar.func62 rfl trivial ?_ rfl
  simp only [Bar.ntmps62, List.size_toArray, List.length_cons, List.length_nil, Nat.reduceAdd, Nat.reduceSub, Array.replicate_succ, Array.replicate_zero, List.push_toArray, List.append_toArray, List.nil_append, List.cons_append]
  gi_wp2_with fail
  generalize (w.alloc (.cells #[.slice (some ⟨gs, 0, none⟩) N cs] 119)).alloc (.cells #[.int .i64 0, .int .i64 0, .int .i64 ((r : Int) - 1), .int .i64 ((r : Int) - 1)] 122) = w0 at *
  refine ⟨trivial, ?_⟩
  refine (callsIn_wide.2 (unhide kC w0)).mono ?_
  rintro e w1 ⟨rfl, hb1⟩
  have Y1 := hide ((unhide Y0).trans (hb1.mono (unhide Y0).size))
  have X1 : Hid (Boxed w1 _ _ _) := (hb1.block _ (unhide X0).lt).trans (unhide X0)
  have T1 := hide ((hb1.block (w.heap.size + 1) (by omega)).trans (unhide T0))
  have z1 : w.heap.size + 2 ≤ w1.heap.size := by have := hb1.size; omega
  clear hb1 Y0 X0 T0 kC z0
  gi_wp2_with (first
    | (gi_at_make; refine wpListIn_make_own _ rfl (.const (.int .i64 0)) (.tmp 8) 25 rfl w.heap.size 28 i0 (.complex .f64 0 0) 1 Bar.underlying25 hi0 hz0 hz1 .i64 .i64 M M rfl rfl rfl ?c1 ?c2 ?c3 ?_))
  case c1 => rw [hz2]; omega
  case c2 => unfold maxLen; omega
  case c3 => omega
  intro w2 hown hgr
  have hb2 := grown_below hgr
  have hb3 := hb2.alloc hb2.size (.cells #[.slice (some ⟨w1.heap.size, 0, none⟩) 0 M] 25)
  have O3 := hide (hown.alloc (.cells #[.slice (some ⟨w1.heap.size, 0, none⟩) 0 M] 25))
  have B3 := hide (Boxed.new w2 25 (.slice (some ⟨w1.heap.size, 0, none⟩) 0 M))
  have Y3 := hide ((unhide Y1).trans (hb3.mono (by omega)))
  have X3 : Hid (Boxed _ _ _ _) := (hb3.block _ (unhide X1).lt).trans (unhide X1)
  have t3 := (hb3.block (w.heap.size + 1) (by omega)).trans (unhide T1)
  have k0 := block_cell t3 0
  have k1 := block_cell t3 1
  have k2 := block_cell t3 2
  have k3 := block_cell t3 3
  simp only [List.getElem?_toArray, List.getElem?_cons_zero, List.getElem?_cons_succ] at k0 k1 k2 k3
  have z2 : w1.heap.size < w2.heap.size := (hown.lt _ rfl).2
  have z3 : (w2.alloc (.cells #[.slice (some ⟨w1.heap.size, 0, none⟩) 0 M] 25)).heap.size = w2.heap.size + 1 := World.size_alloc _ _
  clear hown hgr hb2 hb3 Y1 X1 T1 t3
  generalize hg : w1.heap.size = g at *
  gi_wp2_with fail
  generalize w2.alloc (.cells #[.slice (some ⟨g, 0, none⟩) 0 M] 25) = w3 at *
  generalize hbo : w2.heap.size = bo at *
  refine ⟨trivial, ?_⟩
  refine (callsIn_wide.2 (cellsOk r w3)).mono ?_
  rintro e w4 ⟨rfl, hw4⟩
  have hb4 : Below w3.heap.size w3 w4 := by rw [hw4]; exact (Below.refl _ w3).alloc (Nat.le_refl _) _
  have t4 : w4.heap[w3.heap.size]? = some (.cells #[.int .i64 0, .int .i64 0, .int .i64 ((r : Int) - 1), .int .i64 ((r : Int) - 1)] 122 (0, 0)) := by rw [hw4]; exact World.alloc_heap_new w3 _
  have z4 : w3.heap.size < w4.heap.size := (Array.getElem?_eq_some_iff.1 t4).1
  have L0 : LayI w r g M bo w.heap.size (.slice (some ⟨gs, 0, none⟩) N cs) R [] w4 :=
    ⟨(unhide O3).kept (below_grown (r := none) hb4) (.inr (by simp [Value.ownBlock])), (hb4.block _ (unhide B3).lt).trans (unhide B3), (hb4.block _ (unhide X3).lt).trans (unhide X3), (unhide Y3).trans (hb4.mono (by omega)), by omega⟩
  have L0 := hide L0
  have kT := hide (tile_stops (r := r) hr (by omega) 5 (by decide) w3.heap.size w4 z4 (block_cell t4 0) (block_cell t4 1) (block_cell t4 2) (block_cell t4 3))
  clear hw4 hb4 t4 k0 k1 k2 k3 O3 B3 Y3 X3
  generalize w3.heap.size = bt at *
  subst z3
  gi_wp2_with fail
  refine wpIn_rangeFunc_ownH rfl (by decide) (gf := 97) (lb := #[.pointer (some ⟨bo + 1, 0, none⟩)]) rfl trivial (enters_of Bar.func97 (by kernel_rfl) rfl)
    (unhide kT) keep2_t (keep2_b (by omega) (by omega)) (Below.refl _ _) (fun _ => rfl)
    (LayI w r g M bo w.heap.size (.slice (some ⟨gs, 0, none⟩) N cs) R) (fun _ _ _ => False) (layI_own (unhide L0).below.size) (fun _ _ _ _ _ h _ _ => h) (unhide L0)
    (fun x a' W => ∃ bc, a' = ⟨#[.slice (some ⟨gs, 0, none⟩) N cs, .agg #[.int .i64 0, .int .i64 0, .int .i64 ((r : Int) - 1), .int .i64 ((r : Int) - 1)], .pointer (some ⟨w.heap.size, 0, none⟩), .pointer (some ⟨w.heap.size + 1, 0, none⟩), .slice none 0 0, .pointer (some ⟨bo, 0, none⟩), .pointer (some ⟨bc, 0, none⟩), .agg #[.int .i64 0, .int .i64 0, .int .i64 ((r : Int) - 1), .int .i64 ((r : Int) - 1)], .int .i64 M, .slice (some ⟨g, 0, none⟩) 0 M, .agg #[.int .i64 0, .int .i64 0, .int .i64 ((r : Int) - 1), .int .i64 ((r : Int) - 1)], .func (.func 97) #[] #[.pointer (some ⟨bo + 1, 0, none⟩)], .agg #[.int .i64 (tX r x.1), .int .i64 (tY r x.1)], undef, undef, undef, undef, undef, undef, undef], []⟩ ∧ W.heap[bc]? = some (.cells #[.int .i64 (tX r x.1), .int .i64 (tY r x.1)] 79 (0, 0)))
    ?hax ?assign ?body ?done ?stop
  case hax =>
    rintro x a' _ X Y row ⟨bc, e1, e2⟩ hgr hrow
    exact ⟨bc, e1, cells_own e2 hgr fun k e => (hrow k e).2⟩
  case assign =>
    intro l pre x W K hI hK
    have hb := (Below.refl W.heap.size W).alloc (Nat.le_refl _) (.cells #[.int .i64 (tX r x.1), .int .i64 (tY r x.1)] 79)
    have hk := hK _ _ (keepsFrom_below hb) (keep2_below hb hI.lt hI.lt) (hI.on hb) ⟨W.heap.size, rfl, World.alloc_heap_new W _⟩
    clear hK hb hI
    gi_wp2_with fail
    exact hk
  case body =>
    rintro l pre x a' W hl _ hI ⟨bc, rfl, hbc⟩ hlen
    rw [unhide hM] at hlen
    have hIh := hide hI
    have hlc : bc < W.heap.size := (Array.getElem?_eq_some_iff.1 hbc).1
    have q0 : ∀ w', Below W.heap.size W w' → w'.cell? ⟨bo, 0, none⟩ = some (.slice (some ⟨g, 0, none⟩) pre.length M) := fun w' hb => (hI.on hb).box.cell
    have q1 : ∀ w', Below W.heap.size W w' → w'.cell? ⟨w.heap.size, 0, none⟩ = some (.slice (some ⟨gs, 0, none⟩) N cs) := fun w' hb => (hI.on hb).bax.cell
    have q2 : ∀ w', Below W.heap.size W w' → w'.cell? ⟨bc, 0, none⟩ = some (.int .i64 (tX r x.1)) := fun w' hb => block_cell ((hb.block bc hlc).trans hbc) 0
    have q3 : ∀ w', Below W.heap.size W w' → w'.cell? ⟨bc, 1, none⟩ = some (.int .i64 (tY r x.1)) := fun w' hb => block_cell ((hb.block bc hlc).trans hbc) 1
    have kS := fun w' (hb : Below W.heap.size W w') => ((unhide hRh x).2 w' ((unhide HS).below (hI.below.trans (hb.mono hI.below.size)))).mono fun e w'' ⟨e1, e2⟩ => (⟨e1, hb.trans (e2.mono hb.size)⟩ : e = Ending.returned (cv (R x)) ∧ Below W.heap.size W w'')
    have q0 := hide q0
    have q1 := hide q1
    have q2 := hide q2
    have q3 := hide q3
    have kS := hide kS
    clear hI hbc
    gi_wp2_with fail
    have hFin := hide (fun w5 (hb : Below W.heap.size W w5) w6 hown hgr => lay_more x ((unhide hIh).on hb) (w6 := w6) (by omega) (Nat.le_refl _) (by omega) hown hgr)
    have h9 := hide (fun w5 (hb : Below W.heap.size W w5) => ((unhide hIh).on hb).own)
    have hltW := (unhide hIh).lt
    clear hIh
    refine region_inv mixed (fun L b w5 => ∃ l0 l1 l2 l3 l4 l5 l6, L = #[l0, l1, l2, l3, l4, l5, l6] ∧
      ((l5 = false ∧ l6 = false ∧ (l3 = true → l1 = true ∧ l2 = true) ∧ (l4 = true → l3 = true) ∧ b.tmps.size = 20 ∧ b.eval (.tmp 5) = .pointer (some ⟨bo, 0, none⟩) ∧ b.eval (.tmp 2) = .pointer (some ⟨w.heap.size, 0, none⟩) ∧ b.eval (.tmp 6) = .pointer (some ⟨bc, 0, none⟩)
        ∧ (l0 = true → b.eval (.tmp 13) = .slice (some ⟨g, 0, none⟩) pre.length M) ∧ (l1 = true → b.eval (.tmp 14) = .slice (some ⟨gs, 0, none⟩) N cs) ∧ (l2 = true → b.eval (.tmp 15) = .agg #[.int .i64 (tX r x.1), .int .i64 (tY r x.1)]) ∧ (l3 = true → b.eval (.tmp 16) = .complex .f64 (R x).1 (R x).2)
        ∧ (l4 = true → ∃ t, b.eval (.tmp 17) = .slice (some ⟨t, 0, none⟩) 1 1 ∧ w5.cell? ⟨t, 0, none⟩ = some (.complex .f64 (R x).1 (R x).2)) ∧ Below W.heap.size W w5)
      ∨ (l0 = true ∧ l1 = true ∧ l2 = true ∧ l3 = true ∧ l4 = true ∧ l5 = true ∧ l6 = false ∧ b.eval (.tmp 5) = .pointer (some ⟨bo, 0, none⟩) ∧ b.eval (.tmp 18) = .slice (some ⟨g, 0, none⟩) (pre.length + 1) M
        ∧ w5.cell? ⟨bo, 0, none⟩ = some (.slice (some ⟨g, 0, none⟩) pre.length M) ∧ w5.frozen? ⟨bo, 0, none⟩ = false ∧ ownPostG w4.heap.size (Keep2 (bo + 1) (bo + 1)) (LayI w r g M bo w.heap.size (.slice (some ⟨gs, 0, none⟩) N cs) R) (fun _ _ _ => False) (pre ++ [x]) W .normal b (w5.setCell ⟨bo, 0, none⟩ (.slice (some ⟨g, 0, none⟩) (pre.length + 1) M)))
      ∨ (l0 = true ∧ l1 = true ∧ l2 = true ∧ l3 = true ∧ l4 = true ∧ l5 = true ∧ l6 = true ∧ ownPostG w4.heap.size (Keep2 (bo + 1) (bo + 1)) (LayI w r g M bo w.heap.size (.slice (some ⟨gs, 0, none⟩) N cs) R) (fun _ _ _ => False) (pre ++ [x]) W .normal b w5))) ?g0 ?gs ?gf
    case g0 =>
      exact ⟨false, false, false, false, false, false, false, rfl, .inl ⟨rfl, rfl, (fun h => by cases h), (fun h => by cases h), rfl, rfl, rfl, rfl, (fun h => by cases h), (fun h => by cases h), (fun h => by cases h), (fun h => by cases h), (fun h => by cases h), ⟨rfl, rfl, rfl, Nat.le_refl _, fun _ _ => rfl⟩⟩⟩
    case gf =>
      rintro L b w5 ⟨l0, l1, l2, l3, l4, l5, l6, rfl, hI⟩ hrd
      have hrd := congrArg List.isEmpty hrd
      rcases hI with ⟨rfl, rfl, _⟩ | ⟨rfl, rfl, rfl, rfl, rfl, rfl, rfl, _⟩ | ⟨_, _, _, _, _, _, _, hP⟩
      · revert hrd
        cases l0 <;> cases l1 <;> cases l2 <;> cases l3 <;> cases l4 <;> (intro h; exact absurd h (by decide +kernel))
      · exact absurd hrd (by decide +kernel)
      · exact hP
    case gs =>
      rintro L b w5 i ⟨l0, l1, l2, l3, l4, l5, l6, rfl, hI⟩ hi
      obtain ⟨hi0', o, ho, hdep⟩ := mem_ready.1 hi
      clear hi
      have hi7 : i < 7 := (Array.getElem?_eq_some_iff.1 ho).1
      obtain rfl | rfl | rfl | rfl | rfl | rfl | rfl : i = 0 ∨ i = 1 ∨ i = 2 ∨ i = 3 ∨ i = 4 ∨ i = 5 ∨ i = 6 := by omega
      · rcases hI with ⟨e5, e6, e3, e4, sz, t5, t2, t6, v0, v1, v2, v3, v4, hB⟩ | hI | hI
        · refine op_val (.slice (some ⟨g, 0, none⟩) pre.length M) (fun _ => trivial) (fun c h => by cases h) rfl rfl (w' := w5) ?_ ⟨true, l1, l2, l3, l4, l5, l6, rfl, .inl ⟨e5, e6, e3, e4, (by show (b.tmps.setIfInBounds _ _).size = 20; simp [sz]), (eval_put (by decide)).trans t5, (eval_put (by decide)).trans t2, (eval_put (by decide)).trans t6, fun _ => eval_put_same (by omega), fun h => (eval_put (by decide)).trans (v1 h), fun h => (eval_put (by decide)).trans (v2 h), fun h => (eval_put (by decide)).trans (v3 h), fun h => (let ⟨t, a1, a2⟩ := v4 h; ⟨t, (eval_put (by decide)).trans a1, a2⟩), hB⟩⟩
          have z0 := unhide q0 w5 hB
          generalize b.eval = ρ at t5 t2 t6 ⊢
          go_simp
        · have c1 : l0 = true := hI.1
          have c2 : l0 = false := hi0'
          rw [c1] at c2
          cases c2
        · have c1 : l0 = true := hI.1
          have c2 : l0 = false := hi0'
          rw [c1] at c2
          cases c2
      · rcases hI with ⟨e5, e6, e3, e4, sz, t5, t2, t6, v0, v1, v2, v3, v4, hB⟩ | hI | hI
        · refine op_val (.slice (some ⟨gs, 0, none⟩) N cs) (fun _ => trivial) (fun c h => by cases h) rfl rfl (w' := w5) ?_ ⟨l0, true, l2, l3, l4, l5, l6, rfl, .inl ⟨e5, e6, (fun h => ⟨rfl, (e3 h).2⟩), e4, (by show (b.tmps.setIfInBounds _ _).size = 20; simp [sz]), (eval_put (by decide)).trans t5, (eval_put (by decide)).trans t2, (eval_put (by decide)).trans t6, fun h => (eval_put (by decide)).trans (v0 h), fun _ => eval_put_same (by omega), fun h => (eval_put (by decide)).trans (v2 h), fun h => (eval_put (by decide)).trans (v3 h), fun h => (let ⟨t, a1, a2⟩ := v4 h; ⟨t, (eval_put (by decide)).trans a1, a2⟩), hB⟩⟩
          have z0 := unhide q1 w5 hB
          generalize b.eval = ρ at t5 t2 t6 ⊢
          go_simp
        · have c1 : l1 = true := hI.2.1
          have c2 : l1 = false := hi0'
          rw [c1] at c2
          cases c2
        · have c1 : l1 = true := hI.2.1
          have c2 : l1 = false := hi0'
          rw [c1] at c2
          cases c2
      · rcases hI with ⟨e5, e6, e3, e4, sz, t5, t2, t6, v0, v1, v2, v3, v4, hB⟩ | hI | hI
        · refine op_val (.agg #[.int .i64 (tX r x.1), .int .i64 (tY r x.1)]) (fun _ => trivial) (fun c h => by cases h) rfl rfl (w' := w5) ?_ ⟨l0, l1, true, l3, l4, l5, l6, rfl, .inl ⟨e5, e6, (fun h => ⟨(e3 h).1, rfl⟩), e4, (by show (b.tmps.setIfInBounds _ _).size = 20; simp [sz]), (eval_put (by decide)).trans t5, (eval_put (by decide)).trans t2, (eval_put (by decide)).trans t6, fun h => (eval_put (by decide)).trans (v0 h), fun h => (eval_put (by decide)).trans (v1 h), fun _ => eval_put_same (by omega), fun h => (eval_put (by decide)).trans (v3 h), fun h => (let ⟨t, a1, a2⟩ := v4 h; ⟨t, (eval_put (by decide)).trans a1, a2⟩), hB⟩⟩
          have z0 := unhide q2 w5 hB
          have z1 := unhide q3 w5 hB
          generalize b.eval = ρ at t5 t2 t6 ⊢
          go_simp
        · have c1 : l2 = true := hI.2.2.1
          have c2 : l2 = false := hi0'
          rw [c1] at c2
          cases c2
        · have c1 : l2 = true := hI.2.2.1
          have c2 : l2 = false := hi0'
          rw [c1] at c2
          cases c2
      · cases (show some _ = some o from ho)
        have d1 : l1 = true := hdep ⟨1, .data⟩ (by simp) rfl
        have d2 : l2 = true := hdep ⟨2, .data⟩ (by simp) rfl
        have l3f : l3 = false := hi0'
        rcases hI with ⟨e5, e6, e3, e4, sz, t5, t2, t6, v0, v1, v2, v3, v4, hB⟩ | hI | hI
        · refine op_call (f := 88) (args := #[.slice (some ⟨gs, 0, none⟩) N cs, .agg #[.int .i64 (tX r x.1), .int .i64 (tY r x.1)]]) (w' := w5) (fun _ => trivial) (by decide) (fun c h => by cases h) rfl rfl ?_ (((callsIn_wide.2 (unhide kS w5 hB)).inRound l).mono ?_)
          · have z1 := v1 d1
            have z2 := v2 d2
            have z3 : b.eval (.func 88) = .func (.func 88) #[] #[] := rfl
            generalize b.eval = ρ at z1 z2 z3 ⊢
            go_simp
          · rintro e w6 ⟨rfl, hB6⟩
            exact ⟨_, rfl, ⟨l0, l1, l2, true, l4, l5, l6, rfl, .inl ⟨e5, e6, (fun _ => ⟨d1, d2⟩), (fun _ => rfl), (by show (b.tmps.setIfInBounds _ _).size = 20; simp [sz]), (eval_put (by decide)).trans t5, (eval_put (by decide)).trans t2, (eval_put (by decide)).trans t6, fun h => (eval_put (by decide)).trans (v0 h), fun h => (eval_put (by decide)).trans (v1 h), fun h => (eval_put (by decide)).trans (v2 h), fun _ => eval_put_same (by omega), (fun h => by have := e4 h; rw [l3f] at this; cases this), hB6⟩⟩⟩
        · rw [hI.2.2.2.1] at l3f
          cases l3f
        · rw [hI.2.2.2.1] at l3f
          cases l3f
      · cases (show some _ = some o from ho)
        have d3 : l3 = true := hdep ⟨3, .data⟩ (by simp) rfl
        have l4f : l4 = false := hi0'
        rcases hI with ⟨e5, e6, e3, e4, sz, t5, t2, t6, v0, v1, v2, v3, v4, hB⟩ | hI | hI
        · have hb6 := hB.alloc hB.size (.cells #[.complex .f64 (R x).1 (R x).2] 28)
          refine op_val (.slice (some ⟨w5.heap.size, 0, none⟩) 1 1) (fun _ => trivial) (fun c h => by cases h) rfl rfl (w' := w5.alloc (.cells #[.complex .f64 (R x).1 (R x).2] 28)) ?_ ⟨l0, l1, l2, l3, true, l5, l6, rfl, .inl ⟨e5, e6, e3, (fun _ => d3), (by show (b.tmps.setIfInBounds _ _).size = 20; simp [sz]), (eval_put (by decide)).trans t5, (eval_put (by decide)).trans t2, (eval_put (by decide)).trans t6, fun h => (eval_put (by decide)).trans (v0 h), fun h => (eval_put (by decide)).trans (v1 h), fun h => (eval_put (by decide)).trans (v2 h), fun h => (eval_put (by decide)).trans (v3 h), fun _ => ⟨w5.heap.size, eval_put_same (by omega), block_cell (World.alloc_heap_new w5 _) 0⟩, hb6⟩⟩
          have z3 := v3 d3
          generalize b.eval = ρ at z3 ⊢
          generalize (R x).1 = u1 at *
          generalize (R x).2 = u2 at *
          go_simp
        · rw [hI.2.2.2.2.1] at l4f
          cases l4f
        · rw [hI.2.2.2.2.1] at l4f
          cases l4f
      · cases (show some _ = some o from ho)
        have d0 : l0 = true := hdep ⟨0, .data⟩ (by simp) rfl
        have d4 : l4 = true := hdep ⟨4, .data⟩ (by simp) rfl
        have l5f : l5 = false := hi0'
        rcases hI with ⟨e5, e6, e3, e4, sz, t5, t2, t6, v0, v1, v2, v3, v4, hB⟩ | hI | hI
        · obtain ⟨t, y1, y2⟩ := v4 d4
          have d3 := e4 d4
          obtain ⟨d1, d2⟩ := e3 d3
          obtain ⟨w6, hrun, hown, hgr⟩ := run_append_fits (P := (barP Tryz.prog)) (w := w5) w.heap.size 25 25 28 i0 1 Bar.underlying25 hi0 hz1 g pre.length M _ (unhide h9 w5 hB) ⟨t, 0, none⟩ 1 1 [.complex .f64 (R x).1 (R x).2] rfl (fun j u hu => by
            match j, hu with
            | 0, hu =>
              simp at hu
              subst hu
              exact y2) (by simp [Value.oneCell']) hlen
          obtain ⟨f1, f2, f3, f4⟩ := unhide hFin w5 hB w6 hown hgr
          refine op_val (.slice (some ⟨g, 0, none⟩) (pre.length + 1) M) (fun _ => trivial) (fun c h => by cases h) rfl rfl (w' := w6) ?_ ⟨l0, l1, l2, l3, l4, true, l6, rfl, .inr (.inl ⟨d0, d1, d2, d3, d4, rfl, e6, (eval_put (by decide)).trans t5, eval_put_same (by omega), f1.cell, f1.frozen, (keepsFrom_below hB).trans (f3 _ (by omega)), keep2_t (keep2_below hB hltW hltW) f4, f2⟩)⟩
          have z0 := v0 d0
          generalize b.eval = ρ at z0 y1 ⊢
          simp [execOp, resolve, invoke, builtin, z0, y1, hrun, Result.andThen]
        · rw [hI.2.2.2.2.2.1] at l5f
          cases l5f
        · rw [hI.2.2.2.2.2.1] at l5f
          cases l5f
      · cases (show some _ = some o from ho)
        have d5 : l5 = true := hdep ⟨5, .data⟩ (by simp) rfl
        have l6f : l6 = false := hi0'
        rcases hI with hI | ⟨d0, d1, d2, d3, d4, _, _, t5, t18, c1, c2, hP⟩ | hI
        · rw [hI.1] at d5
          cases d5
        · refine op_skip (fun _ => trivial) (fun c h => by cases h) rfl rfl (w' := w5.setCell ⟨bo, 0, none⟩ (.slice (some ⟨g, 0, none⟩) (pre.length + 1) M)) ?_ ⟨l0, l1, l2, l3, l4, l5, true, rfl, .inr (.inr ⟨d0, d1, d2, d3, d4, d5, rfl, hP⟩)⟩
          generalize b.eval = ρ at t5 t18 ⊢
          go_simp
        · rw [hI.2.2.2.2.2.2.1] at l6f
          cases l6f
  case done =>
    rintro D xs W hD hS hI hK
    have s1 := hI.box.cell
    have hlen : xs.length = M := by rw [pre_len hS]; exact unhide hM
    rw [hlen] at s1
    gi_wp2
    refine ⟨by simp, .inl ⟨_, _, rfl, run_takeDeferred hK, ?_⟩⟩
    refine ⟨_, results_tmp rfl _ _ _, ?_⟩
    have hown := hI.own
    rw [hlen] at hown
    have hM' := unhide hM
    refine ⟨g, fun k => if h : k < r * r then R ⟨k, h⟩ else (0, 0), by rw [hM']; rfl, ?_, by omega, fun k hk => ?_, ?_⟩
    · rw [← hM'] at hown
      refine row_owned (ownsRow_putObj hown (.deferred none) hK rfl) _ fun k hk2 => ?_
      rw [dif_pos hk2, List.getElem?_map]
      have h5 : xs[k]?.map (·.1) = some k := by rw [← List.getElem?_map, hS, List.getElem?_range hk2]
      obtain ⟨y, hy, hy2⟩ := Option.map_eq_some_iff.1 h5
      rw [hy]
      obtain ⟨y, hyp⟩ := y
      dsimp only at hy2
      subst hy2
      rfl
    · dsimp only
      rw [dif_pos hk]
      exact (unhide hRh ⟨k, hk⟩).1
    · exact hI.below.trans (belowK_b (w := w) (Nat.le_refl _) _ D _ _ (by omega) hK rfl rfl)
  case stop =>
    rintro D c pre W _ _ h _
    exact h.elim
end Go.Proofs.YtfnbcpeipoobkaaGreat

namespace Go.Proofs.YtfnbcpeipoobkaaGreat
open Go.RowKit Go.Shelf Fl Ieee
attribute [local go_sem] store_complex

set_option maxRecDepth 100000 in
set_option maxHeartbeats 1600000 in
theorem allOk {s n gq cq B : Nat} {ps : List PJ} {zb : Nat → Nat → Int × Int} (h1 : 1 ≤ n) (h2 : n ≤ 64) (hs : s ≤ 1074) (hps : ps.length ≤ 64) (hZ : BinsZ s n ps zb B) (hB : 64 * B < 2 ^ 53) (w : World) (hA : PJAt w gq ps) :
    Calls (barP Tryz.prog) 32 #[.int .i64 n, .slice (some ⟨gq, 0, none⟩) ps.length cq] w fun e w' => ∃ g f, e = .returned (.tuple #[.agg #[.int .i64 n, .slice (some ⟨g, 0, none⟩) (n * n : Nat) (n * n : Nat)], .int .i64 0]) ∧ Row w' g (n * n) f ∧ w.heap.size ≤ g ∧ (∀ k, k < n * n → DC s (f k) (layZ (ixP n ps) zb k ps.length)) ∧ Below w.heap.size w w' := by
  have kL := hide (fun (W : World) hA' => blookOk (gq := gq) (cq := cq) h1 h2 hps (fun i hi => (hZ i hi).1) W hA')
  have kS := hide (fun (W : World) hA' => stripsOk (gq := gq) (cq := cq) h1 hps (fun i hi => (hZ i hi).1) W hA')
  have kD := hide (fun (W : World) gs hS => laidOk (gs := gs) (cs := ps.length) (r := n) h1 h2 h1 (Nat.le_refl n) hs hps hZ hB W hS)
  have HA := hide hA
  unfold tileV at kD
  clear hA hZ
  have hlen : ps.length ≤ 64 := hps
  generalize hN : ps.length = N at *
  go_enter Bar.func32, Bar.ntmps32
  go_wp2_with fail
  have y0 := (Below.refl w.heap.size w).alloc (Nat.le_refl _) (.cells #[.int .i64 0, .slice none 0 0] 27)
  have x0 := World.alloc_heap_new w (.cells #[.int .i64 0, .slice none 0 0] 27)
  have A0 := hide ((unhide HA).below y0)
  have z0 : (w.alloc (.cells #[.int .i64 0, .slice none 0 0] 27)).heap.size = w.heap.size + 1 := World.size_alloc _ _
  generalize w.alloc (.cells #[.int .i64 0, .slice none 0 0] 27) = w0 at *
  refine (unhide kL _ (unhide A0)).mono ?_
  rintro e w1 ⟨rfl, hb1⟩
  have A1 := hide ((unhide A0).below hb1)
  have B1 := hide (y0.trans (hb1.mono y0.size))
  have X1 := hide ((hb1.block w.heap.size (by omega)).trans x0)
  have z1 : w.heap.size + 1 ≤ w1.heap.size := by have := hb1.size; omega
  clear hb1 HA A0 kL y0 x0
  go_wp2_with fail
  have y2 := (Below.refl w1.heap.size w1).alloc (Nat.le_refl _) (.cells #[.int .i64 0, .int .i64 0, .int .i64 ((n : Int) - 1), .int .i64 ((n : Int) - 1)] 122)
  have x2 := World.alloc_heap_new w1 (.cells #[.int .i64 0, .int .i64 0, .int .i64 ((n : Int) - 1), .int .i64 ((n : Int) - 1)] 122)
  have y3 : Below w1.heap.size w1 (w1.alloc (.cells #[.int .i64 0, .int .i64 0, .int .i64 ((n : Int) - 1), .int .i64 ((n : Int) - 1)] 122)).drew := ⟨y2.os, y2.tape, y2.output, y2.size, y2.block⟩
  have z2 : (w1.alloc (.cells #[.int .i64 0, .int .i64 0, .int .i64 ((n : Int) - 1), .int .i64 ((n : Int) - 1)] 122)).drew.heap.size = w1.heap.size + 1 := World.size_alloc _ _
  have A2 := hide ((unhide A1).below y3)
  have B2 := hide ((unhide B1).trans (y3.mono (by omega)))
  have X2 := hide ((y3.block w.heap.size (by omega)).trans (unhide X1))
  have x3 : (w1.alloc (.cells #[.int .i64 0, .int .i64 0, .int .i64 ((n : Int) - 1), .int .i64 ((n : Int) - 1)] 122)).drew.heap[w1.heap.size]? = _ := x2
  have c0 := block_cell x3 0
  have c1 := block_cell x3 1
  have c2 := block_cell x3 2
  have c3 := block_cell x3 3
  simp only [List.getElem?_toArray, List.getElem?_cons_zero, List.getElem?_cons_succ] at c0 c1 c2 c3
  clear A1 B1 X1 y2 x2 y3 x3
  go_region_with (first
    | (go_at_call 63; refine (unhide kS _ (unhide A2)).mono ?_; rintro e w3 ⟨gs, rfl, hSt, hb3⟩
       have e0 := (hb3.cell (p := ⟨w1.heap.size, 0, none⟩) (by show w1.heap.size < _; omega)).trans c0
       have e1 := (hb3.cell (p := ⟨w1.heap.size, 1, none⟩) (by show w1.heap.size < _; omega)).trans c1
       have e2 := (hb3.cell (p := ⟨w1.heap.size, 2, none⟩) (by show w1.heap.size < _; omega)).trans c2
       have e3 := (hb3.cell (p := ⟨w1.heap.size, 3, none⟩) (by show w1.heap.size < _; omega)).trans c3
       have B3 := hide ((unhide B2).trans (hb3.mono (unhide B2).size))
       have X3 := hide ((hb3.block w.heap.size (by omega)).trans (unhide X2))
       have z3 : w.heap.size + 1 ≤ w3.heap.size := by have := hb3.size; omega
       have S3 := hide hSt
       clear hb3 hSt)
    | (go_at_call 62; refine (unhide kD _ _ (unhide S3)).mono ?_; rintro e w4 ⟨g, f, rfl, hRow, hg, hDC, hb4⟩
       have x4 := (hb4.block w.heap.size (by omega)).trans (unhide X3)
       have k0 := block_cell x4 0
       have k1 := block_cell x4 1
       have j0 := block_frozen x4 0
       have j1 := block_frozen x4 1
       simp only [List.getElem?_toArray, List.getElem?_cons_zero, List.getElem?_cons_succ] at k0 k1
       have X4 := hide x4
       have R4 := hide hRow
       have D4 := hide hDC
       have B4 := hide ((unhide B3).trans (hb4.mono (unhide B3).size))
       clear hb4 x4 hRow hDC))
  all_goals go_wp2_with fail
  all_goals
    have u1 := heap_setCell_same w4 w.heap.size 0 _ _ (.int .i64 n) (unhide X4)
    have u2 := heap_setCell_same _ w.heap.size 1 _ _ (.slice (some ⟨g, 0, none⟩) (n * n : Nat) (n * n : Nat)) u1
    refine bodyPost_ret (results_two_tmp (P := (barP Tryz.prog)) rfl _ _ w.heap.size (.int .i64 n) (.slice (some ⟨g, 0, none⟩) (n * n : Nat) (n * n : Nat)) (.int .i64 0) _ rfl rfl (block_cell u2 0) (block_cell u2 1) Bar.underlying27 rfl (by kernel_rfl)) rfl ?_
    refine ⟨g, f, rfl, row_keep (unhide R4) ?_, by omega, fun k hk => ?_, ?_⟩
    · rw [Below.heap_setCell _ _ _ _ (by show g ≠ w.heap.size; omega), Below.heap_setCell _ _ _ _ (by show g ≠ w.heap.size; omega)]
    · have h := unhide D4 k hk
      rwa [show tY n k * n + tX n k = k from Nat.div_add_mod' k n] at h
    · exact ((unhide B4).setCell (p := ⟨w.heap.size, 0, none⟩) (Nat.le_refl _) _).setCell (p := ⟨w.heap.size, 1, none⟩) (Nat.le_refl _) _
end Go.Proofs.YtfnbcpeipoobkaaGreat
