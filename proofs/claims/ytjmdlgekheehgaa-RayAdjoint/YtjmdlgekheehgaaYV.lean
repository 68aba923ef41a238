/- Bins spread over a field: package ray's own. -/
import Derived.Test.YtjmdlgekheehgaaYO
namespace Go.Proofs.Ytjmdlgekheehgaa
open Go.RowKit Go.Shelf
attribute [local go_sem] Oper.semAt_some store_complex

/-- What a spreading's call has laid at first: its bins, its answer. -/
structure Boxes2 (w W : World) (pv rv : Array Value) (tp tr : TypeId) : Prop where
  one : W.heap[w.heap.size]? = some (.cells pv tp (0, 0))
  two : W.heap[w.heap.size + 1]? = some (.cells rv tr (0, 0))
  size : w.heap.size + 2 ≤ W.heap.size
  below : Below w.heap.size w W

theorem boxes2_new (w : World) (pv rv : Array Value) (tp tr : TypeId) : Boxes2 w ((w.alloc (.cells pv tp)).alloc (.cells rv tr)) pv rv tp tr := by
  have e1 := World.alloc_heap_new w (.cells pv tp)
  have e2 := World.alloc_heap_new (w.alloc (.cells pv tp)) (.cells rv tr)
  rw [World.size_alloc] at e2
  refine ⟨?_, e2, by simp, ((Below.refl _ w).alloc (Nat.le_refl _) _).alloc (by simp) _⟩
  rw [Below.heap_alloc _ _ _ (by simp), e1]

theorem Boxes2.on {w W W' : World} {pv rv : Array Value} {tp tr : TypeId} (h : Boxes2 w W pv rv tp tr) (k : Below (w.heap.size + 2) W W') : Boxes2 w W' pv rv tp tr :=
  ⟨(k.block _ (by omega)).trans h.one, (k.block _ (by omega)).trans h.two, Nat.le_trans h.size k.size, h.below.trans (k.mono (by omega))⟩

theorem Boxes2.own {w W W' : World} {pv rv : Array Value} {tp tr : TypeId} {row : Option Nat} (h : Boxes2 w W pv rv tp tr) (hg : W.grownBy W' row) (hr : ∀ r, row = some r → w.heap.size ≤ r ∧ ∃ o : Obj, W.heap[r]? = some o ∧ o.isCells = false) : Boxes2 w W' pv rv tp tr := by
  have := h.size
  exact ⟨cells_own h.one hg fun r e => (hr r e).2, cells_own h.two hg fun r e => (hr r e).2, Nat.le_trans h.size hg.size, h.below.grown hg (by omega) fun k e => (hr k e).1⟩

/-- What the rounds keep: the field so far, the bins, the boxes. -/
structure Fill (w : World) (n M gl cl B gs bs : Nat) (P Q : Int) (fl : Nat → Nat × Nat) (l : List Nat) (W : World) : Prop where
  cells : ∃ f', Row W gs M f' ∧ ∀ j, j ∈ l → f' j = fl (ixN n (P, Q) j)
  sl : W.heap[bs]? = some (.cells #[.int .i64 n, .slice (some ⟨gs, 0, none⟩) M M] 29 (0, 0))
  bins : Row W gl B fl
  boxes : Boxes2 w W #[.int .i64 P, .int .i64 Q, .slice (some ⟨gl, 0, none⟩) B cl] #[.int .i64 0, .slice none 0 0] 31 29

theorem fill_own {w : World} {n M gl cl B gs bs S : Nat} {P Q : Int} {fl : Nat → Nat × Nat} (hS : w.heap.size ≤ S) : OwnFrom S (fun (pre : List (CellNo n)) W => Fill w n M gl cl B gs bs P Q fl (pre.map (·.1)) W) := by
  intro s W W' row h hg hr
  obtain ⟨⟨f', h1, h2⟩, h3, h4, h5⟩ := h
  exact ⟨⟨f', row_own h1 hg fun r e => (hr r e).2, h2⟩, cells_own h3 hg fun r e => (hr r e).2, row_own h4 hg fun r e => (hr r e).2, h5.own hg fun r e => ⟨Nat.le_trans hS (hr r e).1, (hr r e).2⟩⟩

/-- The answer laid; the block of the rounds' deferred calls turned. -/
theorem set2 {w W : World} {pv : Array Value} {tp tr : TypeId} {gs M D : Nat} {f : Nat → Nat × Nat} {a b x y : Value} (h : Boxes2 w W pv #[x, y] tp tr) (hR : Row W gs M f) (hK : W.heap[D]? = some (.deferred (some []))) (hg : w.heap.size + 2 ≤ gs) (hD : w.heap.size + 2 ≤ D) :
    ((W.setCell ⟨w.heap.size + 1, 0, none⟩ a).setCell ⟨w.heap.size + 1, 1, none⟩ b).heap[D]? = some (.deferred (some [])) ∧
    (((W.setCell ⟨w.heap.size + 1, 0, none⟩ a).setCell ⟨w.heap.size + 1, 1, none⟩ b).putObj D (.deferred none)).cell? ⟨w.heap.size + 1, 0, none⟩ = some a ∧
    (((W.setCell ⟨w.heap.size + 1, 0, none⟩ a).setCell ⟨w.heap.size + 1, 1, none⟩ b).putObj D (.deferred none)).cell? ⟨w.heap.size + 1, 1, none⟩ = some b ∧
    Row (((W.setCell ⟨w.heap.size + 1, 0, none⟩ a).setCell ⟨w.heap.size + 1, 1, none⟩ b).putObj D (.deferred none)) gs M f ∧
    Below w.heap.size w (((W.setCell ⟨w.heap.size + 1, 0, none⟩ a).setCell ⟨w.heap.size + 1, 1, none⟩ b).putObj D (.deferred none)) := by
  have hD' : D < W.heap.size := (Array.getElem?_eq_some_iff.1 hK).1
  have e1 := heap_setCell_same W (w.heap.size + 1) 0 _ _ a h.two
  have e2 := heap_setCell_same _ (w.heap.size + 1) 1 _ _ b e1
  have hk : ((W.setCell ⟨w.heap.size + 1, 0, none⟩ a).setCell ⟨w.heap.size + 1, 1, none⟩ b).heap[D]? = some (.deferred (some [])) := by
    rw [Below.heap_setCell _ _ _ _ (by show D ≠ w.heap.size + 1; omega), Below.heap_setCell _ _ _ _ (by show D ≠ w.heap.size + 1; omega), hK]
  have e4 : (((W.setCell ⟨w.heap.size + 1, 0, none⟩ a).setCell ⟨w.heap.size + 1, 1, none⟩ b).putObj D (.deferred none)).heap[w.heap.size + 1]? = _ := (World.putObj_heap_other (by omega)).trans e2
  refine ⟨hk, ?_, ?_, ?_, ?_⟩
  · rw [block_cell e4]; rfl
  · rw [block_cell e4]; rfl
  · refine row_keep hR ?_
    have hne : gs ≠ D := by
      intro e
      obtain ⟨cur, hc, _⟩ := hR
      rw [e, hK] at hc
      cases hc
    rw [World.putObj_heap_other (by omega)]
    rw [Below.heap_setCell _ _ _ _ (by show gs ≠ w.heap.size + 1; omega), Below.heap_setCell _ _ _ _ (by show gs ≠ w.heap.size + 1; omega)]
  · exact ((h.below.setCell (p := ⟨w.heap.size + 1, 0, none⟩) (by show w.heap.size ≤ w.heap.size + 1; omega) a).setCell (p := ⟨w.heap.size + 1, 1, none⟩) (by show w.heap.size ≤ w.heap.size + 1; omega) b).trans
      (belowK_b (w := w) (Nat.le_refl _) _ D _ _ (by omega) hk rfl rfl)

set_option maxHeartbeats 1600000 in
/-- Package grid's own: a field of noughts. -/
theorem blankAny {n M : Nat} (hM : n * n = M) (h4 : M ≤ 4096) (w : World) :
    Calls Try.prog 23 #[.int .i64 n] w fun e w' => ∃ g', e = .returned (.agg #[.int .i64 n, .slice (some ⟨g', 0, none⟩) M M]) ∧ w.heap.size ≤ g' ∧ Row w' g' M (fun _ => (0, 0)) ∧ Below w.heap.size w w' := by
  obtain ⟨i0, hi0, hz0, hz1, hz2⟩ := info_parts infoC
  have q5 : (n : Int) * (n : Int) = (M : Int) := by rw [← hM, Int.natCast_mul]
  have q6 : IntKind.i64.wrap (M : Int) = M := by rw [IntKind.wrap_i64]; omega
  have hM' := hide hM
  clear hM
  have hb1 := hide ((Below.refl w.heap.size w).alloc (Nat.le_refl _) (.cells #[.int .i64 0, .slice none 0 0] 29))
  have hc1 := hide (World.alloc_heap_new w (.cells #[.int .i64 0, .slice none 0 0] 29))
  go_enter Try.func23, Try.ntmps23
  go_wp2_with (first
    | (at_make; refine wpList_make_full _ rfl (.tmp 6) (.tmp 6) 26 rfl w.heap.size 37 i0 (.complex .f64 0 0) 1 Try.underlying26 hi0 hz0 hz1 .i64 .i64 M M M rfl rfl rfl rfl ?c1 ?c2 ?c3 ?_))
  case c1 => rw [hz2]; omega
  case c2 => unfold maxLen; omega
  case c3 => simp
  intro W2 hown2 hg2
  have hT : Hid (Row W2 (w.heap.size + 1) M (fun _ => (0, 0))) := row_made hown2 (fun _ => (0, 0)) (fun i hi => zeros_get M i hi) (fun _ _ => rfl)
  have hb2 := grown_below hg2
  rw [World.size_alloc] at hb2
  have hc2 := (hb2.block _ (Nat.lt_succ_self _)).trans (unhide hc1)
  have e0 := block_cell hc2 0
  have e1 := block_cell hc2 1
  have g0 := block_frozen hc2 0
  have g1 := block_frozen hc2 1
  simp only [List.getElem?_toArray, List.getElem?_cons_zero, List.getElem?_cons_succ] at e0 e1
  have hc3 := hide hc2
  have hb3 := hide ((unhide hb1).trans (hb2.mono (Nat.le_succ _)))
  clear hown2 hg2 hc1 hb1 hb2 hc2
  go_wp2
  have x1 := heap_setCell_same W2 w.heap.size 0 _ _ (.int .i64 n) (unhide hc3)
  have x2 := heap_setCell_same _ w.heap.size 1 _ _ (.slice (some ⟨w.heap.size + 1, 0, none⟩) M M) x1
  refine bodyPost_ret (results_two (P := Try.prog) rfl _ _ w.heap.size (.int .i64 n) (.slice (some ⟨w.heap.size + 1, 0, none⟩) M M) _ rfl (by rw [block_cell x2]; rfl) (by rw [block_cell x2]; rfl) Try.underlying29 rfl (by kernel_rfl)) rfl ?_
  refine ⟨w.heap.size + 1, rfl, by omega, row_keep (unhide hT) ?_, ((unhide hb3).setCell (p := ⟨w.heap.size, 0, none⟩) (Nat.le_refl _) _).setCell (p := ⟨w.heap.size, 1, none⟩) (Nat.le_refl _) _⟩
  rw [Below.heap_setCell _ _ _ _ (by show w.heap.size + 1 ≠ w.heap.size; omega), Below.heap_setCell _ _ _ _ (by show w.heap.size + 1 ≠ w.heap.size; omega)]

set_option maxHeartbeats 1600000 in
/-- Package grid's own: a new grid. -/
theorem newAny {n M : Nat} (h1 : 1 ≤ n) (h2 : n ≤ 64) (hM : n * n = M) (h4 : M ≤ 4096) (w : World) :
    Calls Try.prog 13 #[.int .i64 n] w fun e w' => ∃ g', e = .returned (.tuple #[.agg #[.int .i64 n, .slice (some ⟨g', 0, none⟩) M M], .int .i64 0]) ∧ w.heap.size ≤ g' ∧ Row w' g' M (fun _ => (0, 0)) ∧ Below w.heap.size w w' := by
  have kS := hide fun w => gridSide h1 h2 w
  have kB := hide fun w => blankAny hM h4 w
  have hb1 := hide ((Below.refl w.heap.size w).alloc (Nat.le_refl _) (.cells #[.int .i64 0, .slice none 0 0] 29))
  have hc1 := hide (World.alloc_heap_new w (.cells #[.int .i64 0, .slice none 0 0] 29))
  have hs1 := hide (World.size_alloc w (.cells #[.int .i64 0, .slice none 0 0] 29))
  clear hM
  go_enter Try.func13, Try.ntmps13
  go_wp2_with (first | (go_at_call 22; refine (unhide kS _).mono ?_; rintro e w' ⟨rfl, rfl⟩))
  generalize w.alloc (.cells #[.int .i64 0, .slice none 0 0] 29) = W1 at hb1 hc1 hs1 ⊢
  refine (unhide kB W1).mono ?_
  rintro e W2 ⟨g', rfl, hg, hR, hb2⟩
  have hsz := unhide hs1
  have hc2 := (hb2.block _ (by omega)).trans (unhide hc1)
  have e0 := block_cell hc2 0
  have e1 := block_cell hc2 1
  have g0 := block_frozen hc2 0
  have g1 := block_frozen hc2 1
  simp only [List.getElem?_toArray, List.getElem?_cons_zero, List.getElem?_cons_succ] at e0 e1
  have hc2 := hide hc2
  have hR := hide hR
  have hb2 := hide ((unhide hb1).trans (hb2.mono (by omega)))
  have hg : Hid (w.heap.size < g') := by show w.heap.size < g'; omega
  clear hc1 hb1 hsz hs1 kB kS
  go_wp2
  have x1 := heap_setCell_same W2 w.heap.size 0 _ _ (.int .i64 n) (unhide hc2)
  have x2 := heap_setCell_same _ w.heap.size 1 _ _ (.slice (some ⟨g', 0, none⟩) M M) x1
  have hg := unhide hg
  refine bodyPost_ret (results_two_tmp (P := Try.prog) rfl _ _ w.heap.size (.int .i64 n) (.slice (some ⟨g', 0, none⟩) M M) (.int .i64 0) _ rfl rfl (by rw [block_cell x2]; rfl) (by rw [block_cell x2]; rfl) Try.underlying29 rfl (by kernel_rfl)) rfl ?_
  refine ⟨g', rfl, by omega, row_keep (unhide hR) ?_, ((unhide hb2).setCell (p := ⟨w.heap.size, 0, none⟩) (Nat.le_refl _) _).setCell (p := ⟨w.heap.size, 1, none⟩) (Nat.le_refl _) _⟩
  rw [Below.heap_setCell _ _ _ _ (by show g' ≠ w.heap.size; omega), Below.heap_setCell _ _ _ _ (by show g' ≠ w.heap.size; omega)]

set_option maxRecDepth 100000 in
set_option maxHeartbeats 4000000 in
/-- Package ray's own. -/
theorem spreadAny {n gl cl B : Nat} {fl : Nat → Nat × Nat} {a : Int × Int} (w : World) (h1 : 1 ≤ n) (h2 : n ≤ 64) (ha : Dir64 a) (ho : okD a.1 a.2 = true) (hB : binsS n a = ((B : Int), 0)) (hR : Row w gl B fl) :
    Calls Try.prog 7 #[.int .i64 n, .agg #[.int .i64 a.1, .int .i64 a.2, .slice (some ⟨gl, 0, none⟩) B cl]] w fun e w' => ∃ g' c', e = .returned (.tuple #[gridV n g' c', .int .i64 0]) ∧ w.heap.size ≤ g' ∧
      Row w' g' (n * n) (fun k => fl (ixN n a k)) ∧ Below w.heap.size w w' := by
  obtain ⟨i0, hi0, hz0, hz1, hz2⟩ := info_parts infoC
  have kB := hide (fun (W : World) => dirBins (n := n) ha W)
  rw [hB] at kB
  obtain ⟨B', hB', hB1, hB2⟩ := bins_le h1 h2 ho
  have hBB : B' = B := by
    rw [hB] at hB'
    have := congrArg Prod.fst hB'
    dsimp only at this
    omega
  subst hBB
  clear hB'
  have hsq := square_le h2
  have hpos : 1 ≤ n * n := Nat.mul_le_mul h1 h1
  have hB := hide hB
  unfold gridV dirV at *
  obtain ⟨P, Q⟩ := a
  dsimp only at *
  have kL := hide (fun (W : World) (Bn Bd : Nat) h h' c c' c'' => lines_stops (a := (P, Q)) h1 h2 ha ho 5 (by decide) Bn Bd W h h' c c' c'')
  have kI := hide (fun k (hk : k < n * n) => ix_bounds (a := (P, Q)) h1 h2 ho hk)
  rw [unhide hB] at kI
  obtain ⟨M, hM⟩ : ∃ M, n * n = M := ⟨_, rfl⟩
  have q5 : (n : Int) * (n : Int) = (M : Int) := by rw [← hM, Int.natCast_mul]
  rw [hM] at hsq hpos
  have q6 : IntKind.i64.wrap (M : Int) = M := by rw [IntKind.wrap_i64]; omega
  have kN := hide (fun (W : World) => newAny h1 h2 hM hsq W)
  have hM := hide hM
  refine (callsIn_wide (n := 6)).1 ?_
  refine callsIn_of_wp_marks Try.func7 rfl trivial ?_ rfl
  simp only [Try.ntmps7, List.size_toArray, List.length_cons, List.length_nil, Nat.reduceAdd, Nat.reduceSub, Array.replicate_succ, Array.replicate_zero, List.push_toArray, List.append_toArray, List.nil_append, List.cons_append]
  gi_wp2_with fail
  have b0 := boxes2_new w #[.int .i64 P, .int .i64 Q, .slice (some ⟨gl, 0, none⟩) B' cl] #[.int .i64 0, .slice none 0 0] 31 29
  generalize (w.alloc (.cells #[.int .i64 P, .int .i64 Q, .slice (some ⟨gl, 0, none⟩) B' cl] 31)).alloc (.cells #[.int .i64 0, .slice none 0 0] 29) = W1 at b0 ⊢
  refine ⟨trivial, ?_⟩
  refine (callsIn_wide.2 (unhide kB W1)).mono ?_
  rintro e W2 ⟨rfl, hb2⟩
  have b2 := b0.on (hb2.mono b0.size)
  have hR2 := row_below hR b2.below (row_lt hR)
  have d2 := block_cell b2.one 2
  simp only [List.getElem?_toArray, List.getElem?_cons_zero, List.getElem?_cons_succ] at d2
  have b2 := hide b2
  have hR2 := hide hR2
  clear b0 hb2 kB
  gi_wp2_with fail
  refine ⟨trivial, ?_⟩
  refine (callsIn_wide.2 (unhide kN W2)).mono ?_
  rintro e W3 ⟨gs, rfl, hgs, hT, hb3⟩
  have hlT := row_lt hT
  have hT := hide hT
  have hg2 : w.heap.size + 2 ≤ W2.heap.size := (unhide b2).size
  have b3 := hide ((unhide b2).on (hb3.mono hg2))
  have hR3 := hide (row_below (unhide hR2) hb3 (row_lt (unhide hR2)))
  have hs3 := hb3.size
  clear hb3 b2 hR2 d2 kN
  have hb4 := (Below.refl W3.heap.size W3).alloc (Nat.le_refl _) (.cells #[.int .i64 n, .slice (some ⟨gs, 0, none⟩) M M] 29)
  have b4 := (unhide b3).on (hb4.mono (by omega))
  have d0 := block_cell b4.one 0
  have d1 := block_cell b4.one 1
  simp only [List.getElem?_toArray, List.getElem?_cons_zero, List.getElem?_cons_succ] at d0 d1
  have hS4 := World.alloc_heap_new W3 (.cells #[.int .i64 n, .slice (some ⟨gs, 0, none⟩) M M] 29)
  have hT4 := row_below (unhide hT) hb4 (row_lt (unhide hT))
  have hR4 := row_below (unhide hR3) hb4 (row_lt (unhide hR3))
  have b4 := hide b4
  have hS4 := hide hS4
  have hT4 := hide hT4
  have hR4 := hide hR4
  have hs4 : W3.heap.size + 1 ≤ (W3.alloc (.cells #[.int .i64 n, .slice (some ⟨gs, 0, none⟩) M M] 29)).heap.size := by rw [World.size_alloc]; exact Nat.le_refl _
  clear hb4 b3 hT hR3
  gi_wp2_with fail
  refine ⟨trivial, ?_⟩
  generalize W3.alloc (.cells #[.int .i64 n, .slice (some ⟨gs, 0, none⟩) M M] 29) = W4 at *
  refine (callsIn_wide.2 (linesAny n P Q W4)).mono ?_
  rintro e W5 ⟨rfl, hW5⟩
  have hb5 : Below W4.heap.size W4 W5 := by
    rw [hW5]
    exact ((Below.refl _ W4).alloc (Nat.le_refl _) _).alloc (by simp) _
  have n5 : W5.heap[W4.heap.size]? = some (.cells #[.int .i64 n] 3 (0, 0)) := by
    rw [hW5, Below.heap_alloc _ _ _ (by simp)]
    exact World.alloc_heap_new W4 _
  have m5 : W5.heap[W4.heap.size + 1]? = some (.cells #[.int .i64 P, .int .i64 Q] 24 (0, 0)) := by
    have := World.alloc_heap_new (W4.alloc (.cells #[.int .i64 n] 3)) (.cells #[.int .i64 P, .int .i64 Q] 24)
    rw [World.size_alloc] at this
    rw [hW5]
    exact this
  have hs5 : W4.heap.size + 2 ≤ W5.heap.size := by
    rw [hW5]
    simp
  have G0 : Fill w n M gl cl B' gs W3.heap.size P Q fl [] W5 :=
    ⟨⟨_, row_below (unhide hT4) hb5 (row_lt (unhide hT4)), fun j hj => by cases hj⟩, (hb5.block _ (by omega)).trans (unhide hS4), row_below (unhide hR4) hb5 (row_lt (unhide hR4)), (unhide b4).on (hb5.mono (by omega))⟩
  have kL := hide (unhide kL W5 W4.heap.size (W4.heap.size + 1) (by omega) (by omega) (block_cell n5 0) (block_cell m5 0) (block_cell m5 1))
  have G0 := hide G0
  clear hW5 hb5 n5 m5 b4 hS4 hT4 hR4 d0 d1
  gi_wp2_with fail
  refine wpIn_rangeFunc_ownF rfl (by decide) (gf := 24) (lb := #[.pointer (some ⟨W4.heap.size, 0, none⟩), .pointer (some ⟨W4.heap.size + 1, 0, none⟩)]) rfl trivial (enters_of Try.func24 (by kernel_rfl) rfl)
    (unhide kL) keep2_t (keep2_b (by omega) (by omega)) (Below.refl _ _) (fun _ => rfl)
    (fun pre W => Fill w n M gl cl B' gs W3.heap.size P Q fl (pre.map (·.1)) W) (fun _ _ _ => False) (fill_own (by omega)) (fun _ _ _ _ _ h _ _ => h) (unhide G0) ?a1 ?assign ?body ?done ?stop
  case assign =>
    intro l x W K hK
    gi_wp2
    exact hK
  case body =>
    rintro l pre x W hG hlen
    obtain ⟨⟨f', r1, r2⟩, r3, r4, r5⟩ := hG
    obtain ⟨k, hk⟩ := x
    have hix := unhide kI k hk
    obtain ⟨b, hb⟩ : ∃ b : Nat, ixS n (P, Q) k = (b : Int) := ⟨(ixS n (P, Q) k).toNat, by omega⟩
    have hbN : ixN n (P, Q) k = b := by unfold ixN; rw [hb]; rfl
    have hbB : b < B' := by
      have := hix.2
      omega
    have hkM : k < M := by rw [← unhide hM]; exact hk
    have s1 := block_cell r3 1
    have s3 := block_cell r5.one 2
    have s2 := row_at r1 hkM
    have s2f := row_frozen r1 k
    have s4 := row_at r4 hbB
    simp only [List.getElem?_toArray, List.getElem?_cons_zero, List.getElem?_cons_succ] at s1 s3
    have hGn : Hid (∀ nq, Fill w n M gl cl B' gs W3.heap.size P Q fl (pre.map (·.1) ++ [k]) ((W.drewN nq).setCell ⟨gs, k, none⟩ (cv (fl b)))) := by
      intro nq
      have r1' : Row (W.drewN nq) gs M f' := r1
      have r4' : Row (W.drewN nq) gl B' fl := r4
      have r3' : (W.drewN nq).heap[W3.heap.size]? = _ := r3
      refine ⟨⟨_, row_set r1' k (fl b), fun j hj => ?_⟩, ?_, row_keep r4' (Below.heap_setCell _ _ _ _ ?_), ?_⟩
      · unfold upd
        split
        · rename_i e; rw [e, hbN]
        · rename_i e
          rw [List.mem_append, List.mem_singleton] at hj
          exact r2 j (hj.resolve_right e)
      · exact (Below.heap_setCell (W.drewN nq) ⟨gs, k, none⟩ _ W3.heap.size (by show W3.heap.size ≠ gs; omega)).trans r3'
      · show gl ≠ gs
        have := row_lt hR
        omega
      · exact r5.on ((below_drewN _ W nq).setCell (p := ⟨gs, k, none⟩) (by show w.heap.size + 2 ≤ gs; omega) _)
    have hKn : Hid (∀ nq, Keep2 W4.heap.size (W4.heap.size + 1) W ((W.drewN nq).setCell ⟨gs, k, none⟩ (cv (fl b)))) := fun nq => by
      have := keep2_set (W.drewN nq) ⟨gs, k, none⟩ (cv (fl b)) (by show W4.heap.size ≠ gs; omega) (by show W4.heap.size + 1 ≠ gs; omega)
      exact ⟨this.one, this.two⟩
    generalize f' k = p at s2
    generalize fl b = q at s4 hGn hKn
    obtain ⟨q1, q2⟩ := p
    obtain ⟨q3, q4⟩ := q
    unfold cv at s2 s4 hGn hKn
    dsimp only at s2 s4 hGn hKn ⊢
    rw [hb]
    have hfn : ∀ f, (Fence.wide.inRound l).fn f = True := fun _ => rfl
    clear r1 r2 r3 r4 r5 hb hbN hix
    gi_wp2_with fail
    refine region_quiet 9 mixed (by kernel_rfl) ?_
    simp only [List.take_succ_cons, List.take_zero, List.drop_succ_cons, List.drop_zero]
    repeat (gi_big_quiet_step (fail))
    refine wpQuietIn_nil ?_
    intro _ hw'
    obtain ⟨nq, rfl⟩ := hw'
    gi_wp2
    refine ⟨keeps_set _ _ _ _, unhide hKn nq, ?_⟩
    show Fill w n M gl cl B' gs W3.heap.size P Q fl ((pre ++ [(⟨k, hk⟩ : CellNo n)]).map (·.1)) _
    rw [List.map_append]
    exact unhide hGn nq
  case done =>
    rintro D xs W hD hS hG hK
    rw [hS] at hG
    obtain ⟨⟨f', r1, r2⟩, r3, r4, r5⟩ := hG
    have s1 := block_cell r3 1
    have s0 := block_cell r3 0
    have e0 := block_cell r5.two 0
    have e1 := block_cell r5.two 1
    have g0 := block_frozen r5.two 0
    have g1 := block_frozen r5.two 1
    simp only [List.getElem?_toArray, List.getElem?_cons_zero, List.getElem?_cons_succ] at s0 s1 e0 e1
    have hset := hide (set2 (a := .int .i64 n) (b := .slice (some ⟨gs, 0, none⟩) M M) (D := D) r5 r1 hK (by omega) (by omega))
    have r2 := hide r2
    clear r1 r3 r4 r5 hK
    gi_wp2
    obtain ⟨k1, k2, k3, k5, k6⟩ := unhide hset
    refine ⟨by simp, .inl ⟨_, _, rfl, run_takeDeferred k1, ?_⟩⟩
    refine ⟨_, results_two_tmp (P := Try.prog) rfl _ _ (w.heap.size + 1) (.int .i64 n) (.slice (some ⟨gs, 0, none⟩) M M) (.int .i64 0) _ rfl rfl k2 k3 Try.underlying29 rfl (by kernel_rfl), ?_⟩
    refine ⟨gs, M, ?_, by omega, ?_, k6⟩
    · rw [unhide hM]
    · rw [unhide hM]
      refine row_ext k5 fun i hi => unhide r2 i ?_
      rw [unhide hM]
      exact List.mem_range.2 hi
  case stop =>
    rintro D c pre W _ _ h _
    exact h.elim
end Go.Proofs.Ytjmdlgekheehgaa
