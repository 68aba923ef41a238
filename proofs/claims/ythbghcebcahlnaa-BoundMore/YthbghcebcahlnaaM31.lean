/- A projection: package ray's own. -/
import Derived.Test.YthbghcebcahlnaaM30
import Derived.Laws.ComplexArith
namespace Go.Proofs.Ythbghcebcahlnaa
open Go.RowKit Go.Shelf
attribute [local go_sem] Oper.semAt_some store_complex

theorem block_cell {w : World} {b : Nat} {cs : Array Value} {t : TypeId} (h : w.heap[b]? = some (.cells cs t (0, 0))) (i : Nat) : w.cell? ⟨b, i, none⟩ = cs[i]? := by simp [World.cell?, h]
theorem block_frozen {w : World} {b : Nat} {cs : Array Value} {t : TypeId} (h : w.heap[b]? = some (.cells cs t (0, 0))) (i : Nat) : w.frozen? ⟨b, i, none⟩ = false := by simp [World.frozen?, h]

/-- What a projection's call has laid at first: its grid, its direction, its answer. -/
structure Boxes (w W : World) (gv : Array Value) (dv : Array Value) (rv : Array Value) (tg td tr : TypeId) : Prop where
  one : W.heap[w.heap.size]? = some (.cells gv tg (0, 0))
  two : W.heap[w.heap.size + 1]? = some (.cells dv td (0, 0))
  three : W.heap[w.heap.size + 2]? = some (.cells rv tr (0, 0))
  size : w.heap.size + 3 ≤ W.heap.size
  below : Below w.heap.size w W

theorem boxes_new (w : World) (gv dv rv : Array Value) (tg td tr : TypeId) : Boxes w (((w.alloc (.cells gv tg)).alloc (.cells dv td)).alloc (.cells rv tr)) gv dv rv tg td tr := by
  have e1 := World.alloc_heap_new w (.cells gv tg)
  have e2 := World.alloc_heap_new (w.alloc (.cells gv tg)) (.cells dv td)
  have e3 := World.alloc_heap_new ((w.alloc (.cells gv tg)).alloc (.cells dv td)) (.cells rv tr)
  rw [World.size_alloc] at e2
  rw [World.size_alloc, World.size_alloc] at e3
  refine ⟨?_, ?_, e3, by simp, (((Below.refl _ w).alloc (Nat.le_refl _) _).alloc (by simp) _).alloc (by simp; omega) _⟩
  · rw [Below.heap_alloc _ _ _ (by simp; omega), Below.heap_alloc _ _ _ (by simp), e1]
  · rw [Below.heap_alloc _ _ _ (by simp), e2]

theorem Boxes.on {w W W' : World} {gv dv rv : Array Value} {tg td tr : TypeId} (h : Boxes w W gv dv rv tg td tr) (k : Below W.heap.size W W') : Boxes w W' gv dv rv tg td tr := by
  have := h.size
  exact ⟨(k.block _ (by omega)).trans h.one, (k.block _ (by omega)).trans h.two, (k.block _ (by omega)).trans h.three, Nat.le_trans h.size k.size, h.below.trans (k.mono (by omega))⟩

theorem Boxes.on3 {w W W' : World} {gv dv rv : Array Value} {tg td tr : TypeId} (h : Boxes w W gv dv rv tg td tr) (k : Below (w.heap.size + 3) W W') : Boxes w W' gv dv rv tg td tr := by
  have := h.size
  exact ⟨(k.block _ (by omega)).trans h.one, (k.block _ (by omega)).trans h.two, (k.block _ (by omega)).trans h.three, Nat.le_trans h.size k.size, h.below.trans (k.mono (by omega))⟩

theorem keeps_set (W : World) (k : Nat) (p : Addr) (u : Value) : KeepsOthers W ((W.drewN k).setCell p u) := (show KeepsOthers W (W.drewN k) from ⟨Nat.le_refl _, fun _ _ h _ => h⟩).trans (KeepsOthers.setCell _ _ _)

theorem Boxes.own {w W W' : World} {gv dv rv : Array Value} {tg td tr : TypeId} {row : Option Nat} (h : Boxes w W gv dv rv tg td tr) (hg : W.grownBy W' row) (hr : ∀ r, row = some r → w.heap.size ≤ r ∧ ∃ o : Obj, W.heap[r]? = some o ∧ o.isCells = false) : Boxes w W' gv dv rv tg td tr := by
  have := h.size
  exact ⟨cells_own h.one hg fun r e => (hr r e).2, cells_own h.two hg fun r e => (hr r e).2, cells_own h.three hg fun r e => (hr r e).2, Nat.le_trans h.size hg.size, h.below.grown hg (by omega) fun k e => (hr k e).1⟩

/-- Nothing below nought. -/
def NonNeg (m : Nat) (z : Nat → Int × Int) : Prop := ∀ j, j < m → 0 ≤ (z j).1 ∧ 0 ≤ (z j).2
/-- A bin: of 64 bits; of a grid with nothing below nought: its noughts have no sign. -/
structure BinC (nn : Prop) (b : Nat × Nat) (z : Int × Int) : Prop where
  ic : IC b z
  lt1 : b.1 < 18446744073709551616
  lt2 : b.2 < 18446744073709551616
  no : nn → (0 ≤ z.1 ∧ (z.1 = 0 → b.1 = 0)) ∧ (0 ≤ z.2 ∧ (z.2 = 0 → b.2 = 0))
theorem bin_zero (nn : Prop) : BinC nn (0, 0) (0, 0) := ⟨ic_zero, by decide, by decide, fun _ => ⟨⟨Int.le_refl _, fun _ => rfl⟩, ⟨Int.le_refl _, fun _ => rfl⟩⟩⟩
theorem bin_add {nn : Prop} {a b r : Nat × Nat} {x y : Int × Int} (ha : BinC nn a x) (hb : nn → (0 ≤ y.1 ∧ (y.1 = 0 → b.1 = 0)) ∧ (0 ≤ y.2 ∧ (y.2 = 0 → b.2 = 0))) (h : AddTo a b r) (hI : IC r (addZ x y)) (l1 : r.1 < 18446744073709551616) (l2 : r.2 < 18446744073709551616) : BinC nn r (addZ x y) := by
  have h00 : floatBits .add .f64 0 0 = some 0 := by decide +kernel
  refine ⟨hI, l1, l2, fun hn => ?_⟩
  obtain ⟨⟨a1, a2⟩, a3, a4⟩ := ha.no hn
  obtain ⟨⟨b1, b2⟩, b3, b4⟩ := hb hn
  have q1 := h.one
  have q2 := h.two
  refine ⟨⟨?_, fun e => ?_⟩, ?_, fun e => ?_⟩
  · show 0 ≤ x.1 + y.1
    omega
  · have e : x.1 + y.1 = 0 := e
    rw [a2 (by omega), b2 (by omega), h00] at q1
    exact (Option.some.inj q1).symm
  · show 0 ≤ x.2 + y.2
    omega
  · have e : x.2 + y.2 = 0 := e
    rw [a4 (by omega), b4 (by omega), h00] at q2
    exact (Option.some.inj q2).symm

/-- What the rounds keep: the bins so far, the grid, the boxes. -/
structure Gather (w : World) (n g c B gs bs : Nat) (P Q : Int) (f : Nat → Nat × Nat) (z : Nat → Int × Int) (l : List Nat) (W : World) : Prop where
  bins : ∃ f', Row W gs B f' ∧ ∀ j, j < B → BinC (NonNeg (n * n) z) (f' j) (accM (ixN n (P, Q)) z l j)
  sl : W.heap[bs]? = some (.cells #[.slice (some ⟨gs, 0, none⟩) B B] 25 (0, 0))
  grid : Row W g (n * n) f
  boxes : Boxes w W #[.int .i64 n, .slice (some ⟨g, 0, none⟩) (n * n : Nat) c] #[.int .i64 P, .int .i64 Q] #[.int .i64 0, .int .i64 0, .slice none 0 0] 27 47 49

theorem gather_own {w : World} {n g c B gs bs S : Nat} {P Q : Int} {f : Nat → Nat × Nat} {z : Nat → Int × Int} (hS : w.heap.size ≤ S) : OwnFrom S (fun (pre : List (CellNo n)) W => Gather w n g c B gs bs P Q f z (pre.map (·.1)) W) := by
  intro s W W' row h hg hr
  obtain ⟨⟨f', h1, h2⟩, h3, h4, h5⟩ := h
  exact ⟨⟨f', row_own h1 hg fun r e => (hr r e).2, h2⟩, cells_own h3 hg fun r e => (hr r e).2, row_own h4 hg fun r e => (hr r e).2, h5.own hg fun r e => ⟨Nat.le_trans hS (hr r e).1, (hr r e).2⟩⟩

/-- The answer laid; the block of the rounds' deferred calls turned. -/
theorem set3 {w W : World} {gv dv : Array Value} {tg td tr : TypeId} {gs B D : Nat} {f : Nat → Nat × Nat} {a b c x y z : Value} (h : Boxes w W gv dv #[x, y, z] tg td tr) (hR : Row W gs B f) (hK : W.heap[D]? = some (.deferred (some []))) (hg : w.heap.size + 3 ≤ gs) (hD : w.heap.size + 3 ≤ D) :
    (((W.setCell ⟨w.heap.size + 1 + 1, 0, none⟩ a).setCell ⟨w.heap.size + 1 + 1, 1, none⟩ b).setCell ⟨w.heap.size + 1 + 1, 2, none⟩ c).heap[D]? = some (.deferred (some [])) ∧
    ((((W.setCell ⟨w.heap.size + 1 + 1, 0, none⟩ a).setCell ⟨w.heap.size + 1 + 1, 1, none⟩ b).setCell ⟨w.heap.size + 1 + 1, 2, none⟩ c).putObj D (.deferred none)).cell? ⟨w.heap.size + 2, 0, none⟩ = some a ∧
    ((((W.setCell ⟨w.heap.size + 1 + 1, 0, none⟩ a).setCell ⟨w.heap.size + 1 + 1, 1, none⟩ b).setCell ⟨w.heap.size + 1 + 1, 2, none⟩ c).putObj D (.deferred none)).cell? ⟨w.heap.size + 2, 1, none⟩ = some b ∧
    ((((W.setCell ⟨w.heap.size + 1 + 1, 0, none⟩ a).setCell ⟨w.heap.size + 1 + 1, 1, none⟩ b).setCell ⟨w.heap.size + 1 + 1, 2, none⟩ c).putObj D (.deferred none)).cell? ⟨w.heap.size + 2, 2, none⟩ = some c ∧
    Row ((((W.setCell ⟨w.heap.size + 1 + 1, 0, none⟩ a).setCell ⟨w.heap.size + 1 + 1, 1, none⟩ b).setCell ⟨w.heap.size + 1 + 1, 2, none⟩ c).putObj D (.deferred none)) gs B f ∧
    Below w.heap.size w ((((W.setCell ⟨w.heap.size + 1 + 1, 0, none⟩ a).setCell ⟨w.heap.size + 1 + 1, 1, none⟩ b).setCell ⟨w.heap.size + 1 + 1, 2, none⟩ c).putObj D (.deferred none)) := by
  have hD' : D < W.heap.size := (Array.getElem?_eq_some_iff.1 hK).1
  have e1 := heap_setCell_same W (w.heap.size + 2) 0 _ _ a h.three
  have e2 := heap_setCell_same _ (w.heap.size + 2) 1 _ _ b e1
  have e3 := heap_setCell_same _ (w.heap.size + 2) 2 _ _ c e2
  have hk : (((W.setCell ⟨w.heap.size + 2, 0, none⟩ a).setCell ⟨w.heap.size + 2, 1, none⟩ b).setCell ⟨w.heap.size + 2, 2, none⟩ c).heap[D]? = some (.deferred (some [])) := by
    rw [Below.heap_setCell _ _ _ _ (by show D ≠ w.heap.size + 2; omega), Below.heap_setCell _ _ _ _ (by show D ≠ w.heap.size + 2; omega), Below.heap_setCell _ _ _ _ (by show D ≠ w.heap.size + 2; omega), hK]
  have e4 : ((((W.setCell ⟨w.heap.size + 2, 0, none⟩ a).setCell ⟨w.heap.size + 2, 1, none⟩ b).setCell ⟨w.heap.size + 2, 2, none⟩ c).putObj D (.deferred none)).heap[w.heap.size + 2]? = _ := (World.putObj_heap_other (by omega)).trans e3
  refine ⟨hk, ?_, ?_, ?_, ?_, ?_⟩
  · rw [block_cell e4]; rfl
  · rw [block_cell e4]; rfl
  · rw [block_cell e4]; rfl
  · refine row_keep hR ?_
    have hne : gs ≠ D := by
      intro e
      obtain ⟨cur, hc, _⟩ := hR
      rw [e, hK] at hc
      cases hc
    rw [World.putObj_heap_other (by omega)]
    rw [Below.heap_setCell _ _ _ _ (by show gs ≠ w.heap.size + 2; omega), Below.heap_setCell _ _ _ _ (by show gs ≠ w.heap.size + 2; omega), Below.heap_setCell _ _ _ _ (by show gs ≠ w.heap.size + 2; omega)]
  · exact (((h.below.setCell (p := ⟨w.heap.size + 2, 0, none⟩) (by show w.heap.size ≤ w.heap.size + 2; omega) a).setCell (p := ⟨w.heap.size + 2, 1, none⟩) (by show w.heap.size ≤ w.heap.size + 2; omega) b).setCell (p := ⟨w.heap.size + 2, 2, none⟩) (by show w.heap.size ≤ w.heap.size + 2; omega) c).trans
      (belowK_b (w := w) (Nat.le_refl _) _ D _ _ (by omega) hk rfl rfl)

theorem add_sum {a b r : Nat × Nat} (h : AddTo a b r) : cSumBits .add .f64 a.1 a.2 b.1 b.2 = some (r.1, r.2) := by
  unfold cSumBits
  rw [h.one, h.two]
  rfl

set_option maxRecDepth 100000 in
set_option maxHeartbeats 4000000 in
/-- The projection of a grid and a direction that were looked at. -/
theorem alongBin {n g c m : Nat} {f : Nat → Nat × Nat} {z : Nat → Int × Int} {a : Int × Int} (w : World) (h1 : 1 ≤ n) (h2 : n ≤ 64) (ha : Dir64 a) (ho : okD a.1 a.2 = true) (hR : Row w g (n * n) f) (hz : ∀ j, j < n * n → Cell (f j) (z j) m) (hm : m ≤ 1048576) :
    Calls (barP Try.prog) 30 #[gridV n g c, dirV a] w fun e w' => ∃ g' B f', e = .returned (.agg #[.int .i64 a.1, .int .i64 a.2, .slice (some ⟨g', 0, none⟩) B B]) ∧ binsS n a = ((B : Int), 0) ∧ w.heap.size ≤ g' ∧
      Row w' g' B f' ∧ (∀ j, j < B → BinC (NonNeg (n * n) z) (f' j) (accZ (ixN n a) z (n * n) j)) ∧ Below w.heap.size w w' := by
  obtain ⟨B, hB, hB1, hB2⟩ := bins_le h1 h2 ho
  obtain ⟨i0, hi0, hz0, hz1, hz2⟩ := info_parts infoC
  have kB := hide (fun (W : World) => dirBins (n := n) ha W)
  rw [hB] at kB
  have hB := hide hB
  unfold gridV dirV at *
  obtain ⟨P, Q⟩ := a
  dsimp only at *
  refine (callsIn_wide (n := 6)).1 ?_
  refine callsIn_of_wp_marks Bar.func30 rfl trivial ?_ rfl
  simp only [Bar.ntmps30, List.size_toArray, List.length_cons, List.length_nil, Nat.reduceAdd, Nat.reduceSub, Array.replicate_succ, Array.replicate_zero, List.push_toArray, List.append_toArray, List.nil_append, List.cons_append]
  gi_wp2_with fail
  have b0 := boxes_new w #[.int .i64 n, .slice (some ⟨g, 0, none⟩) (n * n : Nat) c] #[.int .i64 P, .int .i64 Q] #[.int .i64 0, .int .i64 0, .slice none 0 0] 27 47 49
  generalize ((w.alloc (.cells #[.int .i64 n, .slice (some ⟨g, 0, none⟩) (n * n : Nat) c] 27)).alloc (.cells #[.int .i64 P, .int .i64 Q] 47)).alloc (.cells #[.int .i64 0, .int .i64 0, .slice none 0 0] 49) = W0 at b0 ⊢
  refine ⟨trivial, ?_⟩
  refine (callsIn_wide.2 (unhide kB W0)).mono ?_
  rintro e W2 ⟨rfl, hb2⟩
  have b2 := b0.on hb2
  have hR2 := row_below hR b2.below (row_lt hR)
  have b2 := hide b2
  have hR2 := hide hR2
  clear b0 hb2 kB
  gi_wp2_with (first
    | (gi_at_make; refine wpListIn_make_full _ rfl (.tmp 17) (.tmp 17) 25 rfl W2.heap.size 39 i0 (.complex .f64 0 0) 1 Bar.underlying25 hi0 hz0 hz1 .i64 .i64 B B B rfl rfl rfl rfl ?c1 ?c2 ?c3 ?_))
  case c1 => rw [hz2]; omega
  case c2 => unfold maxLen; omega
  case c3 => exact Nat.le_refl _
  intro W3 hown3 hg3
  have hT : Hid (Row W3 W2.heap.size B (fun _ => (0, 0))) := row_made hown3 (fun _ => (0, 0)) (fun i hi => zeros_get B i hi) (fun _ _ => rfl)
  have hb3 := grown_below hg3
  have b3 := hide ((unhide b2).on hb3)
  have hR3 := hide (row_below (unhide hR2) hb3 (row_lt (unhide hR2)))
  have hg2 : w.heap.size + 3 ≤ W2.heap.size := (unhide b2).size
  have hs3 := hb3.size
  clear hown3 hg3 hb3 b2 hR2
  have hb4 := (Below.refl W3.heap.size W3).alloc (Nat.le_refl _) (.cells #[.slice (some ⟨W2.heap.size, 0, none⟩) B B] 25)
  have b4 := (unhide b3).on hb4
  have c0 := block_cell b4.one 0
  have d0 := block_cell b4.two 0
  have d1 := block_cell b4.two 1
  simp only [List.getElem?_toArray, List.getElem?_cons_zero, List.getElem?_cons_succ] at c0 d0 d1
  have hS4 := World.alloc_heap_new W3 (.cells #[.slice (some ⟨W2.heap.size, 0, none⟩) B B] 25)
  have hT4 := row_below (unhide hT) hb4 (row_lt (unhide hT))
  have hR4 := row_below (unhide hR3) hb4 (row_lt (unhide hR3))
  have hlT := row_lt (unhide hT)
  have b4 := hide b4
  have hS4 := hide hS4
  have hT4 := hide hT4
  have hR4 := hide hR4
  have hs4 : W3.heap.size + 1 ≤ (W3.alloc (.cells #[.slice (some ⟨W2.heap.size, 0, none⟩) B B] 25)).heap.size := by rw [World.size_alloc]; exact Nat.le_refl _
  clear hb4 b3 hT hR3
  gi_wp2_with fail
  refine ⟨trivial, ?_⟩
  generalize W3.alloc (.cells #[.slice (some ⟨W2.heap.size, 0, none⟩) B B] 25) = W4 at *
  refine (callsIn_wide.2 (linesAny n P Q W4)).mono ?_
  rintro e W5 ⟨rfl, hW5⟩
  have hb5 : Below W4.heap.size W4 W5 := by
    rw [hW5]
    exact ((Below.refl _ W4).alloc (Nat.le_refl _) _).alloc (by simp) _
  have n5 : W5.heap[W4.heap.size]? = some (.cells #[.int .i64 n] 3 (0, 0)) := by
    rw [hW5, Below.heap_alloc _ _ _ (by simp)]
    exact World.alloc_heap_new W4 _
  have m5 : W5.heap[W4.heap.size + 1]? = some (.cells #[.int .i64 P, .int .i64 Q] 47 (0, 0)) := by
    have := World.alloc_heap_new (W4.alloc (.cells #[.int .i64 n] 3)) (.cells #[.int .i64 P, .int .i64 Q] 47)
    rw [World.size_alloc] at this
    rw [hW5]
    exact this
  have hs5 : W4.heap.size + 2 ≤ W5.heap.size := by
    rw [hW5]
    simp
  have G0 : Gather w n g c B W2.heap.size W3.heap.size P Q f z [] W5 :=
    ⟨⟨_, row_below (unhide hT4) hb5 (row_lt (unhide hT4)), fun j _ => bin_zero _⟩, (hb5.block _ (by omega)).trans (unhide hS4), row_below (unhide hR4) hb5 (row_lt (unhide hR4)), (unhide b4).on hb5⟩
  have kL := lines_stops (a := (P, Q)) h1 h2 ha ho 5 (by decide) W4.heap.size (W4.heap.size + 1) W5 (by omega) (by omega) (block_cell n5 0) (block_cell m5 0) (block_cell m5 1)
  have G0 := hide G0
  have kL := hide kL
  clear hW5 hb5 n5 m5 b4 hS4 hT4 hR4 c0 d0 d1
  gi_wp2_with fail
  refine wpIn_rangeFunc_ownF rfl (by decide) (gf := 81) (lb := #[.pointer (some ⟨W4.heap.size, 0, none⟩), .pointer (some ⟨W4.heap.size + 1, 0, none⟩)]) rfl trivial (enters_of Bar.func81 (by kernel_rfl) rfl)
    (unhide kL) keep2_t (keep2_b (by omega) (by omega)) (Below.refl _ _) (fun _ => rfl)
    (fun pre W => Gather w n g c B W2.heap.size W3.heap.size P Q f z (pre.map (·.1)) W) (fun _ _ _ => False) (gather_own (by omega)) (fun _ _ _ _ _ h _ _ => h) (unhide G0) ?a1 ?assign ?body ?done ?stop
  case assign =>
    intro l x W K hK
    gi_wp2
    exact hK
  case body =>
    rintro l pre x W hG hlen
    obtain ⟨⟨f', r1, r2⟩, r3, r4, r5⟩ := hG
    obtain ⟨k, hk⟩ := x
    have hix := ix_bounds (a := (P, Q)) h1 h2 ho hk
    rw [unhide hB] at hix
    obtain ⟨b, hb⟩ : ∃ b : Nat, ixS n (P, Q) k = (b : Int) := ⟨(ixS n (P, Q) k).toNat, by omega⟩
    have hbN : ixN n (P, Q) k = b := by unfold ixN; rw [hb]; rfl
    have hbB : b < B := by
      have := hix.2
      dsimp only at this
      omega
    have s1 := block_cell r3 0
    have s3 := block_cell r5.one 1
    have s2 := row_at r1 hbB
    have s2f := row_frozen r1 b
    have s4 := row_at r4 hk
    simp only [List.getElem?_toArray, List.getElem?_cons_zero, List.getElem?_cons_succ] at s1 s3
    have hsq := square_le h2
    have ic1 := (r2 b hbB).ic
    have ic2 := (hz k hk).ic
    have ble := accM_le (ix := ixN n (P, Q)) (v := z) (M := m) (l := pre.map (·.1) ++ [k]) (fun i hi => by
      rw [List.mem_append] at hi
      rcases hi with hi | hi
      · obtain ⟨y, _, rfl⟩ := List.mem_map.1 hi
        exact ⟨(hz y.1 y.2).le1, (hz y.1 y.2).le2⟩
      · rw [List.mem_singleton] at hi
        rw [hi]
        exact ⟨(hz k hk).le1, (hz k hk).le2⟩) b
    rw [accM_snoc, hbN, if_pos rfl, List.length_append, List.length_map] at ble
    have hsz : (pre.length + [k].length) * m ≤ 4096 * 1048576 := Nat.mul_le_mul (by simp; omega) hm
    obtain ⟨t, hT, hI0, lt1, lt2⟩ := ic_add ic1 ic2 (Nat.lt_of_le_of_lt ble.1 (by omega)) (Nat.lt_of_le_of_lt ble.2 (by omega))
    have hI := bin_add (r2 b hbB) (fun hn => ⟨⟨(hn k hk).1, (hz k hk).z1⟩, ⟨(hn k hk).2, (hz k hk).z2⟩⟩) hT hI0 lt1 lt2
    clear hI0 lt1 lt2
    have kA := add_sum hT
    have hGn : Hid (∀ nq, Gather w n g c B W2.heap.size W3.heap.size P Q f z (pre.map (·.1) ++ [k]) ((W.drewN nq).setCell ⟨W2.heap.size, b, none⟩ (cv t))) := by
      intro nq
      have r1' : Row (W.drewN nq) W2.heap.size B f' := r1
      have r4' : Row (W.drewN nq) g (n * n) f := r4
      have r3' : (W.drewN nq).heap[W3.heap.size]? = _ := r3
      refine ⟨⟨_, row_set r1' b t, fun j hj => ?_⟩, ?_, row_keep r4' (Below.heap_setCell _ _ _ _ ?_), ?_⟩
      · rw [accM_snoc, hbN]
        unfold upd
        split
        · rename_i e; rw [e]; exact hI
        · exact r2 j hj
      · exact (Below.heap_setCell (W.drewN nq) ⟨W2.heap.size, b, none⟩ (cv t) W3.heap.size (by show W3.heap.size ≠ W2.heap.size; omega)).trans r3'
      · show g ≠ W2.heap.size
        have := row_lt hR
        omega
      · exact r5.on3 ((below_drewN _ W nq).setCell (p := ⟨W2.heap.size, b, none⟩) hg2 _)
    have hKn : Hid (∀ nq, Keep2 W4.heap.size (W4.heap.size + 1) W ((W.drewN nq).setCell ⟨W2.heap.size, b, none⟩ (cv t))) := fun nq => by
      have := keep2_set (W.drewN nq) ⟨W2.heap.size, b, none⟩ (cv t) (by show W4.heap.size ≠ W2.heap.size; omega) (by show W4.heap.size + 1 ≠ W2.heap.size; omega)
      exact ⟨this.one, this.two⟩
    obtain ⟨t1, t2⟩ := t
    generalize f' b = p at s2 kA
    generalize f k = q at s4 kA
    obtain ⟨q1, q2⟩ := p
    obtain ⟨q3, q4⟩ := q
    unfold cv at s2 s4 hGn hKn
    dsimp only at kA s2 s4 hGn hKn ⊢
    rw [hb]
    have kA := fun (w : World) t => run_complex_sum (P := (barP Try.prog)) w .add (Or.inl rfl) t .f64 _ _ _ _ _ _ kA
    clear r1 r2 r3 r4 r5 hb hbN hix ic1 ic2 ble hsz hT hI
    have hfn : ∀ f, (Fence.wide.inRound l).fn f = True := fun _ => rfl
    gi_wp2_with fail
    refine region_quiet 11 mixed (by kernel_rfl) ?_
    simp only [List.take_succ_cons, List.take_zero, List.drop_succ_cons, List.drop_zero]
    repeat (gi_big_quiet_step (fail))
    refine wpQuietIn_nil ?_
    intro _ hw'
    obtain ⟨nq, rfl⟩ := hw'
    gi_wp2
    refine ⟨keeps_set _ _ _ _, unhide hKn nq, ?_⟩
    show Gather w n g c B W2.heap.size W3.heap.size P Q f z ((pre ++ [(⟨k, hk⟩ : CellNo n)]).map (·.1)) _
    rw [List.map_append]
    exact unhide hGn nq
  case done =>
    rintro D xs W hD hS hG hK
    rw [hS] at hG
    have s1 := block_cell hG.sl 0
    have b1 := hG.boxes
    have d0 := block_cell b1.two 0
    have d1 := block_cell b1.two 1
    have e0 := block_cell b1.three 0
    have e1 := block_cell b1.three 1
    have e2 := block_cell b1.three 2
    have g0 := block_frozen b1.three 0
    have g1 := block_frozen b1.three 1
    have g2 := block_frozen b1.three 2
    simp only [List.getElem?_toArray, List.getElem?_cons_zero, List.getElem?_cons_succ] at s1 d0 d1 e0 e1 e2
    obtain ⟨⟨f', r1, r2⟩, r3, r4, r5⟩ := hG
    have hset := hide (set3 (a := .int .i64 P) (b := .int .i64 Q) (c := .slice (some ⟨W2.heap.size, 0, none⟩) B B) (D := D) r5 r1 hK (by omega) (by omega))
    rw [accM_range] at r2
    have r2 := hide r2
    clear b1 r1 r3 r4 r5 hK
    gi_wp2
    obtain ⟨k1, k2, k3, k4, k5, k6⟩ := unhide hset
    refine ⟨by simp, .inl ⟨_, _, rfl, run_takeDeferred k1, ?_⟩⟩
    refine ⟨_, results_three (P := (barP Try.prog)) rfl _ _ (w.heap.size + 2) (.int .i64 P) (.int .i64 Q) (.slice (some ⟨W2.heap.size, 0, none⟩) B B) _ rfl k2 k3 k4 Bar.underlying49 rfl (by kernel_rfl), ?_⟩
    exact ⟨W2.heap.size, B, f', rfl, unhide hB, by omega, k5, unhide r2, k6⟩
  case stop =>
    rintro D c pre W _ _ h _
    exact h.elim
theorem alongAny {n g c m : Nat} {f : Nat → Nat × Nat} {z : Nat → Int × Int} {a : Int × Int} (w : World) (h1 : 1 ≤ n) (h2 : n ≤ 64) (ha : Dir64 a) (ho : okD a.1 a.2 = true) (hR : Row w g (n * n) f) (hz : ∀ j, j < n * n → Cell (f j) (z j) m) (hm : m ≤ 1048576) :
    Calls (barP Try.prog) 30 #[gridV n g c, dirV a] w fun e w' => ∃ g' B f', e = .returned (.agg #[.int .i64 a.1, .int .i64 a.2, .slice (some ⟨g', 0, none⟩) B B]) ∧ binsS n a = ((B : Int), 0) ∧ w.heap.size ≤ g' ∧
      Row w' g' B f' ∧ (∀ j, j < B → IC (f' j) (accZ (ixN n a) z (n * n) j)) ∧ Below w.heap.size w w' :=
  (alongBin w h1 h2 ha ho hR hz hm).mono fun _ _ ⟨g', B, f', e1, e2, e3, e4, e5, e6⟩ => ⟨g', B, f', e1, e2, e3, e4, fun j hj => (e5 j hj).ic, e6⟩
end Go.Proofs.Ythbghcebcahlnaa
