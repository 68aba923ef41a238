/- A range over a function: what the caller holds; what the bins have gathered; make within a fence; a struct of three cells as a result. A projection: package ray's own. Projections in memory; the bin of a cell; sums of bins. The sum of the bins of a cell. -/
import Derived.Test.YtfnbcpeipoobkaaGreatM25
import Derived.Laws.ComplexArith
import Derived.Test.YtfnbcpeipoobkaaGreatM24
namespace Go.Proofs.YtfnbcpeipoobkaaGreat
open Go.RowKit Go.Shelf
attribute [local go_sem] Oper.semAt_some

/-- What bins hold when the cells of a list have come. -/
def accM (ix : Nat → Nat) (v : Nat → Int × Int) (l : List Nat) : Nat → Int × Int :=
  l.foldl (fun f k => fun j => if j = ix k then addZ (f j) (v k) else f j) (fun _ => (0, 0))

theorem accM_snoc (ix : Nat → Nat) (v : Nat → Int × Int) (l : List Nat) (k j : Nat) : accM ix v (l ++ [k]) j = if j = ix k then addZ (accM ix v l j) (v k) else accM ix v l j := by
  unfold accM
  rw [List.foldl_append]
  rfl

theorem accM_range (ix : Nat → Nat) (v : Nat → Int × Int) (k : Nat) : accM ix v (List.range k) = accZ ix v k := by
  induction k with
  | zero => rfl
  | succ k ih =>
    funext j
    rw [List.range_succ, accM_snoc, ih]
    rfl

theorem accM_le {ix : Nat → Nat} {v : Nat → Int × Int} {M : Nat} {l : List Nat} (h : ∀ k, k ∈ l → (v k).1.natAbs ≤ M ∧ (v k).2.natAbs ≤ M) (j : Nat) : (accM ix v l j).1.natAbs ≤ l.length * M ∧ (accM ix v l j).2.natAbs ≤ l.length * M := by
  generalize hr : l.reverse = r at *
  obtain rfl : l = r.reverse := by rw [← hr, List.reverse_reverse]
  clear hr
  induction r with
  | nil => exact ⟨Nat.zero_le _, Nat.zero_le _⟩
  | cons x r ih =>
    rw [List.reverse_cons] at h ⊢
    have i1 := ih fun k hk => h k (by simp at hk ⊢; exact Or.inl hk)
    have i2 := h x (by simp)
    rw [accM_snoc]
    simp only [List.length_append, List.length_cons, List.length_nil, Nat.zero_add, Nat.add_mul, Nat.one_mul]
    split
    · unfold addZ
      dsimp only
      omega
    · omega

theorem row_own {A B : World} {g n : Nat} {f : Nat → Nat × Nat} {row : Option Nat} (h : Row A g n f) (hg : A.grownBy B row) (hr : ∀ r, row = some r → ∃ o : Obj, A.heap[r]? = some o ∧ o.isCells = false) : Row B g n f := by
  refine row_grown h hg fun e => ?_
  obtain ⟨o, h1, h2⟩ := hr g e.symm
  obtain ⟨cur, h3, _⟩ := h
  rw [h3] at h1
  cases h1
  cases h2

theorem cells_own {A B : World} {g : Nat} {row : Option Nat} {cs : Array Value} {t : TypeId} {x : Nat × Nat} (h : A.heap[g]? = some (.cells cs t x)) (hg : A.grownBy B row) (hr : ∀ r, row = some r → ∃ o : Obj, A.heap[r]? = some o ∧ o.isCells = false) : B.heap[g]? = some (.cells cs t x) := by
  rw [hg.block g (Array.getElem?_eq_some_iff.1 h).1 fun e => ?_, h]
  obtain ⟨o, h1, h2⟩ := hr g e.symm
  rw [h] at h1
  cases h1
  cases h2

/-- make(T, n) within a fence. -/
theorem wpListIn_make_full {F : Fence} {m : Nat} {P : Program} (w : World) {ops : Array Oper} {rest : List Oper} {o : Oper} {a : Act} {Q : Exit → Act → World → Prop}
    (hg : o.guard = none) (l c : Operand) (t : TypeId) (hop : o.op = Op.makeSlice t l c)
    (base : Nat) (e : TypeId) (i : TypeInfo) (z : Value) (size : Nat) (h1 : P.underlying t = some (.slice e)) (h2 : P.info? e = some i) (h3 : i.zero = some z) (h4 : i.size = size)
    (kl kc : IntKind) (L C : Int) (n : Nat) (hl : a.eval l = .int kl L) (hc : a.eval c = .int kc C) (hL : L = (n : Int)) (hC : C = (n : Int)) (b2 : i.bytes * n ≤ 281474976710656) (b3 : n ≤ maxLen) (b4 : base ≤ w.heap.size)
    (hK : ∀ w', w'.ownsRow base e size (.slice (some ⟨w.heap.size, 0, none⟩) n n) n (madeCells z.cells (n * size)).toList → w.grownBy w' none → wpListIn F m P ops Q rest (a.put o.dst (.slice (some ⟨w.heap.size, 0, none⟩) n n)) w') :
    wpListIn F m P ops Q (o :: rest) a w := by
  refine wpListIn_plain hg fun K hK' => ?_
  obtain ⟨w', hrun, r1, r2⟩ := run_make_full (P := P) w base t e i z size h1 h2 h3 h4 kl kc n b2 b3 b4
  subst hL
  subst hC
  unfold Oper.wpIn
  refine ⟨?_, ?_⟩
  · simp [Oper.about, hop]
  · rw [Oper.semAt_plain F _ _ (by rw [hop]; intro c hc'; cases hc')]
    simp [execOp, hop, hl, hc, hrun, Result.andThen]
    exact hK' _ _ (hK w' r1 r2)

set_option maxRecDepth 100000 in
set_option maxHeartbeats 800000 in
/-- SCAFFOLD: the iterator is handed back, its side and its direction in boxes of their own. -/
theorem linesAny (n P Q : Int) (w : World) :
    Calls (barP Tryz.prog) 54 #[.int .i64 n, .agg #[.int .i64 P, .int .i64 Q]] w fun e w' =>
      e = .returned (.func (.func 83) #[] #[.pointer (some ⟨w.heap.size, 0, none⟩), .pointer (some ⟨w.heap.size + 1, 0, none⟩)]) ∧ w' = (w.alloc (.cells #[.int .i64 n] 3)).alloc (.cells #[.int .i64 P, .int .i64 Q] 38) := by
  go_enter Bar.func54, Bar.ntmps54
  go_wp2_with fail
  go_ret
  exact ⟨by simp, rfl⟩
end Go.Proofs.YtfnbcpeipoobkaaGreat

namespace Go.Proofs.YtfnbcpeipoobkaaGreat
open Go.RowKit Go.Shelf
attribute [local go_sem] Oper.semAt_some store_complex

theorem block_cell {w : World} {b : Nat} {cs : Array Value} {t : TypeId} (h : w.heap[b]? = some (.cells cs t (0, 0))) (i : Nat) : w.cell? ⟨b, i, none⟩ = cs[i]? := by simp [World.cell?, h]
theorem block_frozen {w : World} {b : Nat} {cs : Array Value} {t : TypeId} (h : w.heap[b]? = some (.cells cs t (0, 0))) (i : Nat) : w.frozen? ⟨b, i, none⟩ = false := by simp [World.frozen?, h]

/-- What a projection's call has laid at first: its grid, its direction, its answer. -/
structure Boxes (w W : World) (gv : Array Value) (dv : Array Value) (rv : Array Value) (tg td tr : TypeId) : Prop where
  one : W.heap[w.heap.size]? = some (.cells gv tg (0, 0))
  two : W.heap[w.heap.size + 1]? = some (.cells dv td (0, 0))
  three : W.heap[w.heap.size + 2]? = some (.cells rv tr (0, 0))
  size : w.heap.size + 3 ≤ W.heap.size
  below : Below w.heap.size w W

theorem boxes_new (w : World) (gv dv rv : Array Value) (tg td tr : TypeId) : Boxes w (((w.alloc (.cells gv tg)).alloc (.cells dv td)).alloc (.cells rv tr)) gv dv rv tg td tr := by
  have e1 := World.alloc_heap_new w (.cells gv tg)
  have e2 := World.alloc_heap_new (w.alloc (.cells gv tg)) (.cells dv td)
  have e3 := World.alloc_heap_new ((w.alloc (.cells gv tg)).alloc (.cells dv td)) (.cells rv tr)
  rw [World.size_alloc] at e2
  rw [World.size_alloc, World.size_alloc] at e3
  refine ⟨?_, ?_, e3, by simp, (((Below.refl _ w).alloc (Nat.le_refl _) _).alloc (by simp) _).alloc (by simp; omega) _⟩
  · rw [Below.heap_alloc _ _ _ (by simp; omega), Below.heap_alloc _ _ _ (by simp), e1]
  · rw [Below.heap_alloc _ _ _ (by simp), e2]

theorem Boxes.on {w W W' : World} {gv dv rv : Array Value} {tg td tr : TypeId} (h : Boxes w W gv dv rv tg td tr) (k : Below W.heap.size W W') : Boxes w W' gv dv rv tg td tr := by
  have := h.size
  exact ⟨(k.block _ (by omega)).trans h.one, (k.block _ (by omega)).trans h.two, (k.block _ (by omega)).trans h.three, Nat.le_trans h.size k.size, h.below.trans (k.mono (by omega))⟩

theorem Boxes.on3 {w W W' : World} {gv dv rv : Array Value} {tg td tr : TypeId} (h : Boxes w W gv dv rv tg td tr) (k : Below (w.heap.size + 3) W W') : Boxes w W' gv dv rv tg td tr := by
  have := h.size
  exact ⟨(k.block _ (by omega)).trans h.one, (k.block _ (by omega)).trans h.two, (k.block _ (by omega)).trans h.three, Nat.le_trans h.size k.size, h.below.trans (k.mono (by omega))⟩

theorem keeps_set (W : World) (k : Nat) (p : Addr) (u : Value) : KeepsOthers W ((W.drewN k).setCell p u) := (show KeepsOthers W (W.drewN k) from ⟨Nat.le_refl _, fun _ _ h _ => h⟩).trans (KeepsOthers.setCell _ _ _)

theorem Boxes.own {w W W' : World} {gv dv rv : Array Value} {tg td tr : TypeId} {row : Option Nat} (h : Boxes w W gv dv rv tg td tr) (hg : W.grownBy W' row) (hr : ∀ r, row = some r → w.heap.size ≤ r ∧ ∃ o : Obj, W.heap[r]? = some o ∧ o.isCells = false) : Boxes w W' gv dv rv tg td tr := by
  have := h.size
  exact ⟨cells_own h.one hg fun r e => (hr r e).2, cells_own h.two hg fun r e => (hr r e).2, cells_own h.three hg fun r e => (hr r e).2, Nat.le_trans h.size hg.size, h.below.grown hg (by omega) fun k e => (hr k e).1⟩

/-- Nothing below nought. -/
def NonNeg (m : Nat) (z : Nat → Int × Int) : Prop := ∀ j, j < m → 0 ≤ (z j).1 ∧ 0 ≤ (z j).2
/-- A bin: of 64 bits; of a grid with nothing below nought: its noughts have no sign. -/
structure BinC (nn : Prop) (b : Nat × Nat) (z : Int × Int) : Prop where
  ic : IC b z
  lt1 : b.1 < 18446744073709551616
  lt2 : b.2 < 18446744073709551616
  no : nn → (0 ≤ z.1 ∧ (z.1 = 0 → b.1 = 0)) ∧ (0 ≤ z.2 ∧ (z.2 = 0 → b.2 = 0))
theorem bin_zero (nn : Prop) : BinC nn (0, 0) (0, 0) := ⟨ic_zero, by decide, by decide, fun _ => ⟨⟨Int.le_refl _, fun _ => rfl⟩, ⟨Int.le_refl _, fun _ => rfl⟩⟩⟩
theorem bin_add {nn : Prop} {a b r : Nat × Nat} {x y : Int × Int} (ha : BinC nn a x) (hb : nn → (0 ≤ y.1 ∧ (y.1 = 0 → b.1 = 0)) ∧ (0 ≤ y.2 ∧ (y.2 = 0 → b.2 = 0))) (h : AddTo a b r) (hI : IC r (addZ x y)) (l1 : r.1 < 18446744073709551616) (l2 : r.2 < 18446744073709551616) : BinC nn r (addZ x y) := by
  have h00 : floatBits .add .f64 0 0 = some 0 := by decide +kernel
  refine ⟨hI, l1, l2, fun hn => ?_⟩
  obtain ⟨⟨a1, a2⟩, a3, a4⟩ := ha.no hn
  obtain ⟨⟨b1, b2⟩, b3, b4⟩ := hb hn
  have q1 := h.one
  have q2 := h.two
  refine ⟨⟨?_, fun e => ?_⟩, ?_, fun e => ?_⟩
  · show 0 ≤ x.1 + y.1
    omega
  · have e : x.1 + y.1 = 0 := e
    rw [a2 (by omega), b2 (by omega), h00] at q1
    exact (Option.some.inj q1).symm
  · show 0 ≤ x.2 + y.2
    omega
  · have e : x.2 + y.2 = 0 := e
    rw [a4 (by omega), b4 (by omega), h00] at q2
    exact (Option.some.inj q2).symm

/-- What the rounds keep: the bins so far, the grid, the boxes. -/
structure Gather (w : World) (n g c B gs bs : Nat) (P Q : Int) (f : Nat → Nat × Nat) (z : Nat → Int × Int) (l : List Nat) (W : World) : Prop where
  bins : ∃ f', Row W gs B f' ∧ ∀ j, j < B → BinC (NonNeg (n * n) z) (f' j) (accM (ixN n (P, Q)) z l j)
  sl : W.heap[bs]? = some (.cells #[.slice (some ⟨gs, 0, none⟩) B B] 25 (0, 0))
  grid : Row W g (n * n) f
  boxes : Boxes w W #[.int .i64 n, .slice (some ⟨g, 0, none⟩) (n * n : Nat) c] #[.int .i64 P, .int .i64 Q] #[.int .i64 0, .int .i64 0, .slice none 0 0] 27 38 40

theorem gather_own {w : World} {n g c B gs bs S : Nat} {P Q : Int} {f : Nat → Nat × Nat} {z : Nat → Int × Int} (hS : w.heap.size ≤ S) : OwnFrom S (fun (pre : List (CellNo n)) W => Gather w n g c B gs bs P Q f z (pre.map (·.1)) W) := by
  intro s W W' row h hg hr
  obtain ⟨⟨f', h1, h2⟩, h3, h4, h5⟩ := h
  exact ⟨⟨f', row_own h1 hg fun r e => (hr r e).2, h2⟩, cells_own h3 hg fun r e => (hr r e).2, row_own h4 hg fun r e => (hr r e).2, h5.own hg fun r e => ⟨Nat.le_trans hS (hr r e).1, (hr r e).2⟩⟩

/-- The answer laid; the block of the rounds' deferred calls turned. -/
theorem set3 {w W : World} {gv dv : Array Value} {tg td tr : TypeId} {gs B D : Nat} {f : Nat → Nat × Nat} {a b c x y z : Value} (h : Boxes w W gv dv #[x, y, z] tg td tr) (hR : Row W gs B f) (hK : W.heap[D]? = some (.deferred (some []))) (hg : w.heap.size + 3 ≤ gs) (hD : w.heap.size + 3 ≤ D) :
    (((W.setCell ⟨w.heap.size + 1 + 1, 0, none⟩ a).setCell ⟨w.heap.size + 1 + 1, 1, none⟩ b).setCell ⟨w.heap.size + 1 + 1, 2, none⟩ c).heap[D]? = some (.deferred (some [])) ∧
    ((((W.setCell ⟨w.heap.size + 1 + 1, 0, none⟩ a).setCell ⟨w.heap.size + 1 + 1, 1, none⟩ b).setCell ⟨w.heap.size + 1 + 1, 2, none⟩ c).putObj D (.deferred none)).cell? ⟨w.heap.size + 2, 0, none⟩ = some a ∧
    ((((W.setCell ⟨w.heap.size + 1 + 1, 0, none⟩ a).setCell ⟨w.heap.size + 1 + 1, 1, none⟩ b).setCell ⟨w.heap.size + 1 + 1, 2, none⟩ c).putObj D (.deferred none)).cell? ⟨w.heap.size + 2, 1, none⟩ = some b ∧
    ((((W.setCell ⟨w.heap.size + 1 + 1, 0, none⟩ a).setCell ⟨w.heap.size + 1 + 1, 1, none⟩ b).setCell ⟨w.heap.size + 1 + 1, 2, none⟩ c).putObj D (.deferred none)).cell? ⟨w.heap.size + 2, 2, none⟩ = some c ∧
    Row ((((W.setCell ⟨w.heap.size + 1 + 1, 0, none⟩ a).setCell ⟨w.heap.size + 1 + 1, 1, none⟩ b).setCell ⟨w.heap.size + 1 + 1, 2, none⟩ c).putObj D (.deferred none)) gs B f ∧
    Below w.heap.size w ((((W.setCell ⟨w.heap.size + 1 + 1, 0, none⟩ a).setCell ⟨w.heap.size + 1 + 1, 1, none⟩ b).setCell ⟨w.heap.size + 1 + 1, 2, none⟩ c).putObj D (.deferred none)) := by
  have hD' : D < W.heap.size := (Array.getElem?_eq_some_iff.1 hK).1
  have e1 := heap_setCell_same W (w.heap.size + 2) 0 _ _ a h.three
  have e2 := heap_setCell_same _ (w.heap.size + 2) 1 _ _ b e1
  have e3 := heap_setCell_same _ (w.heap.size + 2) 2 _ _ c e2
  have hk : (((W.setCell ⟨w.heap.size + 2, 0, none⟩ a).setCell ⟨w.heap.size + 2, 1, none⟩ b).setCell ⟨w.heap.size + 2, 2, none⟩ c).heap[D]? = some (.deferred (some [])) := by
    rw [Below.heap_setCell _ _ _ _ (by show D ≠ w.heap.size + 2; omega), Below.heap_setCell _ _ _ _ (by show D ≠ w.heap.size + 2; omega), Below.heap_setCell _ _ _ _ (by show D ≠ w.heap.size + 2; omega), hK]
  have e4 : ((((W.setCell ⟨w.heap.size + 2, 0, none⟩ a).setCell ⟨w.heap.size + 2, 1, none⟩ b).setCell ⟨w.heap.size + 2, 2, none⟩ c).putObj D (.deferred none)).heap[w.heap.size + 2]? = _ := (World.putObj_heap_other (by omega)).trans e3
  refine ⟨hk, ?_, ?_, ?_, ?_, ?_⟩
  · rw [block_cell e4]; rfl
  · rw [block_cell e4]; rfl
  · rw [block_cell e4]; rfl
  · refine row_keep hR ?_
    have hne : gs ≠ D := by
      intro e
      obtain ⟨cur, hc, _⟩ := hR
      rw [e, hK] at hc
      cases hc
    rw [World.putObj_heap_other (by omega)]
    rw [Below.heap_setCell _ _ _ _ (by show gs ≠ w.heap.size + 2; omega), Below.heap_setCell _ _ _ _ (by show gs ≠ w.heap.size + 2; omega), Below.heap_setCell _ _ _ _ (by show gs ≠ w.heap.size + 2; omega)]
  · exact (((h.below.setCell (p := ⟨w.heap.size + 2, 0, none⟩) (by show w.heap.size ≤ w.heap.size + 2; omega) a).setCell (p := ⟨w.heap.size + 2, 1, none⟩) (by show w.heap.size ≤ w.heap.size + 2; omega) b).setCell (p := ⟨w.heap.size + 2, 2, none⟩) (by show w.heap.size ≤ w.heap.size + 2; omega) c).trans
      (belowK_b (w := w) (Nat.le_refl _) _ D _ _ (by omega) hk rfl rfl)

theorem add_sum {a b r : Nat × Nat} (h : AddTo a b r) : cSumBits .add .f64 a.1 a.2 b.1 b.2 = some (r.1, r.2) := by
  unfold cSumBits
  rw [h.one, h.two]
  rfl

set_option maxRecDepth 100000 in
set_option maxHeartbeats 4000000 in
/-- The projection of a grid and a direction that were looked at. -/
theorem alongBin {n g c m : Nat} {f : Nat → Nat × Nat} {z : Nat → Int × Int} {a : Int × Int} (w : World) (h1 : 1 ≤ n) (h2 : n ≤ 64) (ha : Dir64 a) (ho : okD a.1 a.2 = true) (hR : Row w g (n * n) f) (hz : ∀ j, j < n * n → Cell (f j) (z j) m) (hm : m ≤ 1048576) :
    Calls (barP Tryz.prog) 25 #[gridV n g c, dirV a] w fun e w' => ∃ g' B f', e = .returned (.agg #[.int .i64 a.1, .int .i64 a.2, .slice (some ⟨g', 0, none⟩) B B]) ∧ binsS n a = ((B : Int), 0) ∧ w.heap.size ≤ g' ∧
      Row w' g' B f' ∧ (∀ j, j < B → BinC (NonNeg (n * n) z) (f' j) (accZ (ixN n a) z (n * n) j)) ∧ Below w.heap.size w w' := by
  obtain ⟨B, hB, hB1, hB2⟩ := bins_le h1 h2 ho
  obtain ⟨i0, hi0, hz0, hz1, hz2⟩ := info_parts infoC
  have kB := hide (fun (W : World) => dirBins (n := n) ha W)
  rw [hB] at kB
  have hB := hide hB
  unfold gridV dirV at *
  obtain ⟨P, Q⟩ := a
  dsimp only at *
  refine (callsIn_wide (n := 6)).1 ?_
  refine callsIn_of_wp_marks Bar.func25 rfl trivial ?_ rfl
  simp only [Bar.ntmps25, List.size_toArray, List.length_cons, List.length_nil, Nat.reduceAdd, Nat.reduceSub, Array.replicate_succ, Array.replicate_zero, List.push_toArray, List.append_toArray, List.nil_append, List.cons_append]
  gi_wp2_with fail
  have b0 := boxes_new w #[.int .i64 n, .slice (some ⟨g, 0, none⟩) (n * n : Nat) c] #[.int .i64 P, .int .i64 Q] #[.int .i64 0, .int .i64 0, .slice none 0 0] 27 38 40
  generalize ((w.alloc (.cells #[.int .i64 n, .slice (some ⟨g, 0, none⟩) (n * n : Nat) c] 27)).alloc (.cells #[.int .i64 P, .int .i64 Q] 38)).alloc (.cells #[.int .i64 0, .int .i64 0, .slice none 0 0] 40) = W0 at b0 ⊢
  refine ⟨trivial, ?_⟩
  refine (callsIn_wide.2 (unhide kB W0)).mono ?_
  rintro e W2 ⟨rfl, hb2⟩
  have b2 := b0.on hb2
  have hR2 := row_below hR b2.below (row_lt hR)
  have b2 := hide b2
  have hR2 := hide hR2
  clear b0 hb2 kB
  gi_wp2_with (first
    | (gi_at_make; refine wpListIn_make_full _ rfl (.tmp 17) (.tmp 17) 25 rfl W2.heap.size 28 i0 (.complex .f64 0 0) 1 Bar.underlying25 hi0 hz0 hz1 .i64 .i64 B B B rfl rfl rfl rfl ?c1 ?c2 ?c3 ?_))
  case c1 => rw [hz2]; omega
  case c2 => unfold maxLen; omega
  case c3 => exact Nat.le_refl _
  intro W3 hown3 hg3
  have hT : Hid (Row W3 W2.heap.size B (fun _ => (0, 0))) := row_made hown3 (fun _ => (0, 0)) (fun i hi => zeros_get B i hi) (fun _ _ => rfl)
  have hb3 := grown_below hg3
  have b3 := hide ((unhide b2).on hb3)
  have hR3 := hide (row_below (unhide hR2) hb3 (row_lt (unhide hR2)))
  have hg2 : w.heap.size + 3 ≤ W2.heap.size := (unhide b2).size
  have hs3 := hb3.size
  clear hown3 hg3 hb3 b2 hR2
  have hb4 := (Below.refl W3.heap.size W3).alloc (Nat.le_refl _) (.cells #[.slice (some ⟨W2.heap.size, 0, none⟩) B B] 25)
  have b4 := (unhide b3).on hb4
  have c0 := block_cell b4.one 0
  have d0 := block_cell b4.two 0
  have d1 := block_cell b4.two 1
  simp only [List.getElem?_toArray, List.getElem?_cons_zero, List.getElem?_cons_succ] at c0 d0 d1
  have hS4 := World.alloc_heap_new W3 (.cells #[.slice (some ⟨W2.heap.size, 0, none⟩) B B] 25)
  have hT4 := row_below (unhide hT) hb4 (row_lt (unhide hT))
  have hR4 := row_below (unhide hR3) hb4 (row_lt (unhide hR3))
  have hlT := row_lt (unhide hT)
  have b4 := hide b4
  have hS4 := hide hS4
  have hT4 := hide hT4
  have hR4 := hide hR4
  have hs4 : W3.heap.size + 1 ≤ (W3.alloc (.cells #[.slice (some ⟨W2.heap.size, 0, none⟩) B B] 25)).heap.size := by rw [World.size_alloc]; exact Nat.le_refl _
  clear hb4 b3 hT hR3
  gi_wp2_with fail
  refine ⟨trivial, ?_⟩
  generalize W3.alloc (.cells #[.slice (some ⟨W2.heap.size, 0, none⟩) B B] 25) = W4 at *
  refine (callsIn_wide.2 (linesAny n P Q W4)).mono ?_
  rintro e W5 ⟨rfl, hW5⟩
  have hb5 : Below W4.heap.size W4 W5 := by
    rw [hW5]
    exact ((Below.refl _ W4).alloc (Nat.le_refl _) _).alloc (by simp) _
  have n5 : W5.heap[W4.heap.size]? = some (.cells #[.int .i64 n] 3 (0, 0)) := by
    rw [hW5, Below.heap_alloc _ _ _ (by simp)]
    exact World.alloc_heap_new W4 _
  have m5 : W5.heap[W4.heap.size + 1]? = some (.cells #[.int .i64 P, .int .i64 Q] 38 (0, 0)) := by
    have := World.alloc_heap_new (W4.alloc (.cells #[.int .i64 n] 3)) (.cells #[.int .i64 P, .int .i64 Q] 38)
    rw [World.size_alloc] at this
    rw [hW5]
    exact this
  have hs5 : W4.heap.size + 2 ≤ W5.heap.size := by
    rw [hW5]
    simp
  have G0 : Gather w n g c B W2.heap.size W3.heap.size P Q f z [] W5 :=
    ⟨⟨_, row_below (unhide hT4) hb5 (row_lt (unhide hT4)), fun j _ => bin_zero _⟩, (hb5.block _ (by omega)).trans (unhide hS4), row_below (unhide hR4) hb5 (row_lt (unhide hR4)), (unhide b4).on hb5⟩
  have kL := lines_stops (a := (P, Q)) h1 h2 ha ho 5 (by decide) W4.heap.size (W4.heap.size + 1) W5 (by omega) (by omega) (block_cell n5 0) (block_cell m5 0) (block_cell m5 1)
  have G0 := hide G0
  have kL := hide kL
  clear hW5 hb5 n5 m5 b4 hS4 hT4 hR4 c0 d0 d1
  gi_wp2_with fail
  refine wpIn_rangeFunc_ownF rfl (by decide) (gf := 83) (lb := #[.pointer (some ⟨W4.heap.size, 0, none⟩), .pointer (some ⟨W4.heap.size + 1, 0, none⟩)]) rfl trivial (enters_of Bar.func83 (by kernel_rfl) rfl)
    (unhide kL) keep2_t (keep2_b (by omega) (by omega)) (Below.refl _ _) (fun _ => rfl)
    (fun pre W => Gather w n g c B W2.heap.size W3.heap.size P Q f z (pre.map (·.1)) W) (fun _ _ _ => False) (gather_own (by omega)) (fun _ _ _ _ _ h _ _ => h) (unhide G0) ?a1 ?assign ?body ?done ?stop
  case assign =>
    intro l x W K hK
    gi_wp2
    exact hK
  case body =>
    rintro l pre x W hG hlen
    obtain ⟨⟨f', r1, r2⟩, r3, r4, r5⟩ := hG
    obtain ⟨k, hk⟩ := x
    have hix := ix_bounds (a := (P, Q)) h1 h2 ho hk
    rw [unhide hB] at hix
    obtain ⟨b, hb⟩ : ∃ b : Nat, ixS n (P, Q) k = (b : Int) := ⟨(ixS n (P, Q) k).toNat, by omega⟩
    have hbN : ixN n (P, Q) k = b := by unfold ixN; rw [hb]; rfl
    have hbB : b < B := by
      have := hix.2
      dsimp only at this
      omega
    have s1 := block_cell r3 0
    have s3 := block_cell r5.one 1
    have s2 := row_at r1 hbB
    have s2f := row_frozen r1 b
    have s4 := row_at r4 hk
    simp only [List.getElem?_toArray, List.getElem?_cons_zero, List.getElem?_cons_succ] at s1 s3
    have hsq := square_le h2
    have ic1 := (r2 b hbB).ic
    have ic2 := (hz k hk).ic
    have ble := accM_le (ix := ixN n (P, Q)) (v := z) (M := m) (l := pre.map (·.1) ++ [k]) (fun i hi => by
      rw [List.mem_append] at hi
      rcases hi with hi | hi
      · obtain ⟨y, _, rfl⟩ := List.mem_map.1 hi
        exact ⟨(hz y.1 y.2).le1, (hz y.1 y.2).le2⟩
      · rw [List.mem_singleton] at hi
        rw [hi]
        exact ⟨(hz k hk).le1, (hz k hk).le2⟩) b
    rw [accM_snoc, hbN, if_pos rfl, List.length_append, List.length_map] at ble
    have hsz : (pre.length + [k].length) * m ≤ 4096 * 1048576 := Nat.mul_le_mul (by simp; omega) hm
    obtain ⟨t, hT, hI0, lt1, lt2⟩ := ic_add ic1 ic2 (Nat.lt_of_le_of_lt ble.1 (by omega)) (Nat.lt_of_le_of_lt ble.2 (by omega))
    have hI := bin_add (r2 b hbB) (fun hn => ⟨⟨(hn k hk).1, (hz k hk).z1⟩, ⟨(hn k hk).2, (hz k hk).z2⟩⟩) hT hI0 lt1 lt2
    clear hI0 lt1 lt2
    have kA := add_sum hT
    have hGn : Hid (∀ nq, Gather w n g c B W2.heap.size W3.heap.size P Q f z (pre.map (·.1) ++ [k]) ((W.drewN nq).setCell ⟨W2.heap.size, b, none⟩ (cv t))) := by
      intro nq
      have r1' : Row (W.drewN nq) W2.heap.size B f' := r1
      have r4' : Row (W.drewN nq) g (n * n) f := r4
      have r3' : (W.drewN nq).heap[W3.heap.size]? = _ := r3
      refine ⟨⟨_, row_set r1' b t, fun j hj => ?_⟩, ?_, row_keep r4' (Below.heap_setCell _ _ _ _ ?_), ?_⟩
      · rw [accM_snoc, hbN]
        unfold upd
        split
        · rename_i e; rw [e]; exact hI
        · exact r2 j hj
      · exact (Below.heap_setCell (W.drewN nq) ⟨W2.heap.size, b, none⟩ (cv t) W3.heap.size (by show W3.heap.size ≠ W2.heap.size; omega)).trans r3'
      · show g ≠ W2.heap.size
        have := row_lt hR
        omega
      · exact r5.on3 ((below_drewN _ W nq).setCell (p := ⟨W2.heap.size, b, none⟩) hg2 _)
    have hKn : Hid (∀ nq, Keep2 W4.heap.size (W4.heap.size + 1) W ((W.drewN nq).setCell ⟨W2.heap.size, b, none⟩ (cv t))) := fun nq => by
      have := keep2_set (W.drewN nq) ⟨W2.heap.size, b, none⟩ (cv t) (by show W4.heap.size ≠ W2.heap.size; omega) (by show W4.heap.size + 1 ≠ W2.heap.size; omega)
      exact ⟨this.one, this.two⟩
    obtain ⟨t1, t2⟩ := t
    generalize f' b = p at s2 kA
    generalize f k = q at s4 kA
    obtain ⟨q1, q2⟩ := p
    obtain ⟨q3, q4⟩ := q
    unfold cv at s2 s4 hGn hKn
    dsimp only at kA s2 s4 hGn hKn ⊢
    rw [hb]
    have kA := fun (w : World) t => run_complex_sum (P := (barP Tryz.prog)) w .add (Or.inl rfl) t .f64 _ _ _ _ _ _ kA
    clear r1 r2 r3 r4 r5 hb hbN hix ic1 ic2 ble hsz hT hI
    have hfn : ∀ f, (Fence.wide.inRound l).fn f = True := fun _ => rfl
    gi_wp2_with fail
    refine region_quiet 11 mixed (by kernel_rfl) ?_
    simp only [List.take_succ_cons, List.take_zero, List.drop_succ_cons, List.drop_zero]
    repeat (gi_big_quiet_step (fail))
    refine wpQuietIn_nil ?_
    intro _ hw'
    obtain ⟨nq, rfl⟩ := hw'
    gi_wp2
    refine ⟨keeps_set _ _ _ _, unhide hKn nq, ?_⟩
    show Gather w n g c B W2.heap.size W3.heap.size P Q f z ((pre ++ [(⟨k, hk⟩ : CellNo n)]).map (·.1)) _
    rw [List.map_append]
    exact unhide hGn nq
  case done =>
    rintro D xs W hD hS hG hK
    rw [hS] at hG
    have s1 := block_cell hG.sl 0
    have b1 := hG.boxes
    have d0 := block_cell b1.two 0
    have d1 := block_cell b1.two 1
    have e0 := block_cell b1.three 0
    have e1 := block_cell b1.three 1
    have e2 := block_cell b1.three 2
    have g0 := block_frozen b1.three 0
    have g1 := block_frozen b1.three 1
    have g2 := block_frozen b1.three 2
    simp only [List.getElem?_toArray, List.getElem?_cons_zero, List.getElem?_cons_succ] at s1 d0 d1 e0 e1 e2
    obtain ⟨⟨f', r1, r2⟩, r3, r4, r5⟩ := hG
    have hset := hide (set3 (a := .int .i64 P) (b := .int .i64 Q) (c := .slice (some ⟨W2.heap.size, 0, none⟩) B B) (D := D) r5 r1 hK (by omega) (by omega))
    rw [accM_range] at r2
    have r2 := hide r2
    clear b1 r1 r3 r4 r5 hK
    gi_wp2
    obtain ⟨k1, k2, k3, k4, k5, k6⟩ := unhide hset
    refine ⟨by simp, .inl ⟨_, _, rfl, run_takeDeferred k1, ?_⟩⟩
    refine ⟨_, results_three (P := (barP Tryz.prog)) rfl _ _ (w.heap.size + 2) (.int .i64 P) (.int .i64 Q) (.slice (some ⟨W2.heap.size, 0, none⟩) B B) _ rfl k2 k3 k4 Bar.underlying40 rfl (by kernel_rfl), ?_⟩
    exact ⟨W2.heap.size, B, f', rfl, unhide hB, by omega, k5, unhide r2, k6⟩
  case stop =>
    rintro D c pre W _ _ h _
    exact h.elim
theorem alongAny {n g c m : Nat} {f : Nat → Nat × Nat} {z : Nat → Int × Int} {a : Int × Int} (w : World) (h1 : 1 ≤ n) (h2 : n ≤ 64) (ha : Dir64 a) (ho : okD a.1 a.2 = true) (hR : Row w g (n * n) f) (hz : ∀ j, j < n * n → Cell (f j) (z j) m) (hm : m ≤ 1048576) :
    Calls (barP Tryz.prog) 25 #[gridV n g c, dirV a] w fun e w' => ∃ g' B f', e = .returned (.agg #[.int .i64 a.1, .int .i64 a.2, .slice (some ⟨g', 0, none⟩) B B]) ∧ binsS n a = ((B : Int), 0) ∧ w.heap.size ≤ g' ∧
      Row w' g' B f' ∧ (∀ j, j < B → IC (f' j) (accZ (ixN n a) z (n * n) j)) ∧ Below w.heap.size w w' :=
  (alongBin w h1 h2 ha ho hR hz hm).mono fun _ _ ⟨g', B, f', e1, e2, e3, e4, e5, e6⟩ => ⟨g', B, f', e1, e2, e3, e4, fun j hj => (e5 j hj).ic, e6⟩
end Go.Proofs.YtfnbcpeipoobkaaGreat

namespace Go.Proofs.YtfnbcpeipoobkaaGreat
open Go.RowKit Go.Shelf Fl Ieee
attribute [local go_sem] store_complex

theorem wrapF {x : Int} (h1 : -9000000000000000000 ≤ x) (h2 : x ≤ 9000000000000000000) : wrap64 x = x := IntWalk.wrap64_in _ ⟨by omega, by omega⟩
/-- A projection: its direction, its bins. -/
structure PJ where
  d : Int × Int
  gb : Nat
  cb : Nat
  nb : Nat
  b : Nat → Nat × Nat
def pj0 : PJ := ⟨(0, 0), 0, 0, 0, fun _ => (0, 0)⟩
/-- Right ones of a field of side n. -/
def PJok (n : Nat) (p : PJ) : Prop := okD p.d.1 p.d.2 = true ∧ binsS n p.d = ((p.nb : Int), 0) ∧ p.nb ≤ p.cb ∧ p.cb ≤ 4096
structure PJAt (w : World) (gq : Nat) (ps : List PJ) : Prop where
  lt : gq < w.heap.size
  cells : ∀ i, i < ps.length → w.cell? ⟨gq, i * 3, none⟩ = some (.int .i64 (ps.getD i pj0).d.1) ∧ w.cell? ⟨gq, i * 3 + 1, none⟩ = some (.int .i64 (ps.getD i pj0).d.2) ∧ w.cell? ⟨gq, i * 3 + 2, none⟩ = some (.slice (some ⟨(ps.getD i pj0).gb, 0, none⟩) (ps.getD i pj0).nb (ps.getD i pj0).cb)
  bins : ∀ i, i < ps.length → Row w (ps.getD i pj0).gb (ps.getD i pj0).nb (ps.getD i pj0).b
theorem PJAt.below {w w' : World} {gq : Nat} {ps : List PJ} (h : PJAt w gq ps) (hb : Below w.heap.size w w') : PJAt w' gq ps :=
  ⟨Nat.lt_of_lt_of_le h.lt hb.size, fun i hi => ⟨(hb.cell (p := ⟨gq, i * 3, none⟩) h.lt).trans (h.cells i hi).1, (hb.cell (p := ⟨gq, i * 3 + 1, none⟩) h.lt).trans (h.cells i hi).2.1, (hb.cell (p := ⟨gq, i * 3 + 2, none⟩) h.lt).trans (h.cells i hi).2.2⟩,
    fun i hi => row_keep (h.bins i hi) (hb.block _ (row_lt (h.bins i hi)))⟩
/-- Strips: projections with the first cell's line. -/
structure StAt (w : World) (gs n : Nat) (ps : List PJ) : Prop where
  lt : gs < w.heap.size
  cells : ∀ i, i < ps.length → w.cell? ⟨gs, i * 4, none⟩ = some (.int .i64 (ps.getD i pj0).d.1) ∧ w.cell? ⟨gs, i * 4 + 1, none⟩ = some (.int .i64 (ps.getD i pj0).d.2) ∧ w.cell? ⟨gs, i * 4 + 2, none⟩ = some (.slice (some ⟨(ps.getD i pj0).gb, 0, none⟩) (ps.getD i pj0).nb (ps.getD i pj0).cb) ∧ w.cell? ⟨gs, i * 4 + 3, none⟩ = some (.int .i64 (startS n (ps.getD i pj0).d))
  bins : ∀ i, i < ps.length → Row w (ps.getD i pj0).gb (ps.getD i pj0).nb (ps.getD i pj0).b
theorem StAt.below {w w' : World} {gs n : Nat} {ps : List PJ} (h : StAt w gs n ps) (hb : Below w.heap.size w w') : StAt w' gs n ps :=
  ⟨Nat.lt_of_lt_of_le h.lt hb.size, fun i hi => ⟨(hb.cell (p := ⟨gs, i * 4, none⟩) h.lt).trans (h.cells i hi).1, (hb.cell (p := ⟨gs, i * 4 + 1, none⟩) h.lt).trans (h.cells i hi).2.1, (hb.cell (p := ⟨gs, i * 4 + 2, none⟩) h.lt).trans (h.cells i hi).2.2.1, (hb.cell (p := ⟨gs, i * 4 + 3, none⟩) h.lt).trans (h.cells i hi).2.2.2⟩,
    fun i hi => row_keep (h.bins i hi) (hb.block _ (row_lt (h.bins i hi)))⟩
/-- The line of a cell, without wrapping. -/
theorem at_place {n x y nb : Nat} {d : Int × Int} (h1 : 1 ≤ n) (h2 : n ≤ 64) (ho : okD d.1 d.2 = true) (hb : binsS n d = ((nb : Int), 0)) (hx : x < n) (hy : y < n) :
    wrap64 (d.2 * (x : Int)) = d.2 * (x : Int) ∧ wrap64 (d.1 * (y : Int)) = d.1 * (y : Int) ∧ wrap64 (startS n d + d.2 * (x : Int)) = startS n d + d.2 * (x : Int) ∧ wrap64 (startS n d + d.2 * (x : Int) - d.1 * (y : Int)) = (ixN n d (y * n + x) : Nat) ∧ ixN n d (y * n + x) < nb := by
  obtain ⟨b1, b2, b3⟩ := okD_bounds ho
  have hk : y * n + x < n * n := by
    have : (y + 1) * n ≤ n * n := Nat.mul_le_mul_right n (by omega)
    rw [Nat.add_mul, Nat.one_mul] at this
    omega
  obtain ⟨i1, i2⟩ := ix_bounds h1 h2 ho hk
  rw [hb] at i2
  have m1 : (y * n + x) % n = x := by rw [Nat.add_comm, Nat.add_mul_mod_self_right, Nat.mod_eq_of_lt hx]
  have m2 : (y * n + x) / n = y := by rw [Nat.add_comm, Nat.add_mul_div_right _ _ (by omega), Nat.div_eq_of_lt hx, Nat.zero_add]
  have e : ixS n d (y * n + x) = d.2 * (x : Int) - d.1 * (y : Int) + startS n d := by unfold ixS; rw [m1, m2]
  have q1 : -1024 ≤ d.2 * (x : Int) ∧ d.2 * (x : Int) ≤ 1024 := by
    have l1 : 0 ≤ d.2 * (x : Int) := Int.mul_nonneg (by omega) (by omega)
    have l2 : d.2 * (x : Int) ≤ 16 * 64 := Int.mul_le_mul (by omega) (by omega) (by omega) (by decide)
    omega
  have q2 : -1024 ≤ d.1 * (y : Int) ∧ d.1 * (y : Int) ≤ 1024 := by
    have l1 : d.1 * (y : Int) ≤ 16 * (y : Int) := Int.mul_le_mul_of_nonneg_right (by omega) (by omega)
    have l2 : -16 * (y : Int) ≤ d.1 * (y : Int) := Int.mul_le_mul_of_nonneg_right (by omega) (by omega)
    omega
  have q3 : 0 ≤ startS n d ∧ startS n d ≤ 1024 := by
    unfold startS
    split
    · omega
    · have l1 : 0 ≤ d.1 * ((n : Int) - 1) := Int.mul_nonneg (by omega) (by omega)
      have l2 : d.1 * ((n : Int) - 1) ≤ 16 * 63 := Int.mul_le_mul (by omega) (by omega) (by omega) (by decide)
      omega
  have hN : ((ixN n d (y * n + x) : Nat) : Int) = ixS n d (y * n + x) := Int.toNat_of_nonneg i1
  dsimp only at i2
  refine ⟨wrapF (by omega) (by omega), wrapF (by omega) (by omega), wrapF (by omega) (by omega), ?_, by omega⟩
  rw [wrapF (by omega) (by omega), hN, e]
  omega
set_option maxRecDepth 100000 in
set_option maxHeartbeats 1600000 in
theorem atOk {n x y : Nat} {p : PJ} (h1 : 1 ≤ n) (h2 : n ≤ 64) (hp : PJok n p) (hx : x < n) (hy : y < n) (w : World) (hr : Row w p.gb p.nb p.b) :
    Calls (barP Tryz.prog) 98 #[.agg #[.int .i64 p.d.1, .int .i64 p.d.2, .slice (some ⟨p.gb, 0, none⟩) p.nb p.cb, .int .i64 (startS n p.d)], .agg #[.int .i64 x, .int .i64 y]] w fun e w' => e = .returned (cv (p.b (ixN n p.d (y * n + x)))) ∧ Below w.heap.size w w' := by
  obtain ⟨a1, a2, a3, a4, a5⟩ := at_place h1 h2 hp.1 hp.2.1 hx hy
  have hlt := row_lt hr
  have hB := ((Below.refl _ w).alloc (Nat.le_refl _) (.cells #[.int .i64 p.d.1, .int .i64 p.d.2, .slice (some ⟨p.gb, 0, none⟩) p.nb p.cb, .int .i64 (startS n p.d)] 147)).alloc (by rw [World.size_alloc]; omega) (.cells #[.int .i64 x, .int .i64 y] 79)
  have c := (hB.cell (p := ⟨p.gb, ixN n p.d (y * n + x), none⟩) hlt).trans (row_at hr a5)
  have HB := hide hB
  clear hB hr hp
  obtain ⟨⟨d1, d2⟩, gb, cb, nb, b⟩ := p
  dsimp only at *
  unfold cv at *
  generalize startS n (d1, d2) = st at *
  generalize ixN n (d1, d2) (y * n + x) = k at *
  generalize b k = bk at *
  have q1 : ((k : Int) < (nb : Int)) = True := by simp; omega
  go_enter Bar.func98, Bar.ntmps98
  go_wp2_with fail
  go_ret
  exact ⟨rfl, unhide HB⟩
end Go.Proofs.YtfnbcpeipoobkaaGreat

namespace Go.Proofs.YtfnbcpeipoobkaaGreat
open Go.RowKit Go.Shelf Fl Ieee
attribute [local go_sem] store_complex

/-- What a cell gets of the first k projections, zb p j being the bin j of projection p. -/
def layZ (ix : Nat → Nat → Nat) (zb : Nat → Nat → Int × Int) (i : Nat) : Nat → Int × Int
  | 0 => (0, 0)
  | k + 1 => addZ (layZ ix zb i k) (zb k (ix k i))
theorem layZ_sm {ix : Nat → Nat → Nat} {zb : Nat → Nat → Int × Int} {i B : Nat} : ∀ {k : Nat}, (∀ p, p < k → Sm B (zb p (ix p i))) → Sm (k * B) (layZ ix zb i k)
  | 0, _ => ⟨Nat.zero_le _, Nat.zero_le _⟩
  | k + 1, h => by
    have h1 := layZ_sm (k := k) fun p hp => h p (by omega)
    have h2 := h k (by omega)
    rw [Nat.add_mul, Nat.one_mul]
    show ((layZ ix zb i k).1 + (zb k (ix k i)).1).natAbs ≤ k * B + B ∧ ((layZ ix zb i k).2 + (zb k (ix k i)).2).natAbs ≤ k * B + B
    have a1 := h1.1
    have a2 := h1.2
    have b1 := h2.1
    have b2 := h2.2
    omega
/-- Bins that stand for whole numbers. -/
def BinsZ (s n : Nat) (ps : List PJ) (zb : Nat → Nat → Int × Int) (B : Nat) : Prop := ∀ i, i < ps.length → PJok n (ps.getD i pj0) ∧ ∀ j, j < (ps.getD i pj0).nb → DC s ((ps.getD i pj0).b j) (zb i j) ∧ Sm B (zb i j)
def ixP (n : Nat) (ps : List PJ) (p i : Nat) : Nat := ixN n (ps.getD p pj0).d i
/-- A row of steps. -/
theorem chain {α : Type} {P : Nat → α → Prop} {S : Nat → α → α → Prop} {a0 : α} (h0 : P 0 a0) : ∀ {N : Nat}, (∀ k a, k < N → P k a → ∃ b, S k a b ∧ P (k + 1) b) → ∃ R : Nat → α, R 0 = a0 ∧ (∀ k, k < N → S k (R k) (R (k + 1))) ∧ ∀ k, k ≤ N → P k (R k)
  | 0, _ => ⟨fun _ => a0, rfl, fun k hk => by omega, fun k hk => by rw [Nat.le_zero.1 hk]; exact h0⟩
  | N + 1, hs => by
    obtain ⟨R, r1, r2, r3⟩ := chain (N := N) h0 fun k a hk => hs k a (by omega)
    obtain ⟨b, b1, b2⟩ := hs N (R N) (by omega) (r3 N (Nat.le_refl N))
    refine ⟨fun i => if i ≤ N then R i else b, by simp [r1], fun k hk => ?_, fun k hk => ?_⟩
    · dsimp only
      by_cases c : k < N
      · rw [if_pos (by omega), if_pos (by omega)]
        exact r2 k c
      · obtain rfl : k = N := by omega
        rw [if_pos (by omega), if_neg (by omega)]
        exact b1
    · dsimp only
      by_cases c : k ≤ N
      · rw [if_pos c]
        exact r3 k c
      · obtain rfl : k = N + 1 := by omega
        rw [if_neg c]
        exact b2
/-- The sums of a cell's bins, one after the other. -/
theorem sum_chain {s n x y B : Nat} {ps : List PJ} {zb : Nat → Nat → Int × Int} (h1 : 1 ≤ n) (h2 : n ≤ 64) (hs : s ≤ 1074) (hps : ps.length ≤ 64) (hZ : BinsZ s n ps zb B) (hB : 64 * B < 2 ^ 53) (hx : x < n) (hy : y < n) :
    ∃ R : Nat → Nat × Nat, R 0 = (0, 0) ∧ (∀ k, k < ps.length → AddTo (R k) ((ps.getD k pj0).b (ixN n (ps.getD k pj0).d (y * n + x))) (R (k + 1))) ∧ ∀ k, k ≤ ps.length → DC s (R k) (layZ (ixP n ps) zb (y * n + x) k) := by
  refine chain (P := fun k r => DC s r (layZ (ixP n ps) zb (y * n + x) k)) (S := fun k a b => AddTo a ((ps.getD k pj0).b (ixN n (ps.getD k pj0).d (y * n + x))) b) (dc_zero hs) fun k r hkl hD => ?_
  obtain ⟨hok, hbz⟩ := hZ k hkl
  obtain ⟨_, _, _, _, hjb⟩ := at_place h1 h2 hok.1 hok.2.1 hx hy
  obtain ⟨hd, hsm⟩ := hbz _ hjb
  have hall : ∀ p, p < k + 1 → Sm B (zb p (ixP n ps p (y * n + x))) := fun p hp => by
    obtain ⟨hok', hbz'⟩ := hZ p (by omega)
    obtain ⟨_, _, _, _, hjb'⟩ := at_place h1 h2 hok'.1 hok'.2.1 hx hy
    exact (hbz' _ hjb').2
  have hmb : (k + 1) * B ≤ 64 * B := Nat.mul_le_mul_right B (by omega)
  exact dc_add hD hd (M := (k + 1) * B) (Nat.lt_of_le_of_lt hmb hB) (layZ_sm hall)
set_option maxRecDepth 100000 in
set_option maxHeartbeats 3200000 in
theorem sumOk {s n x y gs cs B : Nat} {ps : List PJ} {zb : Nat → Nat → Int × Int} (h1 : 1 ≤ n) (h2 : n ≤ 64) (hs : s ≤ 1074) (hps : ps.length ≤ 64) (hZ : BinsZ s n ps zb B) (hB : 64 * B < 2 ^ 53) (hx : x < n) (hy : y < n) :
    ∃ r, DC s r (layZ (ixP n ps) zb (y * n + x) ps.length) ∧ ∀ w : World, StAt w gs n ps → Calls (barP Tryz.prog) 88 #[.slice (some ⟨gs, 0, none⟩) ps.length cs, .agg #[.int .i64 x, .int .i64 y]] w fun e w' => e = .returned (cv r) ∧ Below w.heap.size w w' := by
  obtain ⟨R, R0, R1, R2⟩ := sum_chain h1 h2 hs hps hZ hB hx hy
  refine ⟨R ps.length, R2 _ (Nat.le_refl _), fun w hS => ?_⟩
  clear R2
  have HR0 := hide R0
  have HR1 := hide R1
  clear R0 R1
  have hb0 := (Below.refl _ w).alloc (Nat.le_refl _) (.cells #[.int .i64 x, .int .i64 y] 79)
  have r0 := heap_alloc_new w (.cells #[.int .i64 x, .int .i64 y] 79)
  have B0 := hide hb0
  have R0 := hide r0
  have HS := hide hS
  have HZ := hide hZ
  have hxh := hide hx
  have hyh := hide hy
  clear hb0 r0 hS hZ hx hy
  go_enter Bar.func88, Bar.ntmps88
  go_wp2_with fail
  generalize hw0 : w.alloc (.cells #[.int .i64 x, .int .i64 y] 79) = w0 at *
  generalize hcb : w.heap.size = bc at *
  obtain ⟨N, hN⟩ : ∃ N, ps.length = N := ⟨_, rfl⟩
  have hNh := hide hN
  rw [hN] at hps ⊢
  go_loopw [5, 10] (fun vv kv wr => ∃ k : Nat, k ≤ N ∧ kv = .int .i64 k ∧ vv = .complex .f64 (R k).1 (R k).2 ∧ Hid (Below bc w wr) ∧ Hid (wr.heap[bc]? = some (.cells #[.int .i64 x, .int .i64 y] 79))) (fun _ kv _ => N - (intOf kv).toNat)
  case atStart => exact ⟨0, Nat.zero_le _, rfl, by rw [unhide HR0], B0, R0⟩
  case round =>
    obtain ⟨k, hk, rfl, rfl, hB1, hR⟩ := hrel
    by_cases c : k < N
    · have q1 : ((k : Int) < (N : Int)) = True := by simp; omega
      have hkl : k < ps.length := by rw [unhide hNh]; exact c
      have hSt : StAt wr gs n ps := (unhide HS).below (by rw [hcb]; exact unhide hB1)
      obtain ⟨c1, c2, c3, c4⟩ := hSt.cells k hkl
      have hrow := hSt.bins k hkl
      obtain ⟨hok, hbz⟩ := unhide HZ k hkl
      have kA := fun (W : World) (hb : Below wr.heap.size wr W) => atOk (n := n) h1 h2 hok (unhide hxh) (unhide hyh) W (row_keep hrow (hb.block _ (row_lt hrow)))
      have hto := unhide HR1 k hkl
      have kAdd := hide (fun W => addAny hto W)
      have x0 := cell_of_row _ bc 0 _ _ (0, 0) (unhide hR)
      have x1 := cell_of_row _ bc 1 _ _ (0, 0) (unhide hR)
      simp only [List.getElem?_toArray, List.getElem?_cons_zero, List.getElem?_cons_succ] at x0 x1
      have y1 := (Below.refl wr.heap.size wr).alloc (Nat.le_refl _) (.cells #[.int .i64 (ps.getD k pj0).d.1, .int .i64 (ps.getD k pj0).d.2, .slice (some ⟨(ps.getD k pj0).gb, 0, none⟩) (ps.getD k pj0).nb (ps.getD k pj0).cb, .int .i64 (startS n (ps.getD k pj0).d)] 147)
      have kA1 := hide (kA _ y1)
      have hbl : bc < wr.heap.size := (Array.getElem?_eq_some_iff.1 (unhide hR)).1
      have z0 := (y1.cell (p := ⟨bc, 0, none⟩) hbl).trans x0
      have z1 := (y1.cell (p := ⟨bc, 1, none⟩) hbl).trans x1
      have Y1 := hide y1
      have hs9 : bc ≤ wr.heap.size := by omega
      have m1 : k * 4 < N * 4 := by omega
      clear hSt hrow hok hbz hto y1 kA x0 x1
      unfold cv at kA1
      generalize (ps.getD k pj0).b (ixN n (ps.getD k pj0).d (y * n + x)) = bb at *
      generalize startS n (ps.getD k pj0).d = st at *
      generalize ps.getD k pj0 = p at *
      obtain ⟨⟨d1, d2⟩, gb, cb, nb, b⟩ := p
      generalize hr0 : R k = r at *
      generalize hr1 : R (k + 1) = r' at *
      obtain ⟨r1, r2⟩ := r
      obtain ⟨b1, b2⟩ := bb
      obtain ⟨r1', r2'⟩ := r'
      dsimp only at *
      go_wp2_with fail
      refine (unhide kA1).mono ?_
      rintro e w1 ⟨rfl, hb1⟩
      have B2 := hide ((unhide hB1).trans (((unhide Y1).trans (hb1.mono (unhide Y1).size)).mono hs9))
      have R2 := hide ((hb1.block bc (Nat.lt_of_lt_of_le hbl (unhide Y1).size)).trans (((unhide Y1).block bc hbl).trans (unhide hR)))
      clear hb1 kA1 Y1 z0 z1
      go_wp2_with fail
      refine (unhide kAdd _).mono ?_
      rintro e w2 ⟨rfl, rfl⟩
      go_wp2_with fail
      exact ⟨⟨k + 1, c, by go_num, by rw [hr1], unhide B2, unhide R2⟩, by simp [intOf]; omega⟩
    · have q1 : ((k : Int) < (N : Int)) = False := by simp; omega
      obtain rfl : k = N := by omega
      go_wp2_with fail
      go_ret
      exact ⟨by rw [unhide hNh]; rfl, by rw [hcb]; exact unhide hB1⟩
end Go.Proofs.YtfnbcpeipoobkaaGreat
