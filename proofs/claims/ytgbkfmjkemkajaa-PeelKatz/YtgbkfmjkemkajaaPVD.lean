/- The landed Solve: one round. -/
import Derived.Test.YtgbkfmjkemkajaaM11
import Derived.Test.YtgbkfmjkemkajaaPVB
import Derived.Test.YtgbkfmjkemkajaaPVC
import Derived.Test.YtgbkfmjkemkajaaPYR
namespace Go.Proofs.Ytgbkfmjkemkajaa
open Go.RowKit Go.Shelf
attribute [local go_sem] Oper.semAt_some store_complex

def asg : Code := ((Code.region 7 #[{ dst := some 9, op := Op.alloc 81, type := 0, pos := "peel.go:20", after := #[], guard := none }, { dst := none, op := Op.store 81 (Operand.tmp 9) (Operand.tmp 33), type := 0, pos := "peel.go:20", after := #[{ on := 0, ground := Ground.data }, { on := 0, ground := Ground.phase }], guard := none }] false).seq (Code.region 8 #[{ dst := some 10, op := Op.assign (Operand.tmp 34), type := 3, pos := "peel.go:20", after := #[], guard := none }] false))
def bod : Code := (Code.block 1 ((Code.region 9 #[{ dst := some 35, op := Op.load 65 (Operand.tmp 6), type := 65, pos := "peel.go:21", after := #[], guard := none }, { dst := some 36, op := Op.fieldAddr 81 (Operand.tmp 9) 0, type := 0, pos := "peel.go:21", after := #[], guard := none }, { dst := some 37, op := Op.load 3 (Operand.tmp 36), type := 3, pos := "peel.go:21", after := #[{ on := 1, ground := Ground.data }], guard := none }, { dst := some 38, op := Op.indexAddr 65 (Operand.tmp 35) (Operand.tmp 37), type := 0, pos := "peel.go:21", after := #[{ on := 0, ground := Ground.data }, { on := 2, ground := Ground.data }], guard := none }, { dst := some 39, op := Op.load 39 (Operand.tmp 38), type := 39, pos := "peel.go:21", after := #[{ on := 3, ground := Ground.data }], guard := none }, { dst := some 40, op := Op.fieldAddr 81 (Operand.tmp 9) 1, type := 0, pos := "peel.go:21", after := #[], guard := none }, { dst := some 41, op := Op.load 3 (Operand.tmp 40), type := 3, pos := "peel.go:21", after := #[{ on := 5, ground := Ground.data }], guard := none }, { dst := some 42, op := Op.indexAddr 39 (Operand.tmp 39) (Operand.tmp 41), type := 0, pos := "peel.go:21", after := #[{ on := 4, ground := Ground.data }, { on := 6, ground := Ground.data }], guard := none }, { dst := some 43, op := Op.load 38 (Operand.tmp 42), type := 38, pos := "peel.go:21", after := #[{ on := 7, ground := Ground.data }], guard := none }, { dst := some 11, op := Op.alloc 38, type := 0, pos := "peel.go:21", after := #[], guard := none }, { dst := none, op := Op.store 38 (Operand.tmp 11) (Operand.tmp 43), type := 0, pos := "peel.go:21", after := #[{ on := 9, ground := Ground.data }, { on := 8, ground := Ground.data }, { on := 0, ground := Ground.phase }, { on := 1, ground := Ground.phase }, { on := 2, ground := Ground.phase }, { on := 3, ground := Ground.phase }, { on := 4, ground := Ground.phase }, { on := 5, ground := Ground.phase }, { on := 6, ground := Ground.phase }, { on := 7, ground := Ground.phase }, { on := 8, ground := Ground.phase }, { on := 9, ground := Ground.phase }], guard := none }] true).seq (((Code.region 10 #[{ dst := some 44, op := Op.load 38 (Operand.tmp 11), type := 38, pos := "peel.go:23", after := #[], guard := none }, { dst := some 45, op := Op.call { callee := Callee.value (Operand.func 29), args := #[Operand.tmp 44, Operand.const (Value.int IntKind.i64 1048576)], argTypes := #[38, 3] }, type := 4, pos := "peel.go:23", after := #[{ on := 0, ground := Ground.data }], guard := none }, { dst := some 46, op := Op.unOp UnOp.not 4 (Operand.tmp 45), type := 4, pos := "peel.go:23", after := #[{ on := 1, ground := Ground.data }], guard := none }] false).seq (Code.cond (Operand.tmp 46) ((Code.region 11 #[{ dst := some 47, op := Op.build 46 #[], type := 46, pos := "peel.go:24", after := #[], guard := none }, { dst := none, op := Op.store 46 (Operand.tmp 2) (Operand.tmp 47), type := 0, pos := "peel.go:24", after := #[{ on := 0, ground := Ground.data }, { on := 0, ground := Ground.phase }], guard := none }, { dst := none, op := Op.store 25 (Operand.tmp 3) (Operand.const (Value.int IntKind.i64 4)), type := 0, pos := "peel.go:24", after := #[{ on := 1, ground := Ground.chain }, { on := 0, ground := Ground.phase }, { on := 1, ground := Ground.phase }], guard := none }] false).seq Code.ret) Code.skip)).seq ((Code.region 12 #[{ dst := some 48, op := Op.fieldAddr 46 (Operand.tmp 7) 1, type := 0, pos := "peel.go:26", after := #[], guard := none }, { dst := some 49, op := Op.load 39 (Operand.tmp 48), type := 39, pos := "peel.go:26", after := #[{ on := 0, ground := Ground.data }], guard := none }, { dst := some 50, op := Op.move (Operand.tmp 10), type := 3, pos := "peel.go:26", after := #[], guard := none }, { dst := some 51, op := Op.load 38 (Operand.tmp 11), type := 38, pos := "peel.go:26", after := #[], guard := none }, { dst := some 52, op := Op.indexAddr 39 (Operand.tmp 49) (Operand.tmp 50), type := 0, pos := "peel.go:26", after := #[{ on := 1, ground := Ground.data }, { on := 2, ground := Ground.data }, { on := 0, ground := Ground.phase }, { on := 1, ground := Ground.phase }, { on := 2, ground := Ground.phase }, { on := 3, ground := Ground.phase }], guard := none }, { dst := none, op := Op.store 38 (Operand.tmp 52) (Operand.tmp 51), type := 0, pos := "peel.go:26", after := #[{ on := 4, ground := Ground.data }, { on := 3, ground := Ground.data }, { on := 0, ground := Ground.phase }, { on := 1, ground := Ground.phase }, { on := 2, ground := Ground.phase }, { on := 3, ground := Ground.phase }], guard := none }] false).seq (Code.region 13 #[{ dst := some 53, op := Op.load 50 (Operand.tmp 5), type := 50, pos := "peel.go:27", after := #[], guard := none }, { dst := some 54, op := Op.move (Operand.tmp 10), type := 3, pos := "peel.go:27", after := #[], guard := none }, { dst := some 55, op := Op.makeFunc (Fn.func 31) #[] #[Operand.tmp 6, Operand.tmp 11], type := 87, pos := "peel.go:27", after := #[], guard := none }, { dst := some 56, op := Op.call { callee := Callee.value (Operand.func 30), args := #[Operand.tmp 53, Operand.tmp 54, Operand.tmp 55], argTypes := #[50, 3, 87] }, type := 0, pos := "peel.go:27", after := #[{ on := 0, ground := Ground.data }, { on := 1, ground := Ground.data }, { on := 2, ground := Ground.data }], guard := none }] false)))))
def o9_0 : Oper := { dst := some 35, op := Op.load 65 (Operand.tmp 6), type := 65, pos := "peel.go:21", after := #[], guard := none }
def o9_1 : Oper := { dst := some 36, op := Op.fieldAddr 81 (Operand.tmp 9) 0, type := 0, pos := "peel.go:21", after := #[], guard := none }
def o9_2 : Oper := { dst := some 37, op := Op.load 3 (Operand.tmp 36), type := 3, pos := "peel.go:21", after := #[{ on := 1, ground := Ground.data }], guard := none }
def o9_3 : Oper := { dst := some 38, op := Op.indexAddr 65 (Operand.tmp 35) (Operand.tmp 37), type := 0, pos := "peel.go:21", after := #[{ on := 0, ground := Ground.data }, { on := 2, ground := Ground.data }], guard := none }
def o9_4 : Oper := { dst := some 39, op := Op.load 39 (Operand.tmp 38), type := 39, pos := "peel.go:21", after := #[{ on := 3, ground := Ground.data }], guard := none }
def o9_5 : Oper := { dst := some 40, op := Op.fieldAddr 81 (Operand.tmp 9) 1, type := 0, pos := "peel.go:21", after := #[], guard := none }
def o9_6 : Oper := { dst := some 41, op := Op.load 3 (Operand.tmp 40), type := 3, pos := "peel.go:21", after := #[{ on := 5, ground := Ground.data }], guard := none }
def o9_7 : Oper := { dst := some 42, op := Op.indexAddr 39 (Operand.tmp 39) (Operand.tmp 41), type := 0, pos := "peel.go:21", after := #[{ on := 4, ground := Ground.data }, { on := 6, ground := Ground.data }], guard := none }
def o9_8 : Oper := { dst := some 43, op := Op.load 38 (Operand.tmp 42), type := 38, pos := "peel.go:21", after := #[{ on := 7, ground := Ground.data }], guard := none }
def o9_9 : Oper := { dst := some 11, op := Op.alloc 38, type := 0, pos := "peel.go:21", after := #[], guard := none }
def o9_10 : Oper := { dst := none, op := Op.store 38 (Operand.tmp 11) (Operand.tmp 43), type := 0, pos := "peel.go:21", after := #[{ on := 9, ground := Ground.data }, { on := 8, ground := Ground.data }, { on := 0, ground := Ground.phase }, { on := 1, ground := Ground.phase }, { on := 2, ground := Ground.phase }, { on := 3, ground := Ground.phase }, { on := 4, ground := Ground.phase }, { on := 5, ground := Ground.phase }, { on := 6, ground := Ground.phase }, { on := 7, ground := Ground.phase }, { on := 8, ground := Ground.phase }, { on := 9, ground := Ground.phase }], guard := none }
def R9 : Array Oper := #[o9_0, o9_1, o9_2, o9_3, o9_4, o9_5, o9_6, o9_7, o9_8, o9_9, o9_10]
def tmL (n K gp cap bs b5 b6 b7 gd gc M VB : Nat) (vr : Value) : Array Value := #[.agg #[.int .i64 n, .slice (some ⟨gp, 0, none⟩) K cap], .pointer (some ⟨bs, 0, none⟩), .pointer (some ⟨bs + 1, 0, none⟩), .pointer (some ⟨bs + 1 + 1, 0, none⟩), .int .i64 0, .pointer (some ⟨b5, 0, none⟩), .pointer (some ⟨b6, 0, none⟩), .pointer (some ⟨b7, 0, none⟩), .int .i64 0, undef, undef, undef, .agg #[.int .i64 n, .slice (some ⟨gp, 0, none⟩) K cap], .int .i64 0, .int .i64 0, .bool false, undef, undef, .pointer (some ⟨bs, 0, none⟩), .int .i64 n, .agg #[.int .i64 n, .slice (some ⟨gp, 0, none⟩) K cap], .slice (some ⟨gd, 0, none⟩) K K, .pointer (some ⟨VB, 0, none⟩), .agg #[.int .i64 n, .slice (some ⟨gp, 0, none⟩) K cap], vr, .tuple #[.agg #[.int .i64 n, .slice (some ⟨gc, 0, none⟩) M M], .int .i64 0], .pointer (some ⟨bs, 0, none⟩), .int .i64 n, .tuple #[.agg #[.int .i64 n, .slice (some ⟨gc, 0, none⟩) M M], .int .i64 0], .agg #[.int .i64 n, .slice (some ⟨gc, 0, none⟩) M M], .int .i64 0, .pointer (some ⟨VB, 0, none⟩), .func (.func 16) #[.pointer (some ⟨VB, 0, none⟩)] #[], undef, undef, undef, undef, undef, undef, undef, undef, undef, undef, undef, undef, undef, undef, undef, undef, undef, undef, undef, undef, undef, undef, undef, undef, undef, undef, undef, undef, undef, undef, undef, undef, undef, undef]
def tmR (n K gp cap bs b5 b6 b7 gd gc M VB : Nat) (vr : Value) (k j c : Nat) : Array Value := #[.agg #[.int .i64 n, .slice (some ⟨gp, 0, none⟩) K cap], .pointer (some ⟨bs, 0, none⟩), .pointer (some ⟨bs + 1, 0, none⟩), .pointer (some ⟨bs + 1 + 1, 0, none⟩), .int .i64 0, .pointer (some ⟨b5, 0, none⟩), .pointer (some ⟨b6, 0, none⟩), .pointer (some ⟨b7, 0, none⟩), .int .i64 0, undef, undef, undef, .agg #[.int .i64 n, .slice (some ⟨gp, 0, none⟩) K cap], .int .i64 0, .int .i64 0, .bool false, undef, undef, .pointer (some ⟨bs, 0, none⟩), .int .i64 n, .agg #[.int .i64 n, .slice (some ⟨gp, 0, none⟩) K cap], .slice (some ⟨gd, 0, none⟩) K K, .pointer (some ⟨VB, 0, none⟩), .agg #[.int .i64 n, .slice (some ⟨gp, 0, none⟩) K cap], vr, .tuple #[.agg #[.int .i64 n, .slice (some ⟨gc, 0, none⟩) M M], .int .i64 0], .pointer (some ⟨bs, 0, none⟩), .int .i64 n, .tuple #[.agg #[.int .i64 n, .slice (some ⟨gc, 0, none⟩) M M], .int .i64 0], .agg #[.int .i64 n, .slice (some ⟨gc, 0, none⟩) M M], .int .i64 0, .pointer (some ⟨VB, 0, none⟩), .func (.func 16) #[.pointer (some ⟨VB, 0, none⟩)] #[], .agg #[.int .i64 k, .int .i64 j], .int .i64 c, undef, undef, undef, undef, undef, undef, undef, undef, undef, undef, undef, undef, undef, undef, undef, undef, undef, undef, undef, undef, undef, undef, undef, undef, undef, undef, undef, undef, undef, undef, undef, undef]

def valC (val : Nat → Nat) (b : Nat → Bool) (i : Nat) : Nat := if b i = true then 0 else val i
/-- What Solve holds while it peels. -/
def SJ (base : Nat) (w : World) (n : Nat) (L : List (Int × Int)) (b5 b6 b7 gc M VB : Nat) (vr : Value) (gr cr : Nat → Nat) (val : Nat → Nat) (b : Nat → Bool) (W : World) : Prop := SH base W n L b5 b6 b7 gc M VB vr gr cr (restZ val n L b) (valC val b) ∧ Below base w W

/-- The rests while the bins of cell c are gone through. -/
def restK (val : Nat → Nat) (n : Nat) (L : List (Int × Int)) (b : Nat → Bool) (c kk : Nat) (k j : Nat) : Nat := if k < kk then restZ val n L (shutB b c) k j else restZ val n L b k j

/-- What holds while the bins are gone through. -/
structure SS (base : Nat) (w : World) (n : Nat) (L : List (Int × Int)) (b5 b6 b7 gc M : Nat) (V : PV) (vr : Value) (gr cr : Nat → Nat) (val : Nat → Nat) (b : Nat → Bool) (c : Nat) (S O : Nat → Prop) (gd l bV : Nat) (r : Loop) (W0 : World) (kk : Nat) (W : World) : Prop where
  sh : SH base W n L b5 b6 b7 gc M V.B vr gr cr (restK val n L b c kk) (valC val (shutB b c))
  bel : Below base w W
  peel : ∃ v m f, Peel S W n L (some ⟨gd, 0, none⟩) L.length gd 0 V b (fun _ => b) v m f
  loop : W.heap[l]? = some (.loop r)
  box : W.heap[bV]? = some (.cells #[.complex .f64 (nb (val c)).1 (nb (val c)).2] 38 (0, 0))
  new : W0.heap.size ≤ bV
  keep : Aside (rkeep O l gd W0) W0 W

section
variable {base : Nat} {w : World} {n : Nat} {L : List (Int × Int)} {b5 b6 b7 gc M : Nat} {V : PV} {vr : Value} {gr cr : Nat → Nat} {val : Nat → Nat} {b : Nat → Bool} {c : Nat} {S O : Nat → Prop} {gd l bV : Nat} {r : Loop} {W0 W W' : World} {kk : Nat}
theorem SS.below (h : SS base w n L b5 b6 b7 gc M V vr gr cr val b c S O gd l bV r W0 kk W) (hbl : base ≤ W.heap.size) (hs : W0.heap.size ≤ W.heap.size) (hb : Below W.heap.size W W') : SS base w n L b5 b6 b7 gc M V vr gr cr val b c S O gd l bV r W0 kk W' := by
  obtain ⟨v, m, f, hP⟩ := h.peel
  exact ⟨h.sh.below hb, h.bel.trans (hb.mono hbl), ⟨v, m, f, hP.below hb⟩, (hb.block _ (Array.getElem?_eq_some_iff.1 h.loop).1).trans h.loop, (hb.block _ (Array.getElem?_eq_some_iff.1 h.box).1).trans h.box, h.new, h.keep.trans (Aside.of_below hb fun x hx => by have := hx.1; omega)⟩

theorem restK_step (hc : c < n * n) (hb : b c = true) {k j : Nat} (hj : lnI n (dk L k) c = (j : Int)) (k' j' : Nat) : restK val n L b c (k + 1) k' j' = if k' = k ∧ j' = j then restK val n L b c k k j - val c else restK val n L b c k k' j' := by
  unfold restK
  rw [if_neg (Nat.lt_irrefl k)]
  by_cases e : k' = k
  · subst e
    have h1 := restZ_shut (val := val) (L := L) hc hb k' j'
    rw [if_pos (by omega : k' < k' + 1), if_neg (Nat.lt_irrefl k')]
    by_cases e2 : j' = j
    · subst e2
      rw [if_pos hj] at h1
      rw [if_pos (show k' = k' ∧ j' = j' from ⟨rfl, rfl⟩)]
      omega
    · rw [if_neg (fun h => e2 (by rw [hj] at h; omega))] at h1
      rw [if_neg (show ¬ (k' = k' ∧ j' = j) from fun h => e2 h.2)]
      omega
  · rw [if_neg (show ¬ (k' = k ∧ j' = j) from fun h => e h.1)]
    by_cases e3 : k' < k
    · rw [if_pos (show k' < k + 1 by omega), if_pos e3]
    · rw [if_neg (show ¬ k' < k + 1 by omega), if_neg e3]
theorem loop_ne {W : World} {x l : Nat} {cs : Array Value} {t : TypeId} {z : Nat × Nat} {r : Loop} (hx : W.heap[x]? = some (.cells cs t z)) (hl : W.heap[l]? = some (.loop r)) : x ≠ l := by
  rintro rfl
  rw [hx] at hl
  cases hl

/-- The caller's own blocks, and what lay there before. -/
def sO (base K b5 b6 b7 gc : Nat) (vr : Value) (gr : Nat → Nat) (x : Nat) : Prop := x < base ∨ shOwn base K b5 b6 b7 gc vr gr x

theorem ss_step (hc : c < n * n) (hb : b c = true) (hsum : sumV val (fun _ => true) (n * n) ≤ 16) (hown : ∀ x, shOwn base L.length b5 b6 b7 gc vr gr x → S x ∧ x ≠ gd ∧ base ≤ x ∧ x < W0.heap.size) (hbl : base ≤ W0.heap.size)
    {k j : Nat} (hk : k < L.length) (hjl : j < binN n (dk L k)) (hj : lnI n (dk L k) c = (j : Int)) (h : SS base w n L b5 b6 b7 gc M V vr gr cr val b c S (sO base L.length b5 b6 b7 gc vr gr) gd l bV r W0 k W) :
    Calls Try.prog 31 (#[.agg #[.int .i64 k, .int .i64 j]] ++ #[.pointer (some ⟨b6, 0, none⟩), .pointer (some ⟨bV, 0, none⟩)]) W fun e W' => (∃ u, e = .returned u) ∧ SS base w n L b5 b6 b7 gc M V vr gr cr val b c S (sO base L.length b5 b6 b7 gc vr gr) gd l bV r W0 (k + 1) W' := by
  obtain ⟨gv, cv, e1, e2, hrow⟩ := h.sh.sf.rs.head (by omega)
  have xR : W.cell? ⟨b6, 0, none⟩ = some (.slice (some ⟨gv, 0, none⟩) L.length cv) := by rw [← e1]; exact box_cell h.sh.sf.x6
  have hs1 := restZ_shut (val := val) (L := L) hc hb k j
  rw [if_pos hj] at hs1
  have hK : restK val n L b c k k j = restZ val n L b k j := by unfold restK; rw [if_neg (Nat.lt_irrefl k)]
  have hKle : restK val n L b c k k j ≤ 16 := by rw [hK]; exact Nat.le_trans (restZ_le k j) hsum
  refine (solveDo (cap := cv) (zc := restK val n L b c k k) mixed hk hjl (v := val c) (by omega) hKle W xR (box_cell h.box) (vrow_at hrow hk) (h.sh.sf.rs.row k hk) (box_lt h.sh.sf.x6) (box_lt h.box) (vrow_lt hrow)).mono ?_
  rintro e W' ⟨hu, W1, hb1, rfl⟩
  refine ⟨hu, ?_⟩
  have hsz : W0.heap.size ≤ W.heap.size := h.keep.size
  have h1 := h.below (Nat.le_trans hbl hsz) hsz hb1
  obtain ⟨o1, o2, o3, o4⟩ := hown (gr k) (Or.inl (Or.inr (Or.inr (Or.inr (Or.inr (Or.inr ⟨k, hk, rfl⟩))))))
  obtain ⟨cs, ht⟩ := h1.sh.sf.rs.typeR hk
  obtain ⟨v, m, f, hP⟩ := h1.peel
  have nl := loop_ne ht h1.loop
  have nv : bV ≠ gr k := by have := h.new; omega
  refine ⟨(h1.sh.rest (j := j) (v := restK val n L b c k k j - val c) hk).ext (fun k' j' _ _ => restK_step hc hb hj k' j') (fun _ _ => rfl), h1.bel.setCell (p := ⟨gr k, j, none⟩) o3 _, ⟨v, m, f, hP.body ⟨(Aside.refl _ W1).setCell (p := ⟨gr k, j, none⟩) (fun hx => hx.2 o1) _, fun _ => Below.heap_setCell _ _ _ _ (fun e => o2 e.symm)⟩⟩,
    (Below.heap_setCell _ _ _ _ (fun e => nl e.symm)).trans h1.loop, (Below.heap_setCell _ _ _ _ nv).trans h1.box, h1.new, h1.keep.setCell (p := ⟨gr k, j, none⟩) (fun hx => ?_) _⟩
  rcases hx.2.2 with h2 | h2
  · exact h2 (Or.inr (Or.inl (Or.inr (Or.inr (Or.inr (Or.inr (Or.inr ⟨k, hk, rfl⟩)))))))
  · exact o2 h2
end

set_option maxRecDepth 100000 in
set_option maxHeartbeats 6400000 in
theorem solveRound {base : Nat} {w : World} {n : Nat} {L : List (Int × Int)} {gp cap bs b5 b6 b7 gc M : Nat} {V : PV} {vr : Value} {gr cr : Nat → Nat} {val : Nat → Nat} {b : Nat → Bool} {S : Nat → Prop} {gd l nn : Nat} {r : Loop} (hn : 1 ≤ n) (h64 : n ≤ 64) (hL : L.length ≤ 64) (ho : ∀ d, d ∈ L → okD d.1 d.2 = true) (hM : n * n = M) (hsum : sumV val (fun _ => true) (n * n) ≤ 16)
    (hown : ∀ x, shOwn base L.length b5 b6 b7 gc vr gr x → S x ∧ x ≠ gd ∧ base ≤ x) (hSl : S l) (hgl : gd ≠ l) (hbl : base ≤ l) (hrs : r.state = .ready) (hrp : r.pending = none) {k j c : Nat} (W : World) (hl : W.heap[l]? = some (.loop r)) (hP : ∃ v' m f, Peel S W n L (some ⟨gd, 0, none⟩) L.length gd 0 V b (fun _ => b) v' m f)
    (hJ : SJ base w n L b5 b6 b7 gc M V.B vr gr cr val b W) (hk : k < L.length) (hj : j < binN n (dk L k)) (h1 : cntL n (dk L k) b (j : Int) = 1) (hcs : sumL n (dk L k) b (j : Int) = c) :
    asg.wpIn (Fence.wide.inRound l) nn Try.prog (Exit.then (fun a₁ w₁ => ∃ w₂, (Instr.beginRound l).run Try.prog w₁ = .ok () w₂ ∧ bod.wpIn (Fence.wide.inRound l) nn Try.prog (roundPost Try.prog l (fun e W' => e = .returned (.bool true) ∧ SJ base w n L b5 b6 b7 gc M V.B vr gr cr val (shutB b c) W' ∧ W'.heap[l]? = some (.loop r) ∧ Aside (rkeep (sO base L.length b5 b6 b7 gc vr gr) l gd W) W W')) a₁ w₂) (fun _ _ _ => False))
      { tmps := tmR n L.length gp cap bs b5 b6 b7 gd gc M V.B vr k j c, defers := [] } W := by
  obtain ⟨v, m, f, hP⟩ := hP
  obtain ⟨hH, hB⟩ := hJ
  obtain ⟨u1, u2, u3⟩ := sumL_one h1
  rw [hcs] at u1 u2 u3
  have hval : restZ val n L b k j = val c := by rw [restZ_one h1, hcs]
  have hv16 : val c ≤ 16 := by rw [← hval]; exact Nat.le_trans (restZ_le k j) hsum
  have hlt : l < W.heap.size := (Array.getElem?_eq_some_iff.1 hl).1
  -- the place's box
  obtain ⟨w1, hw1⟩ : ∃ w1, W.alloc (.cells #[.int .i64 k, .int .i64 j] 81) = w1 := ⟨_, rfl⟩
  have y1 : Below W.heap.size W w1 := by rw [← hw1]; exact (Below.refl _ W).alloc (Nat.le_refl _) _
  have p1 : w1.heap[W.heap.size]? = some (.cells #[.int .i64 k, .int .i64 j] 81 (0, 0)) := by rw [← hw1]; exact heap_alloc_new W _
  have l1 := (y1.block _ hlt).trans hl
  have run2 := run_beginRound (P := Try.prog) l1 hrs
  obtain ⟨w2, hw2⟩ : ∃ w2, w1.putObj l (.loop { r with state := .busy }) = w2 := ⟨_, rfl⟩
  rw [hw2] at run2
  have ot2 : ∀ x, x ≠ l → w2.heap[x]? = w1.heap[x]? := fun x hx => by rw [← hw2]; exact World.putObj_heap_other hx
  have sz1 := y1.size
  have sz2 : w2.heap.size = w1.heap.size := by rw [← hw2]; simp
  have l2 : w2.heap[l]? = some (.loop { r with state := .busy }) := by rw [← hw2]; exact World.putObj_heap_same (by omega)
  have as2 : ∀ T : Nat → Prop, (∀ x, T x → x ≠ l) → Aside T w1 w2 := fun T hT => ⟨by rw [← hw2]; rfl, by rw [← hw2]; rfl, by rw [← hw2]; rfl, by omega, fun x hx => ot2 x (hT x hx)⟩
  have H1 := hH.below y1
  have H2 : SH base w2 n L b5 b6 b7 gc M V.B vr gr cr (restZ val n L b) (valC val b) := H1.keep fun x hx => by
    obtain ⟨cs, t, e, _⟩ := H1.typed hx
    exact ot2 x (loop_ne e l1)
  have P2 : Peel S w2 n L (some ⟨gd, 0, none⟩) L.length gd 0 V b (fun _ => b) v m f := (hP.below y1).body ⟨as2 _ fun x hx e => hx.2 (e ▸ hSl), fun _ => ot2 gd hgl⟩
  have B2 : Below base w w2 := (hB.trans (y1.mono (by omega))).trans ((as2 (fun x => x < base) fun x hx => by omega).below fun _ hx => hx)
  have A2 : Aside (rkeep (sO base L.length b5 b6 b7 gc vr gr) l gd W) W w2 := (Aside.of_below y1 fun x hx => hx.1).trans (as2 _ fun x hx => hx.2.1)
  have p2 := (ot2 W.heap.size (loop_ne p1 l1)).trans p1
  have hsz2 : W.heap.size < w2.heap.size := (Array.getElem?_eq_some_iff.1 p2).1
  have hown2 : ∀ x, shOwn base L.length b5 b6 b7 gc vr gr x → S x ∧ x ≠ gd ∧ base ≤ x ∧ x < W.heap.size := fun x hx => ⟨(hown x hx).1, (hown x hx).2.1, (hown x hx).2.2, hH.lt hx⟩
  obtain ⟨gv, cv, e1, _, hrow⟩ := H2.sf.rs.head (by omega)
  have xR : w2.cell? ⟨b6, 0, none⟩ = some (.slice (some ⟨gv, 0, none⟩) L.length cv) := by rw [← e1]; exact box_cell H2.sf.x6
  have xk : w2.cell? ⟨gv, k, none⟩ = some (.slice (some ⟨gr k, 0, none⟩) (binN n (dk L k)) (cr k)) := vrow_at hrow hk
  have xj := vrow_at (H2.sf.rs.row k hk) hj
  rw [hval] at xj
  have x0 : w2.cell? ⟨W.heap.size, 0, none⟩ = some (.int .i64 k) := cell_of_row w2 W.heap.size 0 _ _ (0, 0) p2
  have x1 : w2.cell? ⟨W.heap.size, 1, none⟩ = some (.int .i64 j) := cell_of_row w2 W.heap.size 1 _ _ (0, 0) p2
  have lR := box_lt H2.sf.x6
  have lG := vrow_lt hrow
  have lq := vrow_lt (H2.sf.rs.row k hk)
  have q1 : ((k : Int) < (L.length : Int)) = True := by simp; omega
  have q2 : ((j : Int) < (binN n (dk L k) : Int)) = True := by simp; omega
  have q3 : ((c : Int) < (M : Int)) = True := by rw [← hM]; simp; omega
  have kW := hide (fun w => cxWhole hv16 (most := 1048576) (by omega) (by omega) w)
  obtain ⟨x, hx⟩ : ∃ x, nb (val c) = x := ⟨_, rfl⟩
  rw [hx] at xj kW
  obtain ⟨a1, a2⟩ := x
  dsimp only at xj kW
  -- the value's box
  obtain ⟨w4, hw4⟩ : ∃ w4, (w2.alloc (.cells #[.complex .f64 a1 a2] 38)).drew = w4 := ⟨_, rfl⟩
  have y4 : Below w2.heap.size w2 w4 := by rw [← hw4]; exact ((Below.refl _ w2).alloc (Nat.le_refl _) _).drew
  have v4 : w4.heap[w2.heap.size]? = some (.cells #[.complex .f64 a1 a2] 38 (0, 0)) := by rw [← hw4]; exact heap_alloc_new w2 _
  have H4 := H2.below y4
  have P4 := P2.below y4
  have l4 := (y4.block _ (Array.getElem?_eq_some_iff.1 l2).1).trans l2
  have B4 := B2.trans (y4.mono (by omega))
  have A4 := A2.trans (Aside.of_below y4 fun x hx => by have := hx.1; omega)
  have xv : w4.cell? ⟨w2.heap.size, 0, none⟩ = some (.complex .f64 a1 a2) := cell_of_row w4 w2.heap.size 0 _ _ (0, 0) v4
  have x7 : w4.cell? ⟨b7, 1, none⟩ = some (.slice (some ⟨gc, 0, none⟩) M M) := cell_of_row w4 b7 1 _ _ (0, 0) H4.x7
  have xc := vrow_at H4.row (i := c) (by omega)
  have fc := vrow_frozen H4.row c
  obtain ⟨o1, o2, o3, o4⟩ := hown2 gc (Or.inr (Or.inr rfl))
  -- the cell
  obtain ⟨w5, hw5⟩ : ∃ w5, w4.setCell ⟨gc, c, none⟩ (.complex .f64 a1 a2) = w5 := ⟨_, rfl⟩
  have T5 : SS base w n L b5 b6 b7 gc M V vr gr cr val b c S (sO base L.length b5 b6 b7 gc vr gr) gd l w2.heap.size { r with state := .busy } W 0 w5 := by
    have hp := H4.put c (val c)
    rw [hx] at hp
    dsimp only at hp
    rw [hw5] at hp
    have ot5 : ∀ x, x ≠ gc → w5.heap[x]? = w4.heap[x]? := fun x hx => by rw [← hw5]; exact Below.heap_setCell _ _ _ _ hx
    have as5 : ∀ T : Nat → Prop, ¬ T gc → Aside T w4 w5 := fun T hT => by rw [← hw5]; exact (Aside.refl _ w4).setCell (p := ⟨gc, c, none⟩) hT _
    refine ⟨hp.ext (fun k' j' _ _ => by unfold restK; rw [if_neg (Nat.not_lt_zero _)]) (fun i _ => ?_), B4.trans ((as5 (fun x => x < base) (by omega)).below fun _ hx => hx), ⟨v, m, f, P4.body ⟨as5 _ fun hx => hx.2 o1, fun _ => ot5 gd o2.symm⟩⟩, ?_, ?_, by omega, A4.trans (as5 _ fun hx => ?_)⟩
    · unfold valC shutB
      by_cases e : i = c
      · rw [if_pos e, if_pos e, if_neg (by decide), e]
      · rw [if_neg e, if_neg e]
    · obtain ⟨cs, ht, _⟩ := H4.row
      exact (ot5 l (loop_ne ht l4).symm).trans l4
    · rw [hx]
      exact (ot5 _ (by omega)).trans v4
    · rcases hx.2.2 with h2 | h2
      · exact h2 (Or.inr (Or.inr (Or.inr rfl)))
      · exact o2 h2
  have x5 := box_cell T5.sh.sf.x5
  rw [← hw5] at x5
  have kE := hide (eachBin (S := S) (V := V) (cap := L.length) (a := some ⟨gd, 0, none⟩) (g := gd) (o := 0) (St := fun kk W' => SS base w n L b5 b6 b7 gc M V vr gr cr val b c S (sO base L.length b5 b6 b7 gc vr gr) gd l w2.heap.size { r with state := .busy } W kk W') (Fn := 31) (lb := #[.pointer (some ⟨b6, 0, none⟩), .pointer (some ⟨w2.heap.size, 0, none⟩)]) hn h64 hL ho u1 (enters_of Try.func31 (by kernel_rfl) rfl)
    (fun k W' h => by obtain ⟨v, m, f, hP⟩ := h.peel; exact ⟨_, _, _, _, _, hP⟩) (fun kk W1 W' h hb => h.below (by have := h.keep.size; omega) h.keep.size hb) (fun k' j' W' hk' hj' hl' h' => ss_step u1 u2 hsum hown2 (by omega) hk' hj' hl' h') w5 T5)
  replace run2 := hide run2
  replace hrs := hide hrs
  replace hrp := hide hrp
  replace hw1 := hide hw1
  replace hw4 := hide hw4
  replace hw5 := hide hw5
  clear T5 A4 B4 l4 P4 H4 v4 y4 p2 A2 B2 P2 H2 H1 as2 l2 ot2 l1 p1 y1 hP hH hB hval hv16 hcs u3 h1 hown hown2 hl hw2 hrow e1 ho hM hsum hSl hgl hL h64 hn hj hk u1 u2 o1 o2 o3 o4 hx hlt sz1 sz2
  unfold asg tmR
  gi_wp2_with fail
  rw [unhide hw1]
  refine ⟨w2, unhide run2, ?_⟩
  unfold bod
  gi_wp2_with fail
  change Code.wpIn (Fence.wide.inRound l) nn Try.prog (Code.region 9 R9 true) _ _ _
  refine wpInR_region_L (S := SL (fun U => (U.cell? ⟨b6, 0, none⟩ = some (.slice (some ⟨gv, 0, none⟩) L.length cv) ∧ U.cell? ⟨W.heap.size, 0, none⟩ = some (.int .i64 k)) ∧ (U.cell? ⟨W.heap.size, 1, none⟩ = some (.int .i64 j) ∧ U.cell? ⟨gv, k, none⟩ = some (.slice (some ⟨gr k, 0, none⟩) (binN n (dk L k)) (cr k))) ∧ U.cell? ⟨gr k, j, none⟩ = some (.complex .f64 a1 a2)) (fun _ => True) (fun _ => True) 9 10) mixed (by kernel_rfl) (fun h => by obtain ⟨_, _, h⟩ := h; exact h) ⟨⟨⟨xR, x0⟩, ⟨x1, xk⟩, xj⟩, fun _ => trivial, fun _ => trivial⟩ (fun hc hS => ?_)
  refine anyL_take (i := 0) (oi := o9_0) (v := .slice (some ⟨gv, 0, none⟩) L.length cv) (S0 := (fun U => (U.cell? ⟨b6, 0, none⟩ = some (.slice (some ⟨gv, 0, none⟩) L.length cv) ∧ U.cell? ⟨W.heap.size, 0, none⟩ = some (.int .i64 k)) ∧ (U.cell? ⟨W.heap.size, 1, none⟩ = some (.int .i64 j) ∧ U.cell? ⟨gv, k, none⟩ = some (.slice (some ⟨gr k, 0, none⟩) (binN n (dk L k)) (cr k))) ∧ U.cell? ⟨gr k, j, none⟩ = some (.complex .f64 a1 a2))) rfl (by kernel_rfl) (by kernel_rfl) (by kernel_rfl) (fun _ _ _ h => h) (sl_set (by decide) (by decide)) sl_a hc hS (Or.inl ⟨by rfl, ?_⟩) (fun hc hS => ?_)
  · rintro U ⟨⟨z1, z2⟩, ⟨z3, z4⟩, z5⟩
    simp only [o9_0]
    go_simp
  simp only [o9_0, Act.put, List.setIfInBounds_toArray, List.set_cons_zero, List.set_cons_succ]
  refine anyL_take (i := 1) (oi := o9_1) (v := .pointer (some ⟨W.heap.size, 0, none⟩)) (S0 := (fun U => (U.cell? ⟨b6, 0, none⟩ = some (.slice (some ⟨gv, 0, none⟩) L.length cv) ∧ U.cell? ⟨W.heap.size, 0, none⟩ = some (.int .i64 k)) ∧ (U.cell? ⟨W.heap.size, 1, none⟩ = some (.int .i64 j) ∧ U.cell? ⟨gv, k, none⟩ = some (.slice (some ⟨gr k, 0, none⟩) (binN n (dk L k)) (cr k))) ∧ U.cell? ⟨gr k, j, none⟩ = some (.complex .f64 a1 a2))) rfl (by kernel_rfl) (by kernel_rfl) (by kernel_rfl) (fun _ _ _ h => h) (sl_set (by decide) (by decide)) sl_a hc hS (Or.inl ⟨by rfl, ?_⟩) (fun hc hS => ?_)
  · rintro U ⟨⟨z1, z2⟩, ⟨z3, z4⟩, z5⟩
    simp only [o9_1]
    go_simp
  simp only [o9_1, Act.put, List.setIfInBounds_toArray, List.set_cons_zero, List.set_cons_succ]
  refine anyL_take (i := 2) (oi := o9_2) (v := .int .i64 k) (S0 := (fun U => (U.cell? ⟨b6, 0, none⟩ = some (.slice (some ⟨gv, 0, none⟩) L.length cv) ∧ U.cell? ⟨W.heap.size, 0, none⟩ = some (.int .i64 k)) ∧ (U.cell? ⟨W.heap.size, 1, none⟩ = some (.int .i64 j) ∧ U.cell? ⟨gv, k, none⟩ = some (.slice (some ⟨gr k, 0, none⟩) (binN n (dk L k)) (cr k))) ∧ U.cell? ⟨gr k, j, none⟩ = some (.complex .f64 a1 a2))) rfl (by kernel_rfl) (by kernel_rfl) (by kernel_rfl) (fun _ _ _ h => h) (sl_set (by decide) (by decide)) sl_a hc hS (Or.inl ⟨by rfl, ?_⟩) (fun hc hS => ?_)
  · rintro U ⟨⟨z1, z2⟩, ⟨z3, z4⟩, z5⟩
    simp only [o9_2]
    go_simp
  simp only [o9_2, Act.put, List.setIfInBounds_toArray, List.set_cons_zero, List.set_cons_succ]
  refine anyL_take (i := 3) (oi := o9_3) (v := .pointer (some ⟨gv, k, none⟩)) (S0 := (fun U => (U.cell? ⟨b6, 0, none⟩ = some (.slice (some ⟨gv, 0, none⟩) L.length cv) ∧ U.cell? ⟨W.heap.size, 0, none⟩ = some (.int .i64 k)) ∧ (U.cell? ⟨W.heap.size, 1, none⟩ = some (.int .i64 j) ∧ U.cell? ⟨gv, k, none⟩ = some (.slice (some ⟨gr k, 0, none⟩) (binN n (dk L k)) (cr k))) ∧ U.cell? ⟨gr k, j, none⟩ = some (.complex .f64 a1 a2))) rfl (by kernel_rfl) (by kernel_rfl) (by kernel_rfl) (fun _ _ _ h => h) (sl_set (by decide) (by decide)) sl_a hc hS (Or.inl ⟨by rfl, ?_⟩) (fun hc hS => ?_)
  · rintro U ⟨⟨z1, z2⟩, ⟨z3, z4⟩, z5⟩
    simp only [o9_3]
    go_simp
  simp only [o9_3, Act.put, List.setIfInBounds_toArray, List.set_cons_zero, List.set_cons_succ]
  refine anyL_take (i := 4) (oi := o9_4) (v := .slice (some ⟨gr k, 0, none⟩) (binN n (dk L k)) (cr k)) (S0 := (fun U => (U.cell? ⟨b6, 0, none⟩ = some (.slice (some ⟨gv, 0, none⟩) L.length cv) ∧ U.cell? ⟨W.heap.size, 0, none⟩ = some (.int .i64 k)) ∧ (U.cell? ⟨W.heap.size, 1, none⟩ = some (.int .i64 j) ∧ U.cell? ⟨gv, k, none⟩ = some (.slice (some ⟨gr k, 0, none⟩) (binN n (dk L k)) (cr k))) ∧ U.cell? ⟨gr k, j, none⟩ = some (.complex .f64 a1 a2))) rfl (by kernel_rfl) (by kernel_rfl) (by kernel_rfl) (fun _ _ _ h => h) (sl_set (by decide) (by decide)) sl_a hc hS (Or.inl ⟨by rfl, ?_⟩) (fun hc hS => ?_)
  · rintro U ⟨⟨z1, z2⟩, ⟨z3, z4⟩, z5⟩
    simp only [o9_4]
    go_simp
  simp only [o9_4, Act.put, List.setIfInBounds_toArray, List.set_cons_zero, List.set_cons_succ]
  refine anyL_take (i := 5) (oi := o9_5) (v := .pointer (some ⟨W.heap.size, 1, none⟩)) (S0 := (fun U => (U.cell? ⟨b6, 0, none⟩ = some (.slice (some ⟨gv, 0, none⟩) L.length cv) ∧ U.cell? ⟨W.heap.size, 0, none⟩ = some (.int .i64 k)) ∧ (U.cell? ⟨W.heap.size, 1, none⟩ = some (.int .i64 j) ∧ U.cell? ⟨gv, k, none⟩ = some (.slice (some ⟨gr k, 0, none⟩) (binN n (dk L k)) (cr k))) ∧ U.cell? ⟨gr k, j, none⟩ = some (.complex .f64 a1 a2))) rfl (by kernel_rfl) (by kernel_rfl) (by kernel_rfl) (fun _ _ _ h => h) (sl_set (by decide) (by decide)) sl_a hc hS (Or.inl ⟨by rfl, ?_⟩) (fun hc hS => ?_)
  · rintro U ⟨⟨z1, z2⟩, ⟨z3, z4⟩, z5⟩
    simp only [o9_5]
    go_simp
  simp only [o9_5, Act.put, List.setIfInBounds_toArray, List.set_cons_zero, List.set_cons_succ]
  refine anyL_take (i := 6) (oi := o9_6) (v := .int .i64 j) (S0 := (fun U => (U.cell? ⟨b6, 0, none⟩ = some (.slice (some ⟨gv, 0, none⟩) L.length cv) ∧ U.cell? ⟨W.heap.size, 0, none⟩ = some (.int .i64 k)) ∧ (U.cell? ⟨W.heap.size, 1, none⟩ = some (.int .i64 j) ∧ U.cell? ⟨gv, k, none⟩ = some (.slice (some ⟨gr k, 0, none⟩) (binN n (dk L k)) (cr k))) ∧ U.cell? ⟨gr k, j, none⟩ = some (.complex .f64 a1 a2))) rfl (by kernel_rfl) (by kernel_rfl) (by kernel_rfl) (fun _ _ _ h => h) (sl_set (by decide) (by decide)) sl_a hc hS (Or.inl ⟨by rfl, ?_⟩) (fun hc hS => ?_)
  · rintro U ⟨⟨z1, z2⟩, ⟨z3, z4⟩, z5⟩
    simp only [o9_6]
    go_simp
  simp only [o9_6, Act.put, List.setIfInBounds_toArray, List.set_cons_zero, List.set_cons_succ]
  refine anyL_take (i := 7) (oi := o9_7) (v := .pointer (some ⟨gr k, j, none⟩)) (S0 := (fun U => (U.cell? ⟨b6, 0, none⟩ = some (.slice (some ⟨gv, 0, none⟩) L.length cv) ∧ U.cell? ⟨W.heap.size, 0, none⟩ = some (.int .i64 k)) ∧ (U.cell? ⟨W.heap.size, 1, none⟩ = some (.int .i64 j) ∧ U.cell? ⟨gv, k, none⟩ = some (.slice (some ⟨gr k, 0, none⟩) (binN n (dk L k)) (cr k))) ∧ U.cell? ⟨gr k, j, none⟩ = some (.complex .f64 a1 a2))) rfl (by kernel_rfl) (by kernel_rfl) (by kernel_rfl) (fun _ _ _ h => h) (sl_set (by decide) (by decide)) sl_a hc hS (Or.inl ⟨by rfl, ?_⟩) (fun hc hS => ?_)
  · rintro U ⟨⟨z1, z2⟩, ⟨z3, z4⟩, z5⟩
    simp only [o9_7]
    go_simp
  simp only [o9_7, Act.put, List.setIfInBounds_toArray, List.set_cons_zero, List.set_cons_succ]
  refine anyL_take (i := 8) (oi := o9_8) (v := .complex .f64 a1 a2) (S0 := (fun U => (U.cell? ⟨b6, 0, none⟩ = some (.slice (some ⟨gv, 0, none⟩) L.length cv) ∧ U.cell? ⟨W.heap.size, 0, none⟩ = some (.int .i64 k)) ∧ (U.cell? ⟨W.heap.size, 1, none⟩ = some (.int .i64 j) ∧ U.cell? ⟨gv, k, none⟩ = some (.slice (some ⟨gr k, 0, none⟩) (binN n (dk L k)) (cr k))) ∧ U.cell? ⟨gr k, j, none⟩ = some (.complex .f64 a1 a2))) rfl (by kernel_rfl) (by kernel_rfl) (by kernel_rfl) (fun _ _ _ h => h) (sl_set (by decide) (by decide)) sl_a hc hS (Or.inl ⟨by rfl, ?_⟩) (fun hc hS => ?_)
  · rintro U ⟨⟨z1, z2⟩, ⟨z3, z4⟩, z5⟩
    simp only [o9_8]
    go_simp
  simp only [o9_8, Act.put, List.setIfInBounds_toArray, List.set_cons_zero, List.set_cons_succ]
  have z4 := ((Below.refl w2.heap.size w2).alloc (Nat.le_refl _) (.cells #[.complex .f64 0 0] 38)).drew
  have z5 := ((Below.refl w2.heap.size w2).alloc (Nat.le_refl _) (.cells #[.complex .f64 a1 a2] 38)).drew
  have keepA : ∀ U : World, Below w2.heap.size w2 U → (fun U => (U.cell? ⟨b6, 0, none⟩ = some (.slice (some ⟨gv, 0, none⟩) L.length cv) ∧ U.cell? ⟨W.heap.size, 0, none⟩ = some (.int .i64 k)) ∧ (U.cell? ⟨W.heap.size, 1, none⟩ = some (.int .i64 j) ∧ U.cell? ⟨gv, k, none⟩ = some (.slice (some ⟨gr k, 0, none⟩) (binN n (dk L k)) (cr k))) ∧ U.cell? ⟨gr k, j, none⟩ = some (.complex .f64 a1 a2)) U := fun _ hb => ⟨⟨(hb.cell (p := ⟨b6, 0, none⟩) lR).trans xR, (hb.cell (p := ⟨W.heap.size, 0, none⟩) hsz2).trans x0⟩, ⟨(hb.cell (p := ⟨W.heap.size, 1, none⟩) hsz2).trans x1, (hb.cell (p := ⟨gv, k, none⟩) lG).trans xk⟩, (hb.cell (p := ⟨gr k, j, none⟩) lq).trans xj⟩
  replace keepA := hide keepA
  refine anyL_one (i := 9) (o := o9_9) (by kernel_rfl) rfl hc ?_
  intro K hK
  simp only [o9_9]
  go_simp
  refine hK.out _ _ ⟨unhide keepA _ z4, fun _ => trivial, fun _ => trivial⟩ (fun hc hS => ?_)
  clear hK K
  refine anyL_one (i := 10) (o := o9_10) (by kernel_rfl) rfl hc ?_
  intro K hK
  simp only [o9_10]
  go_simp
  refine hK.out _ _ ⟨unhide keepA _ z5, fun _ => trivial, fun _ => trivial⟩ (fun hc hS => ?_)
  clear hK K hc hS z4 z5 keepA xR xk x0 x1 xj
  rw [unhide hw4]
  refine anyL_done (by kernel_rfl) ?_ _
  gi_wp2_with fail
  refine ⟨trivial, fun h => (by cases h), ?_⟩
  refine ((callsIn_wide.2 (unhide kW w4)).inRound l).mono ?_
  rintro e w' ⟨rfl, rfl⟩
  gi_wp2_with fail
  rw [unhide hw5]
  refine ⟨trivial, fun h => (by cases h), ?_⟩
  refine ((callsIn_wide.2 (unhide kE)).inRound l).mono ?_
  rintro e w6 ⟨⟨u, rfl⟩, hS6⟩
  replace hS6 := hide hS6
  gi_wp2_with fail
  have h6 := unhide hS6
  have e2 : ({ ({ r with state := .busy } : Loop) with state := if (none : Option Code).isNone = true then .ready else .done, pending := none } : Loop) = r := by
    have h1 := unhide hrs
    have h2 := unhide hrp
    cases r
    simp only at h1 h2
    subst h1 h2
    rfl
  have hE := run_endRound (P := Try.prog) none h6.loop
  rw [e2] at hE
  obtain ⟨w7, hw7⟩ : ∃ w7, w6.putObj l (.loop r) = w7 := ⟨_, rfl⟩
  rw [hw7] at hE
  have hlt6 : l < w6.heap.size := (Array.getElem?_eq_some_iff.1 h6.loop).1
  have ot7 : ∀ x, x ≠ l → w7.heap[x]? = w6.heap[x]? := fun x hx => by rw [← hw7]; exact World.putObj_heap_other hx
  have as7 : ∀ T : Nat → Prop, (∀ x, T x → x ≠ l) → Aside T w6 w7 := fun T hT => ⟨by rw [← hw7]; rfl, by rw [← hw7]; rfl, by rw [← hw7]; rfl, by rw [← hw7]; simp, fun x hx => ot7 x (hT x hx)⟩
  refine ⟨_, w7, hE, rfl, ⟨(h6.sh.keep fun x hx => ?_).ext (fun k' j' hk' _ => ?_) (fun _ _ => rfl), h6.bel.trans ((as7 (fun x => x < base) fun x hx => by omega).below fun _ hx => hx)⟩, by rw [← hw7]; exact World.putObj_heap_same hlt6, h6.keep.trans (as7 _ fun x hx => hx.2.1)⟩
  · obtain ⟨cs, t, e, _⟩ := h6.sh.typed hx
    exact ot7 x (loop_ne e h6.loop)
  · unfold restK
    rw [if_pos hk']
end Go.Proofs.Ytgbkfmjkemkajaa
