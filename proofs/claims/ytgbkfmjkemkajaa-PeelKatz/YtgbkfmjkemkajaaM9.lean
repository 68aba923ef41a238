/- The landed peeling in memory. The landed peeling: a line's numbers; a line that has come to one. The landed peeling: each bin of a cell. The landed peeling: a cell closed. -/
import Derived.Test.YtgbkfmjkemkajaaM7
import Derived.Test.YtgbkfmjkemkajaaPH3
import Derived.Test.YtgbkfmjkemkajaaPYQ
import Derived.Shelf.Abstract
namespace Go.Proofs.Ytgbkfmjkemkajaa
open Go.RowKit

theorem mixed : Try.prog.follows .mixedOrders = true := by kernel_rfl

structure PV where
  B : Nat
  blk : Nat → Nat
  aF : Option Addr
  aL : Option Addr
  cF : Nat
  cL : Nat
  cO : Nat

/-- The struct's cells but the heap. -/
def pc (n K : Nat) (a : Option Addr) (cap : Nat) (V : PV) : Nat → Value
  | 0 => .int .i64 n
  | 1 => .slice a K cap
  | 2 => .slice V.aF K V.cF
  | 3 => .slice V.aL K V.cL
  | _ => .slice (some ⟨V.blk 0, 0, none⟩) (n * n : Nat) V.cO

def PFv (n : Nat) (L : List (Int × Int)) (V : PV) (bo : Nat → Bool) (bk : Nat → Nat → Bool) : Nat → Nat → Value
  | 0, i => .bool (bo i)
  | 1, k => .int .i64 (startS n (dk L k))
  | 2, k => .slice (some ⟨V.blk (3 + k), 0, none⟩) (binN n (dk L k)) (binN n (dk L k))
  | r + 3, j => if j % 2 = 0 then .int .i64 (cntL n (dk L r) (bk r) ((j / 2 : Nat) : Int) : Nat) else .int .i64 (sumL n (dk L r) (bk r) ((j / 2 : Nat) : Int) : Nat)
def PTv : Nat → TypeId
  | 0 => 4
  | 1 => 3
  | 2 => 93
  | _ + 3 => 100
def PNv (n : Nat) (L : List (Int × Int)) : Nat → Nat
  | 0 => n * n
  | 1 => L.length
  | 2 => L.length
  | r + 3 => binN n (dk L r) * 2
def PLive (K r : Nat) : Prop := r = 0 ∨ (r < 3 + K ∧ 0 < K)

theorem dirs_keep {w w' : World} {a : Option Addr} {g o : Nat} {L : List (Int × Int)} (h : Dirs w a g o L) (hb : 0 < L.length → w'.heap[g]? = w.heap[g]?) (hs : w.heap.size ≤ w'.heap.size) : Dirs w' a g o L := by
  refine ⟨fun hl => ⟨(h.at_ hl).1, Nat.lt_of_lt_of_le (h.at_ hl).2 hs⟩, fun i c hi => ?_⟩
  have hl : 0 < L.length := by
    have := (List.getElem?_eq_some_iff.1 hi).1
    omega
  obtain ⟨h1, h2⟩ := h.cell i c hi
  exact ⟨(World.cell?_of_block (hb hl)).trans h1, (World.cell?_of_block (hb hl)).trans h2⟩

/-- A peeling: its struct with the heap, its rows, what is left alone. -/
structure Peel (S : Nat → Prop) (w : World) (n : Nat) (L : List (Int × Int)) (a : Option Addr) (cap g o : Nat) (V : PV) (bo : Nat → Bool) (bk : Nat → Nat → Bool) (v : Value) (m : Nat) (f : Nat → Nat × Nat) : Prop where
  heap : HeapAt w V.B (pc n L.length a cap V) v m f
  mem : Mem w 0 (PLive L.length) V.blk PTv (PNv n L) (PFv n L V bo bk)
  apB : ∀ r, PLive L.length r → V.blk r ≠ V.B
  apQ : ∀ r, PLive L.length r → v.ownBlock ≠ some (V.blk r)
  sB : ¬ S V.B
  sR : ∀ r, PLive L.length r → ¬ S (V.blk r)
  sQ : ∀ q, v.ownBlock = some q → ¬ S q
  sS : ∀ g, S g → g < w.heap.size
  atF : 0 < L.length → V.aF = some ⟨V.blk 1, 0, none⟩
  atL : 0 < L.length → V.aL = some ⟨V.blk 2, 0, none⟩
  dirs : Dirs w a g o L
  dS : 0 < L.length → S g

section
variable {S : Nat → Prop} {w w' : World} {n : Nat} {L : List (Int × Int)} {a : Option Addr} {cap g o : Nat} {V : PV} {bo bo' : Nat → Bool} {bk bk' : Nat → Nat → Bool} {v v' : Value} {m m' : Nat} {f f' : Nat → Nat × Nat}

theorem live0 (K : Nat) : PLive K 0 := Or.inl rfl
theorem live1 {K : Nat} (h : 0 < K) : PLive K 1 := Or.inr ⟨by omega, h⟩
theorem live2 {K : Nat} (h : 0 < K) : PLive K 2 := Or.inr ⟨by omega, h⟩
theorem live3 {K k : Nat} (h : k < K) : PLive K (k + 3) := Or.inr ⟨by omega, by omega⟩

theorem Peel.turn (h : Peel S w n L a cap g o V bo bk v m f) (hh : HeapAt w' V.B (pc n L.length a cap V) v' m' f') (ht : HTurn w w' V.B v v') : Peel S w' n L a cap g o V bo bk v' m' f' ∧ Aside S w w' := by
  have hS : Aside S w w' := ht.rest.mono fun x hx => ⟨h.sS x hx, fun e => h.sB (e ▸ hx), fun e => h.sQ x e hx⟩
  have kp : ∀ r, PLive L.length r → w'.heap[V.blk r]? = w.heap[V.blk r]? := fun r hr => ht.rest.block _ ⟨vrow_lt (h.mem.row r hr), h.apB r hr, h.apQ r hr⟩
  refine ⟨⟨hh, ⟨fun r hr => vrow_keep (h.mem.row r hr) (kp r hr), h.mem.above, h.mem.apart⟩, h.apB, fun r hr e => ?_, h.sB, h.sR, fun q hq hs => ?_, fun x hx => Nat.lt_of_lt_of_le (h.sS x hx) ht.rest.size, h.atF, h.atL, dirs_keep h.dirs (fun hl => hS.block g (h.dS hl)) ht.rest.size, h.dS⟩, hS⟩
  · rcases ht.own with ho | ⟨q, ho, hq⟩
    · exact h.apQ r hr (ho ▸ e)
    · rw [ho] at e
      have e : q = V.blk r := by simpa using e
      have := vrow_lt (h.mem.row r hr)
      omega
  · rcases ht.own with ho | ⟨q', ho, hq'⟩
    · exact h.sQ q (ho ▸ hq) hs
    · rw [ho] at hq
      have e : q' = q := by simpa using hq
      have := h.sS q hs
      omega

theorem Peel.below (h : Peel S w n L a cap g o V bo bk v m f) (hb : Below w.heap.size w w') : Peel S w' n L a cap g o V bo bk v m f :=
  (h.turn (h.heap.below hb) (HTurn.of_below hb)).1

theorem Peel.rows (h : Peel S w n L a cap g o V bo bk v m f) (hm : Mem w' 0 (PLive L.length) V.blk PTv (PNv n L) (PFv n L V bo' bk')) (ha : Aside (fun x => x < w.heap.size ∧ ∀ r, PLive L.length r → x ≠ V.blk r) w w') : Peel S w' n L a cap g o V bo' bk' v m f ∧ Aside S w w' := by
  have hS : Aside S w w' := ha.mono fun x hx => ⟨h.sS x hx, fun r hr e => h.sR r hr (e ▸ hx)⟩
  have hB : w'.heap[V.B]? = w.heap[V.B]? := ha.block _ ⟨h.heap.lt, fun r hr e => h.apB r hr e.symm⟩
  exact ⟨⟨⟨hB.trans h.heap.st, h.heap.qv.keep fun q hq => ha.block q ⟨h.heap.qv.lt hq, fun r hr e => h.apQ r hr (e ▸ hq)⟩, h.heap.ne⟩, hm, h.apB, h.apQ, h.sB, h.sR, h.sQ, fun x hx => Nat.lt_of_lt_of_le (h.sS x hx) ha.size, h.atF, h.atL, dirs_keep h.dirs (fun hl => hS.block g (h.dS hl)) ha.size, h.dS⟩, hS⟩

/-- More is left alone. -/
theorem Peel.more {S' : Nat → Prop} (h : Peel S w n L a cap g o V bo bk v m f) (h1 : ∀ x, S' x → x < w.heap.size) (hB : ¬ S' V.B) (hR : ∀ r, PLive L.length r → ¬ S' (V.blk r)) (hQ : ∀ q, v.ownBlock = some q → ¬ S' q) (hd : 0 < L.length → S' g) : Peel S' w n L a cap g o V bo bk v m f :=
  ⟨h.heap, h.mem, h.apB, h.apQ, hB, hR, hQ, h1, h.atF, h.atL, h.dirs, hd⟩

theorem Peel.c0 (h : Peel S w n L a cap g o V bo bk v m f) : w.cell? ⟨V.B, 0, none⟩ = some (.int .i64 n) := cell_of_row w V.B 0 _ _ (0, 0) h.heap.st
theorem Peel.c1 (h : Peel S w n L a cap g o V bo bk v m f) : w.cell? ⟨V.B, 1, none⟩ = some (.slice a L.length cap) := cell_of_row w V.B 1 _ _ (0, 0) h.heap.st
theorem Peel.c2 (h : Peel S w n L a cap g o V bo bk v m f) : w.cell? ⟨V.B, 2, none⟩ = some (.slice V.aF L.length V.cF) := cell_of_row w V.B 2 _ _ (0, 0) h.heap.st
theorem Peel.c3 (h : Peel S w n L a cap g o V bo bk v m f) : w.cell? ⟨V.B, 3, none⟩ = some (.slice V.aL L.length V.cL) := cell_of_row w V.B 3 _ _ (0, 0) h.heap.st
theorem Peel.c4 (h : Peel S w n L a cap g o V bo bk v m f) : w.cell? ⟨V.B, 4, none⟩ = some (.slice (some ⟨V.blk 0, 0, none⟩) (n * n : Nat) V.cO) := cell_of_row w V.B 4 _ _ (0, 0) h.heap.st
theorem Peel.open_ (h : Peel S w n L a cap g o V bo bk v m f) {i : Nat} (hi : i < n * n) : w.cell? ⟨V.blk 0, i, none⟩ = some (.bool (bo i)) := vrow_at (h.mem.row 0 (live0 _)) hi
theorem Peel.first (h : Peel S w n L a cap g o V bo bk v m f) {k : Nat} (hk : k < L.length) : w.cell? ⟨V.blk 1, k, none⟩ = some (.int .i64 (startS n (dk L k))) := vrow_at (h.mem.row 1 (live1 (by omega))) hk
theorem Peel.lines (h : Peel S w n L a cap g o V bo bk v m f) {k : Nat} (hk : k < L.length) : w.cell? ⟨V.blk 2, k, none⟩ = some (.slice (some ⟨V.blk (3 + k), 0, none⟩) (binN n (dk L k)) (binN n (dk L k))) := vrow_at (h.mem.row 2 (live2 (by omega))) hk
theorem Peel.cnt (h : Peel S w n L a cap g o V bo bk v m f) {k j : Nat} (hk : k < L.length) (hj : j < binN n (dk L k)) : w.cell? ⟨V.blk (3 + k), j * 2, none⟩ = some (.int .i64 (cntL n (dk L k) (bk k) (j : Int) : Nat)) := by
  have := vrow_at (i := j * 2) (h.mem.row (k + 3) (live3 hk)) (by show j * 2 < binN n (dk L k) * 2; omega)
  rw [Nat.add_comm 3 k, this]
  show some (if j * 2 % 2 = 0 then Value.int .i64 (cntL n (dk L k) (bk k) ((j * 2 / 2 : Nat) : Int) : Nat) else _) = _
  rw [if_pos (by omega), show j * 2 / 2 = j by omega]
theorem Peel.sum (h : Peel S w n L a cap g o V bo bk v m f) {k j : Nat} (hk : k < L.length) (hj : j < binN n (dk L k)) : w.cell? ⟨V.blk (3 + k), j * 2 + 1, none⟩ = some (.int .i64 (sumL n (dk L k) (bk k) (j : Int) : Nat)) := by
  have := vrow_at (i := j * 2 + 1) (h.mem.row (k + 3) (live3 hk)) (by show j * 2 + 1 < binN n (dk L k) * 2; omega)
  rw [Nat.add_comm 3 k, this]
  show some (if (j * 2 + 1) % 2 = 0 then _ else Value.int .i64 (sumL n (dk L k) (bk k) (((j * 2 + 1) / 2 : Nat) : Int) : Nat)) = _
  rw [if_neg (by omega), show (j * 2 + 1) / 2 = j by omega]
theorem Peel.lt (h : Peel S w n L a cap g o V bo bk v m f) {r : Nat} (hr : PLive L.length r) : V.blk r < w.heap.size := vrow_lt (h.mem.row r hr)
theorem Peel.frozen (h : Peel S w n L a cap g o V bo bk v m f) {r : Nat} (hr : PLive L.length r) (i : Nat) : w.frozen? ⟨V.blk r, i, none⟩ = false := vrow_frozen (h.mem.row r hr) i

theorem aside_rows (w : World) {V : PV} {K r : Nat} (hr : PLive K r) (i : Nat) (u : Value) : Aside (fun x => x < w.heap.size ∧ ∀ r, PLive K r → x ≠ V.blk r) w (w.setCell ⟨V.blk r, i, none⟩ u) :=
  (Aside.refl _ w).setCell (fun h => h.2 r hr rfl) u

/-- A cell closed. -/
theorem Peel.setOpen (h : Peel S w n L a cap g o V bo bk v m f) (c : Nat) : Peel S (w.setCell ⟨V.blk 0, c, none⟩ (.bool false)) n L a cap g o V (shutB bo c) bk v m f ∧ Aside S w (w.setCell ⟨V.blk 0, c, none⟩ (.bool false)) := by
  refine h.rows (mem_ext (mem_set h.mem (live0 _) c (.bool false)) fun r hr i hi => ?_) (aside_rows w (live0 _) c _)
  match r with
  | 0 =>
    show (if 0 = 0 ∧ i = c then Value.bool false else .bool (bo i)) = .bool (shutB bo c i)
    unfold shutB
    by_cases e : i = c
    · rw [if_pos ⟨rfl, e⟩, if_pos e]
    · rw [if_neg (fun x => e x.2), if_neg e]
  | r + 1 => rw [if_neg (by omega)]; match r with
    | 0 => rfl
    | 1 => rfl
    | r + 2 => rfl

/-- A line's two numbers. -/
theorem Peel.setLine (h : Peel S w n L a cap g o V bo bk v m f) {k j : Nat} {b' : Nat → Bool} (hk : k < L.length)
    (hs : ∀ i : Nat, i ≠ j → cntL n (dk L k) b' (i : Int) = cntL n (dk L k) (bk k) (i : Int) ∧ sumL n (dk L k) b' (i : Int) = sumL n (dk L k) (bk k) (i : Int)) :
    Peel S ((w.setCell ⟨V.blk (3 + k), j * 2, none⟩ (.int .i64 (cntL n (dk L k) b' (j : Int) : Nat))).setCell ⟨V.blk (3 + k), j * 2 + 1, none⟩ (.int .i64 (sumL n (dk L k) b' (j : Int) : Nat))) n L a cap g o V bo (fun i => if i = k then b' else bk i) v m f ∧
      Aside S w ((w.setCell ⟨V.blk (3 + k), j * 2, none⟩ (.int .i64 (cntL n (dk L k) b' (j : Int) : Nat))).setCell ⟨V.blk (3 + k), j * 2 + 1, none⟩ (.int .i64 (sumL n (dk L k) b' (j : Int) : Nat))) := by
  rw [Nat.add_comm 3 k]
  refine h.rows (mem_ext (mem_set (mem_set h.mem (live3 hk) _ _) (live3 hk) _ _) fun r hr i hi => ?_) (((Aside.refl _ w).setCell (fun h => h.2 _ (live3 hk) rfl) _).setCell (fun h => h.2 _ (live3 hk) rfl) _)
  by_cases e : r = k + 3
  · subst e
    show (if k + 3 = k + 3 ∧ i = j * 2 + 1 then _ else if k + 3 = k + 3 ∧ i = j * 2 then _ else (if i % 2 = 0 then Value.int .i64 (cntL n (dk L k) (bk k) ((i / 2 : Nat) : Int) : Nat) else Value.int .i64 (sumL n (dk L k) (bk k) ((i / 2 : Nat) : Int) : Nat))) =
      (if i % 2 = 0 then Value.int .i64 (cntL n (dk L k) (if k = k then b' else bk k) ((i / 2 : Nat) : Int) : Nat) else Value.int .i64 (sumL n (dk L k) (if k = k then b' else bk k) ((i / 2 : Nat) : Int) : Nat))
    rw [if_pos (rfl : k = k)]
    by_cases e1 : i = j * 2 + 1
    · rw [if_pos ⟨rfl, e1⟩, if_neg (by omega), show i / 2 = j by omega]
    · rw [if_neg (fun x => e1 x.2)]
      by_cases e2 : i = j * 2
      · rw [if_pos ⟨rfl, e2⟩, if_pos (by omega), show i / 2 = j by omega]
      · rw [if_neg (fun x => e2 x.2)]
        obtain ⟨s1, s2⟩ := hs (i / 2) (by omega)
        rw [s1, s2]
  · rw [if_neg (fun x => e x.1), if_neg (fun x => e x.1)]
    match r with
    | 0 => rfl
    | 1 => rfl
    | 2 => rfl
    | r + 3 =>
      show (if i % 2 = 0 then Value.int .i64 (cntL n (dk L r) (bk r) ((i / 2 : Nat) : Int) : Nat) else _) = (if i % 2 = 0 then Value.int .i64 (cntL n (dk L r) (if r = k then b' else bk r) ((i / 2 : Nat) : Int) : Nat) else Value.int .i64 (sumL n (dk L r) (if r = k then b' else bk r) ((i / 2 : Nat) : Int) : Nat))
      rw [if_neg (show ¬ r = k by omega)]
end
end Go.Proofs.Ytgbkfmjkemkajaa

namespace Go.Proofs.Ytgbkfmjkemkajaa
open Go.RowKit

theorem belowN (B : Nat) (W : World) (k : Nat) : Below B W (W.drewN k) := ⟨rfl, rfl, rfl, Nat.le_refl _, fun _ _ => rfl⟩
theorem asideN (S : Nat → Prop) (W : World) (k : Nat) : Aside S W (W.drewN k) := ⟨rfl, rfl, rfl, Nat.le_refl _, fun _ _ => rfl⟩

section
variable {S : Nat → Prop} {w : World} {n : Nat} {L : List (Int × Int)} {a : Option Addr} {cap g o : Nat} {V : PV} {bo : Nat → Bool} {bk : Nat → Nat → Bool} {v : Value} {m : Nat} {f : Nat → Nat × Nat}

set_option maxRecDepth 100000 in
set_option maxHeartbeats 1600000 in
theorem peelCount {k j : Nat} {many sum : Int} {b' : Nat → Bool} (hk : k < L.length) (hj : j < binN n (dk L k))
    (hs : ∀ i : Nat, i ≠ j → cntL n (dk L k) b' (i : Int) = cntL n (dk L k) (bk k) (i : Int) ∧ sumL n (dk L k) b' (i : Int) = sumL n (dk L k) (bk k) (i : Int))
    (h1 : ((cntL n (dk L k) (bk k) (j : Int) : Nat) : Int) + many = ((cntL n (dk L k) b' (j : Int) : Nat) : Int)) (h2 : ((sumL n (dk L k) (bk k) (j : Int) : Nat) : Int) + sum = ((sumL n (dk L k) b' (j : Int) : Nat) : Int))
    (h3 : cntL n (dk L k) b' (j : Int) ≤ 20000000) (h4 : sumL n (dk L k) b' (j : Int) ≤ 20000000) (w : World) (h : Peel S w n L a cap g o V bo bk v m f) :
    Calls Try.prog 41 #[.pointer (some ⟨V.B, 0, none⟩), .agg #[.int .i64 k, .int .i64 j], .int .i64 many, .int .i64 sum] w fun e w' =>
      (∃ u, e = .returned u) ∧ Peel S w' n L a cap g o V bo (fun i => if i = k then b' else bk i) v m f ∧ Aside S w w' := by
  have y1 := hide (heap_alloc_new w (.cells #[.int .i64 k, .int .i64 j] 81))
  have y2 := hide ((Below.refl w.heap.size w).alloc (Nat.le_refl _) (.cells #[.int .i64 k, .int .i64 j] 81))
  have H1 := hide (h.below (unhide y2))
  have hsS := hide h.sS
  have eL := h.atL (by omega)
  have c3 := (unhide H1).c3
  have c4 := (unhide H1).lines hk
  have c5 := (unhide H1).cnt hk hj
  have c6 := (unhide H1).sum hk hj
  rw [eL] at c3
  have q1 : ((k : Int) < (L.length : Int)) = True := by simp; omega
  have q2 : ((j : Int) < ((binN n (dk L k) : Nat) : Int)) = True := by simp; omega
  have fin := hide (fun (W : World) (hW : Peel S W n L a cap g o V bo bk v m f) => hW.setLine (j := j) (b' := b') hk hs)
  have fz := hide (fun (W : World) (hW : Peel S W n L a cap g o V bo bk v m f) (i : Nat) => show W.frozen? ⟨V.blk (3 + k), i, none⟩ = false by rw [Nat.add_comm]; exact hW.frozen (live3 hk) i)
  have x0 : (w.alloc (.cells #[.int .i64 k, .int .i64 j] 81)).cell? ⟨w.heap.size, 0, none⟩ = some (.int .i64 k) := cell_of_row _ w.heap.size 0 _ _ (0, 0) (unhide y1)
  have x1 : (w.alloc (.cells #[.int .i64 k, .int .i64 j] 81)).cell? ⟨w.heap.size, 1, none⟩ = some (.int .i64 j) := cell_of_row _ w.heap.size 1 _ _ (0, 0) (unhide y1)
  clear h y1 eL hs
  generalize cntL n (dk L k) (bk k) (j : Int) = ct at *
  generalize sumL n (dk L k) (bk k) (j : Int) = su at *
  generalize cntL n (dk L k) b' (j : Int) = ct' at *
  generalize sumL n (dk L k) b' (j : Int) = su' at *
  have z1 : IntKind.i64.wrap ((ct : Int) + many) = (ct' : Int) := by rw [h1, IntKind.wrap_i64]; omega
  have z2 : IntKind.i64.wrap ((su : Int) + sum) = (su' : Int) := by rw [h2, IntKind.wrap_i64]; omega
  clear h1 h2
  have f1 := unhide fz _ (unhide H1) (j * 2)
  have f2 := unhide fz _ (unhide H1) (j * 2 + 1)
  generalize V.blk (3 + k) = q at *
  go_enter Try.func41, Try.ntmps41
  go_wp2_with fail
  generalize w.alloc (.cells #[.int .i64 k, .int .i64 j] 81) = w1 at *
  generalize w.heap.size = p at *
  go_quiet (fail)
  go_wp2_with fail
  go_end0
  obtain ⟨r1, r2⟩ := unhide fin _ ((unhide H1).below (belowN _ w1 nq))
  exact ⟨⟨_, rfl⟩, r1, ((Aside.of_below (unhide y2) (unhide hsS)).trans (asideN S w1 nq)).trans r2⟩

set_option maxRecDepth 100000 in
set_option maxHeartbeats 1600000 in
theorem peelLook {k j : Nat} (hk : k < L.length) (hj : j < binN n (dk L k)) (hm : m < 1000000) (w : World) (h : Peel S w n L a cap g o V bo bk v m f) :
    Calls Try.prog 42 #[.pointer (some ⟨V.B, 0, none⟩), .agg #[.int .i64 k, .int .i64 j]] w fun e w' =>
      (∃ u, e = .returned u) ∧ (∃ v' m' f', Peel S w' n L a cap g o V bo bk v' m' f' ∧ ((cntL n (dk L k) (bk k) (j : Int) = 1 ∧ m' = m + 1 ∧ ∀ y, InQ f' (m + 1) y ↔ y = (k, j) ∨ InQ f m y) ∨ (cntL n (dk L k) (bk k) (j : Int) ≠ 1 ∧ m' = m ∧ f' = f))) ∧ Aside S w w' := by
  have y1 := hide (heap_alloc_new w (.cells #[.int .i64 k, .int .i64 j] 81))
  have y2 := hide ((Below.refl w.heap.size w).alloc (Nat.le_refl _) (.cells #[.int .i64 k, .int .i64 j] 81))
  have H1 := hide (h.below (unhide y2))
  have hsS := hide h.sS
  have eL := h.atL (by omega)
  have c3 := (unhide H1).c3
  have c4 := (unhide H1).lines hk
  have c5 := (unhide H1).cnt hk hj
  rw [eL] at c3
  have q1 : ((k : Int) < (L.length : Int)) = True := by simp; omega
  have q2 : ((j : Int) < ((binN n (dk L k) : Nat) : Int)) = True := by simp; omega
  have x0 : (w.alloc (.cells #[.int .i64 k, .int .i64 j] 81)).cell? ⟨w.heap.size, 0, none⟩ = some (.int .i64 k) := cell_of_row _ w.heap.size 0 _ _ (0, 0) (unhide y1)
  have x1 : (w.alloc (.cells #[.int .i64 k, .int .i64 j] 81)).cell? ⟨w.heap.size, 1, none⟩ = some (.int .i64 j) := cell_of_row _ w.heap.size 1 _ _ (0, 0) (unhide y1)
  clear h y1 eL
  by_cases hc : cntL n (dk L k) (bk k) (j : Int) = 1
  · rw [hc] at c5
    have hc' := hide hc
    clear hc
    have kP := hide (fun (W : World) (hW : Peel S W n L a cap g o V bo bk v m f) => heapPush (k, j) hm W hW.heap)
    dsimp only at kP
    generalize V.blk (3 + k) = q at *
    go_enter Try.func42, Try.ntmps42
    go_wp2_with fail
    generalize w.alloc (.cells #[.int .i64 k, .int .i64 j] 81) = w1 at *
    generalize w.heap.size = p at *
    go_quiet (fail)
    go_wp2_with fail
    have A2 := hide ((Aside.of_below (unhide y2) (unhide hsS)).trans (asideN S w1 nq))
    have H2 := hide ((unhide H1).below (belowN _ w1 nq))
    have e0 : (w1.drewN nq).cell? ⟨p, 0, none⟩ = some (.int .i64 k) := x0
    have e1 : (w1.drewN nq).cell? ⟨p, 1, none⟩ = some (.int .i64 j) := x1
    clear x0 x1 c3 c4 c5 H1 y2
    generalize w1.drewN nq = w2 at *
    have hfn : ∀ f, Fence.wide.fn f = True := fun _ => rfl
    refine (wpIn_wide (n := 0)).1 ?_
    refine region_far 6 mixed (by kernel_rfl) ?_
    simp only [List.take_succ_cons, List.take_zero, List.drop_succ_cons, List.drop_zero]
    repeat (gi_big_quiet_step (fail))
    refine wpQuietIn_nil ?_
    intro _ hw'
    obtain ⟨nq2, rfl⟩ := hw'
    have H3 := hide ((unhide H2).below (belowN _ w2 nq2))
    have A3 := hide ((unhide A2).trans (asideN S w2 nq2))
    clear H2 A2 e0 e1
    generalize w2.drewN nq2 = w3 at *
    have kQ := hide (unhide kP w3 (unhide H3))
    clear kP
    gi_wp2_with fail
    refine ⟨rfl, ?_⟩
    refine (callsIn_wide.2 (unhide kQ)).mono ?_
    rintro e w4 ⟨⟨_, rfl⟩, v4, f4, h4, i4, t4⟩
    have R4 := hide ((unhide H3).turn h4 t4)
    have I4 := hide i4
    clear h4 i4 t4
    gi_wp2_with fail
    go_end0
    exact ⟨⟨_, rfl⟩, ⟨v4, m + 1, f4, (unhide R4).1, Or.inl ⟨unhide hc', rfl, unhide I4⟩⟩, (unhide A3).trans (unhide R4).2⟩
  · have q3 : (((cntL n (dk L k) (bk k) (j : Int) : Nat) : Int) == 1) = false := by simp; omega
    have hc' := hide hc
    clear hc
    generalize V.blk (3 + k) = q at *
    go_enter Try.func42, Try.ntmps42
    go_wp2_with fail
    generalize w.alloc (.cells #[.int .i64 k, .int .i64 j] 81) = w1 at *
    generalize w.heap.size = p at *
    go_quiet (fail)
    go_wp2_with fail
    go_end0
    exact ⟨⟨_, rfl⟩, ⟨v, m, f, (unhide H1).below (belowN _ w1 nq), Or.inr ⟨unhide hc', rfl, rfl⟩⟩, (Aside.of_below (unhide y2) (unhide hsS)).trans (asideN S w1 nq)⟩
end
end Go.Proofs.Ytgbkfmjkemkajaa

namespace Go.Proofs.Ytgbkfmjkemkajaa
open Go.RowKit

set_option maxRecDepth 100000 in
set_option maxHeartbeats 3200000 in
theorem eachBin {S : Nat → Prop} {n : Nat} {L : List (Int × Int)} {a : Option Addr} {cap g o : Nat} {V : PV} {St : Nat → World → Prop} {Fn : FuncId} {lb : Array Value} {c : Nat} (hn : 1 ≤ n) (h64 : n ≤ 64) (hL : L.length ≤ 64) (ho : ∀ d, d ∈ L → okD d.1 d.2 = true) (hc : c < n * n)
    (eg : ∀ args w, (callFunc Fn args).run Try.prog w = .ok (.enter Fn args) w)
    (hR : ∀ k W, St k W → ∃ bo bk v m f, Peel S W n L a cap g o V bo bk v m f)
    (hb : ∀ k W W', St k W → Below W.heap.size W W' → St k W')
    (hdo : ∀ k j W, k < L.length → j < binN n (dk L k) → lnI n (dk L k) c = (j : Int) → St k W → Calls Try.prog Fn (#[.agg #[.int .i64 k, .int .i64 j]] ++ lb) W fun e W' => (∃ u, e = .returned u) ∧ St (k + 1) W')
    (w : World) (h : St 0 w) :
    Calls Try.prog 30 #[.pointer (some ⟨V.B, 0, none⟩), .int .i64 c, .func (.func Fn) #[] lb] w fun e w' => (∃ u, e = .returned u) ∧ St L.length w' := by
  obtain ⟨bo0, bk0, v0, m0, f0, P0⟩ := hR 0 w h
  obtain ⟨x, hxe⟩ : ∃ x, c % n = x := ⟨_, rfl⟩
  obtain ⟨y, hye⟩ : ∃ y, c / n = y := ⟨_, rfl⟩
  have hx : x < n := by rw [← hxe]; exact Nat.mod_lt _ (by omega)
  have hy : y < n := by rw [← hye]; exact (Nat.div_lt_iff_lt_mul (by omega)).2 hc
  have e1 : (c : Int) % (n : Int) = (x : Int) := by rw [← hxe]; rfl
  have e4 : ((c : Int)).tmod (n : Int) = (x : Int) := by rw [Int.tmod_eq_emod_of_nonneg (by omega)]; exact e1
  have e3 : (c : Int) / (n : Int) = (y : Int) := by rw [← hye]; rfl
  have e2 : IntKind.i64.wrap ((c : Int) / (n : Int)) = (y : Int) := by rw [e3, IntKind.wrap_i64]; omega
  have z0 : ((n : Int) == 0) = false := by simp; omega
  have z1 : ¬ (n : Int) = 0 := by omega
  have z2 : (n = 0) = False := by simp; omega
  have c0 := P0.c0
  have c1 := P0.c1
  have c1' := hide c1
  have hR := hide hR
  have hb := hide hb
  have hdo := hide hdo
  have h0 := hide h
  have hHx := hide hxe
  have hHy := hide hye
  have hO := hide ho
  have hcc := hide hc
  clear P0 h hxe hye e3 ho hc
  go_enter Try.func30, Try.ntmps30
  go_wp2_with fail
  go_quiet (fail)
  have h1 := hide (unhide hb 0 w (w.drewN nq) (unhide h0) (belowN _ w nq))
  have d1 : (w.drewN nq).cell? ⟨V.B, 1, none⟩ = some (.slice a L.length cap) := c1
  clear c0 c1 h0 e4 e1 z0 z1 z2
  generalize w.drewN nq = w1 at *
  go_wp2_with fail
  clear d1
  go_loopw [27] (fun kv wr => ∃ k : Nat, k ≤ L.length ∧ kv = .int .i64 k ∧ Hid (St k wr)) (fun kv _ => L.length - (intOf kv).toNat)
  case atStart => exact ⟨0, Nat.zero_le _, rfl, h1⟩
  case round =>
    clear h1
    obtain ⟨k, hk, rfl, hS⟩ := hrel
    by_cases hkL : k < L.length
    · have q1 : ((k : Int) < (L.length : Int)) = True := by simp; omega
      obtain ⟨bo, bk, v, m, f, hP⟩ := unhide hR k wr (unhide hS)
      obtain ⟨haa, hgb⟩ := hP.dirs.at_ (by omega)
      subst haa
      have hok := unhide hO _ (dk_mem hkL)
      obtain ⟨b1, b2, b3⟩ := okD_bounds hok
      obtain ⟨j, hj, hl⟩ := line_bounds (d := dk L k) hn h64 hok (unhide hcc)
      have kD := hide (fun W (hW : St k W) => unhide hdo k j W hkL hj hl hW)
      obtain ⟨p1, p2⟩ := hP.dirs.cell k _ (dk_at hkL)
      have y1 := hide (heap_alloc_new wr (.cells #[.int .i64 (dk L k).1, .int .i64 (dk L k).2] 35))
      have y2 := hide ((Below.refl wr.heap.size wr).alloc (Nat.le_refl _) (.cells #[.int .i64 (dk L k).1, .int .i64 (dk L k).2] 35))
      have hP2 := hP.below (unhide y2)
      have S2 := hide (unhide hb k _ _ (unhide hS) (unhide y2))
      have eF := hP.atF (by omega)
      have x2 := hP2.c2
      rw [eF] at x2
      have x3 := hP2.first hkL
      have x4 : (wr.alloc (.cells #[.int .i64 (dk L k).1, .int .i64 (dk L k).2] 35)).cell? ⟨wr.heap.size, 0, none⟩ = some (.int .i64 (dk L k).1) := cell_of_row _ wr.heap.size 0 _ _ (0, 0) (unhide y1)
      have x5 : (wr.alloc (.cells #[.int .i64 (dk L k).1, .int .i64 (dk L k).2] 35)).cell? ⟨wr.heap.size, 1, none⟩ = some (.int .i64 (dk L k).2) := cell_of_row _ wr.heap.size 1 _ _ (0, 0) (unhide y1)
      have m1 := cell_small (q := (dk L k).2) hx h64 (by omega)
      have m2 := cell_small (q := (dk L k).1) hy h64 b1
      have hs := start_small (P := (dk L k).1) (Q := (dk L k).2) (n := (n : Int)) (by omega) (by omega) b1
      unfold lnI lnO at hl
      rw [unhide hHx, unhide hHy] at hl
      have ep : ((dk L k).1, (dk L k).2) = dk L k := rfl
      rw [ep] at hs
      clear hP hP2 hgb eF hS y1 y2 hok ep
      generalize dk L k = d at *
      obtain ⟨P, Q⟩ := d
      dsimp only at *
      generalize startS (n : Int) (P, Q) = st at *
      generalize hX : Q * (x : Int) = X at *
      generalize hY : P * (y : Int) = Y at *
      have n1 : IntKind.i64.wrap X = X := by rw [IntKind.wrap_i64]; omega
      have n2 : IntKind.i64.wrap Y = Y := by rw [IntKind.wrap_i64]; omega
      have n3 : IntKind.i64.wrap (st + X) = st + X := by rw [IntKind.wrap_i64]; omega
      have n4 : IntKind.i64.wrap (st + X - Y) = (j : Int) := by rw [IntKind.wrap_i64]; omega
      have hl := hide hl
      clear m1 m2 hs b1 b2 b3
      go_wp2_with fail
      clear p1 p2
      generalize wr.alloc (.cells #[.int .i64 P, .int .i64 Q] 35) = w2 at *
      generalize wr.heap.size = p at *
      have hfn : ∀ f, Fence.wide.fn f = True := fun _ => rfl
      refine (wpIn_wide (n := 0)).1 ?_
      refine region_far 20 mixed (by kernel_rfl) ?_
      simp only [List.take_succ_cons, List.take_zero, List.drop_succ_cons, List.drop_zero]
      repeat (gi_big_quiet_step (fail))
      refine wpQuietIn_nil ?_
      intro _ hw'
      obtain ⟨nq2, rfl⟩ := hw'
      have S3 := hide (unhide hb k _ _ (unhide S2) (belowN _ w2 nq2))
      clear S2 x2 x3 x4 x5
      generalize w2.drewN nq2 = w3 at *
      gi_wp2_with fail
      refine ⟨rfl, ?_⟩
      refine (callsIn_wide.2 (unhide kD w3 (unhide S3))).mono ?_
      rintro e w4 ⟨⟨_, rfl⟩, hS4⟩
      have S4 := hide hS4
      clear hS4 S3 kD
      gi_wp2_with fail
      go_wp2_with fail
      exact ⟨⟨k + 1, by omega, by go_num, S4⟩, by simp [intOf]; omega⟩
    · have e : k = L.length := by omega
      subst e
      have q1 : ((L.length : Int) < (L.length : Int)) = False := by simp
      go_wp2_with fail
      go_end0
      exact ⟨⟨_, rfl⟩, unhide hS⟩
end Go.Proofs.Ytgbkfmjkemkajaa

namespace Go.Proofs.Ytgbkfmjkemkajaa
open Go.RowKit Go.Shelf

section
variable {S : Nat → Prop} {w : World} {n : Nat} {L : List (Int × Int)} {a : Option Addr} {cap g o : Nat} {V : PV} {bo : Nat → Bool} {bk bk' : Nat → Nat → Bool} {v : Value} {m : Nat} {f : Nat → Nat × Nat}

theorem Peel.bkExt (h : Peel S w n L a cap g o V bo bk v m f) (he : ∀ k, k < L.length → bk k = bk' k) : Peel S w n L a cap g o V bo bk' v m f :=
  ⟨h.heap, mem_ext h.mem (fun r hr i _ => by
    match r with
    | 0 => rfl
    | 1 => rfl
    | 2 => rfl
    | r + 3 =>
      have hr' : r < L.length := by
        rcases hr with e | ⟨e, _⟩ <;> omega
      show (if i % 2 = 0 then Value.int .i64 (cntL n (dk L r) (bk r) ((i / 2 : Nat) : Int) : Nat) else Value.int .i64 (sumL n (dk L r) (bk r) ((i / 2 : Nat) : Int) : Nat)) = (if i % 2 = 0 then Value.int .i64 (cntL n (dk L r) (bk' r) ((i / 2 : Nat) : Int) : Nat) else Value.int .i64 (sumL n (dk L r) (bk' r) ((i / 2 : Nat) : Int) : Nat))
      rw [he r hr']), h.apB, h.apQ, h.sB, h.sR, h.sQ, h.sS, h.atF, h.atL, h.dirs, h.dS⟩
theorem Peel.boExt {bo' : Nat → Bool} (h : Peel S w n L a cap g o V bo bk v m f) (he : ∀ i, i < n * n → bo i = bo' i) : Peel S w n L a cap g o V bo' bk v m f :=
  ⟨h.heap, mem_ext h.mem (fun r hr i hi => by
    match r with
    | 0 =>
      show Value.bool (bo i) = .bool (bo' i)
      rw [he i hi]
    | 1 => rfl
    | 2 => rfl
    | r + 3 => rfl), h.apB, h.apQ, h.sB, h.sR, h.sQ, h.sS, h.atF, h.atL, h.dirs, h.dS⟩
end

theorem Peel.less {S S' : Nat → Prop} {w : World} {n : Nat} {L : List (Int × Int)} {a : Option Addr} {cap g o : Nat} {V : PV} {bo : Nat → Bool} {bk : Nat → Nat → Bool} {v : Value} {m : Nat} {f : Nat → Nat × Nat} (h : Peel S w n L a cap g o V bo bk v m f) (hs : ∀ x, S' x → S x) (hd : 0 < L.length → S' g) : Peel S' w n L a cap g o V bo bk v m f :=
  h.more (fun x hx => h.sS x (hs x hx)) (fun hx => h.sB (hs _ hx)) (fun r hr hx => h.sR r hr (hs _ hx)) (fun q hq hx => h.sQ q hq (hs _ hx)) hd

/-- A new block more is left alone. -/
theorem Peel.plus {S : Nat → Prop} {w w' : World} {n : Nat} {L : List (Int × Int)} {a : Option Addr} {cap g o : Nat} {V : PV} {bo : Nat → Bool} {bk : Nat → Nat → Bool} {v : Value} {m : Nat} {f : Nat → Nat × Nat} (h : Peel S w n L a cap g o V bo bk v m f) (hb : Below w.heap.size w w') {N : Nat → Prop} (hN : ∀ x, N x → w.heap.size ≤ x ∧ x < w'.heap.size) : Peel (fun x => S x ∨ N x) w' n L a cap g o V bo bk v m f := by
  refine (h.below hb).more (fun x hx => ?_) (fun hx => ?_) (fun r hr hx => ?_) (fun q hq hx => ?_) (fun hl => Or.inl (h.dS hl))
  · rcases hx with hx | hx
    · exact Nat.lt_of_lt_of_le (h.sS x hx) hb.size
    · exact (hN x hx).2
  · rcases hx with hx | hx
    · exact h.sB hx
    · have := (hN _ hx).1; have := h.heap.lt; omega
  · rcases hx with hx | hx
    · exact h.sR r hr hx
    · have := (hN _ hx).1; have := h.lt hr; omega
  · rcases hx with hx | hx
    · exact h.sQ q hq hx
    · have := (hN _ hx).1; have := h.heap.qv.lt hq; omega

theorem bkAt_next (b : Nat → Bool) (c k : Nat) : (fun i => if i = k then shutB b c else bkAt b c k i) = bkAt b c (k + 1) := by
  funext i
  by_cases e : i = k
  · subst e
    rw [if_pos rfl, bkAt_new]
  · rw [if_neg e, bkAt_ne e]

/-- What holds while a cell's lines are gone through. -/
def CloseSt (S : Nat → Prop) (w0 : World) (n : Nat) (L : List (Int × Int)) (a : Option Addr) (cap g o : Nat) (V : PV) (b : Nat → Bool) (c : Nat) (but : Nat × Nat → Prop) (m0 : Nat) (k : Nat) (W : World) : Prop :=
  (∃ v m f, Peel S W n L a cap g o V (shutB b c) (bkAt b c k) v m f ∧ QOk n L (bkAt b c k) f m but ∧ m ≤ m0 + k) ∧ Aside S w0 W

theorem CloseSt.below {S : Nat → Prop} {w0 : World} {n : Nat} {L : List (Int × Int)} {a : Option Addr} {cap g o : Nat} {V : PV} {b : Nat → Bool} {c : Nat} {but : Nat × Nat → Prop} {m0 k : Nat} {W W' : World} (h : CloseSt S w0 n L a cap g o V b c but m0 k W) (hb : Below W.heap.size W W') : CloseSt S w0 n L a cap g o V b c but m0 k W' := by
  obtain ⟨⟨v, m, f, h1, h2, h3⟩, h4⟩ := h
  exact ⟨⟨v, m, f, h1.below hb, h2, h3⟩, h4.trans (Aside.of_below hb h1.sS)⟩

set_option maxRecDepth 100000 in
set_option maxHeartbeats 3200000 in
theorem closeDo {S : Nat → Prop} {w0 : World} {n : Nat} {L : List (Int × Int)} {a : Option Addr} {cap g o : Nat} {V : PV} {b : Nat → Bool} {c : Nat} {but : Nat × Nat → Prop} {m0 k j b1 b2 : Nat} (h64 : n ≤ 64) (hL : L.length ≤ 64) (hc : c < n * n) (hbc : b c = true) (hm : m0 + 64 < 1000000)
    (s1 : S b1) (s2 : S b2) (x1 : w0.cell? ⟨b1, 0, none⟩ = some (.pointer (some ⟨V.B, 0, none⟩))) (x2 : w0.cell? ⟨b2, 0, none⟩ = some (.int .i64 c))
    (hk : k < L.length) (hj : j < binN n (dk L k)) (hl : lnI n (dk L k) c = (j : Int)) (W : World) (h : CloseSt S w0 n L a cap g o V b c but m0 k W) :
    Calls Try.prog 72 #[.agg #[.int .i64 k, .int .i64 j], .pointer (some ⟨b1, 0, none⟩), .pointer (some ⟨b2, 0, none⟩)] W fun e W' => (∃ u, e = .returned u) ∧ CloseSt S w0 n L a cap g o V b c but m0 (k + 1) W' := by
  obtain ⟨⟨v, m, f, hP, hQ, hm1⟩, hA⟩ := h
  have hsq : n * n ≤ 4096 := Nat.mul_le_mul h64 h64
  have hlt1 : b1 < W.heap.size := hP.sS b1 s1
  have hlt2 : b2 < W.heap.size := hP.sS b2 s2
  have y1 := hide (heap_alloc_new W (.cells #[.int .i64 k, .int .i64 j] 81))
  have y2 := hide ((Below.refl W.heap.size W).alloc (Nat.le_refl _) (.cells #[.int .i64 k, .int .i64 j] 81))
  have hd := hide hP.dS
  have H1 := hide (hP.plus (N := fun x => x = W.heap.size) (unhide y2) (fun x hx => by rw [World.size_alloc]; omega))
  have A1 := hide (hA.trans (Aside.of_below (unhide y2) hP.sS))
  have d1 := (World.cell?_of_block (a := ⟨b1, 0, none⟩) ((unhide A1).block b1 s1)).trans x1
  have d2 := (World.cell?_of_block (a := ⟨b2, 0, none⟩) ((unhide A1).block b2 s2)).trans x2
  have x3 : (W.alloc (.cells #[.int .i64 k, .int .i64 j] 81)).cell? ⟨W.heap.size, 0, none⟩ = some (.int .i64 k) := cell_of_row _ W.heap.size 0 _ _ (0, 0) (unhide y1)
  have x4 : (W.alloc (.cells #[.int .i64 k, .int .i64 j] 81)).cell? ⟨W.heap.size, 1, none⟩ = some (.int .i64 j) := cell_of_row _ W.heap.size 1 _ _ (0, 0) (unhide y1)
  have o1 := cntL_shut (d := dk L k) hc hbc (j : Int)
  have o2 := sumL_shut (d := dk L k) hc hbc (j : Int)
  rw [if_pos hl] at o1 o2
  have o3 := cntL_le n (dk L k) (shutB b c) (j : Int)
  have o4 := sumL_le h64 (dk L k) (shutB b c) (j : Int)
  have kC := hide (fun (W' : World) (hW : Peel (fun x => S x ∨ x = W.heap.size) W' n L a cap g o V (shutB b c) (bkAt b c k) v m f) => peelCount (many := -1) (sum := -(c : Int)) (b' := shutB b c) hk hj
    (fun i hi => by
      rw [bkAt_old]
      have g1 := cntL_shut (d := dk L k) hc hbc (i : Int)
      have g2 := sumL_shut (d := dk L k) hc hbc (i : Int)
      rw [if_neg (by omega)] at g1 g2
      exact ⟨g1, g2⟩)
    (by rw [bkAt_old]; omega) (by rw [bkAt_old]; omega) (by omega) (by omega) W' hW)
  rw [bkAt_next] at kC
  have kK := hide (fun (W' : World) (hW : Peel (fun x => S x ∨ x = W.heap.size) W' n L a cap g o V (shutB b c) (bkAt b c (k + 1)) v m f) => peelLook hk hj (by omega) W' hW)
  rw [bkAt_new] at kK
  have hfin : Hid (∀ W', Aside S w0 W' → (∃ v' m' f', Peel (fun x => S x ∨ x = W.heap.size) W' n L a cap g o V (shutB b c) (bkAt b c (k + 1)) v' m' f' ∧ ((cntL n (dk L k) (shutB b c) (j : Int) = 1 ∧ m' = m + 1 ∧ ∀ y, InQ f' (m + 1) y ↔ y = (k, j) ∨ InQ f m y) ∨ (cntL n (dk L k) (shutB b c) (j : Int) ≠ 1 ∧ m' = m ∧ f' = f))) → CloseSt S w0 n L a cap g o V b c but m0 (k + 1) W') := fun W' hA' ⟨v', m', f', hP', hq⟩ => by
    refine ⟨?_, hA'⟩
    have hP' := hP'.less (S' := S) (fun x hx => Or.inl hx) (unhide hd)
    rcases hq with ⟨h1, rfl, h2⟩ | ⟨h1, rfl, rfl⟩
    · exact ⟨v', m + 1, f', hP', hQ.put hc hbc hk hj hl h1 h2, by omega⟩
    · exact ⟨v', m', f', hP', hQ.pass hc hbc hl h1, by omega⟩
  have z1 : IntKind.i64.wrap (-(c : Int)) = -(c : Int) := by rw [IntKind.wrap_i64]; omega
  clear hP hQ hA x1 x2 o1 o2 o3 o4
  go_enter Try.func72, Try.ntmps72
  go_wp2_with fail
  refine (unhide kC _ (unhide H1)).mono ?_
  rintro e w2 ⟨⟨_, rfl⟩, hP2, hA2⟩
  have e1 := (World.cell?_of_block (a := ⟨b1, 0, none⟩) (hA2.block b1 (Or.inl s1))).trans d1
  have e3 := (World.cell?_of_block (a := ⟨W.heap.size, 0, none⟩) (hA2.block _ (Or.inr rfl))).trans x3
  have e4 := (World.cell?_of_block (a := ⟨W.heap.size, 1, none⟩) (hA2.block _ (Or.inr rfl))).trans x4
  have H2 := hide hP2
  have A2 := hide ((unhide A1).trans (hA2.mono fun x hx => Or.inl hx))
  clear hP2 hA2 H1 A1 kC y1 y2 d1 d2 x3 x4
  go_wp2_with fail
  refine (unhide kK _ (unhide H2)).mono ?_
  rintro e w3 ⟨⟨_, rfl⟩, hP3, hA3⟩
  have R3 := hide (unhide hfin w3 ((unhide A2).trans (hA3.mono fun x hx => Or.inl hx)) hP3)
  clear hP3 hA3 kK hfin A2 H2
  go_wp2_with fail
  go_end0
  exact ⟨⟨_, rfl⟩, unhide R3⟩

set_option maxRecDepth 100000 in
set_option maxHeartbeats 3200000 in
theorem peelClose {S : Nat → Prop} {n : Nat} {L : List (Int × Int)} {a : Option Addr} {cap g o : Nat} {V : PV} {b : Nat → Bool} {c m : Nat} {v : Value} {f : Nat → Nat × Nat} {but : Nat × Nat → Prop} (hn : 1 ≤ n) (h64 : n ≤ 64) (hL : L.length ≤ 64) (ho : ∀ d, d ∈ L → okD d.1 d.2 = true) (hc : c < n * n) (hbc : b c = true) (hm : m + 64 < 1000000)
    (w : World) (h : Peel S w n L a cap g o V b (fun _ => b) v m f) (hq : QOk n L (fun _ => b) f m but) :
    Calls Try.prog 45 #[.pointer (some ⟨V.B, 0, none⟩), .int .i64 c] w fun e w' => (∃ u, e = .returned u) ∧ (∃ v' m' f', Peel S w' n L a cap g o V (shutB b c) (fun _ => shutB b c) v' m' f' ∧ QOk n L (bkAt b c L.length) f' m' but ∧ m' ≤ m + L.length) ∧ Aside S w w' := by
  have hsq : n * n ≤ 4096 := Nat.mul_le_mul h64 h64
  have q1 : ((c : Int) < ((n * n : Nat) : Int)) = True := by simp; omega
  have y2 := hide (((Below.refl w.heap.size w).alloc (Nat.le_refl _) (.cells #[.pointer (some ⟨V.B, 0, none⟩)] 50)).alloc (by rw [World.size_alloc]; omega) (.cells #[.int .i64 c] 3))
  have hsz : ((w.alloc (.cells #[.pointer (some ⟨V.B, 0, none⟩)] 50)).alloc (.cells #[.int .i64 c] 3)).heap.size = w.heap.size + 2 := by rw [World.size_alloc, World.size_alloc]
  have H1 := hide (h.plus (N := fun x => x = w.heap.size ∨ x = w.heap.size + 1) (unhide y2) (fun x hx => by rw [hsz]; omega))
  have A1 := hide (Aside.of_below (unhide y2) h.sS)
  have hd := hide h.dS
  have x1 : ((w.alloc (.cells #[.pointer (some ⟨V.B, 0, none⟩)] 50)).alloc (.cells #[.int .i64 c] 3)).cell? ⟨w.heap.size, 0, none⟩ = some (.pointer (some ⟨V.B, 0, none⟩)) :=
    (World.cell?_of_block (a := ⟨w.heap.size, 0, none⟩) (Below.heap_alloc _ _ _ (by rw [World.size_alloc]; show w.heap.size < _; omega))).trans (cell_of_row _ w.heap.size 0 _ _ (0, 0) (heap_alloc_new w _))
  have x2 : ((w.alloc (.cells #[.pointer (some ⟨V.B, 0, none⟩)] 50)).alloc (.cells #[.int .i64 c] 3)).cell? ⟨w.heap.size + 1, 0, none⟩ = some (.int .i64 c) := by
    have := cell_of_row _ _ 0 _ _ (0, 0) (heap_alloc_new (w.alloc (.cells #[.pointer (some ⟨V.B, 0, none⟩)] 50)) (.cells #[.int .i64 c] 3))
    rw [World.size_alloc] at this
    exact this
  have c4 := (unhide H1).c4
  have c5 := (unhide H1).open_ hc
  have f5 := (unhide H1).frozen (live0 _) c
  have hq := hide hq
  clear h hsz
  go_enter Try.func45, Try.ntmps45
  go_wp2_with fail
  generalize (w.alloc (.cells #[.pointer (some ⟨V.B, 0, none⟩)] 50)).alloc (.cells #[.int .i64 c] 3) = w1 at *
  generalize w.heap.size = p at *
  go_region
  obtain ⟨hP2, hA2⟩ := (unhide H1).setOpen c
  have H2 := hide (hP2.below ((Below.refl _ _).drew))
  have A2 := hide ((unhide A1).trans ((hA2.drew).mono fun x hx => Or.inl hx))
  have e1 : (w1.setCell ⟨V.blk 0, c, none⟩ (.bool false)).drew.cell? ⟨p, 0, none⟩ = some (.pointer (some ⟨V.B, 0, none⟩)) := (World.cell?_of_block (a := ⟨p, 0, none⟩) (hA2.block p (Or.inr (Or.inl rfl)))).trans x1
  have e2 : (w1.setCell ⟨V.blk 0, c, none⟩ (.bool false)).drew.cell? ⟨p + 1, 0, none⟩ = some (.int .i64 c) := (World.cell?_of_block (a := ⟨p + 1, 0, none⟩) (hA2.block (p + 1) (Or.inr (Or.inr rfl)))).trans x2
  clear hP2 hA2 H1 A1 x1 x2 c4 c5 f5 y2
  generalize (w1.setCell ⟨V.blk 0, c, none⟩ (.bool false)).drew = w2 at *
  have k1 := hide (eachBin (S := fun x => S x ∨ (x = p ∨ x = p + 1)) (V := V) (cap := cap) (St := CloseSt (fun x => S x ∨ (x = p ∨ x = p + 1)) w2 n L a cap g o V b c but m) (lb := #[.pointer (some ⟨p, 0, none⟩), .pointer (some ⟨p + 1, 0, none⟩)]) hn h64 hL ho hc (enters_of Try.func72 (by kernel_rfl) rfl)
    (fun k W hW => by obtain ⟨⟨v, m, f, hW, _⟩, _⟩ := hW; exact ⟨_, _, v, m, f, hW⟩) (fun k W W' hW hb => hW.below hb)
    (fun k j W hk hj hl hW => closeDo h64 hL hc hbc hm (Or.inr (Or.inl rfl)) (Or.inr (Or.inr rfl)) e1 e2 hk hj hl W hW) w2 ⟨⟨v, m, f, unhide H2, unhide hq, by omega⟩, Aside.refl _ _⟩)
  clear H2
  go_wp2_with fail
  refine (unhide k1).mono ?_
  rintro e w3 ⟨⟨_, rfl⟩, ⟨⟨v3, m3, f3, hP3, hq3, hm3⟩, hA3⟩⟩
  have R3 := hide ((hP3.less (S' := S) (fun x hx => Or.inl hx) (unhide hd)).bkExt (bk' := fun _ => shutB b c) (fun k hk => if_pos hk))
  have A3 := hide ((unhide A2).trans (hA3.mono fun x hx => Or.inl hx))
  have Q3 := hide hq3
  clear hP3 hA3 hq3 k1 A2 e1 e2
  go_wp2_with fail
  go_end0
  exact ⟨⟨_, rfl⟩, ⟨v3, m3, f3, unhide R3, unhide Q3, hm3⟩, unhide A3⟩
end Go.Proofs.Ytgbkfmjkemkajaa
