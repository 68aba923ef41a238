/- The landed peeling in memory. -/
import Derived.Test.YtgbkfmjkemkajabPM0
import Derived.Test.YtgbkfmjkemkajabPH3
import Derived.Test.YtgbkfmjkemkajabPYQ
namespace Go.Proofs.Ytgbkfmjkemkajab
open Go.RowKit

theorem mixed : Try.prog.follows .mixedOrders = true := by kernel_rfl

structure PV where
  B : Nat
  blk : Nat → Nat
  aF : Option Addr
  aL : Option Addr
  cF : Nat
  cL : Nat
  cO : Nat

/-- The struct's cells but the heap. -/
def pc (n K : Nat) (a : Option Addr) (cap : Nat) (V : PV) : Nat → Value
  | 0 => .int .i64 n
  | 1 => .slice a K cap
  | 2 => .slice V.aF K V.cF
  | 3 => .slice V.aL K V.cL
  | _ => .slice (some ⟨V.blk 0, 0, none⟩) (n * n : Nat) V.cO

def PFv (n : Nat) (L : List (Int × Int)) (V : PV) (bo : Nat → Bool) (bk : Nat → Nat → Bool) : Nat → Nat → Value
  | 0, i => .bool (bo i)
  | 1, k => .int .i64 (startS n (dk L k))
  | 2, k => .slice (some ⟨V.blk (3 + k), 0, none⟩) (binN n (dk L k)) (binN n (dk L k))
  | r + 3, j => if j % 2 = 0 then .int .i64 (cntL n (dk L r) (bk r) ((j / 2 : Nat) : Int) : Nat) else .int .i64 (sumL n (dk L r) (bk r) ((j / 2 : Nat) : Int) : Nat)
def PTv : Nat → TypeId
  | 0 => 4
  | 1 => 3
  | 2 => 86
  | _ + 3 => 96
def PNv (n : Nat) (L : List (Int × Int)) : Nat → Nat
  | 0 => n * n
  | 1 => L.length
  | 2 => L.length
  | r + 3 => binN n (dk L r) * 2
def PLive (K r : Nat) : Prop := r = 0 ∨ (r < 3 + K ∧ 0 < K)

theorem dirs_keep {w w' : World} {a : Option Addr} {g o : Nat} {L : List (Int × Int)} (h : Dirs w a g o L) (hb : 0 < L.length → w'.heap[g]? = w.heap[g]?) (hs : w.heap.size ≤ w'.heap.size) : Dirs w' a g o L := by
  refine ⟨fun hl => ⟨(h.at_ hl).1, Nat.lt_of_lt_of_le (h.at_ hl).2 hs⟩, fun i c hi => ?_⟩
  have hl : 0 < L.length := by
    have := (List.getElem?_eq_some_iff.1 hi).1
    omega
  obtain ⟨h1, h2⟩ := h.cell i c hi
  exact ⟨(World.cell?_of_block (hb hl)).trans h1, (World.cell?_of_block (hb hl)).trans h2⟩

/-- A peeling: its struct with the heap, its rows, what is left alone. -/
structure Peel (S : Nat → Prop) (w : World) (n : Nat) (L : List (Int × Int)) (a : Option Addr) (cap g o : Nat) (V : PV) (bo : Nat → Bool) (bk : Nat → Nat → Bool) (v : Value) (m : Nat) (f : Nat → Nat × Nat) : Prop where
  heap : HeapAt w V.B (pc n L.length a cap V) v m f
  mem : Mem w 0 (PLive L.length) V.blk PTv (PNv n L) (PFv n L V bo bk)
  apB : ∀ r, PLive L.length r → V.blk r ≠ V.B
  apQ : ∀ r, PLive L.length r → v.ownBlock ≠ some (V.blk r)
  sB : ¬ S V.B
  sR : ∀ r, PLive L.length r → ¬ S (V.blk r)
  sQ : ∀ q, v.ownBlock = some q → ¬ S q
  sS : ∀ g, S g → g < w.heap.size
  atF : 0 < L.length → V.aF = some ⟨V.blk 1, 0, none⟩
  atL : 0 < L.length → V.aL = some ⟨V.blk 2, 0, none⟩
  dirs : Dirs w a g o L
  dS : 0 < L.length → S g

section
variable {S : Nat → Prop} {w w' : World} {n : Nat} {L : List (Int × Int)} {a : Option Addr} {cap g o : Nat} {V : PV} {bo bo' : Nat → Bool} {bk bk' : Nat → Nat → Bool} {v v' : Value} {m m' : Nat} {f f' : Nat → Nat × Nat}

theorem live0 (K : Nat) : PLive K 0 := Or.inl rfl
theorem live1 {K : Nat} (h : 0 < K) : PLive K 1 := Or.inr ⟨by omega, h⟩
theorem live2 {K : Nat} (h : 0 < K) : PLive K 2 := Or.inr ⟨by omega, h⟩
theorem live3 {K k : Nat} (h : k < K) : PLive K (k + 3) := Or.inr ⟨by omega, by omega⟩

theorem Peel.turn (h : Peel S w n L a cap g o V bo bk v m f) (hh : HeapAt w' V.B (pc n L.length a cap V) v' m' f') (ht : HTurn w w' V.B v v') : Peel S w' n L a cap g o V bo bk v' m' f' ∧ Aside S w w' := by
  have hS : Aside S w w' := ht.rest.mono fun x hx => ⟨h.sS x hx, fun e => h.sB (e ▸ hx), fun e => h.sQ x e hx⟩
  have kp : ∀ r, PLive L.length r → w'.heap[V.blk r]? = w.heap[V.blk r]? := fun r hr => ht.rest.block _ ⟨vrow_lt (h.mem.row r hr), h.apB r hr, h.apQ r hr⟩
  refine ⟨⟨hh, ⟨fun r hr => vrow_keep (h.mem.row r hr) (kp r hr), h.mem.above, h.mem.apart⟩, h.apB, fun r hr e => ?_, h.sB, h.sR, fun q hq hs => ?_, fun x hx => Nat.lt_of_lt_of_le (h.sS x hx) ht.rest.size, h.atF, h.atL, dirs_keep h.dirs (fun hl => hS.block g (h.dS hl)) ht.rest.size, h.dS⟩, hS⟩
  · rcases ht.own with ho | ⟨q, ho, hq⟩
    · exact h.apQ r hr (ho ▸ e)
    · rw [ho] at e
      have e : q = V.blk r := by simpa using e
      have := vrow_lt (h.mem.row r hr)
      omega
  · rcases ht.own with ho | ⟨q', ho, hq'⟩
    · exact h.sQ q (ho ▸ hq) hs
    · rw [ho] at hq
      have e : q' = q := by simpa using hq
      have := h.sS q hs
      omega

theorem Peel.below (h : Peel S w n L a cap g o V bo bk v m f) (hb : Below w.heap.size w w') : Peel S w' n L a cap g o V bo bk v m f :=
  (h.turn (h.heap.below hb) (HTurn.of_below hb)).1

theorem Peel.rows (h : Peel S w n L a cap g o V bo bk v m f) (hm : Mem w' 0 (PLive L.length) V.blk PTv (PNv n L) (PFv n L V bo' bk')) (ha : Aside (fun x => x < w.heap.size ∧ ∀ r, PLive L.length r → x ≠ V.blk r) w w') : Peel S w' n L a cap g o V bo' bk' v m f ∧ Aside S w w' := by
  have hS : Aside S w w' := ha.mono fun x hx => ⟨h.sS x hx, fun r hr e => h.sR r hr (e ▸ hx)⟩
  have hB : w'.heap[V.B]? = w.heap[V.B]? := ha.block _ ⟨h.heap.lt, fun r hr e => h.apB r hr e.symm⟩
  exact ⟨⟨⟨hB.trans h.heap.st, h.heap.qv.keep fun q hq => ha.block q ⟨h.heap.qv.lt hq, fun r hr e => h.apQ r hr (e ▸ hq)⟩, h.heap.ne⟩, hm, h.apB, h.apQ, h.sB, h.sR, h.sQ, fun x hx => Nat.lt_of_lt_of_le (h.sS x hx) ha.size, h.atF, h.atL, dirs_keep h.dirs (fun hl => hS.block g (h.dS hl)) ha.size, h.dS⟩, hS⟩

/-- More is left alone. -/
theorem Peel.more {S' : Nat → Prop} (h : Peel S w n L a cap g o V bo bk v m f) (h1 : ∀ x, S' x → x < w.heap.size) (hB : ¬ S' V.B) (hR : ∀ r, PLive L.length r → ¬ S' (V.blk r)) (hQ : ∀ q, v.ownBlock = some q → ¬ S' q) (hd : 0 < L.length → S' g) : Peel S' w n L a cap g o V bo bk v m f :=
  ⟨h.heap, h.mem, h.apB, h.apQ, hB, hR, hQ, h1, h.atF, h.atL, h.dirs, hd⟩

theorem Peel.c0 (h : Peel S w n L a cap g o V bo bk v m f) : w.cell? ⟨V.B, 0, none⟩ = some (.int .i64 n) := cell_of_row w V.B 0 _ _ (0, 0) h.heap.st
theorem Peel.c1 (h : Peel S w n L a cap g o V bo bk v m f) : w.cell? ⟨V.B, 1, none⟩ = some (.slice a L.length cap) := cell_of_row w V.B 1 _ _ (0, 0) h.heap.st
theorem Peel.c2 (h : Peel S w n L a cap g o V bo bk v m f) : w.cell? ⟨V.B, 2, none⟩ = some (.slice V.aF L.length V.cF) := cell_of_row w V.B 2 _ _ (0, 0) h.heap.st
theorem Peel.c3 (h : Peel S w n L a cap g o V bo bk v m f) : w.cell? ⟨V.B, 3, none⟩ = some (.slice V.aL L.length V.cL) := cell_of_row w V.B 3 _ _ (0, 0) h.heap.st
theorem Peel.c4 (h : Peel S w n L a cap g o V bo bk v m f) : w.cell? ⟨V.B, 4, none⟩ = some (.slice (some ⟨V.blk 0, 0, none⟩) (n * n : Nat) V.cO) := cell_of_row w V.B 4 _ _ (0, 0) h.heap.st
theorem Peel.open_ (h : Peel S w n L a cap g o V bo bk v m f) {i : Nat} (hi : i < n * n) : w.cell? ⟨V.blk 0, i, none⟩ = some (.bool (bo i)) := vrow_at (h.mem.row 0 (live0 _)) hi
theorem Peel.first (h : Peel S w n L a cap g o V bo bk v m f) {k : Nat} (hk : k < L.length) : w.cell? ⟨V.blk 1, k, none⟩ = some (.int .i64 (startS n (dk L k))) := vrow_at (h.mem.row 1 (live1 (by omega))) hk
theorem Peel.lines (h : Peel S w n L a cap g o V bo bk v m f) {k : Nat} (hk : k < L.length) : w.cell? ⟨V.blk 2, k, none⟩ = some (.slice (some ⟨V.blk (3 + k), 0, none⟩) (binN n (dk L k)) (binN n (dk L k))) := vrow_at (h.mem.row 2 (live2 (by omega))) hk
theorem Peel.cnt (h : Peel S w n L a cap g o V bo bk v m f) {k j : Nat} (hk : k < L.length) (hj : j < binN n (dk L k)) : w.cell? ⟨V.blk (3 + k), j * 2, none⟩ = some (.int .i64 (cntL n (dk L k) (bk k) (j : Int) : Nat)) := by
  have := vrow_at (i := j * 2) (h.mem.row (k + 3) (live3 hk)) (by show j * 2 < binN n (dk L k) * 2; omega)
  rw [Nat.add_comm 3 k, this]
  show some (if j * 2 % 2 = 0 then Value.int .i64 (cntL n (dk L k) (bk k) ((j * 2 / 2 : Nat) : Int) : Nat) else _) = _
  rw [if_pos (by omega), show j * 2 / 2 = j by omega]
theorem Peel.sum (h : Peel S w n L a cap g o V bo bk v m f) {k j : Nat} (hk : k < L.length) (hj : j < binN n (dk L k)) : w.cell? ⟨V.blk (3 + k), j * 2 + 1, none⟩ = some (.int .i64 (sumL n (dk L k) (bk k) (j : Int) : Nat)) := by
  have := vrow_at (i := j * 2 + 1) (h.mem.row (k + 3) (live3 hk)) (by show j * 2 + 1 < binN n (dk L k) * 2; omega)
  rw [Nat.add_comm 3 k, this]
  show some (if (j * 2 + 1) % 2 = 0 then _ else Value.int .i64 (sumL n (dk L k) (bk k) (((j * 2 + 1) / 2 : Nat) : Int) : Nat)) = _
  rw [if_neg (by omega), show (j * 2 + 1) / 2 = j by omega]
theorem Peel.lt (h : Peel S w n L a cap g o V bo bk v m f) {r : Nat} (hr : PLive L.length r) : V.blk r < w.heap.size := vrow_lt (h.mem.row r hr)
theorem Peel.frozen (h : Peel S w n L a cap g o V bo bk v m f) {r : Nat} (hr : PLive L.length r) (i : Nat) : w.frozen? ⟨V.blk r, i, none⟩ = false := vrow_frozen (h.mem.row r hr) i

theorem aside_rows (w : World) {V : PV} {K r : Nat} (hr : PLive K r) (i : Nat) (u : Value) : Aside (fun x => x < w.heap.size ∧ ∀ r, PLive K r → x ≠ V.blk r) w (w.setCell ⟨V.blk r, i, none⟩ u) :=
  (Aside.refl _ w).setCell (fun h => h.2 r hr rfl) u

/-- A cell closed. -/
theorem Peel.setOpen (h : Peel S w n L a cap g o V bo bk v m f) (c : Nat) : Peel S (w.setCell ⟨V.blk 0, c, none⟩ (.bool false)) n L a cap g o V (shutB bo c) bk v m f ∧ Aside S w (w.setCell ⟨V.blk 0, c, none⟩ (.bool false)) := by
  refine h.rows (mem_ext (mem_set h.mem (live0 _) c (.bool false)) fun r hr i hi => ?_) (aside_rows w (live0 _) c _)
  match r with
  | 0 =>
    show (if 0 = 0 ∧ i = c then Value.bool false else .bool (bo i)) = .bool (shutB bo c i)
    unfold shutB
    by_cases e : i = c
    · rw [if_pos ⟨rfl, e⟩, if_pos e]
    · rw [if_neg (fun x => e x.2), if_neg e]
  | r + 1 => rw [if_neg (by omega)]; match r with
    | 0 => rfl
    | 1 => rfl
    | r + 2 => rfl

/-- A line's two numbers. -/
theorem Peel.setLine (h : Peel S w n L a cap g o V bo bk v m f) {k j : Nat} {b' : Nat → Bool} (hk : k < L.length)
    (hs : ∀ i : Nat, i ≠ j → cntL n (dk L k) b' (i : Int) = cntL n (dk L k) (bk k) (i : Int) ∧ sumL n (dk L k) b' (i : Int) = sumL n (dk L k) (bk k) (i : Int)) :
    Peel S ((w.setCell ⟨V.blk (3 + k), j * 2, none⟩ (.int .i64 (cntL n (dk L k) b' (j : Int) : Nat))).setCell ⟨V.blk (3 + k), j * 2 + 1, none⟩ (.int .i64 (sumL n (dk L k) b' (j : Int) : Nat))) n L a cap g o V bo (fun i => if i = k then b' else bk i) v m f ∧
      Aside S w ((w.setCell ⟨V.blk (3 + k), j * 2, none⟩ (.int .i64 (cntL n (dk L k) b' (j : Int) : Nat))).setCell ⟨V.blk (3 + k), j * 2 + 1, none⟩ (.int .i64 (sumL n (dk L k) b' (j : Int) : Nat))) := by
  rw [Nat.add_comm 3 k]
  refine h.rows (mem_ext (mem_set (mem_set h.mem (live3 hk) _ _) (live3 hk) _ _) fun r hr i hi => ?_) (((Aside.refl _ w).setCell (fun h => h.2 _ (live3 hk) rfl) _).setCell (fun h => h.2 _ (live3 hk) rfl) _)
  by_cases e : r = k + 3
  · subst e
    show (if k + 3 = k + 3 ∧ i = j * 2 + 1 then _ else if k + 3 = k + 3 ∧ i = j * 2 then _ else (if i % 2 = 0 then Value.int .i64 (cntL n (dk L k) (bk k) ((i / 2 : Nat) : Int) : Nat) else Value.int .i64 (sumL n (dk L k) (bk k) ((i / 2 : Nat) : Int) : Nat))) =
      (if i % 2 = 0 then Value.int .i64 (cntL n (dk L k) (if k = k then b' else bk k) ((i / 2 : Nat) : Int) : Nat) else Value.int .i64 (sumL n (dk L k) (if k = k then b' else bk k) ((i / 2 : Nat) : Int) : Nat))
    rw [if_pos (rfl : k = k)]
    by_cases e1 : i = j * 2 + 1
    · rw [if_pos ⟨rfl, e1⟩, if_neg (by omega), show i / 2 = j by omega]
    · rw [if_neg (fun x => e1 x.2)]
      by_cases e2 : i = j * 2
      · rw [if_pos ⟨rfl, e2⟩, if_pos (by omega), show i / 2 = j by omega]
      · rw [if_neg (fun x => e2 x.2)]
        obtain ⟨s1, s2⟩ := hs (i / 2) (by omega)
        rw [s1, s2]
  · rw [if_neg (fun x => e x.1), if_neg (fun x => e x.1)]
    match r with
    | 0 => rfl
    | 1 => rfl
    | 2 => rfl
    | r + 3 =>
      show (if i % 2 = 0 then Value.int .i64 (cntL n (dk L r) (bk r) ((i / 2 : Nat) : Int) : Nat) else _) = (if i % 2 = 0 then Value.int .i64 (cntL n (dk L r) (if r = k then b' else bk r) ((i / 2 : Nat) : Int) : Nat) else Value.int .i64 (sumL n (dk L r) (if r = k then b' else bk r) ((i / 2 : Nat) : Int) : Nat))
      rw [if_neg (show ¬ r = k by omega)]
end
end Go.Proofs.Ytgbkfmjkemkajab
