/- The heap's own methods: what they do to a row of places. -/
import Derived.Test.YtgbkfmjkemkajabPH0
import Derived.Deep.RegionHeld3
import Derived.Deep.RegionLaw
import Derived.Maps.AppendAt
namespace Go.Proofs.Ytgbkfmjkemkajab
open Go.RowKit

/-- A row of places. -/
def PRow (w : World) (q m cap : Nat) (f : Nat → Nat × Nat) : Prop := ∃ cur : Array Value, w.heap[q]? = some (.cells cur 58 (0, 0)) ∧ (cur.size = cap * 2 ∧ m ≤ cap ∧ cap ≤ maxLen) ∧ ∀ i, i < m → cur[i * 2]? = some (.int .i64 ((f i).1 : Nat)) ∧ cur[i * 2 + 1]? = some (.int .i64 ((f i).2 : Nat))

theorem prow_at {w : World} {q m cap : Nat} {f : Nat → Nat × Nat} (h : PRow w q m cap f) {i : Nat} (hi : i < m) : w.cell? ⟨q, i * 2, none⟩ = some (.int .i64 ((f i).1 : Nat)) ∧ w.cell? ⟨q, i * 2 + 1, none⟩ = some (.int .i64 ((f i).2 : Nat)) := by
  obtain ⟨cur, h1, h2, h3⟩ := h
  obtain ⟨h4, h5⟩ := h3 i hi
  constructor
  · rw [cell_of_row w q _ cur _ (0, 0) h1]; exact h4
  · rw [cell_of_row w q _ cur _ (0, 0) h1]; exact h5
theorem prow_frozen {w : World} {q m cap : Nat} {f : Nat → Nat × Nat} (h : PRow w q m cap f) (i : Nat) : w.frozen? ⟨q, i, none⟩ = false := by
  obtain ⟨cur, h1, h2, h3⟩ := h
  exact frozen_of_row w q i cur _ h1
theorem prow_lt {w : World} {q m cap : Nat} {f : Nat → Nat × Nat} (h : PRow w q m cap f) : q < w.heap.size := by
  obtain ⟨cur, h1, _⟩ := h
  exact (Array.getElem?_eq_some_iff.1 h1).1
theorem prow_keep {w w' : World} {q m cap : Nat} {f : Nat → Nat × Nat} (h : PRow w q m cap f) (hb : w'.heap[q]? = w.heap[q]?) : PRow w' q m cap f := by
  obtain ⟨cur, h1, h2, h3⟩ := h
  exact ⟨cur, by rw [hb]; exact h1, h2, h3⟩

set_option maxRecDepth 100000 in
set_option maxHeartbeats 1600000 in
theorem qLess {q m cap i j : Nat} {f : Nat → Nat × Nat} (hi : i < m) (hj : j < m) (w : World) (h : PRow w q m cap f) :
    Calls Try.prog 109 #[.slice (some ⟨q, 0, none⟩) m cap, .int .i64 i, .int .i64 j] w fun e w' => (∃ b, e = .returned (.bool b)) ∧ Below w.heap.size w w' := by
  obtain ⟨c1, c2⟩ := prow_at h hi
  obtain ⟨d1, d2⟩ := prow_at h hj
  have q1 : ((i : Int) < (m : Int)) = True := by simp; omega
  have q2 : ((j : Int) < (m : Int)) = True := by simp; omega
  generalize (f i).1 = a1 at *
  generalize (f i).2 = a2 at *
  generalize (f j).1 = b1 at *
  generalize (f j).2 = b2 at *
  clear h hi hj
  by_cases e : a1 = b1
  · subst e
    go_enter Try.func109, Try.ntmps109
    go_wp2_with fail
    go_quiet (fail)
    go_wp2_with fail
    go_quiet (fail)
    go_wp2_with fail
    go_ret
    exact ⟨⟨_, rfl⟩, ⟨rfl, rfl, rfl, Nat.le_refl _, fun _ _ => rfl⟩⟩
  · have q3 : ((a1 : Int) == (b1 : Int)) = false := by simp; omega
    have e' := hide e
    clear e
    go_enter Try.func109, Try.ntmps109
    go_wp2_with fail
    go_quiet (fail)
    go_wp2_with fail
    go_quiet (fail)
    go_wp2_with fail
    go_ret
    exact ⟨⟨_, rfl⟩, ⟨rfl, rfl, rfl, Nat.le_refl _, fun _ _ => rfl⟩⟩

/-- What lies there is left as it lay. -/
structure Aside (S : Nat → Prop) (w w' : World) : Prop where
  os : w'.os = w.os
  tape : w'.tape = w.tape
  output : w'.output = w.output
  size : w.heap.size ≤ w'.heap.size
  block : ∀ g, S g → w'.heap[g]? = w.heap[g]?
theorem Aside.refl (S : Nat → Prop) (w : World) : Aside S w w := ⟨rfl, rfl, rfl, Nat.le_refl _, fun _ _ => rfl⟩
theorem Aside.trans {S : Nat → Prop} {w w' w'' : World} (h : Aside S w w') (k : Aside S w' w'') : Aside S w w'' :=
  ⟨k.os.trans h.os, k.tape.trans h.tape, k.output.trans h.output, Nat.le_trans h.size k.size, fun g hg => (k.block g hg).trans (h.block g hg)⟩
theorem Aside.mono {S S' : Nat → Prop} {w w' : World} (h : Aside S w w') (hs : ∀ g, S' g → S g) : Aside S' w w' := ⟨h.os, h.tape, h.output, h.size, fun g hg => h.block g (hs g hg)⟩
theorem Aside.of_below {S : Nat → Prop} {n : Nat} {w w' : World} (h : Below n w w') (hs : ∀ g, S g → g < n) : Aside S w w' := ⟨h.os, h.tape, h.output, h.size, fun g hg => h.block g (hs g hg)⟩
theorem Aside.below {S : Nat → Prop} {n : Nat} {w w' : World} (h : Aside S w w') (hs : ∀ g, g < n → S g) : Below n w w' := ⟨h.os, h.tape, h.output, h.size, fun g hg => h.block g (hs g hg)⟩

theorem Aside.drew {S : Nat → Prop} {w w' : World} (h : Aside S w w') : Aside S w w'.drew := ⟨h.os, h.tape, h.output, h.size, h.block⟩
theorem Aside.setCell {S : Nat → Prop} {w w' : World} (h : Aside S w w') {p : Addr} (hp : ¬ S p.block) (v : Value) : Aside S w (w'.setCell p v) := by
  have k := (Below.refl 0 w').setCell (p := p) (Nat.zero_le _) v
  exact ⟨k.os.trans h.os, k.tape.trans h.tape, k.output.trans h.output, Nat.le_trans h.size k.size, fun g hg => (Below.heap_setCell _ _ _ _ (fun e => hp (e ▸ hg))).trans (h.block g hg)⟩
theorem Aside.alloc {S : Nat → Prop} {w w' : World} (h : Aside S w w') (hs : ∀ g, S g → g < w'.heap.size) (o : Obj) : Aside S w (w'.alloc o) :=
  h.trans (Aside.of_below ((Below.refl w'.heap.size w').alloc (Nat.le_refl _) o) hs)

def updF (f : Nat → Nat × Nat) (i : Nat) (x : Nat × Nat) : Nat → Nat × Nat := fun k => if k = i then x else f k
theorem swap_upd (f : Nat → Nat × Nat) (i j : Nat) : updF (updF f i (f j)) j (f i) = swapF f i j := by
  funext k
  unfold updF swapF
  by_cases e : k = i
  · subst e
    rw [if_pos rfl, if_pos rfl]
    split
    · next e2 => rw [e2]
    · rfl
  · rw [if_neg e, if_neg e]
theorem prow_set {w : World} {q m cap : Nat} {f : Nat → Nat × Nat} (h : PRow w q m cap f) {i : Nat} (hi : i < m) (x : Nat × Nat) :
    PRow ((w.setCell ⟨q, i * 2, none⟩ (.int .i64 (x.1 : Nat))).setCell ⟨q, i * 2 + 1, none⟩ (.int .i64 (x.2 : Nat))) q m cap (updF f i x) := by
  obtain ⟨cur, h1, h2, h3⟩ := h
  have a1 := heap_setCell_same w q (i * 2) cur _ (.int .i64 (x.1 : Nat)) h1
  have a2 := heap_setCell_same _ q (i * 2 + 1) _ _ (.int .i64 (x.2 : Nat)) a1
  refine ⟨_, a2, by simpa using h2, fun k hk => ?_⟩
  unfold updF
  by_cases e : k = i
  · subst e
    rw [if_pos rfl]
    constructor
    · rw [Array.getElem?_setIfInBounds_ne (by omega), Array.getElem?_setIfInBounds_self_of_lt (by omega)]
    · rw [Array.getElem?_setIfInBounds_self_of_lt (by rw [Array.size_setIfInBounds]; omega)]
  · rw [if_neg e]
    obtain ⟨h4, h5⟩ := h3 k hk
    constructor
    · rw [Array.getElem?_setIfInBounds_ne (by omega), Array.getElem?_setIfInBounds_ne (by omega)]; exact h4
    · rw [Array.getElem?_setIfInBounds_ne (by omega), Array.getElem?_setIfInBounds_ne (by omega)]; exact h5
theorem prow_swap {w : World} {q m cap : Nat} {f : Nat → Nat × Nat} (h : PRow w q m cap f) {i j : Nat} (hi : i < m) (hj : j < m) :
    PRow ((((w.setCell ⟨q, i * 2, none⟩ (.int .i64 ((f j).1 : Nat))).setCell ⟨q, i * 2 + 1, none⟩ (.int .i64 ((f j).2 : Nat))).setCell ⟨q, j * 2, none⟩ (.int .i64 ((f i).1 : Nat))).setCell ⟨q, j * 2 + 1, none⟩ (.int .i64 ((f i).2 : Nat))).drew q m cap (swapF f i j) := by
  have := prow_set (prow_set h hi (f j)) hj (f i)
  rw [swap_upd] at this
  exact prow_keep this rfl

set_option maxRecDepth 100000 in
set_option maxHeartbeats 1600000 in
theorem qSwap {q m cap i j : Nat} {f : Nat → Nat × Nat} (hi : i < m) (hj : j < m) (w : World) (h : PRow w q m cap f) :
    Calls Try.prog 110 #[.slice (some ⟨q, 0, none⟩) m cap, .int .i64 i, .int .i64 j] w fun e w' => (∃ v, e = .returned v) ∧ PRow w' q m cap (swapF f i j) ∧ Aside (fun g => g < w.heap.size ∧ g ≠ q) w w' := by
  obtain ⟨c1, c2⟩ := prow_at h hi
  obtain ⟨d1, d2⟩ := prow_at h hj
  have fz := fun k => prow_frozen h k
  have q1 : ((i : Int) < (m : Int)) = True := by simp; omega
  have q2 : ((j : Int) < (m : Int)) = True := by simp; omega
  have H := hide h
  clear h
  have f1 := fz (i * 2)
  have f2 := fz (i * 2 + 1)
  have f3 := fz (j * 2)
  have f4 := fz (j * 2 + 1)
  clear fz
  have hfin : Hid (PRow ((((w.setCell ⟨q, i * 2, none⟩ (.int .i64 ((f j).1 : Nat))).setCell ⟨q, i * 2 + 1, none⟩ (.int .i64 ((f j).2 : Nat))).setCell ⟨q, j * 2, none⟩ (.int .i64 ((f i).1 : Nat))).setCell ⟨q, j * 2 + 1, none⟩ (.int .i64 ((f i).2 : Nat))).drew q m cap (swapF f i j) ∧ Aside (fun g => g < w.heap.size ∧ g ≠ q) w ((((w.setCell ⟨q, i * 2, none⟩ (.int .i64 ((f j).1 : Nat))).setCell ⟨q, i * 2 + 1, none⟩ (.int .i64 ((f j).2 : Nat))).setCell ⟨q, j * 2, none⟩ (.int .i64 ((f i).1 : Nat))).setCell ⟨q, j * 2 + 1, none⟩ (.int .i64 ((f i).2 : Nat))).drew) :=
    ⟨prow_swap (unhide H) hi hj, ((((Aside.refl _ w).setCell (fun h => h.2 rfl) _).setCell (fun h => h.2 rfl) _).setCell (fun h => h.2 rfl) _).setCell (fun h => h.2 rfl) _ |>.drew⟩
  clear H
  by_cases e : i = j
  · subst e
    go_enter Try.func110, Try.ntmps110
    go_wp2_with fail
    go_region
    all_goals go_end0
    all_goals exact ⟨⟨_, rfl⟩, unhide hfin⟩
  · have e' := hide e
    have n1 : (i * 2 = j * 2) = False := by simp; omega
    have n2 : (i * 2 = j * 2 + 1) = False := by simp; omega
    have n3 : (i * 2 + 1 = j * 2) = False := by simp; omega
    have n4 : (j * 2 = i * 2) = False := by simp; omega
    have n5 : (j * 2 = i * 2 + 1) = False := by simp; omega
    have n6 : (j * 2 + 1 = i * 2) = False := by simp; omega
    have n7 : (i = j) = False := by simp; omega
    have n8 : (j = i) = False := by simp; omega
    clear e
    go_enter Try.func110, Try.ntmps110
    go_wp2_with fail
    go_region
    all_goals go_end0
    all_goals exact ⟨⟨_, rfl⟩, unhide hfin⟩

/-- The places' cells, one behind the other. -/
def plXs (f : Nat → Nat × Nat) : Nat → List Value
  | 0 => []
  | k + 1 => plXs f k ++ [.int .i64 ((f k).1 : Nat), .int .i64 ((f k).2 : Nat)]
theorem plXs_len (f : Nat → Nat × Nat) (k : Nat) : (plXs f k).length = k * 2 := by
  induction k with
  | zero => rfl
  | succ k ih =>
    show (plXs f k ++ [_, _]).length = _
    rw [List.length_append, ih]
    show k * 2 + 2 = _
    omega
theorem plXs_at {f : Nat → Nat × Nat} {k i : Nat} (h : i < k) : (plXs f k)[i * 2]? = some (.int .i64 ((f i).1 : Nat)) ∧ (plXs f k)[i * 2 + 1]? = some (.int .i64 ((f i).2 : Nat)) := by
  induction k with
  | zero => omega
  | succ k ih =>
    show (plXs f k ++ [_, _])[i * 2]? = _ ∧ (plXs f k ++ [_, _])[i * 2 + 1]? = _
    by_cases e : i = k
    · subst e
      rw [List.getElem?_append_right (by rw [plXs_len]; omega), List.getElem?_append_right (by rw [plXs_len]; omega), plXs_len, Nat.sub_self, Nat.add_sub_cancel_left]
      exact ⟨rfl, rfl⟩
    · rw [List.getElem?_append_left (by rw [plXs_len]; omega), List.getElem?_append_left (by rw [plXs_len]; omega)]
      exact ih (by omega)
theorem take_pl {cur : Array Value} {f : Nat → Nat × Nat} {m : Nat} (h : ∀ i, i < m → cur[i * 2]? = some (.int .i64 ((f i).1 : Nat)) ∧ cur[i * 2 + 1]? = some (.int .i64 ((f i).2 : Nat))) : cur.toList.take (m * 2) = plXs f m := by
  induction m with
  | zero => simp [plXs]
  | succ m ih =>
    obtain ⟨h1, h2⟩ := h m (by omega)
    have e : (m + 1) * 2 = m * 2 + 1 + 1 := by omega
    rw [e, List.take_add_one, List.take_add_one, ih fun i hi => h i (by omega), Array.getElem?_toList, Array.getElem?_toList, h1, h2, List.append_assoc]
    rfl

/-- A list of places, wherever it lies. -/
def QV (w : World) (v : Value) (m : Nat) (f : Nat → Nat × Nat) : Prop := (v = .slice none 0 0 ∧ m = 0) ∨ ∃ q cap, v = .slice (some ⟨q, 0, none⟩) m cap ∧ PRow w q m cap f

theorem QV.own {w : World} {v : Value} {m : Nat} {f : Nat → Nat × Nat} (h : QV w v m f) : w.ownsRow 0 58 2 v m (plXs f m) := by
  refine ⟨plXs_len f m, ?_⟩
  rcases h with h | ⟨q, cap, rfl, cur, h1, ⟨h2, h3, h4⟩, h5⟩
  · exact Or.inl h
  · exact Or.inr ⟨q, cap, cur, rfl, Nat.zero_le _, h1, h3, h4, h2, take_pl h5⟩
theorem qv_of {w : World} {v : Value} {m : Nat} {f : Nat → Nat × Nat} {xs : List Value} (h : w.ownsRow 0 58 2 v m xs) (hx : xs = plXs f m) : QV w v m f := by
  subst hx
  rcases h.2 with h | ⟨q, cap, cur, rfl, _, h1, h3, h4, h2, h5⟩
  · exact Or.inl h
  · refine Or.inr ⟨q, cap, rfl, cur, h1, ⟨h2, h3, h4⟩, fun i hi => ?_⟩
    obtain ⟨a1, a2⟩ := plXs_at (f := f) hi
    rw [← h5, List.getElem?_take, if_pos (by omega), Array.getElem?_toList] at a1 a2
    exact ⟨a1, a2⟩
theorem QV.keep {w w' : World} {v : Value} {m : Nat} {f : Nat → Nat × Nat} (h : QV w v m f) (hb : ∀ q, v.ownBlock = some q → w'.heap[q]? = w.heap[q]?) : QV w' v m f := by
  rcases h with h | ⟨q, cap, rfl, h⟩
  · exact Or.inl h
  · exact Or.inr ⟨q, cap, rfl, prow_keep h (hb q rfl)⟩
theorem QV.lt {w : World} {v : Value} {m : Nat} {f : Nat → Nat × Nat} (h : QV w v m f) {q : Nat} (hq : v.ownBlock = some q) : q < w.heap.size := by
  rcases h with ⟨rfl, _⟩ | ⟨q', cap, rfl, h⟩
  · cases hq
  · have : q' = q := by simpa [Value.ownBlock] using hq
    rw [← this]
    exact prow_lt h
theorem QV.put {f : Nat → Nat × Nat} {m : Nat} {x : Nat × Nat} : plXs (putF f m x) (m + 1) = plXs f m ++ [.int .i64 (x.1 : Nat), .int .i64 (x.2 : Nat)] := by
  have same : ∀ k, k ≤ m → plXs (putF f m x) k = plXs f k := by
    intro k
    induction k with
    | zero => intro _; rfl
    | succ k ih =>
      intro hk
      show plXs (putF f m x) k ++ [_, _] = plXs f k ++ [_, _]
      have e : putF f m x k = f k := if_neg (by omega)
      rw [ih (by omega), e]
  show plXs (putF f m x) m ++ [_, _] = _
  have e : putF f m x m = x := if_pos rfl
  rw [same m (Nat.le_refl _), e]

/-- The struct that holds the heap in its last cell. -/
def st6 (c : Nat → Value) (v : Value) : Array Value := #[c 0, c 1, c 2, c 3, c 4, v]
structure HeapAt (w : World) (B : Nat) (c : Nat → Value) (v : Value) (m : Nat) (f : Nat → Nat × Nat) : Prop where
  st : w.heap[B]? = some (.cells (st6 c v) 71 (0, 0))
  qv : QV w v m f
  ne : v.ownBlock ≠ some B
/-- What the heap's steps do: its own cell, its own list, new blocks. -/
structure HTurn (w w' : World) (B : Nat) (v v' : Value) : Prop where
  rest : Aside (fun g => g < w.heap.size ∧ g ≠ B ∧ v.ownBlock ≠ some g) w w'
  own : v'.ownBlock = v.ownBlock ∨ ∃ q, v'.ownBlock = some q ∧ w.heap.size ≤ q
theorem HTurn.trans {w w' w'' : World} {B : Nat} {v v' v'' : Value} (h : HTurn w w' B v v') (k : HTurn w' w'' B v' v'') : HTurn w w'' B v v'' := by
  refine ⟨h.rest.trans (k.rest.mono fun g hg => ⟨Nat.lt_of_lt_of_le hg.1 h.rest.size, hg.2.1, fun e => ?_⟩), ?_⟩
  · rcases h.own with ho | ⟨q, ho, hq⟩
    · exact hg.2.2 (ho ▸ e)
    · rw [ho] at e
      have e : q = g := by simpa using e
      have := hg.1
      omega
  · rcases k.own with ko | ⟨q, ko, hq⟩
    · rw [ko]; exact h.own
    · exact Or.inr ⟨q, ko, Nat.le_trans h.rest.size hq⟩
theorem HTurn.of_below {w w' : World} {B : Nat} {v : Value} (h : Below w.heap.size w w') : HTurn w w' B v v := ⟨Aside.of_below h fun _ hg => hg.1, Or.inl rfl⟩
theorem HeapAt.below {w w' : World} {B : Nat} {c : Nat → Value} {v : Value} {m : Nat} {f : Nat → Nat × Nat} (h : HeapAt w B c v m f) (hb : Below w.heap.size w w') : HeapAt w' B c v m f :=
  ⟨(hb.block _ (Array.getElem?_eq_some_iff.1 h.st).1).trans h.st, h.qv.keep fun _ hq => hb.block _ (h.qv.lt hq), h.ne⟩
theorem HeapAt.cell {w : World} {B : Nat} {c : Nat → Value} {v : Value} {m : Nat} {f : Nat → Nat × Nat} (h : HeapAt w B c v m f) : w.cell? ⟨B, 5, none⟩ = some v := cell_of_row w B 5 _ _ (0, 0) h.st
theorem HeapAt.frozen {w : World} {B : Nat} {c : Nat → Value} {v : Value} {m : Nat} {f : Nat → Nat × Nat} (h : HeapAt w B c v m f) : w.frozen? ⟨B, 5, none⟩ = false := frozen_of_row w B 5 _ _ h.st
/-- The cell is given another value. -/
theorem HeapAt.store {w : World} {B : Nat} {c : Nat → Value} {v v' : Value} (h : w.heap[B]? = some (.cells (st6 c v) 71 (0, 0))) : (w.setCell ⟨B, 5, none⟩ v').heap[B]? = some (.cells (st6 c v') 71 (0, 0)) :=
  heap_setCell_same w B 5 _ _ v' h
end Go.Proofs.Ytgbkfmjkemkajab
