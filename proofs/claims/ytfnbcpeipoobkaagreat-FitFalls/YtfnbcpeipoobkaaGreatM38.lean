/- The worker's loop. The worker's loop: the walk. The worker's way, well-founded. The look through directions. -/
import Derived.Test.YtfnbcpeipoobkaaGreatM34
import Derived.Test.YtfnbcpeipoobkaaGreatM36
import Derived.Test.YtfnbcpeipoobkaaGreatM37
import Derived.Test.YtfnbcpeipoobkaaGreatM17
import Derived.Deep.RegionHeld3
import Derived.Test.YtfnbcpeipoobkaaGreatM18
namespace Go.Proofs.YtfnbcpeipoobkaaGreat
open Go.RowKit

/-- All blocks but one lie as they lay. -/
structure But (x : Nat) (w w' : World) : Prop where
  size : w.heap.size ≤ w'.heap.size
  block : ∀ k, k < w.heap.size → k ≠ x → w'.heap[k]? = w.heap[k]?
theorem But.refl (x : Nat) (w : World) : But x w w := ⟨Nat.le_refl _, fun _ _ _ => rfl⟩
theorem But.below {x : Nat} {w w' w'' : World} (h : But x w w') (hb : Below w'.heap.size w' w'') : But x w w'' := ⟨Nat.le_trans h.size hb.size, fun k hk hx => (hb.block k (Nat.lt_of_lt_of_le hk h.size)).trans (h.block k hk hx)⟩
theorem But.drew {x : Nat} {w w' : World} (h : But x w w') : But x w w'.drew := ⟨h.size, h.block⟩
theorem But.set {x o : Nat} {w w' : World} (h : But x w w') (v : Value) : But x w (w'.setCell ⟨x, o, none⟩ v) := ⟨by rw [World.size_setCell]; exact h.size, fun k hk hx => by rw [heap_setCell_other _ _ _ _ (by exact hx)]; exact h.block k hk hx⟩
theorem But.cell {x : Nat} {w w' : World} (h : But x w w') {a : Addr} (ha : a.block < w.heap.size) (hx : a.block ≠ x) : w'.cell? a = w.cell? a := by
  unfold World.cell?
  rw [h.block _ ha hx]
/-- What the worker knows. -/
structure Wk (b : Nat) (w0 : World) (n g c m dc : Nat) (da : Option Addr) (t : Nat) (ps : List PD) (W : World) : Prop where
  low : ∀ k, k < b → W.heap[k]? = w0.heap[k]?
  big : b + 7 ≤ W.heap.size
  c0 : W.heap[b]? = some (.cells #[.int .i64 n, .slice (some ⟨g, 0, none⟩) (n * n : Nat) c] 27)
  c1 : W.heap[b + 1]? = some (.cells #[.slice da m dc] 23)
  row : ∃ cur : Array Value, W.heap[b + 2]? = some (.cells cur 40 (0, 0)) ∧ cur.size = m * 3 ∧ ∀ i, i < ps.length → cur[i * 3]? = some (.int .i64 (ps.getD i p0).d.1) ∧ cur[i * 3 + 1]? = some (.int .i64 (ps.getD i p0).d.2) ∧ cur[i * 3 + 2]? = some (.slice (some ⟨(ps.getD i p0).gb, 0, none⟩) (ps.getD i p0).nb (ps.getD i p0).cb)
  c3 : W.heap[b + 3]? = some (.cells #[.slice (some ⟨b + 2, 0, none⟩) m m] 31)
  c4 : W.heap[b + 4]? = some (.cells #[.int .i64 (t : Int)] 64)
  c5 : W.heap[b + 5]? = some (.cells #[.func (.func 20) #[] #[.pointer (some ⟨b + 4, 0, none⟩)]] 66)
  bins : ∀ i, i < ps.length → VRow W 28 (ps.getD i p0).gb (ps.getD i p0).nb (fun j => .complex .f64 ((ps.getD i p0).z j).1 ((ps.getD i p0).z j).2)
  new : ∀ i, i < ps.length → b + 7 ≤ (ps.getD i p0).gb
theorem cell_of {w : World} {g i : Nat} {cs : Array Value} {t : TypeId} {x : Value} (h : w.heap[g]? = some (.cells cs t)) (hi : cs[i]? = some x) : w.cell? ⟨g, i, none⟩ = some x := by
  unfold World.cell?
  rw [h]
  exact hi
theorem thaw_of {w : World} {g i : Nat} {cs : Array Value} {t : TypeId} (h : w.heap[g]? = some (.cells cs t)) : w.frozen? ⟨g, i, none⟩ = false := by
  unfold World.frozen?
  rw [h]
  simp
/-- The counter goes up. -/
theorem Wk.up {b : Nat} {w0 : World} {n g c m dc : Nat} {da : Option Addr} {t : Nat} {ps : List PD} {W : World} (h : Wk b w0 n g c m dc da t ps W) : Wk b w0 n g c m dc da (t + 1) ps (W.setCell ⟨b + 4, 0, none⟩ (.int .i64 ((t : Int) + 1))) := by
  have o : ∀ k, k ≠ b + 4 → (W.setCell ⟨b + 4, 0, none⟩ (.int .i64 ((t : Int) + 1))).heap[k]? = W.heap[k]? := fun k hk => heap_setCell_other _ _ _ _ hk
  refine ⟨fun k hk => (o k (by omega)).trans (h.low k hk), by rw [World.size_setCell]; exact h.big, (o _ (by omega)).trans h.c0, (o _ (by omega)).trans h.c1, ?_, (o _ (by omega)).trans h.c3, ?_, (o _ (by omega)).trans h.c5, fun i hi => ?_, h.new⟩
  · obtain ⟨cur, h1, h2⟩ := h.row
    exact ⟨cur, (o _ (by omega)).trans h1, h2⟩
  · have := heap_setCell_same W (b + 4) 0 _ _ (.int .i64 ((t : Int) + 1)) h.c4
    rw [this]
    simp
  · exact vrow_keep (h.bins i hi) (o _ (by have := h.new i hi; omega))
end Go.Proofs.YtfnbcpeipoobkaaGreat

namespace Go.Proofs.YtfnbcpeipoobkaaGreat
open Go.RowKit
attribute [local go_sem] store_complex

/-- The row of the projections. -/
def RowB (b m : Nat) (w : World) : Prop := ∃ cur : Array Value, w.heap[b + 2]? = some (.cells cur 40 (0, 0)) ∧ cur.size = m * 3
theorem rowB_at {b m i : Nat} {w : World} (h : RowB b m w) (hi : i < m * 3) : ∃ x, w.cell? ⟨b + 2, i, none⟩ = some x := by
  obtain ⟨cur, h1, h2⟩ := h
  exact ⟨cur[i]'(by omega), cell_of h1 (by simp [h2, hi])⟩
theorem rowB_thaw {b m i : Nat} {w : World} (h : RowB b m w) : w.frozen? ⟨b + 2, i, none⟩ = false := by
  obtain ⟨cur, h1, h2⟩ := h
  exact thaw_of h1
theorem RowB.set {b m o : Nat} {w : World} (h : RowB b m w) (v : Value) : RowB b m (w.setCell ⟨b + 2, o, none⟩ v) := by
  obtain ⟨cur, h1, h2⟩ := h
  exact ⟨_, heap_setCell_same w (b + 2) o _ _ v h1, by simp [h2]⟩
theorem held_but {x : Nat} {wr w8 w9 : World} {b m dc n g c gd o1 o2 : Nat} {da : Option Addr} {d1 d2 : Int} (hgd : gd < b) (hx : x = b + 2)
    (h : w8.cell? ⟨b, 0, none⟩ = some (.int .i64 n) ∧ w8.cell? ⟨b, 1, none⟩ = some (.slice (some ⟨g, 0, none⟩) (n * n : Nat) c) ∧ w8.cell? ⟨b + 1, 0, none⟩ = some (.slice da m dc) ∧ w8.cell? ⟨b + 3, 0, none⟩ = some (.slice (some ⟨b + 2, 0, none⟩) m m) ∧ w8.cell? ⟨gd, o1, none⟩ = some (.int .i64 d1) ∧ w8.cell? ⟨gd, o2, none⟩ = some (.int .i64 d2) ∧ Hid (But x wr w8) ∧ Hid (RowB b m w8))
    (h9 : But x wr w9) (h9r : RowB b m w9) (h89 : ∀ k, k < b + 7 → k ≠ x → w9.heap[k]? = w8.heap[k]?) :
    w9.cell? ⟨b, 0, none⟩ = some (.int .i64 n) ∧ w9.cell? ⟨b, 1, none⟩ = some (.slice (some ⟨g, 0, none⟩) (n * n : Nat) c) ∧ w9.cell? ⟨b + 1, 0, none⟩ = some (.slice da m dc) ∧ w9.cell? ⟨b + 3, 0, none⟩ = some (.slice (some ⟨b + 2, 0, none⟩) m m) ∧ w9.cell? ⟨gd, o1, none⟩ = some (.int .i64 d1) ∧ w9.cell? ⟨gd, o2, none⟩ = some (.int .i64 d2) ∧ Hid (But x wr w9) ∧ Hid (RowB b m w9) := by
  have k : ∀ a : Addr, a.block < b + 7 → a.block ≠ x → w9.cell? a = w8.cell? a := fun a h1 h2 => by unfold World.cell?; rw [h89 _ h1 h2]
  obtain ⟨e1, e2, e3, e4, e5, e6, _, _⟩ := h
  exact ⟨(k ⟨b, 0, none⟩ (by show b < _; omega) (by show b ≠ _; omega)).trans e1, (k ⟨b, 1, none⟩ (by show b < _; omega) (by show b ≠ _; omega)).trans e2, (k ⟨b + 1, 0, none⟩ (by show b + 1 < _; omega) (by show b + 1 ≠ _; omega)).trans e3, (k ⟨b + 3, 0, none⟩ (by show b + 3 < _; omega) (by show b + 3 ≠ _; omega)).trans e4, (k ⟨gd, o1, none⟩ (by show gd < _; omega) (by show gd ≠ _; omega)).trans e5, (k ⟨gd, o2, none⟩ (by show gd < _; omega) (by show gd ≠ _; omega)).trans e6, h9, h9r⟩
theorem held_drewB {wr w8 : World} {b m dc n g c gd o1 o2 : Nat} {da : Option Addr} {d1 d2 : Int} (h : w8.cell? ⟨b, 0, none⟩ = some (.int .i64 n) ∧ w8.cell? ⟨b, 1, none⟩ = some (.slice (some ⟨g, 0, none⟩) (n * n : Nat) c) ∧ w8.cell? ⟨b + 1, 0, none⟩ = some (.slice da m dc) ∧ w8.cell? ⟨b + 3, 0, none⟩ = some (.slice (some ⟨b + 2, 0, none⟩) m m) ∧ w8.cell? ⟨gd, o1, none⟩ = some (.int .i64 d1) ∧ w8.cell? ⟨gd, o2, none⟩ = some (.int .i64 d2) ∧ Hid (But (b + 2) wr w8) ∧ Hid (RowB b m w8)) :
    w8.drew.cell? ⟨b, 0, none⟩ = some (.int .i64 n) ∧ w8.drew.cell? ⟨b, 1, none⟩ = some (.slice (some ⟨g, 0, none⟩) (n * n : Nat) c) ∧ w8.drew.cell? ⟨b + 1, 0, none⟩ = some (.slice da m dc) ∧ w8.drew.cell? ⟨b + 3, 0, none⟩ = some (.slice (some ⟨b + 2, 0, none⟩) m m) ∧ w8.drew.cell? ⟨gd, o1, none⟩ = some (.int .i64 d1) ∧ w8.drew.cell? ⟨gd, o2, none⟩ = some (.int .i64 d2) ∧ Hid (But (b + 2) wr w8.drew) ∧ Hid (RowB b m w8.drew) := ⟨h.1, h.2.1, h.2.2.1, h.2.2.2.1, h.2.2.2.2.1, h.2.2.2.2.2.1, But.drew h.2.2.2.2.2.2.1, h.2.2.2.2.2.2.2⟩
theorem held_set {wr w8 : World} {b m dc n g c gd o1 o2 o : Nat} {da : Option Addr} {d1 d2 : Int} {v : Value} (hgd : gd < b) (h : w8.cell? ⟨b, 0, none⟩ = some (.int .i64 n) ∧ w8.cell? ⟨b, 1, none⟩ = some (.slice (some ⟨g, 0, none⟩) (n * n : Nat) c) ∧ w8.cell? ⟨b + 1, 0, none⟩ = some (.slice da m dc) ∧ w8.cell? ⟨b + 3, 0, none⟩ = some (.slice (some ⟨b + 2, 0, none⟩) m m) ∧ w8.cell? ⟨gd, o1, none⟩ = some (.int .i64 d1) ∧ w8.cell? ⟨gd, o2, none⟩ = some (.int .i64 d2) ∧ Hid (But (b + 2) wr w8) ∧ Hid (RowB b m w8)) :
    (w8.setCell ⟨b + 2, o, none⟩ v).cell? ⟨b, 0, none⟩ = some (.int .i64 n) ∧ (w8.setCell ⟨b + 2, o, none⟩ v).cell? ⟨b, 1, none⟩ = some (.slice (some ⟨g, 0, none⟩) (n * n : Nat) c) ∧ (w8.setCell ⟨b + 2, o, none⟩ v).cell? ⟨b + 1, 0, none⟩ = some (.slice da m dc) ∧ (w8.setCell ⟨b + 2, o, none⟩ v).cell? ⟨b + 3, 0, none⟩ = some (.slice (some ⟨b + 2, 0, none⟩) m m) ∧ (w8.setCell ⟨b + 2, o, none⟩ v).cell? ⟨gd, o1, none⟩ = some (.int .i64 d1) ∧ (w8.setCell ⟨b + 2, o, none⟩ v).cell? ⟨gd, o2, none⟩ = some (.int .i64 d2) ∧ Hid (But (b + 2) wr (w8.setCell ⟨b + 2, o, none⟩ v)) ∧ Hid (RowB b m (w8.setCell ⟨b + 2, o, none⟩ v)) :=
  held_but hgd rfl h (But.set h.2.2.2.2.2.2.1 v) (RowB.set h.2.2.2.2.2.2.2 v) fun k _ hk => heap_setCell_other _ _ _ _ (by exact hk)
theorem along_held {wr w8 : World} {b m dc n g c gd o1 o2 mz : Nat} {da : Option Addr} {d1 d2 : Int} {f : Nat → Nat × Nat} {z : Nat → Int × Int} (h1 : 1 ≤ n) (h2 : n ≤ 64) (hd : Dir64 (d1, d2)) (ho : okD d1 d2 = true) (hz : Hid (∀ j, j < n * n → Cell (f j) (z j) mz)) (hmz : mz ≤ 1048576) (hb : b + 7 ≤ wr.heap.size) (hgd : gd < b) (hg : g < b) (hR : Hid (Row wr g (n * n) f))
    (h : w8.cell? ⟨b, 0, none⟩ = some (.int .i64 n) ∧ w8.cell? ⟨b, 1, none⟩ = some (.slice (some ⟨g, 0, none⟩) (n * n : Nat) c) ∧ w8.cell? ⟨b + 1, 0, none⟩ = some (.slice da m dc) ∧ w8.cell? ⟨b + 3, 0, none⟩ = some (.slice (some ⟨b + 2, 0, none⟩) m m) ∧ w8.cell? ⟨gd, o1, none⟩ = some (.int .i64 d1) ∧ w8.cell? ⟨gd, o2, none⟩ = some (.int .i64 d2) ∧ Hid (But (b + 2) wr w8) ∧ Hid (RowB b m w8)) :
    Calls (barP Tryz.prog) 25 #[.agg #[.int .i64 n, .slice (some ⟨g, 0, none⟩) (n * n : Nat) c], .agg #[.int .i64 d1, .int .i64 d2]] w8 fun e w9 => (∃ g' B f', e = .returned (.agg #[.int .i64 d1, .int .i64 d2, .slice (some ⟨g', 0, none⟩) B B]) ∧ binsS n (d1, d2) = ((B : Int), 0) ∧ b + 7 ≤ g' ∧ Row w9 g' B f' ∧ (∀ j, j < B → BinC (NonNeg (n * n) z) (f' j) (accZ (ixN n (d1, d2)) z (n * n) j)) ∧ wr.heap.size ≤ g' ∧ w9.heap[b + 2]? = w8.heap[b + 2]?) ∧
      (w9.cell? ⟨b, 0, none⟩ = some (.int .i64 n) ∧ w9.cell? ⟨b, 1, none⟩ = some (.slice (some ⟨g, 0, none⟩) (n * n : Nat) c) ∧ w9.cell? ⟨b + 1, 0, none⟩ = some (.slice da m dc) ∧ w9.cell? ⟨b + 3, 0, none⟩ = some (.slice (some ⟨b + 2, 0, none⟩) m m) ∧ w9.cell? ⟨gd, o1, none⟩ = some (.int .i64 d1) ∧ w9.cell? ⟨gd, o2, none⟩ = some (.int .i64 d2) ∧ Hid (But (b + 2) wr w9) ∧ Hid (RowB b m w9)) := by
  have hB : But (b + 2) wr w8 := h.2.2.2.2.2.2.1
  obtain ⟨cur8, r81, r82⟩ : RowB b m w8 := h.2.2.2.2.2.2.2
  have hR8 : Row w8 g (n * n) f := by
    obtain ⟨cur, r1, r2⟩ := unhide hR
    exact ⟨cur, (hB.block g (by omega) (by omega)).trans r1, r2⟩
  have s8 := hB.size
  refine (alongBin (a := (d1, d2)) w8 h1 h2 hd ho hR8 (unhide hz) hmz).mono ?_
  rintro e w9 ⟨g', B, f', rfl, k1, k2, k3, k4, k5⟩
  exact ⟨⟨g', B, f', rfl, k1, by omega, k3, k4, by omega, k5.block _ (by omega)⟩, held_but hgd rfl h (hB.below k5) ⟨cur8, (k5.block _ (by omega)).trans r81, r82⟩ fun k hk _ => k5.block k (by omega)⟩

theorem getD_push (ps : List PD) (p : PD) (i : Nat) : (ps ++ [p]).getD i p0 = if i = ps.length then p else ps.getD i p0 := by
  rw [List.getD_eq_getElem?_getD, List.getD_eq_getElem?_getD]
  by_cases h : i < ps.length
  · rw [List.getElem?_append_left h, if_neg (by omega)]
  · by_cases e : i = ps.length
    · subst e
      simp
    · rw [if_neg e, List.getElem?_eq_none_iff.2 (by simp; omega), List.getElem?_eq_none_iff.2 (by omega)]
/-- One projection more. -/
theorem Wk.push {b : Nat} {w0 wr v9 : World} {n g c m dc i g9 B9 : Nat} {da : Option Addr} {t : Nat} {ps : List PD} {f9 : Nat → Nat × Nat} {iz : Nat → Int} {d1 d2 : Int} (h : Wk b w0 n g c m dc da t ps wr) (hps : ps.length = i) (hi : i < m) (hB : But (b + 2) wr v9) (hrow : v9.heap[b + 2]? = wr.heap[b + 2]?) (hR : Row v9 g9 B9 f9) (hnew : b + 7 ≤ g9) :
    Wk b w0 n g c m dc da t (ps ++ [⟨(d1, d2), g9, B9, B9, f9, iz⟩]) (((v9.setCell ⟨b + 2, i * 3, none⟩ (.int .i64 d1)).setCell ⟨b + 2, i * 3 + 1, none⟩ (.int .i64 d2)).setCell ⟨b + 2, i * 3 + 2, none⟩ (.slice (some ⟨g9, 0, none⟩) B9 B9)) := by
  obtain ⟨cur, r1, r2, r3⟩ := h.row
  have e1 := heap_setCell_same v9 (b + 2) (i * 3) _ _ (.int .i64 d1) (hrow.trans r1)
  have e2 := heap_setCell_same _ (b + 2) (i * 3 + 1) _ _ (.int .i64 d2) e1
  have e3 := heap_setCell_same _ (b + 2) (i * 3 + 2) _ _ (.slice (some ⟨g9, 0, none⟩) B9 B9) e2
  have o : ∀ k, k ≠ b + 2 → (((v9.setCell ⟨b + 2, i * 3, none⟩ (.int .i64 d1)).setCell ⟨b + 2, i * 3 + 1, none⟩ (.int .i64 d2)).setCell ⟨b + 2, i * 3 + 2, none⟩ (.slice (some ⟨g9, 0, none⟩) B9 B9)).heap[k]? = v9.heap[k]? := fun k hk => by
    rw [heap_setCell_other _ _ _ _ (by exact hk), heap_setCell_other _ _ _ _ (by exact hk), heap_setCell_other _ _ _ _ (by exact hk)]
  have hbig := h.big
  have q : ∀ k, k < b + 7 → k ≠ b + 2 → (((v9.setCell ⟨b + 2, i * 3, none⟩ (.int .i64 d1)).setCell ⟨b + 2, i * 3 + 1, none⟩ (.int .i64 d2)).setCell ⟨b + 2, i * 3 + 2, none⟩ (.slice (some ⟨g9, 0, none⟩) B9 B9)).heap[k]? = wr.heap[k]? := fun k hk hx => (o k hx).trans (hB.block k (by omega) hx)
  generalize (((v9.setCell ⟨b + 2, i * 3, none⟩ (.int .i64 d1)).setCell ⟨b + 2, i * 3 + 1, none⟩ (.int .i64 d2)).setCell ⟨b + 2, i * 3 + 2, none⟩ (.slice (some ⟨g9, 0, none⟩) B9 B9)).heap.size = sz at *
  refine ⟨fun k hk => (q k (by omega) (by omega)).trans (h.low k hk), by have := hB.size; simp only [World.size_setCell]; omega, (q _ (by omega) (by omega)).trans h.c0, (q _ (by omega) (by omega)).trans h.c1, ⟨_, e3, by simp [r2], fun k hk => ?_⟩, (q _ (by omega) (by omega)).trans h.c3, (q _ (by omega) (by omega)).trans h.c4, (q _ (by omega) (by omega)).trans h.c5, fun k hk => ?_, fun k hk => ?_⟩
  · rw [getD_push]
    have hk : k < ps.length + 1 := by simpa using hk
    by_cases e : k = ps.length
    · subst e
      rw [if_pos rfl, hps]
      refine ⟨?_, ?_, ?_⟩
      · rw [Array.getElem?_setIfInBounds_ne (by omega), Array.getElem?_setIfInBounds_ne (by omega), Array.getElem?_setIfInBounds_self_of_lt (by omega)]
      · rw [Array.getElem?_setIfInBounds_ne (by omega), Array.getElem?_setIfInBounds_self_of_lt (by simp; omega)]
      · rw [Array.getElem?_setIfInBounds_self_of_lt (by simp; omega)]
    · rw [if_neg e]
      obtain ⟨s1, s2, s3⟩ := r3 k (by omega)
      refine ⟨?_, ?_, ?_⟩
      · rw [Array.getElem?_setIfInBounds_ne (by omega), Array.getElem?_setIfInBounds_ne (by omega), Array.getElem?_setIfInBounds_ne (by omega)]; exact s1
      · rw [Array.getElem?_setIfInBounds_ne (by omega), Array.getElem?_setIfInBounds_ne (by omega), Array.getElem?_setIfInBounds_ne (by omega)]; exact s2
      · rw [Array.getElem?_setIfInBounds_ne (by omega), Array.getElem?_setIfInBounds_ne (by omega), Array.getElem?_setIfInBounds_ne (by omega)]; exact s3
  · rw [getD_push]
    have hk : k < ps.length + 1 := by simpa using hk
    by_cases e : k = ps.length
    · rw [if_pos e]
      obtain ⟨cur9, k1, k2, k3⟩ := hR
      exact ⟨cur9, (o g9 (by omega)).trans k1, k2, k3⟩
    · rw [if_neg e]
      have hn := h.new k (by omega)
      have hl := vrow_lt (h.bins k (by omega))
      exact vrow_keep (h.bins k (by omega)) ((o _ (by omega)).trans (hB.block _ hl (by omega)))
  · rw [getD_push]
    have hk : k < ps.length + 1 := by simpa using hk
    by_cases e : k = ps.length
    · rw [if_pos e]; exact hnew
    · rw [if_neg e]; exact h.new k (by omega)
set_option maxRecDepth 100000 in
set_option maxHeartbeats 6400000 in
theorem workWp {b n g c m dc gd od mz : Nat} {da : Option Addr} {L : List (Int × Int)} {f : Nat → Nat × Nat} {z : Nat → Int × Int} (w0 W : World) (h1 : 1 ≤ n) (h2 : n ≤ 64) (hm : m ≤ 64) (hL : L.length = m)
    (hD : Dirs w0 da gd od L) (hd64 : ∀ i, i < m → Dir64 (L.getD i (0, 0)) ∧ okD (L.getD i (0, 0)).1 (L.getD i (0, 0)).2 = true) (hgd : 0 < m → gd < b) (hR : Row w0 g (n * n) f) (hg : g < b) (hz : ∀ j, j < n * n → Cell (f j) (z j) mz) (hmz : mz ≤ 1048576)
    (hW : Wk b w0 n g c m dc da 0 [] W) :
    Code.wp (barP Tryz.prog) (rest28 Tryz.f23) (fun e a w' => e = .normal ∧ a.defers = [done28 b] ∧ ∃ ps t, ps.length = m ∧ Wk b w0 n g c m dc da t ps w' ∧ ∀ i, i < m → (ps.getD i p0).d = L.getD i (0, 0) ∧ binsS n (L.getD i (0, 0)) = (((ps.getD i p0).nb : Int), 0) ∧ (ps.getD i p0).cb = (ps.getD i p0).nb ∧ (∀ j, j < (ps.getD i p0).nb → BinC (NonNeg (n * n) z) ((ps.getD i p0).z j) (accZ (ixN n (L.getD i (0, 0))) z (n * n) j)) ∧ ∀ j, (ps.getD i p0).iz j = (accZ (ixN n (L.getD i (0, 0))) z (n * n) j).1) ⟨tmps28 b, [done28 b]⟩ W := by
  have HW := hide hW
  have e5 := cell_of hW.c5 (i := 0) rfl
  have e4 := cell_of hW.c4 (i := 0) rfl
  have t4 := thaw_of (i := 0) hW.c4
  clear hW
  simp only [rest28, body28, csnd, Tryz.f23, Option.getD_some, tmps28]
  have hall := hide hd64
  clear hd64
  go_wp2_with fail
  refine (nextOk W (b + 4) 0 (by omega) e4 t4).mono ?_
  rintro e w1 ⟨rfl, rfl⟩
  have HW1 := hide (unhide HW).up
  clear HW e4 e5 t4
  go_wp2_with fail
  have e01 : (((0 : Nat) : Int) + 1) = 1 := rfl
  rw [e01] at HW1
  generalize W.setCell ⟨b + 4, 0, none⟩ (.int .i64 1) = W1 at *
  go_loopw [5] (fun iv wr => ∃ (i : Nat) (ps : List PD), i ≤ m ∧ iv = .int .i64 i ∧ Hid (ps.length = i) ∧ Hid (Wk b w0 n g c m dc da (i + 1) ps wr) ∧ Hid (∀ k, k < i → (ps.getD k p0).d = L.getD k (0, 0) ∧ binsS n (L.getD k (0, 0)) = (((ps.getD k p0).nb : Int), 0) ∧ (ps.getD k p0).cb = (ps.getD k p0).nb ∧ (∀ j, j < (ps.getD k p0).nb → BinC (NonNeg (n * n) z) ((ps.getD k p0).z j) (accZ (ixN n (L.getD k (0, 0))) z (n * n) j)) ∧ ∀ j, (ps.getD k p0).iz j = (accZ (ixN n (L.getD k (0, 0))) z (n * n) j).1)) (fun iv _ => m - (intOf iv).toNat)
  case atStart => exact ⟨0, [], Nat.zero_le _, rfl, rfl, HW1, fun k hk => absurd hk (by omega)⟩
  case round =>
    clear HW1
    obtain ⟨i, ps, hi, rfl, hps, HW, hsp⟩ := hrel
    have x1 := cell_of (unhide HW).c1 (i := 0) rfl
    by_cases c1 : i < m
    · have q1 : ((i : Int) < (m : Int)) = True := by simp; omega
      obtain ⟨hda, _⟩ := hD.at_ (by omega)
      have hgb := hgd (by omega)
      subst hda
      have hw := unhide HW
      obtain ⟨hd1, hd2⟩ := unhide hall i c1
      have hdi : L[i]? = some (L.getD i (0, 0)) := by
        rw [List.getD_eq_getElem?_getD]
        cases hh : L[i]? with
        | none => rw [List.getElem?_eq_none_iff] at hh; omega
        | some x => rfl
      obtain ⟨d1, d2, hq⟩ : ∃ d1 d2, L.getD i (0, 0) = (d1, d2) := ⟨_, _, rfl⟩
      rw [hq] at hd1 hd2 hdi
      obtain ⟨k1, k2⟩ := hD.cell i _ hdi
      have lowc : ∀ a : Addr, a.block < b → wr.cell? a = w0.cell? a := fun a ha => by unfold World.cell?; rw [hw.low _ ha]
      have hrow : RowB b m wr := by
        obtain ⟨cur, r1, r2, _⟩ := hw.row
        exact ⟨cur, r1, r2⟩
      have S0 : wr.cell? ⟨b, 0, none⟩ = some (.int .i64 n) ∧ wr.cell? ⟨b, 1, none⟩ = some (.slice (some ⟨g, 0, none⟩) (n * n : Nat) c) ∧ wr.cell? ⟨b + 1, 0, none⟩ = some (.slice (some ⟨gd, od, none⟩) m dc) ∧ wr.cell? ⟨b + 3, 0, none⟩ = some (.slice (some ⟨b + 2, 0, none⟩) m m) ∧ wr.cell? ⟨gd, od + i * 2, none⟩ = some (.int .i64 d1) ∧ wr.cell? ⟨gd, od + i * 2 + 1, none⟩ = some (.int .i64 d2) ∧ Hid (But (b + 2) wr wr) ∧ Hid (RowB b m wr) :=
        ⟨cell_of hw.c0 rfl, cell_of hw.c0 rfl, cell_of hw.c1 rfl, cell_of hw.c3 rfl, (lowc ⟨gd, od + i * 2, none⟩ hgb).trans k1, (lowc ⟨gd, od + i * 2 + 1, none⟩ hgb).trans k2, But.refl _ _, hrow⟩
      have hRr : Hid (Row wr g (n * n) f) := by
        obtain ⟨cur, r1, r2⟩ := hR
        exact ⟨cur, (hw.low g hg).trans r1, r2⟩
      have hbig := hw.big
      have HZ := hide hz
      clear hz hD hw lowc k1 k2 hdi hall x1
      go_wp2_with fail
      go_region_held3 (fun w8 => w8.cell? ⟨b, 0, none⟩ = some (.int .i64 n) ∧ w8.cell? ⟨b, 1, none⟩ = some (.slice (some ⟨g, 0, none⟩) (n * n : Nat) c) ∧ w8.cell? ⟨b + 1, 0, none⟩ = some (.slice (some ⟨gd, od, none⟩) m dc) ∧ w8.cell? ⟨b + 3, 0, none⟩ = some (.slice (some ⟨b + 2, 0, none⟩) m m) ∧ w8.cell? ⟨gd, od + i * 2, none⟩ = some (.int .i64 d1) ∧ w8.cell? ⟨gd, od + i * 2 + 1, none⟩ = some (.int .i64 d2) ∧ Hid (But (b + 2) wr w8) ∧ Hid (RowB b m w8))
        (first | assumption | exact S0 | exact held_drewB S0 | exact held_drewB (by assumption) | exact held_set hgb (by assumption) | exact held_set hgb (held_set hgb (by assumption)) | exact held_set hgb (held_set hgb (held_set hgb (by assumption))) | go_keep)
        (first
        | (go_at_call 25; with_reducible refine (along_held (wr := wr) h1 h2 hd1 hd2 HZ hmz hbig hgb hg hRr (by assumption)).mono ?_
           rintro e v9 ⟨⟨g9, B9, f9, rfl, hx⟩, hs⟩
           obtain ⟨y0, z0⟩ := rowB_at (i := i * 3) hs.2.2.2.2.2.2.2 (by omega)
           obtain ⟨y1, z1⟩ := rowB_at (i := i * 3 + 1) hs.2.2.2.2.2.2.2 (by omega)
           obtain ⟨y2, z2⟩ := rowB_at (i := i * 3 + 2) hs.2.2.2.2.2.2.2 (by omega)
           have f0 := rowB_thaw (i := i * 3) hs.2.2.2.2.2.2.2
           have f1 := rowB_thaw (i := i * 3 + 1) hs.2.2.2.2.2.2.2
           have f2 := rowB_thaw (i := i * 3 + 2) hs.2.2.2.2.2.2.2
           have hx := hide hx))
      obtain ⟨hb9, hg9, hR9, hI9, _, hrow9⟩ := unhide hx
      obtain ⟨p, hp⟩ : ∃ p : PD, p = ⟨(d1, d2), g9, B9, B9, f9, fun j => (accZ (ixN n (d1, d2)) z (n * n) j).1⟩ := ⟨_, rfl⟩
      have HW2 := hide ((unhide HW).push (iz := fun j => (accZ (ixN n (d1, d2)) z (n * n) j).1) (d1 := d1) (d2 := d2) (unhide hps) c1 (unhide hs.2.2.2.2.2.2.1) hrow9 hR9 hg9)
      rw [← hp] at HW2
      have hsp2 : Hid (∀ k, k < i + 1 → ((ps ++ [p]).getD k p0).d = L.getD k (0, 0) ∧ binsS n (L.getD k (0, 0)) = ((((ps ++ [p]).getD k p0).nb : Int), 0) ∧ ((ps ++ [p]).getD k p0).cb = ((ps ++ [p]).getD k p0).nb ∧ (∀ j, j < ((ps ++ [p]).getD k p0).nb → BinC (NonNeg (n * n) z) (((ps ++ [p]).getD k p0).z j) (accZ (ixN n (L.getD k (0, 0))) z (n * n) j)) ∧ ∀ j, ((ps ++ [p]).getD k p0).iz j = (accZ (ixN n (L.getD k (0, 0))) z (n * n) j).1) := by
        intro k hk
        rw [getD_push, unhide hps]
        by_cases e : k = i
        · subst e
          rw [if_pos rfl, hq, hp]
          exact ⟨rfl, hb9, rfl, hI9, fun j => rfl⟩
        · rw [if_neg e]
          exact unhide hsp k (by omega)
      have hlen2 : Hid ((ps ++ [p]).length = i + 1) := by show _ = _; rw [List.length_append, unhide hps]; rfl
      clear hx hs HW hsp hps hq hd1 hd2 S0 hRr HZ hb9 hg9 hR9 hI9 hrow9 z0 z1 z2 f0 f1 f2 hp
      generalize ps ++ [p] = ps2 at *
      generalize ((v9.setCell ⟨b + 2, i * 3, none⟩ (.int .i64 d1)).setCell ⟨b + 2, i * 3 + 1, none⟩ (.int .i64 d2)).setCell ⟨b + 2, i * 3 + 2, none⟩ (.slice (some ⟨g9, 0, none⟩) B9 B9) = w3 at *
      have e5 := cell_of (unhide HW2).c5 (i := 0) rfl
      have e4 := cell_of (unhide HW2).c4 (i := 0) rfl
      have t4 := thaw_of (i := 0) (unhide HW2).c4
      go_wp2_with fail
      refine (nextOk w3 (b + 4) (i + 1) (by omega) e4 t4).mono ?_
      rintro e w4 ⟨rfl, rfl⟩
      have HW3 := hide (unhide HW2).up
      have ec : (((i + 1 : Nat) : Int)) = (i : Int) + 1 := rfl
      rw [ec] at HW3
      clear ec
      go_wp2_with fail
      exact ⟨⟨i + 1, ps2, by omega, rfl, hlen2, HW3, hsp2⟩, by simp [intOf]; omega⟩
    · have q1 : ((i : Int) < (m : Int)) = False := by simp; omega
      obtain rfl : i = m := by omega
      go_wp2_with fail
      exact ⟨ps, unhide hps, ⟨i + 1, unhide HW⟩, unhide hsp⟩
end Go.Proofs.YtfnbcpeipoobkaaGreat

set_option linter.unusedSectionVars false
namespace Go.Proofs.YtfnbcpeipoobkaaGreat
open Go.RowKit

theorem wk_re {b : Nat} {w0 : World} {n g c m dc : Nat} {da : Option Addr} {t : Nat} {ps : List PD} {W : World} (τ : Nat → Question → Nat) (d : Nat) (h : Wk b w0 n g c m dc da t ps W) : Wk b w0 n g c m dc da t ps (re W τ d) :=
  ⟨h.low, h.big, h.c0, h.c1, h.row, h.c3, h.c4, h.c5, h.bins, h.new⟩
theorem alloc_old (w : World) (o : Obj) (k : Nat) (hk : k < w.heap.size) : (w.alloc o).heap[k]? = w.heap[k]? := Below.heap_alloc _ _ _ hk
theorem wk_start (w : World) (n g c m dc : Nat) (da : Option Addr) : Wk w.heap.size w n g c m dc da 0 [] (vw w n (.slice (some ⟨g, 0, none⟩) (n * n : Nat) c) da m dc) := by
  have s1 := bw1_size w n (.slice (some ⟨g, 0, none⟩) (n * n : Nat) c) da m dc
  have s2 := bw2_size w n (.slice (some ⟨g, 0, none⟩) (n * n : Nat) c) da m dc
  have s3 := bw3_size w n (.slice (some ⟨g, 0, none⟩) (n * n : Nat) c) da m dc
  have s4 := bw4_size w n (.slice (some ⟨g, 0, none⟩) (n * n : Nat) c) da m dc
  have s5 := bw5_size w n (.slice (some ⟨g, 0, none⟩) (n * n : Nat) c) da m dc
  have k6 : ∀ k, k < w.heap.size + 6 → (vw w n (.slice (some ⟨g, 0, none⟩) (n * n : Nat) c) da m dc).heap[k]? = (bw5 w n (.slice (some ⟨g, 0, none⟩) (n * n : Nat) c) da m dc).heap[k]? := fun k hk => alloc_old _ _ k (by omega)
  have k5 : ∀ k, k < w.heap.size + 5 → (bw5 w n (.slice (some ⟨g, 0, none⟩) (n * n : Nat) c) da m dc).heap[k]? = (bw4 w n (.slice (some ⟨g, 0, none⟩) (n * n : Nat) c) da m dc).heap[k]? := fun k hk => alloc_old _ _ k (by omega)
  have k4 : ∀ k, k < w.heap.size + 4 → (bw4 w n (.slice (some ⟨g, 0, none⟩) (n * n : Nat) c) da m dc).heap[k]? = (bw3 w n (.slice (some ⟨g, 0, none⟩) (n * n : Nat) c) da m dc).heap[k]? := fun k hk => alloc_old _ _ k (by omega)
  have k3 : ∀ k, k < w.heap.size + 3 → (bw3 w n (.slice (some ⟨g, 0, none⟩) (n * n : Nat) c) da m dc).heap[k]? = (bw2 w n (.slice (some ⟨g, 0, none⟩) (n * n : Nat) c) da m dc).heap[k]? := fun k hk => alloc_old _ _ k (by omega)
  have k2 : ∀ k, k < w.heap.size + 2 → (bw2 w n (.slice (some ⟨g, 0, none⟩) (n * n : Nat) c) da m dc).heap[k]? = (bw1 w n (.slice (some ⟨g, 0, none⟩) (n * n : Nat) c) da m dc).heap[k]? := fun k hk => alloc_old _ _ k (by omega)
  have n5 := heap_alloc_new (bw4 w n (.slice (some ⟨g, 0, none⟩) (n * n : Nat) c) da m dc) (.cells #[.func (.func 20) #[] #[.pointer (some ⟨w.heap.size + 4, 0, none⟩)]] 66)
  have n4 := heap_alloc_new (bw3 w n (.slice (some ⟨g, 0, none⟩) (n * n : Nat) c) da m dc) (.cells #[.int .i64 0] 64)
  have n3 := heap_alloc_new (bw2 w n (.slice (some ⟨g, 0, none⟩) (n * n : Nat) c) da m dc) (.cells #[.slice (some ⟨w.heap.size + 2, 0, none⟩) m m] 31)
  have n2 := heap_alloc_new (bw1 w n (.slice (some ⟨g, 0, none⟩) (n * n : Nat) c) da m dc) (.cells (zP m) 40)
  have n1 := heap_alloc_new (w.alloc (.cells #[.int .i64 (n : Int), .slice (some ⟨g, 0, none⟩) (n * n : Nat) c] 27)) (.cells #[.slice da m dc] 23)
  have n0 := heap_alloc_new w (.cells #[.int .i64 (n : Int), .slice (some ⟨g, 0, none⟩) (n * n : Nat) c] 27)
  rw [s4] at n5
  rw [s3] at n4
  rw [s2] at n3
  rw [s1] at n2
  rw [World.size_alloc] at n1
  have l1 : ∀ k, k < w.heap.size + 1 → (bw1 w n (.slice (some ⟨g, 0, none⟩) (n * n : Nat) c) da m dc).heap[k]? = (w.alloc (.cells #[.int .i64 (n : Int), .slice (some ⟨g, 0, none⟩) (n * n : Nat) c] 27)).heap[k]? := fun k hk => alloc_old _ _ k (by simp; omega)
  refine ⟨fun k hk => ?_, ?_, ?_, ?_, ⟨zP m, ?_, ?_, fun i hi => absurd hi (by simp)⟩, ?_, ?_, ?_, fun i hi => absurd hi (by simp), fun i hi => absurd hi (by simp)⟩
  · rw [k6 k (by omega), k5 k (by omega), k4 k (by omega), k3 k (by omega), k2 k (by omega), l1 k (by omega), alloc_old _ _ k hk]
  · show _ ≤ ((bw5 w n (.slice (some ⟨g, 0, none⟩) (n * n : Nat) c) da m dc).alloc _).heap.size
    rw [World.size_alloc, s5]
    omega
  · rw [k6 _ (by omega), k5 _ (by omega), k4 _ (by omega), k3 _ (by omega), k2 _ (by omega), l1 _ (by omega)]; exact n0
  · rw [k6 _ (by omega), k5 _ (by omega), k4 _ (by omega), k3 _ (by omega), k2 _ (by omega)]; exact n1
  · rw [k6 _ (by omega), k5 _ (by omega), k4 _ (by omega), k3 _ (by omega)]; exact n2
  · simp [zP, size_madeCells]
  · rw [k6 _ (by omega), k5 _ (by omega), k4 _ (by omega)]; exact n3
  · rw [k6 _ (by omega), k5 _ (by omega)]; exact n4
  · rw [k6 _ (by omega)]; exact n5
/-- What the worker leaves. -/
def Left (w0 : World) (n g c m dc : Nat) (da : Option Addr) (L : List (Int × Int)) (z : Nat → Int × Int) (w' : World) : Prop :=
  ∃ ps t, ps.length = m ∧ Wk w0.heap.size w0 n g c m dc da t ps w' ∧ ∀ i, i < m → (ps.getD i p0).d = L.getD i (0, 0) ∧ binsS n (L.getD i (0, 0)) = (((ps.getD i p0).nb : Int), 0) ∧ (ps.getD i p0).cb = (ps.getD i p0).nb ∧ (∀ j, j < (ps.getD i p0).nb → BinC (NonNeg (n * n) z) ((ps.getD i p0).z j) (accZ (ixN n (L.getD i (0, 0))) z (n * n) j)) ∧ ∀ j, (ps.getD i p0).iz j = (accZ (ixN n (L.getD i (0, 0))) z (n * n) j).1
theorem left_re {w0 : World} {n g c m dc : Nat} {da : Option Addr} {L : List (Int × Int)} {z : Nat → Int × Int} (w : World) (τ : Nat → Question → Nat) (d : Nat) : Left w0 n g c m dc da L z (re w τ d) ↔ Left w0 n g c m dc da L z w :=
  ⟨fun ⟨ps, t, h1, h2, h3⟩ => ⟨ps, t, h1, ⟨h2.low, h2.big, h2.c0, h2.c1, h2.row, h2.c3, h2.c4, h2.c5, h2.bins, h2.new⟩, h3⟩, fun ⟨ps, t, h1, h2, h3⟩ => ⟨ps, t, h1, wk_re τ d h2, h3⟩⟩
/-- ████ THE WORKER's WAY. ████ -/
theorem workGoes {n g c m dc gd od mz : Nat} {da : Option Addr} {L : List (Int × Int)} {f : Nat → Nat × Nat} {z : Nat → Int × Int} (w : World) (h1 : 1 ≤ n) (h2 : n ≤ 64) (hm : m ≤ 64) (hL : L.length = m)
    (hD : Dirs w da gd od L) (hd64 : ∀ i, i < m → Dir64 (L.getD i (0, 0)) ∧ okD (L.getD i (0, 0)).1 (L.getD i (0, 0)).2 = true) (hgd : 0 < m → gd < w.heap.size) (hR : Row w g (n * n) f) (hg : g < w.heap.size) (hz : ∀ j, j < n * n → Cell (f j) (z j) mz) (hmz : mz ≤ 1048576)
    (hk : ∀ (r : Nat) (o : Obj), w.heap[r]? = some o → okObj Tryz.prog o) (he : w.os.env = #[]) :
    GoesW (bar Tryz.prog (barF Tryz.prog)) (barF Tryz.prog).size (fun fr' up' w' => up' = [] ∧ (∃ T, fr' = out28 w.heap.size T) ∧ Left w n g c m dc da L z w' ∧ (∀ (r : Nat) (o : Obj), w'.heap[r]? = some o → okObj (barP Tryz.prog) o) ∧ w'.os.env = #[]) (fr28 Tryz.f23 w.heap.size) [] (vw w n (.slice (some ⟨g, 0, none⟩) (n * n : Nat) c) da m dc) := by
  letI : Inhabited Junk := noJunk
  have hs : Sib Tryz.prog (fun _ => False) w w := ⟨rfl, fun _ _ => .inl rfl, fun _ hx => hx.elim, hk, he⟩
  have hs2 := sib_bw hs (n : Int) (.slice (some ⟨g, 0, none⟩) (n * n : Nat) c) da m dc
  refine goesW_of_steps (P := (barP Tryz.prog)) Bar.again fenceB bodiesB (fun fr up w' τ d => and_congr_right fun _ => and_congr_right fun _ => and_congr_left fun _ => left_re w' τ d) ⟨?_, by simp, fun r o h => okObj_bar _ (hs2.kind r o h), hs2.env⟩ (by rw [Array.getElem?_eq_none_iff]; exact Nat.le_refl _) fun τ d => ?_
  · obtain ⟨q1, q2⟩ := ok28 w.heap.size
    refine ⟨fun i hi => ?_, q2⟩
    have : i = .code (rest28 Tryz.f23) := by simpa [fr28, Frame.at] using hi
    subst this
    have := q1 _ hi
    show okCode (barP Tryz.prog) (rest28 Tryz.f23) = true
    rw [show okCode (barP Tryz.prog) (rest28 Tryz.f23) = okCode (bar Tryz.prog (barF Tryz.prog)) (rest28 Tryz.f23) from rfl, okCode_bar]
    exact this
  · obtain ⟨e, a', w', ⟨rfl, hd', ps, t, hl, hW, hsp⟩, hA⟩ := workWp (L := L) (gd := gd) (od := od) (f := f) (z := z) (mz := mz) w (re (vw w n (.slice (some ⟨g, 0, none⟩) (n * n : Nat) c) da m dc) τ d) h1 h2 hm hL hD hd64 hgd hR hg hz hmz (wk_re τ d (wk_start w n g c m dc da)) (Go.Conc.baseD 23) [] ([] ++ [baseF (barF Tryz.prog).size])
    obtain ⟨T, df⟩ := a'
    obtain rfl : df = [done28 w.heap.size] := hd'
    exact ⟨out28 w.heap.size T, [], w', fun hfit => ⟨rfl, ⟨T, rfl⟩, ⟨ps, t, hl, hW, hsp⟩, hfit.kind, hfit.env⟩, hA.trans (.one step_end)⟩
end Go.Proofs.YtfnbcpeipoobkaaGreat

namespace Go.Proofs.YtfnbcpeipoobkaaGreat
open Go.RowKit

/-- Where a direction stands among the first of a list. -/
def Found (L : List (Int × Int)) (k : Nat) (d : Int × Int) (r : Int) : Prop := (r = -1 ∧ ∀ j, j < k → L.getD j (0, 0) ≠ d) ∨ ∃ j, j < k ∧ r = j ∧ L.getD j (0, 0) = d
theorem dirs_get {w : World} {a : Option Addr} {g o : Nat} {L : List (Int × Int)} (h : Dirs w a g o L) {i : Nat} (hi : i < L.length) : w.cell? ⟨g, o + i * 2, none⟩ = some (.int .i64 (L.getD i (0, 0)).1) ∧ w.cell? ⟨g, o + i * 2 + 1, none⟩ = some (.int .i64 (L.getD i (0, 0)).2) := by
  refine h.cell i _ ?_
  rw [List.getD_eq_getElem?_getD]
  cases hh : L[i]? with
  | none => rw [List.getElem?_eq_none_iff] at hh; omega
  | some x => rfl
set_option maxRecDepth 100000 in
set_option maxHeartbeats 3200000 in
theorem indexDir {a : Option Addr} {g o k cap : Nat} {L : List (Int × Int)} {x y : Int} (hk : k ≤ L.length) (hL : L.length ≤ 4096) (w : World) (h : Dirs w a g o L) :
    Calls (barP Tryz.prog) 38 #[.slice a k cap, .agg #[.int .i64 x, .int .i64 y]] w fun e w' => ∃ r, e = .returned (.int .i64 r) ∧ Found L k (x, y) r ∧ Below w.heap.size w w' := by
  have H := hide h
  have bx : Hid (Below w.heap.size w (w.alloc (.cells #[.int .i64 x, .int .i64 y] 38))) := (Below.refl _ _).alloc (Nat.le_refl _) _
  have b0 := cell_of (i := 0) (heap_alloc_new w (.cells #[.int .i64 x, .int .i64 y] 38)) rfl
  have b1 := cell_of (i := 1) (heap_alloc_new w (.cells #[.int .i64 x, .int .i64 y] 38)) rfl
  clear h
  go_enter Bar.func38, Bar.ntmps38
  go_wp2_with fail
  generalize w.alloc (.cells #[.int .i64 x, .int .i64 y] 38) = w1 at *
  go_loopw [8] (fun iv wr => ∃ i : Nat, i ≤ k ∧ iv = .int .i64 i ∧ Hid (wr.heap = w1.heap) ∧ Hid (Below w1.heap.size w1 wr) ∧ Hid (∀ j, j < i → L.getD j (0, 0) ≠ (x, y))) (fun iv _ => k - (intOf iv).toNat)
  case atStart => exact ⟨0, Nat.zero_le _, rfl, rfl, Below.refl _ _, fun j hj => absurd hj (by omega)⟩
  case round =>
    obtain ⟨i, hi, rfl, hh, hB, hne⟩ := hrel
    by_cases c1 : i < k
    · have q1 : ((i : Int) < (k : Int)) = True := by simp; omega
      have hda := ((unhide H).at_ (by omega)).1
      have hgl := ((unhide H).at_ (by omega)).2
      subst hda
      obtain ⟨e1, e2⟩ := dirs_get (unhide H) (i := i) (by omega)
      obtain ⟨u, v, huv⟩ : ∃ u v, L.getD i (0, 0) = (u, v) := ⟨_, _, rfl⟩
      rw [huv] at e1 e2
      have huv := hide huv
      have k1 : wr.cell? ⟨g, o + i * 2, none⟩ = some (.int .i64 u) := (heapCell (unhide hh) _).trans (((unhide bx).cell (p := ⟨g, o + i * 2, none⟩) hgl).trans e1)
      have k2 : wr.cell? ⟨g, o + i * 2 + 1, none⟩ = some (.int .i64 v) := (heapCell (unhide hh) _).trans (((unhide bx).cell (p := ⟨g, o + i * 2 + 1, none⟩) hgl).trans e2)
      have k3 : wr.cell? ⟨w.heap.size, 0, none⟩ = some (.int .i64 x) := (heapCell (unhide hh) _).trans b0
      have k4 : wr.cell? ⟨w.heap.size, 1, none⟩ = some (.int .i64 y) := (heapCell (unhide hh) _).trans b1
      clear e1 e2
      have done : ∀ r : Int, Found L k (x, y) r → ∀ wz : World, Below w1.heap.size w1 wz → ∃ r', Ending.returned (.int .i64 r) = .returned (.int .i64 r') ∧ Found L k (x, y) r' ∧ Below w.heap.size w wz := fun r hr wz hz => ⟨r, rfl, hr, (unhide bx).trans (hz.mono (unhide bx).size)⟩
      have done := hide done
      by_cases cu : x = u
      · subst cu
        by_cases cv : y = v
        · subst cv
          go_wp2_with fail
          go_quiet (fail)
          go_wp2_with fail
          go_ret
          exact unhide done i (.inr ⟨i, c1, rfl, unhide huv⟩) _ ⟨(unhide hB).os, (unhide hB).tape, (unhide hB).output, (unhide hB).size, (unhide hB).block⟩
        · have q2 : (y == v) = false := by simp; exact cv
          go_wp2_with fail
          go_quiet (fail)
          go_wp2_with fail
          have hb := unhide hB
          exact ⟨⟨i + 1, by omega, by go_num, unhide hh, ⟨hb.os, hb.tape, hb.output, hb.size, hb.block⟩, fun j hj => by
            by_cases e : j = i
            · subst e; rw [unhide huv]; intro e; exact cv (by injection e with _ e; exact e.symm)
            · exact unhide hne j (by omega)⟩, by simp [intOf]; omega⟩
      · have q2 : (x == u) = false := by simp; exact cu
        go_wp2_with fail
        go_quiet (fail)
        go_wp2_with fail
        have hb := unhide hB
        exact ⟨⟨i + 1, by omega, by go_num, unhide hh, ⟨hb.os, hb.tape, hb.output, hb.size, hb.block⟩, fun j hj => by
            by_cases e : j = i
            · subst e; rw [unhide huv]; intro e; exact cu (by injection e with e _; exact e.symm)
            · exact unhide hne j (by omega)⟩, by simp [intOf]; omega⟩
    · have q1 : ((i : Int) < (k : Int)) = False := by simp; omega
      obtain rfl : i = k := by omega
      go_wp2_with fail
      go_ret
      have hb := unhide hB
      exact ⟨-1, rfl, .inl ⟨rfl, unhide hne⟩, (unhide bx).trans (hb.mono (unhide bx).size)⟩
set_option maxRecDepth 100000 in
set_option maxHeartbeats 3200000 in
theorem containsDir {a : Option Addr} {g o k cap : Nat} {L : List (Int × Int)} {x y : Int} (hk : k ≤ L.length) (hL : L.length ≤ 4096) (w : World) (h : Dirs w a g o L) :
    Calls (barP Tryz.prog) 19 #[.slice a k cap, .agg #[.int .i64 x, .int .i64 y]] w fun e w' => ∃ r : Bool, e = .returned (.bool r) ∧ (r = true ↔ ∃ j, j < k ∧ L.getD j (0, 0) = (x, y)) ∧ Below w.heap.size w w' := by
  have H := hide h
  clear h
  have bx : Hid (Below w.heap.size w (w.alloc (.cells #[.int .i64 x, .int .i64 y] 38))) := (Below.refl _ _).alloc (Nat.le_refl _) _
  have b0 := cell_of (i := 0) (heap_alloc_new w (.cells #[.int .i64 x, .int .i64 y] 38)) rfl
  have b1 := cell_of (i := 1) (heap_alloc_new w (.cells #[.int .i64 x, .int .i64 y] 38)) rfl
  go_enter Bar.func19, Bar.ntmps19
  go_wp2_with fail
  generalize w.alloc (.cells #[.int .i64 x, .int .i64 y] 38) = w1 at *
  refine (indexDir hk hL w1 (dirs_below (unhide H) (unhide bx))).mono ?_
  rintro e w2 ⟨r, rfl, hr, hb⟩
  have hB := hide ((unhide bx).trans (hb.mono (unhide bx).size))
  have hr := hide hr
  clear hb
  by_cases c : (0 : Int) ≤ r
  · have q : ((0 : Int) ≤ r) = True := by simp [c]
    go_wp2_with fail
    go_ret
    refine ⟨true, rfl, ⟨fun _ => ?_, fun _ => rfl⟩, unhide hB⟩
    rcases unhide hr with ⟨e, _⟩ | ⟨j, h1, _, h3⟩
    · omega
    · exact ⟨j, h1, h3⟩
  · have q : ((0 : Int) ≤ r) = False := by simp [c]
    go_wp2_with fail
    go_ret
    refine ⟨false, rfl, ⟨fun x => (by cases x), fun ⟨j, h1, h2⟩ => ?_⟩, unhide hB⟩
    rcases unhide hr with ⟨_, e⟩ | ⟨j, h1, h3, _⟩
    · exact absurd h2 (e j h1)
    · omega
end Go.Proofs.YtfnbcpeipoobkaaGreat
