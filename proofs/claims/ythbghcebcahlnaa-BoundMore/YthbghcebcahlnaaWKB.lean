/- The worker's loop. -/
import Derived.Test.YthbghcebcahlnaaWKA
import Derived.Test.YthbghcebcahlnaaBQ
import Derived.Test.YthbghcebcahlnaaDR
import Derived.Test.YthbghcebcahlnaaSM
namespace Go.Proofs.Ythbghcebcahlnaa
open Go.RowKit

/-- All blocks but one lie as they lay. -/
structure But (x : Nat) (w w' : World) : Prop where
  size : w.heap.size ≤ w'.heap.size
  block : ∀ k, k < w.heap.size → k ≠ x → w'.heap[k]? = w.heap[k]?
theorem But.refl (x : Nat) (w : World) : But x w w := ⟨Nat.le_refl _, fun _ _ _ => rfl⟩
theorem But.below {x : Nat} {w w' w'' : World} (h : But x w w') (hb : Below w'.heap.size w' w'') : But x w w'' := ⟨Nat.le_trans h.size hb.size, fun k hk hx => (hb.block k (Nat.lt_of_lt_of_le hk h.size)).trans (h.block k hk hx)⟩
theorem But.drew {x : Nat} {w w' : World} (h : But x w w') : But x w w'.drew := ⟨h.size, h.block⟩
theorem But.set {x o : Nat} {w w' : World} (h : But x w w') (v : Value) : But x w (w'.setCell ⟨x, o, none⟩ v) := ⟨by rw [World.size_setCell]; exact h.size, fun k hk hx => by rw [heap_setCell_other _ _ _ _ (by exact hx)]; exact h.block k hk hx⟩
theorem But.cell {x : Nat} {w w' : World} (h : But x w w') {a : Addr} (ha : a.block < w.heap.size) (hx : a.block ≠ x) : w'.cell? a = w.cell? a := by
  unfold World.cell?
  rw [h.block _ ha hx]
/-- What the worker knows. -/
structure Wk (b : Nat) (w0 : World) (n g c m dc : Nat) (da : Option Addr) (t : Nat) (ps : List PD) (W : World) : Prop where
  low : ∀ k, k < b → W.heap[k]? = w0.heap[k]?
  big : b + 7 ≤ W.heap.size
  c0 : W.heap[b]? = some (.cells #[.int .i64 n, .slice (some ⟨g, 0, none⟩) (n * n : Nat) c] 27)
  c1 : W.heap[b + 1]? = some (.cells #[.slice da m dc] 23)
  row : ∃ cur : Array Value, W.heap[b + 2]? = some (.cells cur 49 (0, 0)) ∧ cur.size = m * 3 ∧ ∀ i, i < ps.length → cur[i * 3]? = some (.int .i64 (ps.getD i p0).d.1) ∧ cur[i * 3 + 1]? = some (.int .i64 (ps.getD i p0).d.2) ∧ cur[i * 3 + 2]? = some (.slice (some ⟨(ps.getD i p0).gb, 0, none⟩) (ps.getD i p0).nb (ps.getD i p0).cb)
  c3 : W.heap[b + 3]? = some (.cells #[.slice (some ⟨b + 2, 0, none⟩) m m] 29)
  c4 : W.heap[b + 4]? = some (.cells #[.int .i64 (t : Int)] 68)
  c5 : W.heap[b + 5]? = some (.cells #[.func (.func 25) #[] #[.pointer (some ⟨b + 4, 0, none⟩)]] 70)
  bins : ∀ i, i < ps.length → VRow W 39 (ps.getD i p0).gb (ps.getD i p0).nb (fun j => .complex .f64 ((ps.getD i p0).z j).1 ((ps.getD i p0).z j).2)
  new : ∀ i, i < ps.length → b + 7 ≤ (ps.getD i p0).gb
theorem cell_of {w : World} {g i : Nat} {cs : Array Value} {t : TypeId} {x : Value} (h : w.heap[g]? = some (.cells cs t)) (hi : cs[i]? = some x) : w.cell? ⟨g, i, none⟩ = some x := by
  unfold World.cell?
  rw [h]
  exact hi
theorem thaw_of {w : World} {g i : Nat} {cs : Array Value} {t : TypeId} (h : w.heap[g]? = some (.cells cs t)) : w.frozen? ⟨g, i, none⟩ = false := by
  unfold World.frozen?
  rw [h]
  simp
/-- The counter goes up. -/
theorem Wk.up {b : Nat} {w0 : World} {n g c m dc : Nat} {da : Option Addr} {t : Nat} {ps : List PD} {W : World} (h : Wk b w0 n g c m dc da t ps W) : Wk b w0 n g c m dc da (t + 1) ps (W.setCell ⟨b + 4, 0, none⟩ (.int .i64 ((t : Int) + 1))) := by
  have o : ∀ k, k ≠ b + 4 → (W.setCell ⟨b + 4, 0, none⟩ (.int .i64 ((t : Int) + 1))).heap[k]? = W.heap[k]? := fun k hk => heap_setCell_other _ _ _ _ hk
  refine ⟨fun k hk => (o k (by omega)).trans (h.low k hk), by rw [World.size_setCell]; exact h.big, (o _ (by omega)).trans h.c0, (o _ (by omega)).trans h.c1, ?_, (o _ (by omega)).trans h.c3, ?_, (o _ (by omega)).trans h.c5, fun i hi => ?_, h.new⟩
  · obtain ⟨cur, h1, h2⟩ := h.row
    exact ⟨cur, (o _ (by omega)).trans h1, h2⟩
  · have := heap_setCell_same W (b + 4) 0 _ _ (.int .i64 ((t : Int) + 1)) h.c4
    rw [this]
    simp
  · exact vrow_keep (h.bins i hi) (o _ (by have := h.new i hi; omega))
end Go.Proofs.Ythbghcebcahlnaa
