/- The board in memory: rows of cells apart from each other; the line of a cell. -/
import Derived.Test.YtgbkfmjkemkajabPB0
import Derived.Test.YtgbkfmjkemkajabPO0
import Derived.Deep.RegionHeld3
namespace Go.Proofs.Ytgbkfmjkemkajab
open Go.RowKit

def VRow (w : World) (t : TypeId) (g n : Nat) (f : Nat → Value) : Prop := ∃ cur : Array Value, w.heap[g]? = some (.cells cur t (0, 0)) ∧ n ≤ cur.size ∧ ∀ i, i < n → cur[i]? = some (f i)

theorem vrow_at {w : World} {t : TypeId} {g n : Nat} {f : Nat → Value} (h : VRow w t g n f) {i : Nat} (hi : i < n) : w.cell? ⟨g, i, none⟩ = some (f i) := by
  obtain ⟨cur, h1, h2, h3⟩ := h
  simp [World.cell?, h1, h3 i hi]

theorem vrow_lt {w : World} {t : TypeId} {g n : Nat} {f : Nat → Value} (h : VRow w t g n f) : g < w.heap.size := by
  obtain ⟨cur, h1, _⟩ := h
  exact (Array.getElem?_eq_some_iff.1 h1).1

theorem vrow_keep {w w' : World} {t : TypeId} {g n : Nat} {f : Nat → Value} (h : VRow w t g n f) (hb : w'.heap[g]? = w.heap[g]?) : VRow w' t g n f := by
  obtain ⟨cur, h1, h2, h3⟩ := h
  exact ⟨cur, by rw [hb]; exact h1, h2, h3⟩

theorem vrow_set {w : World} {t : TypeId} {g n : Nat} {f : Nat → Value} (h : VRow w t g n f) (k : Nat) (v : Value) : VRow (w.setCell ⟨g, k, none⟩ v) t g n (fun i => if i = k then v else f i) := by
  obtain ⟨cur, h1, h2, h3⟩ := h
  refine ⟨cur.setIfInBounds k v, heap_setCell_same w g k cur _ _ h1, by simpa using h2, fun i hi => ?_⟩
  dsimp only
  by_cases c : i = k
  · subst c
    rw [if_pos rfl, Array.getElem?_setIfInBounds_self_of_lt (by omega)]
  · rw [if_neg c, Array.getElem?_setIfInBounds_ne (by omega)]
    exact h3 i hi

/-- Rows that lie apart, all above a mark. -/
structure Mem (w : World) (base : Nat) (live : Nat → Prop) (blk : Nat → Nat) (ty : Nat → TypeId) (len : Nat → Nat) (F : Nat → Nat → Value) : Prop where
  row : ∀ r, live r → VRow w (ty r) (blk r) (len r) (F r)
  above : ∀ r, live r → base ≤ blk r
  apart : ∀ r s, live r → live s → blk r = blk s → r = s

theorem mem_below {w w' : World} {base : Nat} {live : Nat → Prop} {blk : Nat → Nat} {ty : Nat → TypeId} {len : Nat → Nat} {F : Nat → Nat → Value} (h : Mem w base live blk ty len F) (hb : Below w.heap.size w w') : Mem w' base live blk ty len F :=
  ⟨fun r hr => vrow_keep (h.row r hr) (hb.block _ (vrow_lt (h.row r hr))), h.above, h.apart⟩

theorem mem_ext {w : World} {base : Nat} {live : Nat → Prop} {blk : Nat → Nat} {ty : Nat → TypeId} {len : Nat → Nat} {F F' : Nat → Nat → Value} (h : Mem w base live blk ty len F) (he : ∀ r, live r → ∀ i, i < len r → F r i = F' r i) : Mem w base live blk ty len F' := by
  refine ⟨fun r hr => ?_, h.above, h.apart⟩
  obtain ⟨cur, h1, h2, h3⟩ := h.row r hr
  exact ⟨cur, h1, h2, fun i hi => by rw [← he r hr i hi]; exact h3 i hi⟩

theorem mem_set {w : World} {base : Nat} {live : Nat → Prop} {blk : Nat → Nat} {ty : Nat → TypeId} {len : Nat → Nat} {F : Nat → Nat → Value} (h : Mem w base live blk ty len F) {r : Nat} (hr : live r) (k : Nat) (v : Value) :
    Mem (w.setCell ⟨blk r, k, none⟩ v) base live blk ty len (fun s i => if s = r ∧ i = k then v else F s i) := by
  refine ⟨fun s hs => ?_, h.above, h.apart⟩
  by_cases e : s = r
  · subst e
    obtain ⟨cur, h1, h2, h3⟩ := vrow_set (h.row s hs) k v
    refine ⟨cur, h1, h2, fun i hi => ?_⟩
    rw [h3 i hi]
    dsimp only
    by_cases c : i = k
    · rw [if_pos c, if_pos ⟨rfl, c⟩]
    · rw [if_neg c, if_neg (fun x => c x.2)]
  · have hne : blk s ≠ blk r := fun x => e (h.apart s r hs hr x)
    obtain ⟨cur, h1, h2, h3⟩ := vrow_keep (w' := w.setCell ⟨blk r, k, none⟩ v) (h.row s hs) (Below.heap_setCell _ _ _ _ hne)
    refine ⟨cur, h1, h2, fun i hi => ?_⟩
    rw [h3 i hi]
    dsimp only
    rw [if_neg (fun x => e x.1)]

/-- Small products do not wrap. -/
theorem cell_small {x : Nat} {n : Nat} {q : Int} (hx : x < n) (h64 : n ≤ 64) (h1 : q.natAbs ≤ 16) : -1008 ≤ q * (x : Int) ∧ q * (x : Int) ≤ 1008 := by
  have := cell_prod (x := (x : Int)) (n := (n : Int)) (Q := q) (by omega) (by omega) (by omega) h1
  omega

end Go.Proofs.Ytgbkfmjkemkajab
