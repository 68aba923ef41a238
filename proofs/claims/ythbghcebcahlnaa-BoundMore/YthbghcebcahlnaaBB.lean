/- The document's Wide and Certain. -/
import Derived.Test.YthbghcebcahlnaaBA
import Derived.Deep.OwnRows
namespace Go.Proofs.Ythbghcebcahlnaa
open Go.RowKit

def wideLo (n : Int) : List Int := if n < 1 ∨ 16 < n then [] else List.replicate (n.toNat * n.toNat) 0
def wideHi (n : Int) : List Int := if n < 1 ∨ 16 < n then [] else List.replicate (n.toNat * n.toNat) 255
def wideE (n : Int) : Int := if n < 1 ∨ 16 < n then 1 else 0

def WideOk (f : Nat) : Prop := ∀ (n : Int) (w : World), Calls (barP Try.prog) f #[.int .i64 n] w fun e w' =>
  ∃ u v, e = .returned (.tuple #[u, v, .int .i64 (wideE n)]) ∧ Ints w' u (wideLo n) ∧ Ints w' v (wideHi n) ∧ Below w.heap.size w w'

theorem infoInt : ((barP Try.prog).info? 3).map (fun i => (i.zero, i.size, i.bytes)) = some (some (.int .i64 0), 1, 8) := by kernel_rfl
theorem infoBool : ((barP Try.prog).info? 4).map (fun i => (i.zero, i.size, i.bytes)) = some (some (.bool false), 1, 1) := by kernel_rfl

/-- A row of cells. -/
def VRow (w : World) (t : TypeId) (g n : Nat) (f : Nat → Value) : Prop := ∃ cur : Array Value, w.heap[g]? = some (.cells cur t (0, 0)) ∧ n ≤ cur.size ∧ ∀ i, i < n → cur[i]? = some (f i)
theorem vrow_at {w : World} {t : TypeId} {g n : Nat} {f : Nat → Value} (h : VRow w t g n f) {i : Nat} (hi : i < n) : w.cell? ⟨g, i, none⟩ = some (f i) := by
  obtain ⟨cur, h1, h2, h3⟩ := h
  simp [World.cell?, h1, h3 i hi]
theorem vrow_lt {w : World} {t : TypeId} {g n : Nat} {f : Nat → Value} (h : VRow w t g n f) : g < w.heap.size := by
  obtain ⟨cur, h1, _⟩ := h
  exact (Array.getElem?_eq_some_iff.1 h1).1
theorem vrow_keep {w w' : World} {t : TypeId} {g n : Nat} {f : Nat → Value} (h : VRow w t g n f) (hb : w'.heap[g]? = w.heap[g]?) : VRow w' t g n f := by
  obtain ⟨cur, h1, h2, h3⟩ := h
  exact ⟨cur, by rw [hb]; exact h1, h2, h3⟩
theorem vrow_ext {w : World} {t : TypeId} {g n : Nat} {f f' : Nat → Value} (h : VRow w t g n f) (he : ∀ i, i < n → f' i = f i) : VRow w t g n f' := by
  obtain ⟨cur, h1, h2, h3⟩ := h
  exact ⟨cur, h1, h2, fun i hi => by rw [he i hi]; exact h3 i hi⟩
theorem vrow_frozen {w : World} {t : TypeId} {g n : Nat} {f : Nat → Value} (h : VRow w t g n f) (i : Nat) : w.frozen? ⟨g, i, none⟩ = false := by
  obtain ⟨cur, h1, _⟩ := h
  exact frozen_of_row w _ i cur _ h1
theorem vrow_set {w : World} {t : TypeId} {g n : Nat} {f : Nat → Value} (h : VRow w t g n f) (k : Nat) (v : Value) : VRow (w.setCell ⟨g, k, none⟩ v) t g n (fun i => if i = k then v else f i) := by
  obtain ⟨cur, h1, h2, h3⟩ := h
  refine ⟨cur.setIfInBounds k v, heap_setCell_same w g k cur _ _ h1, by simpa using h2, fun i hi => ?_⟩
  dsimp only
  by_cases c : i = k
  · subst c
    rw [if_pos rfl, Array.getElem?_setIfInBounds_self_of_lt (by omega)]
  · rw [if_neg c, Array.getElem?_setIfInBounds_ne (by omega)]
    exact h3 i hi
theorem vrow_new (w : World) (z : Value) (n : Nat) (t : TypeId) : VRow (w.alloc (.cells (madeCells #[z] n) t)) t w.heap.size n (fun _ => z) := by
  have e : (madeCells #[z] n).toList.length = n := by rw [toList_madeCells_one, List.length_replicate]
  refine ⟨_, heap_alloc_new w _, by rw [Array.length_toList] at e; omega, fun i hi => ?_⟩
  have : (madeCells #[z] n).toList[i]? = some z := by rw [toList_madeCells_one, List.getElem?_replicate, if_pos hi]
  simpa using this
theorem vrow_ints {w : World} {g n : Nat} {x : Int} (h : VRow w 3 g n (fun _ => .int .i64 x)) : Ints w (.slice (some ⟨g, 0, none⟩) n n) (List.replicate n x) := by
  refine ⟨some ⟨g, 0, none⟩, n, g, 0, by rw [List.length_replicate], ⟨fun _ => ⟨rfl, vrow_lt h⟩, fun i c hi => ?_⟩⟩
  rw [List.getElem?_replicate] at hi
  split at hi
  · next hlt =>
    rw [Nat.zero_add]
    obtain rfl := Option.some.inj hi
    exact vrow_at h hlt
  · cases hi

end Go.Proofs.Ythbghcebcahlnaa
