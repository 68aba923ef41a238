/- All that is no block of the peeling's is left alone. -/
import Derived.Test.YtgbkfmjkemkajabPM4
namespace Go.Proofs.Ytgbkfmjkemkajab
open Go.RowKit

/-- A block of the peeling's own. -/
def inPeel (K : Nat) (V : PV) (v : Value) (x : Nat) : Prop := x = V.B ∨ (∃ r, PLive K r ∧ x = V.blk r) ∨ v.ownBlock = some x
/-- What lies in the heap and is none of them. -/
def asideS (K : Nat) (V : PV) (v : Value) (w : World) (x : Nat) : Prop := x < w.heap.size ∧ ¬ inPeel K V v x

section
variable {S : Nat → Prop} {w w' : World} {n : Nat} {L : List (Int × Int)} {a : Option Addr} {cap g o : Nat} {V : PV} {bo : Nat → Bool} {bk : Nat → Nat → Bool} {v : Value} {m : Nat} {f : Nat → Nat × Nat}

theorem Peel.notIn (h : Peel S w n L a cap g o V bo bk v m f) {x : Nat} (hx : S x) : ¬ inPeel L.length V v x := by
  rintro (e | ⟨r, hr, e⟩ | e)
  · exact h.sB (e ▸ hx)
  · exact h.sR r hr (e ▸ hx)
  · exact h.sQ x e hx
theorem Peel.inLt (h : Peel S w n L a cap g o V bo bk v m f) {x : Nat} (hx : inPeel L.length V v x) : x < w.heap.size := by
  rcases hx with e | ⟨r, hr, e⟩ | e
  · rw [e]; exact h.heap.lt
  · rw [e]; exact h.lt hr
  · exact h.heap.qv.lt e
theorem Peel.canon (h : Peel S w n L a cap g o V bo bk v m f) : Peel (asideS L.length V v w) w n L a cap g o V bo bk v m f :=
  h.more (fun _ hx => hx.1) (fun hx => hx.2 (Or.inl rfl)) (fun r hr hx => hx.2 (Or.inr (Or.inl ⟨r, hr, rfl⟩))) (fun _ hq hx => hx.2 (Or.inr (Or.inr hq))) (fun hl => ⟨(h.dirs.at_ hl).2, h.notIn (h.dS hl)⟩)
/-- What is new since is none of them. -/
theorem Peel.newNot (h : Peel S w n L a cap g o V bo bk v m f) {x : Nat} (hx : w.heap.size ≤ x) : ¬ inPeel L.length V v x := fun hi => by
  have := h.inLt hi
  omega
/-- The types of its blocks. -/
def peelType (t : TypeId) : Prop := t = 71 ∨ t = 4 ∨ t = 3 ∨ t = 86 ∨ t = 96 ∨ t = 58
theorem peelType_row (r : Nat) : peelType (PTv r) := by
  match r with
  | 0 => exact Or.inr (Or.inl rfl)
  | 1 => exact Or.inr (Or.inr (Or.inl rfl))
  | 2 => exact Or.inr (Or.inr (Or.inr (Or.inl rfl)))
  | r + 3 => exact Or.inr (Or.inr (Or.inr (Or.inr (Or.inl rfl))))
/-- A block of another type is none of them. -/
theorem Peel.notType (h : Peel S w n L a cap g o V bo bk v m f) {x : Nat} {cs : Array Value} {t : TypeId} {z : Nat × Nat} (hx : w.heap[x]? = some (.cells cs t z)) (ht : ¬ peelType t) : ¬ inPeel L.length V v x := by
  rintro (e | ⟨r, hr, e⟩ | e)
  · subst e
    rw [h.heap.st] at hx
    injection hx with hx
    injection hx with _ hx _
    exact ht (hx ▸ Or.inl rfl)
  · subst e
    obtain ⟨cur, h1, _⟩ := h.mem.row r hr
    rw [h1] at hx
    injection hx with hx
    injection hx with _ hx _
    exact ht (hx ▸ peelType_row r)
  · rcases h.heap.qv with ⟨e2, _⟩ | ⟨q, c, e2, cur, h1, _⟩
    · rw [e2] at e; cases e
    · rw [e2] at e
      have e : q = x := by simpa [Value.ownBlock] using e
      subst e
      rw [h1] at hx
      injection hx with hx
      injection hx with _ hx _
      exact ht (hx ▸ Or.inr (Or.inr (Or.inr (Or.inr (Or.inr rfl)))))
end
end Go.Proofs.Ytgbkfmjkemkajab
