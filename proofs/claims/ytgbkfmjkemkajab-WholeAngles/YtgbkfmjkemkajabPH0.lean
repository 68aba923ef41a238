/- A heap of places as a set. Pure. -/
import Derived.Test.YtgbkfmjkemkajabDK
namespace Go.Proofs.Ytgbkfmjkemkajab

/-- Is a place among the first m? -/
def InQ (f : Nat → Nat × Nat) (m : Nat) (x : Nat × Nat) : Prop := ∃ i, i < m ∧ f i = x
def swapF (f : Nat → Nat × Nat) (i j : Nat) : Nat → Nat × Nat := fun k => if k = i then f j else if k = j then f i else f k
theorem inQ_swap {f : Nat → Nat × Nat} {i j m : Nat} (hi : i < m) (hj : j < m) (x : Nat × Nat) : InQ (swapF f i j) m x ↔ InQ f m x := by
  constructor
  · rintro ⟨k, hk, rfl⟩
    unfold swapF
    by_cases e : k = i
    · rw [if_pos e]; exact ⟨j, hj, rfl⟩
    · rw [if_neg e]
      by_cases e2 : k = j
      · rw [if_pos e2]; exact ⟨i, hi, rfl⟩
      · rw [if_neg e2]; exact ⟨k, hk, rfl⟩
  · rintro ⟨k, hk, rfl⟩
    by_cases e : k = i
    · refine ⟨j, hj, ?_⟩
      unfold swapF
      by_cases e2 : j = i
      · rw [if_pos e2, e, e2]
      · rw [if_neg e2, if_pos rfl, e]
    · by_cases e2 : k = j
      · refine ⟨i, hi, ?_⟩
        unfold swapF
        rw [if_pos rfl, e2]
      · refine ⟨k, hk, ?_⟩
        unfold swapF
        rw [if_neg e, if_neg e2]
theorem swapF_out {f : Nat → Nat × Nat} {i j k : Nat} (hi : k ≠ i) (hj : k ≠ j) : swapF f i j k = f k := by
  unfold swapF
  rw [if_neg hi, if_neg hj]
/-- One more behind. -/
def putF (f : Nat → Nat × Nat) (m : Nat) (x : Nat × Nat) : Nat → Nat × Nat := fun k => if k = m then x else f k
theorem inQ_put {f : Nat → Nat × Nat} {m : Nat} {x y : Nat × Nat} : InQ (putF f m x) (m + 1) y ↔ y = x ∨ InQ f m y := by
  constructor
  · rintro ⟨k, hk, rfl⟩
    unfold putF
    by_cases e : k = m
    · rw [if_pos e]; exact Or.inl rfl
    · rw [if_neg e]; exact Or.inr ⟨k, by omega, rfl⟩
  · rintro (rfl | ⟨k, hk, rfl⟩)
    · exact ⟨m, by omega, by unfold putF; rw [if_pos rfl]⟩
    · exact ⟨k, by omega, by unfold putF; rw [if_neg (by omega)]⟩
theorem inQ_less {f : Nat → Nat × Nat} {m : Nat} {y : Nat × Nat} (h : InQ f (m + 1) y) : y = f m ∨ InQ f m y := by
  obtain ⟨k, hk, rfl⟩ := h
  by_cases e : k = m
  · rw [e]; exact Or.inl rfl
  · exact Or.inr ⟨k, by omega, rfl⟩
theorem inQ_more {f : Nat → Nat × Nat} {m : Nat} {y : Nat × Nat} (h : InQ f m y) : InQ f (m + 1) y := by
  obtain ⟨k, hk, rfl⟩ := h
  exact ⟨k, by omega, rfl⟩

end Go.Proofs.Ytgbkfmjkemkajab
