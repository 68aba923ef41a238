/- The document's own Twice: the first error of a list of directions. -/
import Derived.Test.YthbghcebcahlnaaDM
import Derived.BigQuiet
namespace Go.Proofs.Ythbghcebcahlnaa
open Go.RowKit

/-- The first error of a list, what stands ahead of it seen. -/
def twiceFrom : List (Int × Int) → List (Int × Int) → Int
  | _, [] => 0
  | seen, d :: r => if okD d.1 d.2 then (if d ∈ seen then 3 else twiceFrom (seen ++ [d]) r) else 60
def twiceS (L : List (Int × Int)) : Int := twiceFrom [] L

theorem twice_end {L : List (Int × Int)} : twiceFrom (L.take L.length) (L.drop L.length) = 0 := by
  rw [List.drop_length]
  rfl
theorem twice_bad {L : List (Int × Int)} {i : Nat} {d : Int × Int} (hd : L[i]? = some d) (h : okD d.1 d.2 = false) : twiceFrom (L.take i) (L.drop i) = 60 := by
  have hi := (List.getElem?_eq_some_iff.1 hd).1
  have e := (List.getElem?_eq_some_iff.1 hd).2
  rw [List.drop_eq_getElem_cons hi, e]
  unfold twiceFrom
  rw [if_neg (by rw [h]; decide)]
theorem twice_seen {L : List (Int × Int)} {i k : Nat} {d : Int × Int} (hd : L[i]? = some d) (h : okD d.1 d.2 = true) (hk : k < i) (he : L[k]? = some d) : twiceFrom (L.take i) (L.drop i) = 3 := by
  have hi := (List.getElem?_eq_some_iff.1 hd).1
  have e := (List.getElem?_eq_some_iff.1 hd).2
  rw [List.drop_eq_getElem_cons hi, e]
  unfold twiceFrom
  have hm : d ∈ L.take i := by
    refine List.mem_of_getElem? (i := k) ?_
    rw [List.getElem?_take, if_pos hk]
    exact he
  rw [if_pos h, if_pos hm]
theorem twice_on {L : List (Int × Int)} {i : Nat} {d : Int × Int} (hd : L[i]? = some d) (h : okD d.1 d.2 = true) (hk : ∀ k, k < i → L[k]? ≠ some d) : twiceFrom (L.take i) (L.drop i) = twiceFrom (L.take (i + 1)) (L.drop (i + 1)) := by
  have hi := (List.getElem?_eq_some_iff.1 hd).1
  have e := (List.getElem?_eq_some_iff.1 hd).2
  have hm : ¬ d ∈ L.take i := by
    intro hm
    obtain ⟨k, hk2⟩ := List.mem_iff_getElem?.1 hm
    rw [List.getElem?_take] at hk2
    by_cases c : k < i
    · rw [if_pos c] at hk2
      exact hk k c hk2
    · rw [if_neg c] at hk2
      cases hk2
  rw [List.drop_eq_getElem_cons hi, e, List.take_succ_eq_append_getElem hi, e]
  show (if okD d.1 d.2 then (if d ∈ L.take i then 3 else twiceFrom (L.take i ++ [d]) (L.drop (i + 1))) else 60) = _
  rw [if_pos h, if_neg hm]

theorem pairs2_get {L : List (Int × Int)} {i : Nat} (hi : i < L.length) : ∃ x y, L[i]? = some (x, y) := ⟨L[i].1, L[i].2, List.getElem?_eq_getElem hi⟩

/-- Directions, each of ints. -/
def All64 (L : List (Int × Int)) : Prop := ∀ (i : Nat) (d : Int × Int), L[i]? = some d → Dir64 d

end Go.Proofs.Ythbghcebcahlnaa
