/- Bounds drawn together: what one line does, without wrapping. -/
import Derived.Test.YthbghcebcahlnaaBW1
import Derived.Test.YthbghcebcahlnaaTB
namespace Go.Proofs.Ythbghcebcahlnaa
open Go.RowKit

theorem wrap_in {x : Int} (h1 : -9000000000000000000 ≤ x) (h2 : x ≤ 9000000000000000000) : wrap64 x = x := IntWalk.wrap64_in _ ⟨by omega, by omega⟩
theorem sumL_append (f : Nat → Int) : ∀ (a b : List Nat), sumL f (a ++ b) = sumL f a + sumL f b
  | [], b => by simp [sumL]
  | c :: a, b => by
    have := sumL_append f a b
    simp only [List.cons_append, sumL]
    omega
theorem sumL_bounds {f : Nat → Int} : ∀ {L : List Nat}, (∀ c, c ∈ L → 0 ≤ f c ∧ f c ≤ 255) → 0 ≤ sumL f L ∧ sumL f L ≤ 255 * L.length
  | [], _ => by simp [sumL]
  | c :: r, h => by
    have h1 := h c (by simp)
    have h2 := sumL_bounds (L := r) fun x hx => h x (by simp [hx])
    simp only [sumL, List.length_cons]
    omega
theorem getD_mem {P : List Nat} {k : Nat} (h : k < P.length) : P.getD k 0 ∈ P := by
  rw [List.getD_eq_getElem?_getD, List.getElem?_eq_getElem h]
  exact List.getElem_mem h
theorem sumK_take {f : Nat → Int} {P : List Nat} (hP : P.length ≤ 4096) (hf : ∀ c, c ∈ P → 0 ≤ f c ∧ f c ≤ 255) : ∀ k, k ≤ P.length → sumK f P k = sumL f (P.take k)
  | 0, _ => by simp [sumK, sumL]
  | k + 1, h => by
    have ih := sumK_take hP hf k (by omega)
    have e : P.take (k + 1) = P.take k ++ [P.getD k 0] := by
      rw [List.take_add_one, List.getD_eq_getElem?_getD, List.getElem?_eq_getElem (by omega)]
      rfl
    have b1 := sumL_bounds (L := P.take k) fun c hc => hf c (List.mem_of_mem_take hc)
    have b2 := hf _ (getD_mem (show k < P.length by omega))
    have l1 : (P.take k).length ≤ 4096 := by rw [List.length_take]; omega
    unfold sumK
    rw [ih, e, sumL_append]
    simp only [sumL, Int.add_zero]
    rw [wrap_in (by omega) (by omega)]
theorem sumK_all {f : Nat → Int} {P : List Nat} (hP : P.length ≤ 4096) (hf : ∀ c, c ∈ P → 0 ≤ f c ∧ f c ≤ 255) : sumK f P P.length = sumL f P := by
  rw [sumK_take hP hf _ (Nat.le_refl _), List.take_length]
theorem sumL_notin {f : Nat → Int} {p : Nat} {x : Int} : ∀ {L : List Nat}, p ∉ L → sumL (updI f p x) L = sumL f L
  | [], _ => rfl
  | c :: r, h => by
    have h1 : c ≠ p := fun e => h (by simp [e])
    have h2 : p ∉ r := fun e => h (by simp [e])
    simp only [sumL, sumL_notin h2, updI, if_neg h1]
theorem sumL_upd {f : Nat → Int} {p : Nat} {x : Int} : ∀ {L : List Nat}, p ∈ L → L.Nodup → sumL (updI f p x) L = sumL f L - f p + x
  | [], h, _ => by simp at h
  | c :: r, h, hd => by
    rw [List.nodup_cons] at hd
    by_cases e : c = p
    · subst e
      simp only [sumL, sumL_notin hd.1, updI, if_pos]
      omega
    · have hc : p ∈ r := by
        rcases List.mem_cons.1 h with h | h
        · exact absurd h.symm e
        · exact h
      have := sumL_upd (f := f) (x := x) hc hd.2
      simp only [sumL, this, updI, if_neg e]
      omega
/-- A line of the grid and its sum. -/
structure Own (M : Nat) (g : Nat → Int) (L : List Nat × Int) : Prop where
  nd : L.1.Nodup
  ins : ∀ c, c ∈ L.1 → c < M
  sum : sumL g L.1 = L.2
  len : L.1.length ≤ 256
/-- Bounds of levels about the grid. -/
def Abt (M : Nat) (g lo hi : Nat → Int) : Prop := ∀ i, i < M → 0 ≤ lo i ∧ lo i ≤ g i ∧ g i ≤ hi i ∧ hi i ≤ 255
/-- One cell. -/
theorem dStep_own {M : Nat} {g : Nat → Int} {L : List Nat × Int} (hL : Own M g L) {p : Nat} (hp : p ∈ L.1) {s : DS} (hA : Abt M g s.lo s.hi) (h1 : s.least = sumL s.lo L.1) (h2 : s.most = sumL s.hi L.1) :
    ∃ d, dStep L.2 p s = some d ∧ d.lo = setI s.lo p (max (s.lo p) (lowAt L s.hi p)) ∧ d.hi = setI s.hi p (min (s.hi p) (lowAt L s.lo p)) ∧ d.least = sumL d.lo L.1 ∧ d.most = sumL d.hi L.1 ∧ Abt M g d.lo d.hi ∧
      (d.ch = false → s.ch = false ∧ d.lo = s.lo ∧ d.hi = s.hi ∧ lowAt L s.hi p ≤ s.lo p ∧ s.hi p ≤ lowAt L s.lo p) := by
  obtain ⟨a1, a2, a3, a4⟩ := hA p (hL.ins p hp)
  have bl := sumL_bounds (f := s.lo) (L := L.1) fun c hc => by have := hA c (hL.ins c hc); omega
  have bh := sumL_bounds (f := s.hi) (L := L.1) fun c hc => by have := hA c (hL.ins c hc); omega
  have bg := sumL_bounds (f := g) (L := L.1) fun c hc => by have := hA c (hL.ins c hc); omega
  have r1 := sumL_rest (f := s.lo) (g := g) hp hL.nd fun x hx _ => (hA x (hL.ins x hx)).2.1
  have r2 := sumL_rest (f := g) (g := s.hi) hp hL.nd fun x hx _ => (hA x (hL.ins x hx)).2.2.1
  have hs := hL.sum
  have hn := hL.len
  have e1 : wrap64 (s.least - s.lo p) = sumL s.lo L.1 - s.lo p := by rw [h1]; exact wrap_in (by omega) (by omega)
  have e2 : wrap64 (s.most - s.hi p) = sumL s.hi L.1 - s.hi p := by rw [h2]; exact wrap_in (by omega) (by omega)
  have e3 : wrap64 (L.2 - (sumL s.hi L.1 - s.hi p)) = lowAt L s.hi p := wrap_in (by omega) (by omega)
  have e4 : wrap64 (L.2 - (sumL s.lo L.1 - s.lo p)) = lowAt L s.lo p := wrap_in (by omega) (by omega)
  have l1 : lowAt L s.hi p = L.2 - (sumL s.hi L.1 - s.hi p) := rfl
  have l2 : lowAt L s.lo p = L.2 - (sumL s.lo L.1 - s.lo p) := rfl
  have m1 : (if s.lo p < lowAt L s.hi p then lowAt L s.hi p else s.lo p) = max (s.lo p) (lowAt L s.hi p) := by
    split <;> omega
  have m2 : (if lowAt L s.lo p < s.hi p then lowAt L s.lo p else s.hi p) = min (s.hi p) (lowAt L s.lo p) := by
    split <;> omega
  have hlow : max (s.lo p) (lowAt L s.hi p) ≤ g p := by omega
  have hhigh : g p ≤ min (s.hi p) (lowAt L s.lo p) := by omega
  have e5 : wrap64 (sumL s.lo L.1 - s.lo p + max (s.lo p) (lowAt L s.hi p)) = sumL s.lo L.1 - s.lo p + max (s.lo p) (lowAt L s.hi p) := wrap_in (by omega) (by omega)
  have e6 : wrap64 (sumL s.hi L.1 - s.hi p + min (s.hi p) (lowAt L s.lo p)) = sumL s.hi L.1 - s.hi p + min (s.hi p) (lowAt L s.lo p) := wrap_in (by omega) (by omega)
  have hd : dStep L.2 p s = some ⟨sumL s.lo L.1 - s.lo p + max (s.lo p) (lowAt L s.hi p), sumL s.hi L.1 - s.hi p + min (s.hi p) (lowAt L s.lo p), s.ch || (max (s.lo p) (lowAt L s.hi p) != s.lo p) || (min (s.hi p) (lowAt L s.lo p) != s.hi p), updI s.lo p (max (s.lo p) (lowAt L s.hi p)), updI s.hi p (min (s.hi p) (lowAt L s.lo p))⟩ := by
    unfold dStep
    dsimp only
    rw [e1, e2, e3, e4, m1, m2, if_neg (by omega), e5, e6]
  refine ⟨_, hd, rfl, rfl, ?_, ?_, fun i hi => ?_, fun hc => ?_⟩
  · exact (sumL_upd hp hL.nd).symm
  · exact (sumL_upd hp hL.nd).symm
  · have := hA i hi
    show 0 ≤ updI s.lo p _ i ∧ updI s.lo p _ i ≤ g i ∧ g i ≤ updI s.hi p _ i ∧ updI s.hi p _ i ≤ 255
    unfold updI
    by_cases e : i = p
    · subst e
      rw [if_pos rfl, if_pos rfl]
      omega
    · rw [if_neg e, if_neg e]
      exact this
  · simp only [Bool.or_eq_false_iff, bne_eq_false_iff_eq] at hc
    obtain ⟨⟨c1, c2⟩, c3⟩ := hc
    refine ⟨c1, funext fun i => ?_, funext fun i => ?_, by omega, by omega⟩
    · show updI s.lo p _ i = _
      unfold updI
      split
      · next e => rw [e]; exact c2
      · rfl
    · show updI s.hi p _ i = _
      unfold updI
      split
      · next e => rw [e]; exact c3
      · rfl
end Go.Proofs.Ythbghcebcahlnaa
