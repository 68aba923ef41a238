/- Bounds drawn together: the widest that every line allows; whole numbers alone. -/
import Derived.Test.YthbghcebcahlnaaDL
namespace Go.Proofs.Ythbghcebcahlnaa
open Go.RowKit

def sumL (f : Nat → Int) : List Nat → Int
  | [] => 0
  | c :: r => f c + sumL f r

theorem sumL_mono {f g : Nat → Int} : ∀ {L : List Nat}, (∀ c, c ∈ L → f c ≤ g c) → sumL f L ≤ sumL g L
  | [], _ => Int.le_refl _
  | c :: r, h => by
    have h1 := h c (by simp)
    have h2 := sumL_mono (L := r) fun x hx => h x (by simp [hx])
    unfold sumL
    omega

/-- A line without one of its cells. -/
theorem sumL_rest {f g : Nat → Int} : ∀ {L : List Nat} {c : Nat}, c ∈ L → L.Nodup → (∀ x, x ∈ L → x ≠ c → f x ≤ g x) → sumL f L - f c ≤ sumL g L - g c
  | [], _, h, _, _ => by simp at h
  | a :: r, c, h, hd, hm => by
    rw [List.nodup_cons] at hd
    unfold sumL
    by_cases e : a = c
    · subst e
      have := sumL_mono (L := r) fun x hx => hm x (by simp [hx]) (fun y => hd.1 (y ▸ hx))
      omega
    · have hc : c ∈ r := by
        rcases List.mem_cons.1 h with h | h
        · exact absurd h.symm e
        · exact h
      have h1 := hm a (by simp) e
      have h2 := sumL_rest hc hd.2 fun x hx hne => hm x (by simp [hx]) hne
      omega

/-- No line can draw these bounds further together. -/
def Stable (lines : List (List Nat × Int)) (lo hi : Nat → Int) : Prop :=
  ∀ L, L ∈ lines → ∀ c, c ∈ L.1 → L.2 - (sumL hi L.1 - hi c) ≤ lo c ∧ hi c ≤ L.2 - (sumL lo L.1 - lo c)

def Within (M : Nat) (lo hi lo0 hi0 : Nat → Int) : Prop := ∀ i, i < M → lo0 i ≤ lo i ∧ hi i ≤ hi0 i

/-- The widest such bounds within others. -/
structure Great (M : Nat) (lines : List (List Nat × Int)) (lo0 hi0 lo hi : Nat → Int) : Prop where
  stab : Stable lines lo hi
  ins : Within M lo hi lo0 hi0
  most : ∀ l h, Stable lines l h → Within M l h lo0 hi0 → Within M l h lo hi

theorem stable_less {lines lines' : List (List Nat × Int)} {lo hi : Nat → Int} (hs : ∀ L, L ∈ lines → L ∈ lines') (h : Stable lines' lo hi) : Stable lines lo hi := fun L hL c hc => h L (hs L hL) c hc

theorem great_more {M : Nat} {lines lines' : List (List Nat × Int)} {lo0 hi0 lo hi lo' hi' : Nat → Int} (hs : ∀ L, L ∈ lines → L ∈ lines') (h : Great M lines lo0 hi0 lo hi) (h' : Great M lines' lo0 hi0 lo' hi') : Within M lo' hi' lo hi :=
  h.most _ _ (stable_less hs h'.stab) h'.ins

theorem great_same {M : Nat} {lines lines' : List (List Nat × Int)} {lo0 hi0 lo hi lo' hi' : Nat → Int} (hs : ∀ L, L ∈ lines ↔ L ∈ lines') (h : Great M lines lo0 hi0 lo hi) (h' : Great M lines' lo0 hi0 lo' hi') : ∀ i, i < M → lo i = lo' i ∧ hi i = hi' i := fun i hi => by
  have h1 := great_more (fun L hL => (hs L).1 hL) h h' i hi
  have h2 := great_more (fun L hL => (hs L).2 hL) h' h i hi
  omega

theorem great_done {M : Nat} {lines : List (List Nat × Int)} {lo0 hi0 lo hi lo' hi' : Nat → Int} (h : Great M lines lo0 hi0 lo hi) (h' : Great M lines lo hi lo' hi') : ∀ i, i < M → lo i = lo' i ∧ hi i = hi' i := fun i hi => by
  have h1 := h'.most _ _ h.stab (fun i _ => ⟨Int.le_refl _, Int.le_refl _⟩) i hi
  have h2 := h'.ins i hi
  omega

/-- A grid's own sums allow it. -/
theorem stable_own {lines : List (List Nat × Int)} {g : Nat → Int} (h : ∀ L, L ∈ lines → sumL g L.1 = L.2) : Stable lines g g := fun L hL c _ => by
  have := h L hL
  omega

theorem great_sound {M : Nat} {lines : List (List Nat × Int)} {lo0 hi0 lo hi g : Nat → Int} (h : Great M lines lo0 hi0 lo hi) (hg : ∀ L, L ∈ lines → sumL g L.1 = L.2) (hw : Within M g g lo0 hi0) : Within M g g lo hi := h.most _ _ (stable_own hg) hw

/-- Lines of cells of the grid, each once. -/
def LinesOk (M : Nat) (lines : List (List Nat × Int)) : Prop := ∀ L, L ∈ lines → L.1.Nodup ∧ ∀ c, c ∈ L.1 → c < M

def lowAt (L : List Nat × Int) (hi : Nat → Int) (c : Nat) : Int := L.2 - (sumL hi L.1 - hi c)
def setI (f : Nat → Int) (c : Nat) (x : Int) : Nat → Int := fun i => if i = c then x else f i

/-- One step: what any line allows stays within. -/
theorem step_within {M : Nat} {lines : List (List Nat × Int)} (hl : LinesOk M lines) {L : List Nat × Int} (hL : L ∈ lines) {c : Nat} (hc : c ∈ L.1) {lo hi l h : Nat → Int} (hs : Stable lines l h) (hw : Within M l h lo hi) :
    Within M l h (setI lo c (max (lo c) (lowAt L hi c))) (setI hi c (min (hi c) (lowAt L lo c))) := fun i hi' => by
  obtain ⟨nd, ins⟩ := hl L hL
  have hm := hw i hi'
  unfold setI
  by_cases e : i = c
  · subst e
    rw [if_pos rfl, if_pos rfl]
    obtain ⟨s1, s2⟩ := hs L hL i hc
    have a1 := sumL_rest hc nd (f := h) (g := hi) fun x hx _ => (hw x (ins x hx)).2
    have a2 := sumL_rest hc nd (f := lo) (g := l) fun x hx _ => (hw x (ins x hx)).1
    unfold lowAt
    omega
  · rw [if_neg e, if_neg e]
    exact hm

/-- Bounds that no step changes are stable. -/
theorem stable_of {lines : List (List Nat × Int)} {lo hi : Nat → Int} (h : ∀ L, L ∈ lines → ∀ c, c ∈ L.1 → lowAt L hi c ≤ lo c ∧ hi c ≤ lowAt L lo c) : Stable lines lo hi := fun L hL c hc => h L hL c hc

theorem great_of {M : Nat} {lines : List (List Nat × Int)} {lo0 hi0 lo hi : Nat → Int} (h1 : Stable lines lo hi) (h2 : Within M lo hi lo0 hi0) (h3 : ∀ l h, Stable lines l h → Within M l h lo0 hi0 → Within M l h lo hi) : Great M lines lo0 hi0 lo hi := ⟨h1, h2, h3⟩
end Go.Proofs.Ythbghcebcahlnaa
