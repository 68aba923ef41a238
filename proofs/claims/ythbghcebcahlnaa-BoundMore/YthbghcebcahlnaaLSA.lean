/- BoundSound: its levels, its bounds. -/
import Derived.Test.YthbghcebcahlnaaOWB
import Derived.Test.YthbghcebcahlnaaBG
import Derived.Test.YthbghcebcahlnaaBW
namespace Go.Proofs.Ythbghcebcahlnaa
open Go.RowKit Go.Shelf

/-- The levels as numbers. -/
def zL (L : List Int) (i : Nat) : Int × Int := (if i < L.length then L.getD i 0 else 0, 0)
def Byte8 (L : List Int) : Prop := ∀ i, i < L.length → 0 ≤ L.getD i 0 ∧ L.getD i 0 ≤ 255
theorem float255 : ((List.range 256).all fun k => decide (floatOfInt .f64 (k : Int) < 18446744073709551616)) = true := by decide +kernel
theorem zL_bounds {L : List Int} (h : Byte8 L) (i : Nat) : 0 ≤ (zL L i).1 ∧ (zL L i).1 ≤ 255 := by
  unfold zL
  dsimp only
  split
  · exact h i (by assumption)
  · omega
theorem cellB {L : List Int} (h : Byte8 L) (i : Nat) : Cell (lvlB L i) (zL L i) 255 := by
  have hb := zL_bounds h i
  unfold lvlB zL at *
  by_cases c : i < L.length
  · rw [if_pos c, if_pos c] at *
    obtain ⟨k, hk⟩ : ∃ k : Nat, L.getD i 0 = (k : Int) := ⟨(L.getD i 0).toNat, by omega⟩
    rw [hk] at hb ⊢
    have hlt := of_decide_eq_true (List.all_eq_true.1 float255 k (List.mem_range.2 (by omega)))
    refine ⟨⟨iv_of _ (by show ((k : Nat) : Int).natAbs < 2 ^ 53; omega) rfl, Fl.iv_zero⟩, hlt, (by decide : 0 < 18446744073709551616), fun e => ?_, fun _ => rfl, by show ((k : Nat) : Int).natAbs ≤ 255; omega, (by decide : (0 : Int).natAbs ≤ 255)⟩
    have e : ((k : Nat) : Int) = 0 := e
    show floatOfInt .f64 (k : Int) = 0
    rw [e]
    decide +kernel
  · rw [if_neg c, if_neg c] at *
    exact cell_zero 255
theorem levelsB {L : List Int} (h : Byte8 L) (M : Nat) : Levels M (zL L) := fun k _ => ⟨(zL_bounds h k).1, (zL_bounds h k).2, rfl⟩
/-- The bounds that the law lays, as far as it has come. -/
def loS (L S : List Int) (i k : Nat) : Int := if k < i ∧ 2 * k + 1 < S.length then max 0 ((zL L k).1 - S.getD (2 * k) 0) else 0
def hiS (L S : List Int) (i k : Nat) : Int := if k < i ∧ 2 * k + 1 < S.length then min 255 ((zL L k).1 + S.getD (2 * k + 1) 0) else 255
theorem loS_upd {L S : List Int} {i : Nat} (h : 2 * i + 1 < S.length) : updI (loS L S i) i (max 0 ((zL L i).1 - S.getD (2 * i) 0)) = loS L S (i + 1) := by
  funext k
  unfold updI loS
  by_cases e : k = i
  · subst e
    rw [if_pos rfl, if_pos ⟨by omega, h⟩]
  · rw [if_neg e]
    by_cases c : k < i ∧ 2 * k + 1 < S.length
    · rw [if_pos c, if_pos ⟨by omega, c.2⟩]
    · rw [if_neg c, if_neg (by omega)]
theorem hiS_upd {L S : List Int} {i : Nat} (h : 2 * i + 1 < S.length) : updI (hiS L S i) i (min 255 ((zL L i).1 + S.getD (2 * i + 1) 0)) = hiS L S (i + 1) := by
  funext k
  unfold updI hiS
  by_cases e : k = i
  · subst e
    rw [if_pos rfl, if_pos ⟨by omega, h⟩]
  · rw [if_neg e]
    by_cases c : k < i ∧ 2 * k + 1 < S.length
    · rw [if_pos c, if_pos ⟨by omega, c.2⟩]
    · rw [if_neg c, if_neg (by omega)]
theorem loS_skip {L S : List Int} {i : Nat} (h : ¬ 2 * i + 1 < S.length) : loS L S (i + 1) = loS L S i := by
  funext k
  unfold loS
  by_cases c : k < i ∧ 2 * k + 1 < S.length
  · rw [if_pos c, if_pos ⟨by omega, c.2⟩]
  · rw [if_neg c, if_neg (by omega)]
theorem hiS_skip {L S : List Int} {i : Nat} (h : ¬ 2 * i + 1 < S.length) : hiS L S (i + 1) = hiS L S i := by
  funext k
  unfold hiS
  by_cases c : k < i ∧ 2 * k + 1 < S.length
  · rw [if_pos c, if_pos ⟨by omega, c.2⟩]
  · rw [if_neg c, if_neg (by omega)]
theorem bounds_abt {L S : List Int} (hL : Byte8 L) (hS : Byte8 S) (M i : Nat) : Abt M (fun k => (zL L k).1) (loS L S i) (hiS L S i) := fun k _ => by
  have hb := zL_bounds hL k
  dsimp only
  unfold loS hiS
  split
  · rename_i c
    have h1 := hS (2 * k) (by omega)
    have h2 := hS (2 * k + 1) (by omega)
    omega
  · omega
/-- A function's first values. -/
def tab (M : Nat) (f : Nat → Int) : List Int := (List.range M).map f
theorem tab_len (M : Nat) (f : Nat → Int) : (tab M f).length = M := by simp [tab]
theorem tab_get {M : Nat} {f : Nat → Int} {i : Nat} (h : i < M) : (tab M f).getD i 0 = f i := by
  simp [tab, h]
theorem ints_row {w : World} {g M cap : Nat} {f : Nat → Int} (h : IRow w g M f) : Ints w (.slice (some ⟨g, 0, none⟩) M cap) (tab M f) := by
  refine ⟨_, cap, g, 0, by rw [tab_len], ⟨fun _ => ⟨rfl, vrow_lt h⟩, fun i c hi => ?_⟩⟩
  have hl := (List.getElem?_eq_some_iff.1 hi).1
  rw [tab_len] at hl
  have : c = f i := by
    simp [tab, hl] at hi
    exact hi.symm
  rw [this, Nat.zero_add]
  exact vrow_at h hl
theorem levs_tab {n : Nat} {f g : Nat → Int} (hf : ∀ i, i < n * n → 0 ≤ f i ∧ f i ≤ 255) (hg : ∀ i, i < n * n → 0 ≤ g i ∧ g i ≤ 255) : levs n (tab (n * n) f) (tab (n * n) g) = true := by
  have key : ∀ h : Nat → Int, (∀ i, i < n * n → 0 ≤ h i ∧ h i ≤ 255) → levS (n * n) (tab (n * n) h) = true := fun h hh => by
    unfold levS lvOk
    rw [tab_len, decide_eq_true rfl, Bool.true_and]
    refine List.all_eq_true.2 fun k hk => ?_
    have hk := List.mem_range.1 hk
    rw [tab_get hk]
    have := hh k hk
    unfold noLv
    rw [decide_eq_false (by omega), decide_eq_false (by omega)]
    rfl
  unfold levs
  rw [Int.toNat_natCast, key f hf, key g hg]
  rfl
end Go.Proofs.Ythbghcebcahlnaa
