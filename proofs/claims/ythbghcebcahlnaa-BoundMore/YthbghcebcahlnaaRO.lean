/- A lone machine that arrives for every tape goes on well-founded: the theorem. -/
import Derived.Test.YthbghcebcahlnaaRN
set_option linter.unusedSectionVars false
namespace Go.Proofs.Ythbghcebcahlnaa
open Go

/-- A tape glued of segments: from pos i on, len i answers of τ i from d i on. -/
theorem glue (τ : Nat → Nat → Question → Nat) (d len pos : Nat → Nat) (h0 : ∀ i, pos (i + 1) = pos i + len i) : ∃ T : Nat → Question → Nat, ∀ i j q, j < len i → T (pos i + j) q = τ i (d i + j) q := by
  classical
  have mono : ∀ i k, pos i ≤ pos (i + k) := by
    intro i k
    induction k with
    | zero => exact Nat.le_refl _
    | succ k ih => rw [show i + (k + 1) = (i + k) + 1 by omega, h0]; omega
  have mono' : ∀ i k, i ≤ k → pos i ≤ pos k := fun i k h => by
    have := mono i (k - i)
    rwa [show i + (k - i) = k by omega] at this
  have uniq : ∀ i k p, pos i ≤ p → p < pos (i + 1) → pos k ≤ p → p < pos (k + 1) → i = k := by
    intro i k p h1 h2 h3 h4
    rcases Nat.lt_trichotomy i k with h | h | h
    · have := mono' (i + 1) k h
      omega
    · exact h
    · have := mono' (k + 1) i h
      omega
  refine ⟨fun p q => if h : ∃ i, pos i ≤ p ∧ p < pos (i + 1) then τ h.choose (d h.choose + (p - pos h.choose)) q else 0, fun i j q hj => ?_⟩
  have hi : ∃ i', pos i' ≤ pos i + j ∧ pos i + j < pos (i' + 1) := ⟨i, by omega, by rw [h0]; omega⟩
  have e : hi.choose = i := uniq _ _ (pos i + j) hi.choose_spec.1 hi.choose_spec.2 (by omega) (by rw [h0]; omega)
  show (if h : ∃ i', pos i' ≤ pos i + j ∧ pos i + j < pos (i' + 1) then τ h.choose (d h.choose + (pos i + j - pos h.choose)) q else 0) = _
  rw [dif_pos hi, e]
  congr 1
  omega

variable {P : Program} {F : Array Func} [Inhabited Junk]
section
/-- WHAT ARRIVES FOR EVERY TAPE GOES ON WELL-FOUNDED. -/
theorem goesW_of_all (hP : bar P F = P) (hF : FenceB P F) (hB : Bodies P F) {r : Nat} {E : Frame → List Frame → World → Prop} (hE : ∀ fr up w τ d, E fr up (re w τ d) ↔ E fr up w) {fr : Frame} {up : List Frame} {w : World} (hf : FitB P fr up w) (hall : ∀ τ d, Arr P r E fr up (re w τ d)) : GoesW P r E fr up w := by
  classical
  refine Classical.byContradiction fun hn => ?_
  let St := { s : Frame × List Frame × World // Lost P r E s }
  let s0 : St := ⟨(fr, up, w), ⟨hf, hall, hn⟩⟩
  let nx (s : St) : St := ⟨(lost_step hP hF hB hE s.2).choose_spec.choose_spec.choose, (lost_step hP hF hB hE s.2).choose_spec.choose_spec.choose_spec.choose_spec.2⟩
  let ta (s : St) : Nat → Question → Nat := (lost_step hP hF hB hE s.2).choose
  let da (s : St) : Nat := (lost_step hP hF hB hE s.2).choose_spec.choose
  have hst : ∀ s : St, ∃ es, stepG P true (runG s.1.1 (s.1.2.1 ++ [baseF r])) (re s.1.2.2 (ta s) (da s)) = .go (runG (nx s).1.1 ((nx s).1.2.1 ++ [baseF r])) (nx s).1.2.2 es := fun s =>
    ⟨_, (lost_step hP hF hB hE s.2).choose_spec.choose_spec.choose_spec.choose_spec.1⟩
  let sq : Nat → St := fun n => Nat.rec s0 (fun _ s => nx s) n
  have sq1 : ∀ n, sq (n + 1) = nx (sq n) := fun n => rfl
  let len : Nat → Nat := fun n => (sq (n + 1)).1.2.2.drawn - da (sq n)
  let pos : Nat → Nat := fun n => Nat.rec 0 (fun i p => p + len i) n
  obtain ⟨T, hT⟩ := glue (fun i => ta (sq i)) (fun i => da (sq i)) len pos (fun i => rfl)
  have never : ∀ (fr : Frame) (up : List Frame) (w : World), Arr P r E fr up w → ∀ i, fr = (sq i).1.1 → up = (sq i).1.2.1 → w = re (sq i).1.2.2 T (pos i) → False := by
    intro fr up w h
    induction h using Arr.ind with
    | @fin fr up w h =>
      intro i e1 e2 e3
      subst e3
      have h := (hE _ _ _ _ _).mp h
      have hl := (sq i).2.not
      rw [← e1, ← e2] at hl
      exact hl (.fin h)
    | @step fr up w fr' up' w' es h ha ih =>
      intro i e1 e2 e3
      subst e1 e2 e3
      obtain ⟨es2, h2⟩ := hst (sq i)
      obtain ⟨_, _, _, f4⟩ := step_local hP hF hB (fit_re (sq i).2.fit _ _) h2
      have e := f4 T (pos i) (fun j q hj => hT i j q hj)
      have e : stepG P true (runG (sq i).1.1 ((sq i).1.2.1 ++ [baseF r])) (re (sq i).1.2.2 T (pos i)) = .go (runG (sq (i + 1)).1.1 ((sq (i + 1)).1.2.1 ++ [baseF r])) (re (sq (i + 1)).1.2.2 T (pos (i + 1))) es2 := e
      rw [h] at e
      obtain ⟨e1, e2, e3⟩ := go_inj e
      exact ih (i + 1) e1 e2 e3
  exact never _ _ _ (hall T 0) 0 rfl rfl rfl
end
end Go.Proofs.Ythbghcebcahlnaa
