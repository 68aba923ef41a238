/- From the lone machine's run to arriving. -/
import Derived.Test.YthbghcebcahlnaaRO
import Derived.Control
set_option linter.unusedSectionVars false
namespace Go.Proofs.Ythbghcebcahlnaa
open Go
variable {P : Program} {F : Array Func} [Inhabited Junk]

theorem step_lone_of_go {fr fr' : Frame} {cs cs' : List Frame} {w w' : World} {es : Array Event} (h : stepG P true (runG fr cs) w = .go (runG fr' cs') w' es) : step P (lone fr cs w) = .next (lone fr' cs' w') :=
  step_lone_go (by
    have h : stepG P true { frame := fr, callers := cs, status := .running, dying := none } w = .go (runG fr' cs') w' es := h
    rw [h]
    rfl)
theorem step_lone_of_ended {fr : Frame} {cs : List Frame} {w w' : World} {o : Outcome} {es : Array Event} (h : stepG P true (runG fr cs) w = .ended o w' es) : step P (lone fr cs w) = .ended o w' :=
  step_lone_ended (by
    have h : stepG P true { frame := fr, callers := cs, status := .running, dying := none } w = .ended o w' es := h
    rw [h]
    rfl)

theorem arr_of_run (hP : bar P F = P) (hF : FenceB P F) (hB : Bodies P F) {r : Nat} (hr : F[r]? = none) {E : Frame → List Frame → World → Prop} {fr1 : Frame} {up1 : List Frame} {w1 : World} (hE : FitB P fr1 up1 w1 → E fr1 up1 w1) : ∀ (n : Nat) (fr : Frame) (up : List Frame) (w : World), FitB P fr up w → runN P n (lone fr (up ++ [baseF r]) w) = .next (lone fr1 (up1 ++ [baseF r]) w1) → Arr P r E fr up w
  | 0, fr, up, w, hf, e => by
    have e : lone fr (up ++ [baseF r]) w = lone fr1 (up1 ++ [baseF r]) w1 := by
      have : Stepped.next (lone fr (up ++ [baseF r]) w) = .next (lone fr1 (up1 ++ [baseF r]) w1) := e
      injection this
    have h1 : w = w1 := congrArg Machine.world e
    have h2 := congrArg Machine.gs e
    simp only [lone, Array.mk.injEq, List.cons.injEq, Goroutine.mk.injEq, and_true] at h2
    obtain ⟨h3, h4⟩ := h2
    have h4 : up = up1 := List.append_cancel_right h4
    subst h1 h3 h4
    exact .fin (hE hf)
  | n + 1, fr, up, w, hf, e => by
    have hs : Sib P (fun _ => False) w w := ⟨rfl, fun _ _ => .inl rfl, fun _ hx => hx.elim, hf.kind, hf.env⟩
    have hm := step_sim (r := r) (cs := [baseF r]) hF hB hs hf.frame hf.up true true
    rw [hP] at hm
    unfold runN at e
    generalize hS : stepG P true (runG fr (up ++ [baseF r])) w = S at hm
    rcases hm with ⟨o, w2, es2, rfl⟩ | ⟨fr2, w2, es2, h1, h2, h3, rfl⟩ | ⟨fr2, up2, w2, es2, ht, hl, hf2, hu2, he, hz, hS', rfl⟩
    · rw [step_lone_of_ended hS] at e
      cases e
    · rw [step_lone_of_go hS] at e
      obtain ⟨o, w3, es3, hd⟩ := base_dead (P := P) (F := F) (w := w2) hr h1 h2 true
      rw [hP] at hd
      cases n with
      | zero =>
        have e : lone fr2 [] w2 = lone fr1 (up1 ++ [baseF r]) w1 := by
          have : Stepped.next (lone fr2 [] w2) = .next (lone fr1 (up1 ++ [baseF r]) w1) := e
          injection this
        have h2 := congrArg Machine.gs e
        simp [lone] at h2
      | succ n =>
        dsimp only at e
        unfold runN at e
        rw [step_lone_of_ended hd] at e
        cases e
    · rw [step_lone_of_go hS] at e
      obtain ⟨f1, _, _, _⟩ := step_local hP hF hB hf hS
      exact .step hS (arr_of_run hP hF hB hr hE n fr2 up2 w2 f1 e)

/-- A LONE CONTRACT FOR EVERY TAPE GOES ON WELL-FOUNDED. -/
theorem goesW_of_steps (hP : bar P F = P) (hF : FenceB P F) (hB : Bodies P F) {r : Nat} {E : Frame → List Frame → World → Prop} (hE : ∀ fr up w τ d, E fr up (re w τ d) ↔ E fr up w) {fr : Frame} {up : List Frame} {w : World} (hf : FitB P fr up w) (hr : F[r]? = none)
    (h : ∀ τ d, ∃ fr1 up1 w1, (FitB P fr1 up1 w1 → E fr1 up1 w1) ∧ Steps P (lone fr (up ++ [baseF r]) (re w τ d)) (lone fr1 (up1 ++ [baseF r]) w1)) : GoesW P r E fr up w := by
  refine goesW_of_all hP hF hB hE hf fun τ d => ?_
  obtain ⟨fr1, up1, w1, h1, n, h2⟩ := h τ d
  exact arr_of_run hP hF hB hr h1 n fr up _ (fit_re hf τ d) h2
end Go.Proofs.Ythbghcebcahlnaa
