/- A lone contract for every tape goes on well-founded. -/
import Derived.Test.YthbghcebcahlnaaRQ
import Derived.Calls
set_option linter.unusedSectionVars false
namespace Go.Proofs.Ythbghcebcahlnaa
open Go
variable {P : Program} {F : Array Func} [Inhabited Junk]

/-- A frame that leaves its function, and what is said of it. -/
def Leaves (P : Program) (f : FuncId) (R : Ending → World → Prop) (fr : Frame) (w : World) : Prop := (∀ (r : Nat) (o : Obj), w.heap[r]? = some o → okObj P o) ∧ w.os.env = #[] ∧ fr.fn = f ∧ ∃ e, R e w ∧ fr.leaving P w e
theorem results_blind (hP : bar P F = P) {fn : Func} {tmps : Array Value} {x : Value} {w : World} (hk : ∀ (r : Nat) (o : Obj), w.heap[r]? = some o → okObj P o) (he : w.os.env = #[]) (τ : Nat → Question → Nat) (d : Nat) (h : (results fn tmps).run P w = .ok x w) : (results fn tmps).run P (re w τ d) = .ok x (re w τ d) := by
  letI : Inhabited Junk := noJunk
  have hs : Sib P (fun _ => False) w (re w τ d) := sib_self rfl hk he
  have hq := sim_results (P := P) (F := F) fn tmps _ _ _ #[] hs
  rw [hP] at hq
  have e1 : ((results fn tmps).runT P w #[]).1 = .ok x w := by rw [Sem.runT_eq]; exact h
  rcases hq with hb | ⟨hg, _, gs⟩
  · rw [e1] at hb
    exact hb.elim
  · obtain ⟨s1, s2, s3, s4, s5, s6, _⟩ := gs (by
      rw [e1]
      intro j q hj
      exact absurd hj (by show ¬ j < w.drawn - w.drawn; omega))
    rw [e1] at s1 s2 s6
    have e2 : ((results fn tmps).runT P (re w τ d) #[]).1 = (results fn tmps).run P (re w τ d) := by rw [Sem.runT_eq]
    rw [e2] at s1 s2 s3 s4 s5 s6
    have e3 : (results fn tmps).run P (re w τ d) = .ok x (wOf ((results fn tmps).run P (re w τ d))) := by
      rw [← e2]
      have := congrArg Prod.fst s1
      rw [e2]
      rw [e2] at this
      exact this
    rw [e3]
    congr 1
    generalize wOf ((results fn tmps).run P (re w τ d)) = v' at *
    have hh : v'.heap = w.heap := Array.ext_getElem? fun i => (s2.like i id).resolve_right fun x => no_jk i _ x.1
    obtain ⟨a1, a2, a3, a4, a5⟩ := v'
    have s6 : a3 = d + (w.drawn - w.drawn) := s6
    have s6 : a3 = d := by omega
    simp only [re] at *
    subst hh s5 s6
    rw [s3, s4]
theorem leaves_blind (hP : bar P F = P) {f : FuncId} {R : Ending → World → Prop} (hR : ∀ e w τ d, R e (re w τ d) ↔ R e w) (fr : Frame) (w : World) (τ : Nat → Question → Nat) (d : Nat) : Leaves P f R fr (re w τ d) ↔ Leaves P f R fr w := by
  have one : ∀ (w : World) (τ : Nat → Question → Nat) (d : Nat), Leaves P f R fr w → Leaves P f R fr (re w τ d) := by
    rintro w τ d ⟨h1, h2, h3, e, h4, h5⟩
    refine ⟨h1, h2, h3, e, (hR _ _ _ _).mpr h4, ?_⟩
    cases e with
    | outgrown => exact h5
    | panicked chain => exact h5
    | returned v =>
      obtain ⟨k1, k2, k3, fn, k4, k5⟩ := h5
      exact ⟨k1, k2, k3, fn, k4, results_blind hP h1 h2 τ d k5⟩
  exact ⟨fun h => one (re w τ d) w.tape w.drawn h, one w τ d⟩
/-- A LONE CONTRACT THAT HOLDS FOR EVERY TAPE GOES ON WELL-FOUNDED. -/
theorem goesW_of_calls (hP : bar P F = P) (hF : FenceB P F) (hB : Bodies P F) {r : Nat} {f : FuncId} {args : Array Value} {w : World} {R : Ending → World → Prop} (hR : ∀ e w τ d, R e (re w τ d) ↔ R e w) (hO : ∀ w, ¬ R .outgrown w) (hf : FitB P (Frame.enter P f args .normal) [] w) (hr : F[r]? = none)
    (h : ∀ τ d, Calls P f args (re w τ d) R) : GoesW P r (fun fr up w => up = [] ∧ Leaves P f R fr w) (Frame.enter P f args .normal) [] w := by
  refine goesW_of_steps hP hF hB (fun fr up w τ d => and_congr_right fun _ => leaves_blind hP hR fr w τ d) hf hr fun τ d => ?_
  obtain ⟨e, w', fr, h1, h2, h3, h4⟩ := h τ d [baseF r]
  refine ⟨fr, [], w', fun hfit => ⟨rfl, hfit.kind, hfit.env, h3, e, h1, h4⟩, ?_⟩
  cases e with
  | outgrown => exact absurd h1 (hO _)
  | returned v => exact h2
  | panicked c => exact h2
end Go.Proofs.Ythbghcebcahlnaa
