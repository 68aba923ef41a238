/- The end of the run. -/
import Derived.Test.YthbghcebcahlnaaSJ
import Derived.Test.YthbghcebcahlnaaSD
set_option linter.unusedSectionVars false
namespace Go.Proofs.Ythbghcebcahlnaa
open Go Go.Conc
variable {P : Program} {F : Array Func} [Inhabited Junk]

/-- A frame that leaves a function whose one result lies in a temporary. -/
structure Out (f : FuncId) (fr : Frame) (up : List Frame) : Prop where
  up : up = []
  mode : fr.mode = .returning
  defers : fr.defers = []
  kind : fr.kind = .normal
  fn : fr.fn = f
theorem stepG_out {f : FuncId} {fn : Func} {i : Nat} (hf : P.funcs[f]? = some fn) (hr : fn.results = #[.tmp i]) (hi : P.inits.idxOf? f = none) {fr : Frame} {up : List Frame} (h : Out f fr up) (w : World) : stepG P true (runG fr []) w = .ended (.done (fr.tmps.getD i undef)) w #[] := by
  obtain ⟨_, h2, h3, h4, h5⟩ := h
  subst h5
  have hres : results fn fr.tmps = pure (fr.tmps.getD i undef) := by
    unfold results
    rw [hr]
    simp
  simp [runG, stepG, unwind, doReturn, h2, h3, h4, hf, hi, hres, seen, GStep.after]
/-- ████ THE RUN ENDS, AND WELL. ████ -/
theorem arrived_ends {V : Nat → Prop} {E : Frame → List Frame → World → Prop} {v0 : World} {n : Nat} {m : Machine} {t : Trace} {f : FuncId} {fn : Func} {i : Nat} (hf : P.funcs[f]? = some fn) (hr : fn.results = #[.tmp i]) (hi : P.inits.idxOf? f = none) {Post : Value → World → Prop}
    (hE : ∀ fr up w, E fr up w → Out f fr up ∧ ∀ v', Sib P V w v' → v'.os = v0.os → v'.output = v0.output → v'.tape = v0.tape → Post (fr.tmps.getD i undef) v') (hA : Arrived P V E [] v0 n m t) :
    ∃ N last o w' t', runNT P (N + 1) m t = (.ended o w', t') ∧ runN P N m = .next last ∧ step P last = .ended o w' ∧ Go.Conc.Good P Post last o w' t' := by
  obtain ⟨gs, fr, up, w, v', sl, q, rfl, _, h0, he, hS, _, hL, ⟨B, hP⟩, o1, o2, o3⟩ := hA
  obtain ⟨hO, hPo⟩ := hE fr up w he
  obtain rfl := hO.up
  refine beside_ends (D := fun _ _ _ => False) (Shun := Veil V) (B := B) (n := 0) (fun _ _ _ x => x.elim) h0 hL hP ?_
  intro w1 hw1
  obtain ⟨d, rfl⟩ := hw1
  exact ⟨rfl, _, _, stepG_out hf hr hi hO _, by simp, hPo _ (sib_at hS d) o1 o2 o3⟩
end Go.Proofs.Ythbghcebcahlnaa
