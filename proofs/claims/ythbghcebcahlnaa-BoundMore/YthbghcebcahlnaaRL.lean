/- A step of good code: returning, unwinding. -/
import Derived.Test.YthbghcebcahlnaaRK
set_option linter.unusedSectionVars false
namespace Go.Proofs.Ythbghcebcahlnaa
open Go
variable {P : Program} {F : Array Func} [Inhabited Junk]

theorem return_sim {V : Nat → Prop} {w v : World} (hs : Sib P V w v) {fr : Frame} {up cs : List Frame} {r : Nat} (hu : ∀ f ∈ up, okFrame P f) (m m' : Bool) (x : Value) :
    Moves P V r cs w v (doReturn P m' fr (up ++ cs) none x v) (doReturn (bar P F) m fr (up ++ [baseF r]) none x w) := by
  cases up with
  | nil =>
    unfold doReturn
    cases hk : fr.kind <;> exact .base (by rfl) (by rfl) ⟨v, hs⟩
  | cons c up =>
    have hc := hu c (List.mem_cons_self ..)
    have hu' : ∀ f ∈ up, okFrame P f := fun f h => hu f (List.mem_cons_of_mem _ h)
    unfold doReturn
    simp only [List.cons_append]
    cases hk : fr.kind with
    | normal => exact mv_go hs (ok_finish hc _) hu'
    | wrapped => exact mv_go hs (ok_finish hc _) hu'
    | early => exact mv_go hs hc hu'
    | _ =>
      dsimp only
      refine mv_go hs ?_ hu'
      split
      · split <;> exact hc
      · exact hc
theorem moves_ite {V : Nat → Prop} {r : Nat} {cs : List Frame} {w v : World} {c : Prop} [Decidable c] {a b a0 b0 : GStep} (h1 : c → Moves P V r cs w v a a0) (h2 : ¬ c → Moves P V r cs w v b b0) : Moves P V r cs w v (if c then a else b) (if c then a0 else b0) := by
  by_cases h : c
  · rw [if_pos h, if_pos h]; exact h1 h
  · rw [if_neg h, if_neg h]; exact h2 h

theorem deferred_sim (hF : FenceB P F) (hB : Bodies P F) {V : Nat → Prop} {w v : World} (hs : Sib P V w v) {fr : Frame} {up cs : List Frame} {r : Nat} (hf : okFrame P fr) (hu : ∀ f ∈ up, okFrame P f) (d : Deferred) (hd : okTarget d.target = true) :
    Moves P V r cs w v (callDeferred P fr (up ++ cs) none d v) (callDeferred (bar P F) fr (up ++ [baseF r]) none d w) := by
  unfold callDeferred
  refine moves_ite (fun _ => .ended) fun _ => ?_
  refine moves_run hs (q_invoke hF d.target hd d.args) (fun x es e hb => ?_) fun x es e ha hh hfine => ⟨fun v' => _, fun v' e' => by rw [e'], fun v' hs' => ?_⟩
  · rw [e]
    cases x with
    | ok a w' => exact hb.elim
    | halt h w' =>
      cases h with
      | unsupported u => exact .ended
      | stuck s => exact .ended
      | _ => exact hb.elim
  · rw [e]
    cases x with
    | ok a w' =>
      have ha := ha a w' rfl
      dsimp only [putW, wOf]
      rw [seen_bar hF]
      refine moves_after ?_ (hfine fr.fn)
      cases a with
      | value z => exact mv_go hs' hf hu
      | skip => exact mv_go hs' hf hu
      | enter f args =>
        dsimp only
        rw [(enter_same hB ha _).1]
        exact mv_go (up := fr :: up) hs' (enter_same hB ha _).2 (ok_more hf hu)
      | round l f tmps assign body => exact mv_go (up := fr :: up) hs' (round_ok ha _) (ok_more hf hu)
      | _ => exact ha.elim
    | halt h w' =>
      obtain ⟨z, rfl⟩ := hh h w' rfl
      dsimp only [putW, wOf]
      rw [seen_bar hF]
      exact moves_after (mv_go hs' (ok_raise hf _) hu) (hfine fr.fn)

theorem sim_results (fn : Func) (tmps : Array Value) : Sim (bar P F) P (results fn tmps) := by
  unfold results
  refine sim_bind (sim_mapA (fun x => ?_) _) fun vs => ?_
  · split
    · exact sim_pure _
    · exact sim_bind (sim_asAddr _) fun _ => sim_loadVar _ _
  · split <;> exact sim_pure _

theorem unwind_sim (hF : FenceB P F) (hB : Bodies P F) {V : Nat → Prop} {w v : World} (hs : Sib P V w v) {fr : Frame} {up cs : List Frame} {r : Nat} (hf : okFrame P fr) (hu : ∀ f ∈ up, okFrame P f) (m m' : Bool) :
    Moves P V r cs w v (unwind P m' fr (up ++ cs) none v) (unwind (bar P F) m fr (up ++ [baseF r]) none w) := by
  unfold unwind
  split
  · rename_i block args ds hd
    refine moves_run hs (q_takeDeferred (P := P) (F := F) block) (fun x es e hb => ?_) fun x es e ha hh hfine => ⟨fun v' => _, fun v' e' => by rw [e'], fun v' hs' => ?_⟩
    · rw [e]
      cases x with
      | ok a w' => exact hb.elim
      | halt h w' => exact .ended
    · rw [e]
      cases x with
      | halt h w' => exact .ended
      | ok a w' =>
        dsimp only [putW, wOf]
        rw [seen_bar hF]
        refine moves_after (mv_go (fr := { fr with defers := a ++ ds }) hs' ⟨hf.1, fun d hd' => ?_⟩ hu) (hfine fr.fn)
        rcases List.mem_append.mp hd' with h | h
        · exact ha a w' rfl d h
        · exact hf.2 d (by rw [hd]; exact List.mem_cons_of_mem _ h)
  · rename_i d ds _ hd
    exact deferred_sim (fr := { fr with defers := ds }) hF hB hs ⟨hf.1, fun x hx => hf.2 x (by rw [hd]; exact List.mem_cons_of_mem _ hx)⟩ hu d (hf.2 d (by rw [hd]; exact List.mem_cons_self ..))
  · cases hm : fr.mode with
    | run => exact .ended
    | panicking chain =>
      have hc : ∀ p : Program, fr.catches p = false := by
        intro p
        unfold Frame.catches
        split
        · rename_i e
          exact absurd (ok_tail hf e).1 (by simp [okItem])
        · rfl
      simp only [hc]
      cases up with
      | nil => exact .base rfl rfl ⟨v, hs⟩
      | cons c up => exact mv_go hs (ok_raise (hu c (List.mem_cons_self ..)) _) (fun f h => hu f (List.mem_cons_of_mem _ h))
    | returning =>
      dsimp only
      have h := hF.same fr.fn
      have e0 : (bar P F).funcs[fr.fn]? = F[fr.fn]? := rfl
      rw [e0]
      cases h1 : F[fr.fn]? with
      | none =>
        cases h2 : P.funcs[fr.fn]? with
        | none => exact return_sim hs hu m m' _
        | some fn => rw [h1, h2] at h; cases h
      | some fn0 =>
        cases h2 : P.funcs[fr.fn]? with
        | none => rw [h1, h2] at h; cases h
        | some fn =>
          rw [h1, h2] at h
          simp only [Option.map_some, Option.some.injEq, Prod.mk.injEq] at h
          have e : results fn0 fr.tmps = results fn fr.tmps := by
            unfold results
            rw [h.2]
          dsimp only
          rw [e]
          refine moves_run hs (sim_results (P := P) (F := F) fn fr.tmps) (fun x es e hb => ?_) fun x es e ha hh hfine => ⟨fun v' => _, fun v' e' => by rw [e'], fun v' hs' => ?_⟩
          · rw [e]
            cases x with
            | ok a w' => exact hb.elim
            | halt h w' => cases h <;> exact .ended
          · rw [e]
            cases x with
            | halt h w' => cases h <;> exact .ended
            | ok a w' =>
              dsimp only [putW, wOf]
              rw [seen_bar hF]
              exact moves_after (return_sim hs' hu m m' a) (hfine fr.fn)
end Go.Proofs.Ythbghcebcahlnaa
