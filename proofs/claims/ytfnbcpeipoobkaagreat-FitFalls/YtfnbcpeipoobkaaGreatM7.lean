/- A step of good code: returning, unwinding. A step of good code: running. A lone machine that arrives for every tape goes on well-founded. A lone machine that arrives for every tape goes on well-founded: the theorem. -/
import Derived.Test.YtfnbcpeipoobkaaGreatM6
set_option linter.unusedSectionVars false
namespace Go.Proofs.YtfnbcpeipoobkaaGreat
open Go
variable {P : Program} {F : Array Func} [Inhabited Junk]

theorem return_sim {V : Nat → Prop} {w v : World} (hs : Sib P V w v) {fr : Frame} {up cs : List Frame} {r : Nat} (hu : ∀ f ∈ up, okFrame P f) (m m' : Bool) (x : Value) :
    Moves P V r cs w v (doReturn P m' fr (up ++ cs) none x v) (doReturn (bar P F) m fr (up ++ [baseF r]) none x w) := by
  cases up with
  | nil =>
    unfold doReturn
    cases hk : fr.kind <;> exact .base (by rfl) (by rfl) ⟨v, hs⟩
  | cons c up =>
    have hc := hu c (List.mem_cons_self ..)
    have hu' : ∀ f ∈ up, okFrame P f := fun f h => hu f (List.mem_cons_of_mem _ h)
    unfold doReturn
    simp only [List.cons_append]
    cases hk : fr.kind with
    | normal => exact mv_go hs (ok_finish hc _) hu'
    | wrapped => exact mv_go hs (ok_finish hc _) hu'
    | early => exact mv_go hs hc hu'
    | _ =>
      dsimp only
      refine mv_go hs ?_ hu'
      split
      · split <;> exact hc
      · exact hc
theorem moves_ite {V : Nat → Prop} {r : Nat} {cs : List Frame} {w v : World} {c : Prop} [Decidable c] {a b a0 b0 : GStep} (h1 : c → Moves P V r cs w v a a0) (h2 : ¬ c → Moves P V r cs w v b b0) : Moves P V r cs w v (if c then a else b) (if c then a0 else b0) := by
  by_cases h : c
  · rw [if_pos h, if_pos h]; exact h1 h
  · rw [if_neg h, if_neg h]; exact h2 h

theorem deferred_sim (hF : FenceB P F) (hB : Bodies P F) {V : Nat → Prop} {w v : World} (hs : Sib P V w v) {fr : Frame} {up cs : List Frame} {r : Nat} (hf : okFrame P fr) (hu : ∀ f ∈ up, okFrame P f) (d : Deferred) (hd : okTarget d.target = true) :
    Moves P V r cs w v (callDeferred P fr (up ++ cs) none d v) (callDeferred (bar P F) fr (up ++ [baseF r]) none d w) := by
  unfold callDeferred
  refine moves_ite (fun _ => .ended) fun _ => ?_
  refine moves_run hs (q_invoke hF d.target hd d.args) (fun x es e hb => ?_) fun x es e ha hh hfine => ⟨fun v' => _, fun v' e' => by rw [e'], fun v' hs' => ?_⟩
  · rw [e]
    cases x with
    | ok a w' => exact hb.elim
    | halt h w' =>
      cases h with
      | unsupported u => exact .ended
      | stuck s => exact .ended
      | _ => exact hb.elim
  · rw [e]
    cases x with
    | ok a w' =>
      have ha := ha a w' rfl
      dsimp only [putW, wOf]
      rw [seen_bar hF]
      refine moves_after ?_ (hfine fr.fn)
      cases a with
      | value z => exact mv_go hs' hf hu
      | skip => exact mv_go hs' hf hu
      | enter f args =>
        dsimp only
        rw [(enter_same hB ha _).1]
        exact mv_go (up := fr :: up) hs' (enter_same hB ha _).2 (ok_more hf hu)
      | round l f tmps assign body => exact mv_go (up := fr :: up) hs' (round_ok ha _) (ok_more hf hu)
      | _ => exact ha.elim
    | halt h w' =>
      obtain ⟨z, rfl⟩ := hh h w' rfl
      dsimp only [putW, wOf]
      rw [seen_bar hF]
      exact moves_after (mv_go hs' (ok_raise hf _) hu) (hfine fr.fn)

theorem sim_results (fn : Func) (tmps : Array Value) : Sim (bar P F) P (results fn tmps) := by
  unfold results
  refine sim_bind (sim_mapA (fun x => ?_) _) fun vs => ?_
  · split
    · exact sim_pure _
    · exact sim_bind (sim_asAddr _) fun _ => sim_loadVar _ _
  · split <;> exact sim_pure _

theorem unwind_sim (hF : FenceB P F) (hB : Bodies P F) {V : Nat → Prop} {w v : World} (hs : Sib P V w v) {fr : Frame} {up cs : List Frame} {r : Nat} (hf : okFrame P fr) (hu : ∀ f ∈ up, okFrame P f) (m m' : Bool) :
    Moves P V r cs w v (unwind P m' fr (up ++ cs) none v) (unwind (bar P F) m fr (up ++ [baseF r]) none w) := by
  unfold unwind
  split
  · rename_i block args ds hd
    refine moves_run hs (q_takeDeferred (P := P) (F := F) block) (fun x es e hb => ?_) fun x es e ha hh hfine => ⟨fun v' => _, fun v' e' => by rw [e'], fun v' hs' => ?_⟩
    · rw [e]
      cases x with
      | ok a w' => exact hb.elim
      | halt h w' => exact .ended
    · rw [e]
      cases x with
      | halt h w' => exact .ended
      | ok a w' =>
        dsimp only [putW, wOf]
        rw [seen_bar hF]
        refine moves_after (mv_go (fr := { fr with defers := a ++ ds }) hs' ⟨hf.1, fun d hd' => ?_⟩ hu) (hfine fr.fn)
        rcases List.mem_append.mp hd' with h | h
        · exact ha a w' rfl d h
        · exact hf.2 d (by rw [hd]; exact List.mem_cons_of_mem _ h)
  · rename_i d ds _ hd
    exact deferred_sim (fr := { fr with defers := ds }) hF hB hs ⟨hf.1, fun x hx => hf.2 x (by rw [hd]; exact List.mem_cons_of_mem _ hx)⟩ hu d (hf.2 d (by rw [hd]; exact List.mem_cons_self ..))
  · cases hm : fr.mode with
    | run => exact .ended
    | panicking chain =>
      have hc : ∀ p : Program, fr.catches p = false := by
        intro p
        unfold Frame.catches
        split
        · rename_i e
          exact absurd (ok_tail hf e).1 (by simp [okItem])
        · rfl
      simp only [hc]
      cases up with
      | nil => exact .base rfl rfl ⟨v, hs⟩
      | cons c up => exact mv_go hs (ok_raise (hu c (List.mem_cons_self ..)) _) (fun f h => hu f (List.mem_cons_of_mem _ h))
    | returning =>
      dsimp only
      have h := hF.same fr.fn
      have e0 : (bar P F).funcs[fr.fn]? = F[fr.fn]? := rfl
      rw [e0]
      cases h1 : F[fr.fn]? with
      | none =>
        cases h2 : P.funcs[fr.fn]? with
        | none => exact return_sim hs hu m m' _
        | some fn => rw [h1, h2] at h; cases h
      | some fn0 =>
        cases h2 : P.funcs[fr.fn]? with
        | none => rw [h1, h2] at h; cases h
        | some fn =>
          rw [h1, h2] at h
          simp only [Option.map_some, Option.some.injEq, Prod.mk.injEq] at h
          have e : results fn0 fr.tmps = results fn fr.tmps := by
            unfold results
            rw [h.2]
          dsimp only
          rw [e]
          refine moves_run hs (sim_results (P := P) (F := F) fn fr.tmps) (fun x es e hb => ?_) fun x es e ha hh hfine => ⟨fun v' => _, fun v' e' => by rw [e'], fun v' hs' => ?_⟩
          · rw [e]
            cases x with
            | ok a w' => exact hb.elim
            | halt h w' => cases h <;> exact .ended
          · rw [e]
            cases x with
            | halt h w' => cases h <;> exact .ended
            | ok a w' =>
              dsimp only [putW, wOf]
              rw [seen_bar hF]
              exact moves_after (return_sim hs' hu m m' a) (hfine fr.fn)
end Go.Proofs.YtfnbcpeipoobkaaGreat

set_option linter.unusedSectionVars false
namespace Go.Proofs.YtfnbcpeipoobkaaGreat
open Go
variable {P : Program} {F : Array Func} [Inhabited Junk]

theorem ok_exitTo (id : Nat) : ∀ (l k : List Item), (∀ i ∈ l, okItem P i = true) → exitTo id l = some k → ∀ i ∈ k, okItem P i = true
  | [], k, _, e => by cases e
  | i :: l, k, h, e => by
    have h' : ∀ i ∈ l, okItem P i = true := fun i hi => h i (List.mem_cons_of_mem _ hi)
    cases i with
    | inBlock b =>
      unfold exitTo at e
      split at e
      · cases e; exact h'
      · exact ok_exitTo id l k h' e
    | _ => exact ok_exitTo id l k h' (by simpa [exitTo] using e)
theorem ok_cons {i : Item} {k : List Item} (h : okItem P i = true) (hk : ∀ j ∈ k, okItem P j = true) : ∀ j ∈ i :: k, okItem P j = true := by
  intro j hj
  rcases List.mem_cons.mp hj with rfl | hj
  · exact h
  · exact hk j hj

section
/-- On with another list. -/
theorem to_sim {V : Nat → Prop} {w v : World} (hs : Sib P V w v) {fr : Frame} {up cs : List Frame} {r : Nat} (hf : okFrame P fr) (hu : ∀ f ∈ up, okFrame P f) {todo : List Item} (ht : ∀ i ∈ todo, okItem P i = true) : Moves P V r cs w v (.go { frame := { fr with todo }, callers := up ++ cs, status := .running, dying := none } v) (.go { frame := { fr with todo }, callers := up ++ [baseF r], status := .running, dying := none } w) :=
  mv_go (fr := { fr with todo }) hs ⟨ht, hf.2⟩ hu
theorem leave_sim (hF : FenceB P F) {V : Nat → Prop} {w v : World} (hs : Sib P V w v) {fr : Frame} {up cs : List Frame} {r : Nat} (_ : okFrame P fr) (hu : ∀ f ∈ up, okFrame P f) (m m' : Bool) (j : Option Code) (hj : ∀ c, j = some c → okCode P c = true) (S S0 : GStep)
    (hS : ∀ l, fr.roundOf = some l → S = (match (Instr.endRound l j).runT P v #[] with | (x, es) => GStep.after (seen P fr.fn es) (match x with | .ok z w => doReturn P m' fr (up ++ cs) none z w | .halt _ w => .ended (.stuck "range over a function: no such loop" (fr.pos P)) w)))
    (hS0 : ∀ l, fr.roundOf = some l → S0 = (match (Instr.endRound l j).runT (bar P F) w #[] with | (x, es) => GStep.after (seen (bar P F) fr.fn es) (match x with | .ok z w => doReturn (bar P F) m fr (up ++ [baseF r]) none z w | .halt _ w => .ended (.stuck "range over a function: no such loop" (fr.pos (bar P F))) w)))
    (hN : fr.roundOf = none → Moves P V r cs w v S S0) : Moves P V r cs w v S S0 := by
  cases hr : fr.roundOf with
  | none => exact hN hr
  | some l =>
    rw [hS l hr, hS0 l hr]
    refine moves_run hs (sim_endRound (P := P) (F := F) l j hj) (fun x es e hb => ?_) fun x es e ha hh hfine => ⟨fun v' => _, fun v' e' => by rw [e'], fun v' hs' => ?_⟩
    · rw [e]
      cases x with
      | ok a w' => exact hb.elim
      | halt h w' => exact .ended
    · rw [e]
      cases x with
      | halt h w' => exact .ended
      | ok a w' =>
        dsimp only [putW, wOf]
        rw [seen_bar hF]
        exact moves_after (return_sim hs' hu m m' a) (hfine fr.fn)
theorem oper_sim (hF : FenceB P F) (hB : Bodies P F) {V : Nat → Prop} {w v : World} (hs : Sib P V w v) {fr : Frame} {up cs : List Frame} {r : Nat} (hf : okFrame P fr) (hu : ∀ f ∈ up, okFrame P f) {ops : Array Oper} {n : Nat} {rest : List Nat} {k : List Item} (ht : fr.todo = .inRegion ops (n :: rest) :: k) (hi : okItem P (.inRegion ops (n :: rest)) = true) : Moves P V r cs w v (stepG.oper P true fr (up ++ cs) none v) (stepG.oper (bar P F) true fr (up ++ [baseF r]) none w) := by
  unfold stepG.oper
  have e : fr.oper? = ops[n]? := by unfold Frame.oper?; rw [ht]
  rw [e]
  cases ho : ops[n]? with
  | none => exact .ended
  | some o =>
    have hok : okOp P o.op = true := by
      obtain ⟨hn, rfl⟩ := Array.getElem?_eq_some_iff.mp ho
      have : (ops.all fun o => okOp P o.op) = true := hi
      exact (Array.all_eq_true.mp this) n hn
    dsimp only
    split
    · rename_i l c hr hc
      rw [hc] at hok
      cases hok
    · exact apply_sim hF hB hs hf hu _ (q_execOp hF _ _ hok)
theorem exec_sim (hF : FenceB P F) (hB : Bodies P F) {V : Nat → Prop} {w v : World} (hs : Sib P V w v) {fr : Frame} {up cs : List Frame} {r : Nat} (hf : okFrame P fr) (hu : ∀ f ∈ up, okFrame P f) (m m' : Bool) : Moves P V r cs w v (stepG.exec P m' true fr (up ++ cs) none v) (stepG.exec (bar P F) m true fr (up ++ [baseF r]) none w) := by
  unfold stepG.exec
  cases ht : fr.todo with
  | nil =>
    refine leave_sim hF hs hf hu m m' none (fun c h => by cases h) _ _ (fun l hl => by simp only [hl]; rfl) (fun l hl => by simp only [hl]; rfl) fun hn => ?_
    simp only [hn, if_true]
    exact mv_go (fr := { fr with mode := .returning, todo := [], roundOf := none }) hs ⟨by simp, hf.2⟩ hu
  | cons i k =>
    obtain ⟨hi, hk⟩ := ok_tail hf ht
    cases i with
    | inBlock id => exact to_sim hs hf hu hk
    | inScope b => exact to_sim hs hf hu hk
    | inLoop b => exact to_sim hs hf hu (ok_cons (P := P) (i := .code b) hi (ok_cons (P := P) (i := .inLoop b) hi hk))
    | inRangeFunc l => exact .ended
    | call d a b c => cases hi
    | extern a b => cases hi
    | inRegion ops todo =>
      cases todo with
      | nil => exact to_sim hs hf hu hk
      | cons n rest =>
        refine moves_ite (fun _ => ?_) fun _ => mv_go hs (ok_finish hf _) hu
        exact oper_sim hF hB hs hf hu ht hi
    | beginRound =>
      refine apply_sim hF hB hs hf hu _ ?_
      refine q_then ?_ fun _ => q_pure trivial
      cases fr.roundOf with
      | none => exact sim_stuck _
      | some l => exact sim_beginRound l
    | endRangeFunc l =>
      dsimp only
      refine moves_run hs (q_endLoop (P := P) (F := F) l) (fun x es e hb => ?_) fun x es e ha hh hfine => ⟨fun v' => _, fun v' e' => by rw [e'], fun v' hs' => ?_⟩
      · rw [e]
        cases x with
        | ok a w' => exact hb.elim
        | halt h w' =>
          cases h with
          | panic z => exact hb.elim
          | _ => exact .ended
      · rw [e]
        cases x with
        | ok a w' =>
          dsimp only [putW, wOf]
          rw [seen_bar hF]
          refine moves_after (mv_go (fr := { fr with todo := (a.map Item.code).toList ++ k }) hs' ⟨?_, hf.2⟩ hu) (hfine fr.fn)
          cases a with
          | none => exact hk
          | some c => exact ok_cons (P := P) (i := .code c) (ha _ w' rfl c rfl) hk
        | halt h w' =>
          obtain ⟨z, rfl⟩ := hh h w' rfl
          dsimp only [putW, wOf]
          rw [seen_bar hF]
          exact moves_after (mv_go hs' (ok_raise hf _) hu) (hfine fr.fn)
    | code c =>
      cases c with
      | skip => exact to_sim hs hf hu hk
      | label l => exact to_sim hs hf hu hk
      | goto l => cases hi
      | scope b => exact to_sim hs hf hu (ok_cons (P := P) (i := .code b) hi (ok_cons (P := P) (i := .inScope b) rfl hk))
      | refuse s => exact .ended
      | seq a b =>
        have h : okCode P a = true ∧ okCode P b = true := by simpa [okItem, okCode] using hi
        exact to_sim hs hf hu (ok_cons (P := P) (i := .code a) h.1 (ok_cons (P := P) (i := .code b) h.2 hk))
      | cond c a b =>
        have h : okCode P a = true ∧ okCode P b = true := by simpa [okItem, okCode] using hi
        dsimp only
        split
        · rename_i x _
          cases x with
          | true => exact to_sim hs hf hu (ok_cons (P := P) (i := .code a) h.1 hk)
          | false => exact to_sim hs hf hu (ok_cons (P := P) (i := .code b) h.2 hk)
        · exact .ended
      | block id b => exact to_sim hs hf hu (ok_cons (P := P) (i := .code b) hi (ok_cons (P := P) (i := .inBlock id) rfl hk))
      | loop b => exact to_sim hs hf hu (ok_cons (P := P) (i := .code b) hi (ok_cons (P := P) (i := .inLoop b) hi hk))
      | ret =>
        refine leave_sim hF hs hf hu m m' (some .ret) (fun c h => by cases h; rfl) _ _ (fun l hl => by simp only [hl]; rfl) (fun l hl => by simp only [hl]; rfl) fun hn => ?_
        simp only [hn, if_true]
        exact mv_go (fr := { fr with mode := .returning, todo := .code .ret :: k, roundOf := none }) hs ⟨ok_cons rfl hk, hf.2⟩ hu
      | exit id =>
        dsimp only
        cases he : exitTo id k with
        | some k' => exact to_sim hs hf hu (ok_exitTo id k k' hk he)
        | none =>
          refine leave_sim hF hs hf hu m m' (some (.exit id)) (fun c h => by cases h; rfl) _ _ (fun l hl => by simp only [hl]; rfl) (fun l hl => by simp only [hl]; rfl) fun hn => ?_
          simp only [hn]
          exact .ended
      | region id ops draw =>
        cases draw with
        | false => exact to_sim hs hf hu (ok_cons (P := P) (i := .inRegion ops (List.range ops.size)) hi hk)
        | true =>
          have e1 : ∀ (p : Program) (u : World), (choose (.order fr.fn id)).run p u = .ok (u.tape u.drawn (.order fr.fn id)) { u with drawn := u.drawn + 1 } := fun _ _ => rfl
          dsimp only [Bool.not_true, Bool.false_eq_true, if_false]
          simp only [e1, Bool.not_true, Bool.false_eq_true, if_false]
          refine .go (fr := { fr with todo := .inRegion ops (Region.schedule (P.follows .mixedOrders) ops (w.tape w.drawn (.order fr.fn id))) :: k }) (w1 := { w with drawn := w.drawn + 1 }) rfl (Nat.le_succ _) ⟨ok_cons (P := P) (i := .inRegion ops _) hi hk, hf.2⟩ hu (by simp) ⟨Nat.le_refl _, by simp⟩ fun hA => ?_
          have e0 : v.tape v.drawn (.order fr.fn id) = w.tape w.drawn (.order fr.fn id) := by
            have := hA 0 (.order fr.fn id) (by show 0 < w.drawn + 1 - w.drawn; omega)
            simpa using this
          rw [e0]
          refine ⟨{ v with drawn := v.drawn + 1 }, rfl, ⟨hs.size, hs.like, hs.veil, hs.kind, hs.env⟩, rfl, rfl, rfl, ?_, fun _ _ => rfl⟩
          show v.drawn + 1 = v.drawn + (w.drawn + 1 - w.drawn)
          omega
      | rangeFunc f ps a b =>
        have h : okCode P a = true ∧ okCode P b = true := by simpa [okItem, okCode] using hi
        dsimp only
        refine moves_run hs (q_enterLoop (P := P) (F := F) fr.fn fr.tmps ps a b fr.roundOf h.1 h.2) (fun x es e hb => ?_) fun x es e ha hh hfine => ⟨fun v' => _, fun v' e' => by rw [e'], fun v' hs' => ?_⟩
        · rw [e]
          cases x with
          | ok a w' => exact hb.elim
          | halt h w' => exact .ended
        · rw [e]
          cases x with
          | halt h w' => exact .ended
          | ok y w' =>
            obtain ⟨l, mark⟩ := y
            dsimp only [putW, wOf]
            rw [seen_bar hF]
            refine moves_after (apply_sim hF hB hs' (fr := { fr with todo := .inRangeFunc l :: k, defers := mark ++ fr.defers }) ⟨ok_cons rfl hk, fun d hd => ?_⟩ hu _ ?_) (hfine fr.fn)
            · rcases List.mem_append.mp hd with h | h
              · exact ha _ w' rfl d h
              · exact hf.2 d h
            · exact q_bind (q_resolve _ _ _ rfl) fun d hd => q_invoke hF _ hd _
/-- A STEP OF GOOD CODE. -/
theorem step_sim (hF : FenceB P F) (hB : Bodies P F) {V : Nat → Prop} {w v : World} (hs : Sib P V w v) {fr : Frame} {up cs : List Frame} {r : Nat} (hf : okFrame P fr) (hu : ∀ f ∈ up, okFrame P f) (m m' : Bool) : Moves P V r cs w v (stepG P m' (runG fr (up ++ cs)) v) (stepG (bar P F) m (runG fr (up ++ [baseF r])) w) := by
  unfold stepG runG
  dsimp only
  cases hm : fr.mode with
  | run => exact exec_sim hF hB hs hf hu m m'
  | returning => exact unwind_sim hF hB hs hf hu m m'
  | panicking c => exact unwind_sim hF hB hs hf hu m m'
end
/-- Nothing comes back to the lowest frame. -/
theorem base_dead {w : World} {r : Nat} (hr : F[r]? = none) {fr : Frame} (h : fr.todo = [.code (.refuse "")]) (hd : fr.defers = [{ target := .fn (.func r) #[], args := #[] }]) (m : Bool) : ∃ o w' es, stepG (bar P F) m (runG fr []) w = .ended o w' es := by
  unfold stepG runG
  dsimp only
  have hu : ∃ o w' es, unwind (bar P F) m fr [] none w = .ended o w' es := by
    unfold unwind
    rw [hd]
    dsimp only
    unfold callDeferred
    have e : (invoke (.fn (.func r) #[]) #[]).runT (bar P F) w #[] = (.halt (.stuck "call: no such function") w, #[]) := by
      have e0 : (invoke (.fn (.func r) #[]) #[] : Sem Next) = callFunc r #[] := rfl
      rw [e0]
      have hr' : (bar P F).funcs[r]? = none := hr
      unfold callFunc
      show ((program).bind _).runT (bar P F) w #[] = _
      rw [Sem.runT_bind']
      simp only [program, Sem.runT, hr']
      rfl
    rw [e]
    exact ⟨_, _, _, rfl⟩
  cases hm : fr.mode with
  | run =>
    dsimp only
    unfold stepG.exec
    rw [h]
    exact ⟨_, _, _, rfl⟩
  | returning => exact hu
  | panicking c => exact hu
end Go.Proofs.YtfnbcpeipoobkaaGreat

set_option linter.unusedSectionVars false
namespace Go.Proofs.YtfnbcpeipoobkaaGreat
open Go
variable {P : Program} {F : Array Func} [Inhabited Junk]

/-- A state of the lone machine above the lowest frame: all is good. -/
structure FitB (P : Program) (fr : Frame) (up : List Frame) (w : World) : Prop where
  frame : okFrame P fr
  up : ∀ f ∈ up, okFrame P f
  kind : ∀ (r : Nat) (o : Obj), w.heap[r]? = some o → okObj P o
  env : w.os.env = #[]
theorem fit_re {fr : Frame} {up : List Frame} {w : World} (h : FitB P fr up w) (τ : Nat → Question → Nat) (d : Nat) : FitB P fr up (re w τ d) := ⟨h.frame, h.up, h.kind, h.env⟩
theorem sib_self {w v : World} (h : v.heap = w.heap) (hk : ∀ (r : Nat) (o : Obj), w.heap[r]? = some o → okObj P o) (he : w.os.env = #[]) : Sib P (fun _ => False) w v := ⟨by rw [h], fun r _ => .inl (by rw [h]), fun r hr => hr.elim, hk, he⟩

/-- THE STEP OF THE LONE MACHINE HANGS ON THE ANSWERS THAT IT TAKES ALONE. -/
theorem step_local (hP : bar P F = P) (hF : FenceB P F) (hB : Bodies P F) {fr fr' : Frame} {up up' : List Frame} {r : Nat} {w w' : World} {es : Array Event} {m : Bool} (h : FitB P fr up w)
    (e : stepG P m (runG fr (up ++ [baseF r])) w = .go (runG fr' (up' ++ [baseF r])) w' es) :
    FitB P fr' up' w' ∧ w'.tape = w.tape ∧ w.drawn ≤ w'.drawn ∧ ∀ τ d, Agr w (w'.drawn - w.drawn) τ d → stepG P m (runG fr (up ++ [baseF r])) (re w τ d) = .go (runG fr' (up' ++ [baseF r])) (re w' τ (d + (w'.drawn - w.drawn))) es := by
  letI : Inhabited Junk := noJunk
  have key : ∀ v : World, v.heap = w.heap → AgrT w (w'.drawn - w.drawn) v → (w'.tape = w.tape ∧ w.drawn ≤ w'.drawn ∧ okFrame P fr' ∧ ∀ f ∈ up', okFrame P f) ∧ ∃ v', stepG P m (runG fr (up ++ [baseF r])) v = .go (runG fr' (up' ++ [baseF r])) v' es ∧ Sib P (fun _ => False) w' v' ∧ v'.os = v.os ∧ v'.output = v.output ∧ v'.tape = v.tape ∧ v'.drawn = v.drawn + (w'.drawn - w.drawn) ∧ (∀ x : Nat, False → v'.heap[x]? = v.heap[x]?) := by
    intro v hv hA
    have hm := step_sim (r := r) (cs := [baseF r]) hF hB (sib_self hv h.kind h.env) h.frame h.up m m
    rw [hP, e] at hm
    generalize hS : stepG P m (runG fr (up ++ [baseF r])) v = S at hm
    generalize hg : runG fr' (up' ++ [baseF r]) = g at hm
    rcases hm with ⟨o, w1, es1, hx⟩ | ⟨fr2, w1, es1, h1, h2, h3, hx⟩ | ⟨fr2, up2, w1, es1, ht, hl, hf, hu, he, hz, hS', hx⟩
    · cases hx
    · injection hx with hx
      have := congrArg Goroutine.callers (hg.trans hx)
      simp [runG] at this
    · injection hx with hx hx1 hx2
      subst hx hx1 hx2
      have e1 : fr' = fr2 := congrArg Goroutine.frame hg
      have e2 : up' ++ [baseF r] = up2 ++ [baseF r] := congrArg Goroutine.callers hg
      have e2 : up' = up2 := List.append_cancel_right e2
      subst e1 e2
      obtain ⟨v', t1, t2⟩ := hS' hA
      exact ⟨⟨ht, hl, hf, hu⟩, v', t1, t2⟩
  obtain ⟨⟨k1, k2, k3, k4⟩, v', j1, j2, j3, j4, _, _, _⟩ := key w rfl (fun _ _ _ => rfl)
  rw [e] at j1
  have hv : w' = v' := by injection j1
  subst hv
  refine ⟨⟨k3, k4, j2.kind, j3 ▸ h.env⟩, k1, k2, fun τ d hA => ?_⟩
  obtain ⟨_, v2, l1, l2, l3, l4, l5, l6, _⟩ := key (re w τ d) rfl hA
  rw [l1]
  have : v2 = re w' τ (d + (w'.drawn - w.drawn)) := by
    have hh : v2.heap = w'.heap := Array.ext_getElem? fun i => (l2.like i id).resolve_right fun x => no_jk i _ x.1
    obtain ⟨a1, a2, a3, a4, a5⟩ := v2
    simp only [re] at *
    subst hh l5 l6
    rw [l3, l4, j3, j4]
  rw [this]

theorem ex1 {p : Prop} {q : p → Prop} (h : ∃ x, q x) : p := h.elim fun a _ => a
theorem ex2 {p : Prop} {q : p → Prop} (h : ∃ x, q x) : q (ex1 h) := h.elim fun _ b => b
/-- It arrives. -/
def Arr (P : Program) (r : Nat) (E : Frame → List Frame → World → Prop) (fr : Frame) (up : List Frame) (w : World) : Prop :=
  ∀ C : Frame → List Frame → World → Prop, (∀ fr up w, E fr up w → C fr up w) →
    (∀ fr up w fr' up' w' es, stepG P true (runG fr (up ++ [baseF r])) w = .go (runG fr' (up' ++ [baseF r])) w' es → C fr' up' w' → C fr up w) → C fr up w
section
variable {P : Program} {r : Nat} {E : Frame → List Frame → World → Prop}
theorem Arr.fin {fr : Frame} {up : List Frame} {w : World} (h : E fr up w) : Arr P r E fr up w := fun _ hf _ => hf _ _ _ h
theorem Arr.step {fr : Frame} {up : List Frame} {w : World} {fr' : Frame} {up' : List Frame} {w' : World} {es : Array Event} (h : stepG P true (runG fr (up ++ [baseF r])) w = .go (runG fr' (up' ++ [baseF r])) w' es) (ha : Arr P r E fr' up' w') : Arr P r E fr up w := fun C hf hs => hs _ _ _ _ _ _ _ h (ha C hf hs)
theorem Arr.ind {motive : ∀ (fr : Frame) (up : List Frame) (w : World), Arr P r E fr up w → Prop} (fin : ∀ {fr : Frame} {up : List Frame} {w : World} (h : E fr up w), motive fr up w (Arr.fin h))
    (step : ∀ {fr : Frame} {up : List Frame} {w : World} {fr' : Frame} {up' : List Frame} {w' : World} {es : Array Event} (h : stepG P true (runG fr (up ++ [baseF r])) w = .go (runG fr' (up' ++ [baseF r])) w' es) (ha : Arr P r E fr' up' w') (_ : motive fr' up' w' ha), motive fr up w (Arr.step h ha))
    {fr : Frame} {up : List Frame} {w : World} (h : Arr P r E fr up w) : motive fr up w h :=
  have key : ∃ h' : Arr P r E fr up w, motive fr up w h' := h (fun fr up w => ∃ h' : Arr P r E fr up w, motive fr up w h') (fun _ _ _ e => ⟨Arr.fin e, fin e⟩) fun _ _ _ _ _ _ _ e hc => ⟨Arr.step e (ex1 hc), step e (ex1 hc) (ex2 hc)⟩
  ex2 key
theorem Arr.inv {fr : Frame} {up : List Frame} {w : World} (h : Arr P r E fr up w) : E fr up w ∨ ∃ fr' up' w' es, stepG P true (runG fr (up ++ [baseF r])) w = .go (runG fr' (up' ++ [baseF r])) w' es ∧ Arr P r E fr' up' w' := by
  induction h using Arr.ind with
  | fin h => exact .inl h
  | step h ha _ => exact .inr ⟨_, _, _, _, h, ha⟩
end
/-- It arrives, whatever is answered, well-founded. -/
def GoesW (P : Program) (r : Nat) (E : Frame → List Frame → World → Prop) (fr : Frame) (up : List Frame) (w : World) : Prop :=
  ∀ C : Frame → List Frame → World → Prop, (∀ fr up w, E fr up w → C fr up w) →
    (∀ fr up w, (∀ τ d, ∃ fr' up' w' es, stepG P true (runG fr (up ++ [baseF r])) (re w τ d) = .go (runG fr' (up' ++ [baseF r])) w' es) →
      (∀ τ d fr' up' w' es, stepG P true (runG fr (up ++ [baseF r])) (re w τ d) = .go (runG fr' (up' ++ [baseF r])) w' es → C fr' up' w') → C fr up w) → C fr up w
section
variable {P : Program} {r : Nat} {E : Frame → List Frame → World → Prop}
theorem GoesW.fin {fr : Frame} {up : List Frame} {w : World} (h : E fr up w) : GoesW P r E fr up w := fun _ hf _ => hf _ _ _ h
theorem GoesW.step {fr : Frame} {up : List Frame} {w : World} (h1 : ∀ τ d, ∃ fr' up' w' es, stepG P true (runG fr (up ++ [baseF r])) (re w τ d) = .go (runG fr' (up' ++ [baseF r])) w' es)
    (h2 : ∀ τ d fr' up' w' es, stepG P true (runG fr (up ++ [baseF r])) (re w τ d) = .go (runG fr' (up' ++ [baseF r])) w' es → GoesW P r E fr' up' w') : GoesW P r E fr up w :=
  fun C hf hs => hs _ _ _ h1 fun τ d fr' up' w' es e => h2 τ d fr' up' w' es e C hf hs
theorem GoesW.ind {motive : ∀ (fr : Frame) (up : List Frame) (w : World), GoesW P r E fr up w → Prop} (fin : ∀ {fr : Frame} {up : List Frame} {w : World} (h : E fr up w), motive fr up w (GoesW.fin h))
    (step : ∀ {fr : Frame} {up : List Frame} {w : World} (h1 : ∀ τ d, ∃ fr' up' w' es, stepG P true (runG fr (up ++ [baseF r])) (re w τ d) = .go (runG fr' (up' ++ [baseF r])) w' es)
      (h2 : ∀ τ d fr' up' w' es, stepG P true (runG fr (up ++ [baseF r])) (re w τ d) = .go (runG fr' (up' ++ [baseF r])) w' es → GoesW P r E fr' up' w')
      (_ : ∀ τ d fr' up' w' es (e : stepG P true (runG fr (up ++ [baseF r])) (re w τ d) = .go (runG fr' (up' ++ [baseF r])) w' es), motive fr' up' w' (h2 τ d fr' up' w' es e)), motive fr up w (GoesW.step h1 h2))
    {fr : Frame} {up : List Frame} {w : World} (h : GoesW P r E fr up w) : motive fr up w h :=
  have key : ∃ h' : GoesW P r E fr up w, motive fr up w h' := h (fun fr up w => ∃ h' : GoesW P r E fr up w, motive fr up w h') (fun _ _ _ e => ⟨GoesW.fin e, fin e⟩) fun _ _ _ h1 hc => ⟨GoesW.step h1 fun τ d fr' up' w' es e => ex1 (hc τ d fr' up' w' es e), step h1 (fun τ d fr' up' w' es e => ex1 (hc τ d fr' up' w' es e)) fun τ d fr' up' w' es e => ex2 (hc τ d fr' up' w' es e)⟩
  ex2 key
theorem GoesW.inv {fr : Frame} {up : List Frame} {w : World} (h : GoesW P r E fr up w) : E fr up w ∨ ((∀ τ d, ∃ fr' up' w' es, stepG P true (runG fr (up ++ [baseF r])) (re w τ d) = .go (runG fr' (up' ++ [baseF r])) w' es) ∧
    ∀ τ d fr' up' w' es, stepG P true (runG fr (up ++ [baseF r])) (re w τ d) = .go (runG fr' (up' ++ [baseF r])) w' es → GoesW P r E fr' up' w') := by
  induction h using GoesW.ind with
  | fin h => exact .inl h
  | step h1 h2 _ => exact .inr ⟨h1, h2⟩
end

theorem go_inj {r : Nat} {fr fr' : Frame} {up up' : List Frame} {w w' : World} {es es' : Array Event} (h : GStep.go (runG fr (up ++ [baseF r])) w es = .go (runG fr' (up' ++ [baseF r])) w' es') : fr = fr' ∧ up = up' ∧ w = w' := by
  injection h with h1 h2 h3
  exact ⟨congrArg Goroutine.frame h1, List.append_cancel_right (congrArg Goroutine.callers h1), h2⟩

section
theorem arr_shift (hP : bar P F = P) (hF : FenceB P F) (hB : Bodies P F) {r : Nat} {E : Frame → List Frame → World → Prop} (hE : ∀ fr up w τ d, E fr up (re w τ d) ↔ E fr up w) {fr : Frame} {up : List Frame} {w : World} (h : Arr P r E fr up w) : FitB P fr up w → ∀ τ d, (∀ j q, τ (d + j) q = w.tape (w.drawn + j) q) → Arr P r E fr up (re w τ d) := by
  induction h using Arr.ind with
  | fin h => exact fun _ τ d _ => .fin ((hE _ _ _ τ d).mpr h)
  | @step fr up w fr' up' w' es h ha ih =>
    intro hf τ d hA
    obtain ⟨f1, f2, f3, f4⟩ := step_local hP hF hB hf h
    refine .step (f4 τ d fun j q _ => hA j q) (ih f1 τ _ fun j q => ?_)
    rw [f2]
    have := hA (w'.drawn - w.drawn + j) q
    rw [show d + (w'.drawn - w.drawn) + j = d + (w'.drawn - w.drawn + j) by omega, this]
    congr 1
    omega
theorem all_step (hP : bar P F = P) (hF : FenceB P F) (hB : Bodies P F) {r : Nat} {E : Frame → List Frame → World → Prop} (hE : ∀ fr up w τ d, E fr up (re w τ d) ↔ E fr up w) {fr : Frame} {up : List Frame} {w : World} (hf : FitB P fr up w) (hall : ∀ τ d, Arr P r E fr up (re w τ d)) (hne : ¬ E fr up w) (τ : Nat → Question → Nat) (d : Nat) :
    ∃ fr' up' w' es, stepG P true (runG fr (up ++ [baseF r])) (re w τ d) = .go (runG fr' (up' ++ [baseF r])) w' es ∧ ∀ τ' d', Arr P r E fr' up' (re w' τ' d') := by
  have inv : ∀ (up0 : List Frame) (w0 : World), Arr P r E fr up0 w0 → up0 = up → (∃ τ d, w0 = re w τ d) → ∃ fr' up' w' es, stepG P true (runG fr (up ++ [baseF r])) w0 = .go (runG fr' (up' ++ [baseF r])) w' es ∧ Arr P r E fr' up' w' := by
    intro up0 w0 h e1 e2
    rcases h.inv with h | ⟨_, _, _, _, h, ha⟩
    · obtain ⟨τ, d, rfl⟩ := e2
      subst e1
      exact absurd ((hE _ _ _ _ _).mp h) hne
    · subst e1
      exact ⟨_, _, _, _, h, ha⟩
  obtain ⟨fr', up', w', es, h, ha⟩ := inv up _ (hall τ d) rfl ⟨τ, d, rfl⟩
  refine ⟨fr', up', w', es, h, fun τ' d' => ?_⟩
  obtain ⟨f1, f2, f3, f4⟩ := step_local hP hF hB (fit_re hf τ d) h
  have f3 : d ≤ w'.drawn := f3
  let n := w'.drawn - d
  let τ2 : Nat → Question → Nat := fun k q => if k < n then τ (d + k) q else τ' (d' + (k - n)) q
  have e1 := f4 τ2 0 (fun j q hj => by
    show (if 0 + j < n then τ (d + (0 + j)) q else _) = τ (d + j) q
    have hj : j < n := hj
    rw [if_pos (by omega), Nat.zero_add])
  obtain ⟨fr2, up2, w2, es2, h2, ha2⟩ := inv up _ (hall τ2 0) rfl ⟨τ2, 0, rfl⟩
  have e1 : stepG P true (runG fr (up ++ [baseF r])) (re w τ2 0) = .go (runG fr' (up' ++ [baseF r])) (re w' τ2 (0 + n)) es := e1
  rw [e1] at h2
  obtain ⟨rfl, rfl, rfl⟩ := go_inj h2
  have := arr_shift hP hF hB hE ha2 (fit_re f1 _ _) τ' d' (fun j q => by
    show τ' (d' + j) q = (if 0 + n + j < n then _ else τ' (d' + (0 + n + j - n)) q)
    rw [if_neg (by omega)]
    congr 1
    omega)
  exact this

/-- A state that goes not on well-founded. -/
structure Lost (P : Program) (r : Nat) (E : Frame → List Frame → World → Prop) (s : Frame × List Frame × World) : Prop where
  fit : FitB P s.1 s.2.1 s.2.2
  all : ∀ τ d, Arr P r E s.1 s.2.1 (re s.2.2 τ d)
  not : ¬ GoesW P r E s.1 s.2.1 s.2.2
theorem lost_step (hP : bar P F = P) (hF : FenceB P F) (hB : Bodies P F) {r : Nat} {E : Frame → List Frame → World → Prop} (hE : ∀ fr up w τ d, E fr up (re w τ d) ↔ E fr up w) {s : Frame × List Frame × World} (h : Lost P r E s) : ∃ τ d s' es, stepG P true (runG s.1 (s.2.1 ++ [baseF r])) (re s.2.2 τ d) = .go (runG s'.1 (s'.2.1 ++ [baseF r])) s'.2.2 es ∧ Lost P r E s' := by
  obtain ⟨fr, up, w⟩ := s
  obtain ⟨hf, hall, hn⟩ := h
  have hne : ¬ E fr up w := fun h2 => hn (.fin h2)
  refine Classical.byContradiction fun hc => hn (.step (fun τ d => ?_) fun τ d fr' up' w' es h => ?_)
  · obtain ⟨fr', up', w', es, h, _⟩ := all_step hP hF hB hE hf hall hne τ d
    exact ⟨fr', up', w', es, h⟩
  · refine Classical.byContradiction fun hg => hc ⟨τ, d, (fr', up', w'), es, h, ?_⟩
    obtain ⟨fr2, up2, w2, es2, h2, ha⟩ := all_step hP hF hB hE hf hall hne τ d
    have h' : stepG P true (runG fr (up ++ [baseF r])) (re w τ d) = .go (runG fr' (up' ++ [baseF r])) w' es := h
    rw [h'] at h2
    obtain ⟨rfl, rfl, rfl⟩ := go_inj h2
    exact ⟨(step_local hP hF hB (fit_re hf τ d) h').1, ha, hg⟩
end
end Go.Proofs.YtfnbcpeipoobkaaGreat

set_option linter.unusedSectionVars false
namespace Go.Proofs.YtfnbcpeipoobkaaGreat
open Go

/-- A tape glued of segments: from pos i on, len i answers of τ i from d i on. -/
theorem glue (τ : Nat → Nat → Question → Nat) (d len pos : Nat → Nat) (h0 : ∀ i, pos (i + 1) = pos i + len i) : ∃ T : Nat → Question → Nat, ∀ i j q, j < len i → T (pos i + j) q = τ i (d i + j) q := by
  classical
  have mono : ∀ i k, pos i ≤ pos (i + k) := by
    intro i k
    induction k with
    | zero => exact Nat.le_refl _
    | succ k ih => rw [show i + (k + 1) = (i + k) + 1 by omega, h0]; omega
  have mono' : ∀ i k, i ≤ k → pos i ≤ pos k := fun i k h => by
    have := mono i (k - i)
    rwa [show i + (k - i) = k by omega] at this
  have uniq : ∀ i k p, pos i ≤ p → p < pos (i + 1) → pos k ≤ p → p < pos (k + 1) → i = k := by
    intro i k p h1 h2 h3 h4
    rcases Nat.lt_trichotomy i k with h | h | h
    · have := mono' (i + 1) k h
      omega
    · exact h
    · have := mono' (k + 1) i h
      omega
  refine ⟨fun p q => if h : ∃ i, pos i ≤ p ∧ p < pos (i + 1) then τ h.choose (d h.choose + (p - pos h.choose)) q else 0, fun i j q hj => ?_⟩
  have hi : ∃ i', pos i' ≤ pos i + j ∧ pos i + j < pos (i' + 1) := ⟨i, by omega, by rw [h0]; omega⟩
  have e : hi.choose = i := uniq _ _ (pos i + j) hi.choose_spec.1 hi.choose_spec.2 (by omega) (by rw [h0]; omega)
  show (if h : ∃ i', pos i' ≤ pos i + j ∧ pos i + j < pos (i' + 1) then τ h.choose (d h.choose + (pos i + j - pos h.choose)) q else 0) = _
  rw [dif_pos hi, e]
  congr 1
  omega

variable {P : Program} {F : Array Func} [Inhabited Junk]
section
/-- WHAT ARRIVES FOR EVERY TAPE GOES ON WELL-FOUNDED. -/
theorem goesW_of_all (hP : bar P F = P) (hF : FenceB P F) (hB : Bodies P F) {r : Nat} {E : Frame → List Frame → World → Prop} (hE : ∀ fr up w τ d, E fr up (re w τ d) ↔ E fr up w) {fr : Frame} {up : List Frame} {w : World} (hf : FitB P fr up w) (hall : ∀ τ d, Arr P r E fr up (re w τ d)) : GoesW P r E fr up w := by
  classical
  refine Classical.byContradiction fun hn => ?_
  let St := { s : Frame × List Frame × World // Lost P r E s }
  let s0 : St := ⟨(fr, up, w), ⟨hf, hall, hn⟩⟩
  let nx (s : St) : St := ⟨(lost_step hP hF hB hE s.2).choose_spec.choose_spec.choose, (lost_step hP hF hB hE s.2).choose_spec.choose_spec.choose_spec.choose_spec.2⟩
  let ta (s : St) : Nat → Question → Nat := (lost_step hP hF hB hE s.2).choose
  let da (s : St) : Nat := (lost_step hP hF hB hE s.2).choose_spec.choose
  have hst : ∀ s : St, ∃ es, stepG P true (runG s.1.1 (s.1.2.1 ++ [baseF r])) (re s.1.2.2 (ta s) (da s)) = .go (runG (nx s).1.1 ((nx s).1.2.1 ++ [baseF r])) (nx s).1.2.2 es := fun s =>
    ⟨_, (lost_step hP hF hB hE s.2).choose_spec.choose_spec.choose_spec.choose_spec.1⟩
  let sq : Nat → St := fun n => Nat.rec s0 (fun _ s => nx s) n
  have sq1 : ∀ n, sq (n + 1) = nx (sq n) := fun n => rfl
  let len : Nat → Nat := fun n => (sq (n + 1)).1.2.2.drawn - da (sq n)
  let pos : Nat → Nat := fun n => Nat.rec 0 (fun i p => p + len i) n
  obtain ⟨T, hT⟩ := glue (fun i => ta (sq i)) (fun i => da (sq i)) len pos (fun i => rfl)
  have never : ∀ (fr : Frame) (up : List Frame) (w : World), Arr P r E fr up w → ∀ i, fr = (sq i).1.1 → up = (sq i).1.2.1 → w = re (sq i).1.2.2 T (pos i) → False := by
    intro fr up w h
    induction h using Arr.ind with
    | @fin fr up w h =>
      intro i e1 e2 e3
      subst e3
      have h := (hE _ _ _ _ _).mp h
      have hl := (sq i).2.not
      rw [← e1, ← e2] at hl
      exact hl (.fin h)
    | @step fr up w fr' up' w' es h ha ih =>
      intro i e1 e2 e3
      subst e1 e2 e3
      obtain ⟨es2, h2⟩ := hst (sq i)
      obtain ⟨_, _, _, f4⟩ := step_local hP hF hB (fit_re (sq i).2.fit _ _) h2
      have e := f4 T (pos i) (fun j q hj => hT i j q hj)
      have e : stepG P true (runG (sq i).1.1 ((sq i).1.2.1 ++ [baseF r])) (re (sq i).1.2.2 T (pos i)) = .go (runG (sq (i + 1)).1.1 ((sq (i + 1)).1.2.1 ++ [baseF r])) (re (sq (i + 1)).1.2.2 T (pos (i + 1))) es2 := e
      rw [h] at e
      obtain ⟨e1, e2, e3⟩ := go_inj e
      exact ih (i + 1) e1 e2 e3
  exact never _ _ _ (hall T 0) 0 rfl rfl rfl
end
end Go.Proofs.YtfnbcpeipoobkaaGreat
