/- A step of good code: running. -/
import Derived.Test.YthbghcebcahlnaaRL
set_option linter.unusedSectionVars false
namespace Go.Proofs.Ythbghcebcahlnaa
open Go
variable {P : Program} {F : Array Func} [Inhabited Junk]

theorem ok_exitTo (id : Nat) : ∀ (l k : List Item), (∀ i ∈ l, okItem P i = true) → exitTo id l = some k → ∀ i ∈ k, okItem P i = true
  | [], k, _, e => by cases e
  | i :: l, k, h, e => by
    have h' : ∀ i ∈ l, okItem P i = true := fun i hi => h i (List.mem_cons_of_mem _ hi)
    cases i with
    | inBlock b =>
      unfold exitTo at e
      split at e
      · cases e; exact h'
      · exact ok_exitTo id l k h' e
    | _ => exact ok_exitTo id l k h' (by simpa [exitTo] using e)
theorem ok_cons {i : Item} {k : List Item} (h : okItem P i = true) (hk : ∀ j ∈ k, okItem P j = true) : ∀ j ∈ i :: k, okItem P j = true := by
  intro j hj
  rcases List.mem_cons.mp hj with rfl | hj
  · exact h
  · exact hk j hj

section
/-- On with another list. -/
theorem to_sim {V : Nat → Prop} {w v : World} (hs : Sib P V w v) {fr : Frame} {up cs : List Frame} {r : Nat} (hf : okFrame P fr) (hu : ∀ f ∈ up, okFrame P f) {todo : List Item} (ht : ∀ i ∈ todo, okItem P i = true) : Moves P V r cs w v (.go { frame := { fr with todo }, callers := up ++ cs, status := .running, dying := none } v) (.go { frame := { fr with todo }, callers := up ++ [baseF r], status := .running, dying := none } w) :=
  mv_go (fr := { fr with todo }) hs ⟨ht, hf.2⟩ hu
theorem leave_sim (hF : FenceB P F) {V : Nat → Prop} {w v : World} (hs : Sib P V w v) {fr : Frame} {up cs : List Frame} {r : Nat} (_ : okFrame P fr) (hu : ∀ f ∈ up, okFrame P f) (m m' : Bool) (j : Option Code) (hj : ∀ c, j = some c → okCode P c = true) (S S0 : GStep)
    (hS : ∀ l, fr.roundOf = some l → S = (match (Instr.endRound l j).runT P v #[] with | (x, es) => GStep.after (seen P fr.fn es) (match x with | .ok z w => doReturn P m' fr (up ++ cs) none z w | .halt _ w => .ended (.stuck "range over a function: no such loop" (fr.pos P)) w)))
    (hS0 : ∀ l, fr.roundOf = some l → S0 = (match (Instr.endRound l j).runT (bar P F) w #[] with | (x, es) => GStep.after (seen (bar P F) fr.fn es) (match x with | .ok z w => doReturn (bar P F) m fr (up ++ [baseF r]) none z w | .halt _ w => .ended (.stuck "range over a function: no such loop" (fr.pos (bar P F))) w)))
    (hN : fr.roundOf = none → Moves P V r cs w v S S0) : Moves P V r cs w v S S0 := by
  cases hr : fr.roundOf with
  | none => exact hN hr
  | some l =>
    rw [hS l hr, hS0 l hr]
    refine moves_run hs (sim_endRound (P := P) (F := F) l j hj) (fun x es e hb => ?_) fun x es e ha hh hfine => ⟨fun v' => _, fun v' e' => by rw [e'], fun v' hs' => ?_⟩
    · rw [e]
      cases x with
      | ok a w' => exact hb.elim
      | halt h w' => exact .ended
    · rw [e]
      cases x with
      | halt h w' => exact .ended
      | ok a w' =>
        dsimp only [putW, wOf]
        rw [seen_bar hF]
        exact moves_after (return_sim hs' hu m m' a) (hfine fr.fn)
theorem oper_sim (hF : FenceB P F) (hB : Bodies P F) {V : Nat → Prop} {w v : World} (hs : Sib P V w v) {fr : Frame} {up cs : List Frame} {r : Nat} (hf : okFrame P fr) (hu : ∀ f ∈ up, okFrame P f) {ops : Array Oper} {n : Nat} {rest : List Nat} {k : List Item} (ht : fr.todo = .inRegion ops (n :: rest) :: k) (hi : okItem P (.inRegion ops (n :: rest)) = true) : Moves P V r cs w v (stepG.oper P true fr (up ++ cs) none v) (stepG.oper (bar P F) true fr (up ++ [baseF r]) none w) := by
  unfold stepG.oper
  have e : fr.oper? = ops[n]? := by unfold Frame.oper?; rw [ht]
  rw [e]
  cases ho : ops[n]? with
  | none => exact .ended
  | some o =>
    have hok : okOp P o.op = true := by
      obtain ⟨hn, rfl⟩ := Array.getElem?_eq_some_iff.mp ho
      have : (ops.all fun o => okOp P o.op) = true := hi
      exact (Array.all_eq_true.mp this) n hn
    dsimp only
    split
    · rename_i l c hr hc
      rw [hc] at hok
      cases hok
    · exact apply_sim hF hB hs hf hu _ (q_execOp hF _ _ hok)
theorem exec_sim (hF : FenceB P F) (hB : Bodies P F) {V : Nat → Prop} {w v : World} (hs : Sib P V w v) {fr : Frame} {up cs : List Frame} {r : Nat} (hf : okFrame P fr) (hu : ∀ f ∈ up, okFrame P f) (m m' : Bool) : Moves P V r cs w v (stepG.exec P m' true fr (up ++ cs) none v) (stepG.exec (bar P F) m true fr (up ++ [baseF r]) none w) := by
  unfold stepG.exec
  cases ht : fr.todo with
  | nil =>
    refine leave_sim hF hs hf hu m m' none (fun c h => by cases h) _ _ (fun l hl => by simp only [hl]; rfl) (fun l hl => by simp only [hl]; rfl) fun hn => ?_
    simp only [hn, if_true]
    exact mv_go (fr := { fr with mode := .returning, todo := [], roundOf := none }) hs ⟨by simp, hf.2⟩ hu
  | cons i k =>
    obtain ⟨hi, hk⟩ := ok_tail hf ht
    cases i with
    | inBlock id => exact to_sim hs hf hu hk
    | inScope b => cases hi
    | inLoop b => exact to_sim hs hf hu (ok_cons (P := P) (i := .code b) hi (ok_cons (P := P) (i := .inLoop b) hi hk))
    | inRangeFunc l => exact .ended
    | call d a b c => cases hi
    | extern a b => cases hi
    | inRegion ops todo =>
      cases todo with
      | nil => exact to_sim hs hf hu hk
      | cons n rest =>
        refine moves_ite (fun _ => ?_) fun _ => mv_go hs (ok_finish hf _) hu
        exact oper_sim hF hB hs hf hu ht hi
    | beginRound =>
      refine apply_sim hF hB hs hf hu _ ?_
      refine q_then ?_ fun _ => q_pure trivial
      cases fr.roundOf with
      | none => exact sim_stuck _
      | some l => exact sim_beginRound l
    | endRangeFunc l =>
      dsimp only
      refine moves_run hs (q_endLoop (P := P) (F := F) l) (fun x es e hb => ?_) fun x es e ha hh hfine => ⟨fun v' => _, fun v' e' => by rw [e'], fun v' hs' => ?_⟩
      · rw [e]
        cases x with
        | ok a w' => exact hb.elim
        | halt h w' =>
          cases h with
          | panic z => exact hb.elim
          | _ => exact .ended
      · rw [e]
        cases x with
        | ok a w' =>
          dsimp only [putW, wOf]
          rw [seen_bar hF]
          refine moves_after (mv_go (fr := { fr with todo := (a.map Item.code).toList ++ k }) hs' ⟨?_, hf.2⟩ hu) (hfine fr.fn)
          cases a with
          | none => exact hk
          | some c => exact ok_cons (P := P) (i := .code c) (ha _ w' rfl c rfl) hk
        | halt h w' =>
          obtain ⟨z, rfl⟩ := hh h w' rfl
          dsimp only [putW, wOf]
          rw [seen_bar hF]
          exact moves_after (mv_go hs' (ok_raise hf _) hu) (hfine fr.fn)
    | code c =>
      cases c with
      | skip => exact to_sim hs hf hu hk
      | label l => cases hi
      | goto l => cases hi
      | scope b => cases hi
      | refuse s => exact .ended
      | seq a b =>
        have h : okCode P a = true ∧ okCode P b = true := by simpa [okItem, okCode] using hi
        exact to_sim hs hf hu (ok_cons (P := P) (i := .code a) h.1 (ok_cons (P := P) (i := .code b) h.2 hk))
      | cond c a b =>
        have h : okCode P a = true ∧ okCode P b = true := by simpa [okItem, okCode] using hi
        dsimp only
        split
        · rename_i x _
          cases x with
          | true => exact to_sim hs hf hu (ok_cons (P := P) (i := .code a) h.1 hk)
          | false => exact to_sim hs hf hu (ok_cons (P := P) (i := .code b) h.2 hk)
        · exact .ended
      | block id b => exact to_sim hs hf hu (ok_cons (P := P) (i := .code b) hi (ok_cons (P := P) (i := .inBlock id) rfl hk))
      | loop b => exact to_sim hs hf hu (ok_cons (P := P) (i := .code b) hi (ok_cons (P := P) (i := .inLoop b) hi hk))
      | ret =>
        refine leave_sim hF hs hf hu m m' (some .ret) (fun c h => by cases h; rfl) _ _ (fun l hl => by simp only [hl]; rfl) (fun l hl => by simp only [hl]; rfl) fun hn => ?_
        simp only [hn, if_true]
        exact mv_go (fr := { fr with mode := .returning, todo := .code .ret :: k, roundOf := none }) hs ⟨ok_cons rfl hk, hf.2⟩ hu
      | exit id =>
        dsimp only
        cases he : exitTo id k with
        | some k' => exact to_sim hs hf hu (ok_exitTo id k k' hk he)
        | none =>
          refine leave_sim hF hs hf hu m m' (some (.exit id)) (fun c h => by cases h; rfl) _ _ (fun l hl => by simp only [hl]; rfl) (fun l hl => by simp only [hl]; rfl) fun hn => ?_
          simp only [hn]
          exact .ended
      | region id ops draw =>
        cases draw with
        | false => exact to_sim hs hf hu (ok_cons (P := P) (i := .inRegion ops (List.range ops.size)) hi hk)
        | true =>
          have e1 : ∀ (p : Program) (u : World), (choose (.order fr.fn id)).run p u = .ok (u.tape u.drawn (.order fr.fn id)) { u with drawn := u.drawn + 1 } := fun _ _ => rfl
          dsimp only [Bool.not_true, Bool.false_eq_true, if_false]
          simp only [e1, Bool.not_true, Bool.false_eq_true, if_false]
          refine .go (fr := { fr with todo := .inRegion ops (Region.schedule (P.follows .mixedOrders) ops (w.tape w.drawn (.order fr.fn id))) :: k }) (w1 := { w with drawn := w.drawn + 1 }) rfl (Nat.le_succ _) ⟨ok_cons (P := P) (i := .inRegion ops _) hi hk, hf.2⟩ hu (by simp) ⟨Nat.le_refl _, by simp⟩ fun hA => ?_
          have e0 : v.tape v.drawn (.order fr.fn id) = w.tape w.drawn (.order fr.fn id) := by
            have := hA 0 (.order fr.fn id) (by show 0 < w.drawn + 1 - w.drawn; omega)
            simpa using this
          rw [e0]
          refine ⟨{ v with drawn := v.drawn + 1 }, rfl, ⟨hs.size, hs.like, hs.veil, hs.kind, hs.env⟩, rfl, rfl, rfl, ?_, fun _ _ => rfl⟩
          show v.drawn + 1 = v.drawn + (w.drawn + 1 - w.drawn)
          omega
      | rangeFunc f ps a b =>
        have h : okCode P a = true ∧ okCode P b = true := by simpa [okItem, okCode] using hi
        dsimp only
        refine moves_run hs (q_enterLoop (P := P) (F := F) fr.fn fr.tmps ps a b fr.roundOf h.1 h.2) (fun x es e hb => ?_) fun x es e ha hh hfine => ⟨fun v' => _, fun v' e' => by rw [e'], fun v' hs' => ?_⟩
        · rw [e]
          cases x with
          | ok a w' => exact hb.elim
          | halt h w' => exact .ended
        · rw [e]
          cases x with
          | halt h w' => exact .ended
          | ok y w' =>
            obtain ⟨l, mark⟩ := y
            dsimp only [putW, wOf]
            rw [seen_bar hF]
            refine moves_after (apply_sim hF hB hs' (fr := { fr with todo := .inRangeFunc l :: k, defers := mark ++ fr.defers }) ⟨ok_cons rfl hk, fun d hd => ?_⟩ hu _ ?_) (hfine fr.fn)
            · rcases List.mem_append.mp hd with h | h
              · exact ha _ w' rfl d h
              · exact hf.2 d h
            · exact q_bind (q_resolve _ _ _ rfl) fun d hd => q_invoke hF _ hd _
/-- A STEP OF GOOD CODE. -/
theorem step_sim (hF : FenceB P F) (hB : Bodies P F) {V : Nat → Prop} {w v : World} (hs : Sib P V w v) {fr : Frame} {up cs : List Frame} {r : Nat} (hf : okFrame P fr) (hu : ∀ f ∈ up, okFrame P f) (m m' : Bool) : Moves P V r cs w v (stepG P m' (runG fr (up ++ cs)) v) (stepG (bar P F) m (runG fr (up ++ [baseF r])) w) := by
  unfold stepG runG
  dsimp only
  cases hm : fr.mode with
  | run => exact exec_sim hF hB hs hf hu m m'
  | returning => exact unwind_sim hF hB hs hf hu m m'
  | panicking c => exact unwind_sim hF hB hs hf hu m m'
end
/-- Nothing comes back to the lowest frame. -/
theorem base_dead {w : World} {r : Nat} (hr : F[r]? = none) {fr : Frame} (h : fr.todo = [.code (.refuse "")]) (hd : fr.defers = [{ target := .fn (.func r) #[], args := #[] }]) (m : Bool) : ∃ o w' es, stepG (bar P F) m (runG fr []) w = .ended o w' es := by
  unfold stepG runG
  dsimp only
  have hu : ∃ o w' es, unwind (bar P F) m fr [] none w = .ended o w' es := by
    unfold unwind
    rw [hd]
    dsimp only
    unfold callDeferred
    have e : (invoke (.fn (.func r) #[]) #[]).runT (bar P F) w #[] = (.halt (.stuck "call: no such function") w, #[]) := by
      have e0 : (invoke (.fn (.func r) #[]) #[] : Sem Next) = callFunc r #[] := rfl
      rw [e0]
      have hr' : (bar P F).funcs[r]? = none := hr
      unfold callFunc
      show ((program).bind _).runT (bar P F) w #[] = _
      rw [Sem.runT_bind']
      simp only [program, Sem.runT, hr']
      rfl
    rw [e]
    exact ⟨_, _, _, rfl⟩
  cases hm : fr.mode with
  | run =>
    dsimp only
    unfold stepG.exec
    rw [h]
    exact ⟨_, _, _, rfl⟩
  | returning => exact hu
  | panicking c => exact hu
end Go.Proofs.Ythbghcebcahlnaa
