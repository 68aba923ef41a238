/- The veil, of the operations: loops over functions, calls by value, and all of execOp that good code has. -/
import Derived.Test.YthbghcebcahlnaaRI
set_option linter.unusedSectionVars false
set_option linter.unusedSimpArgs false
namespace Go.Proofs.Ythbghcebcahlnaa
open Go
variable {P : Program} {F : Array Func} [Inhabited Junk]

theorem sim_setObj' (r : Nat) (o : Obj) (h : okObj P o) : Sim (bar P F) P (setObj r o) := sim_setObj h (sim_pure _)
theorem q_getLoop (l : Nat) : SimQ (bar P F) P (Instr.getLoop l) (okLoop P) := by
  unfold Instr.getLoop
  refine sim_getObj (fun o ho => ?_) fun x t o ho => .inl fun _ _ => trivial
  cases o <;> first | exact q_pure ho | exact q_stuck _
theorem sim_setLoop (l : Nat) (r : Loop) (h : okLoop P r) : Sim (bar P F) P (setObj l (.loop r)) := sim_setObj' _ _ h
theorem q_enterLoop (fn : FuncId) (tmps : Array Value) (params : Array Tmp) (assign body : Code) (around : Option Nat) (ha : okCode P assign = true) (hb : okCode P body = true) : SimQ (bar P F) P (Instr.enterLoop fn tmps params assign body around) fun r => ∀ d ∈ r.2, okTarget d.target = true := by
  have hl : ∀ (n : Nat), okObj P (.loop { state := .ready, pending := none, fn, tmps, params, assign, body, defers := n }) := fun n => ⟨ha, hb, fun c h => by cases h⟩
  unfold Instr.enterLoop
  cases around with
  | some l => exact q_then (q_getLoop _).sim fun r => q_bind (R := fun x => ∀ d ∈ x.2, okTarget d.target = true) (q_pure (by simp)) fun x hx => q_then (sim_new (hl _) fun _ => sim_pure _) fun _ => q_pure hx
  | none => exact q_then (sim_new (fun d h => by cases h) fun _ => sim_pure _) fun r => q_bind (R := fun x => ∀ d ∈ x.2, okTarget d.target = true) (q_pure (by simp [okTarget])) fun x hx => q_then (sim_new (hl _) fun _ => sim_pure _) fun _ => q_pure hx
theorem q_yield (l : Nat) (args : Array Value) : SimQ (bar P F) P (Instr.yield l args) (okNext P F) :=
  q_bind (q_getLoop _) fun _ hr => q_ite (q_then (sim_stuck _) fun _ => q_pure ⟨hr.1, hr.2.1⟩) (q_pure ⟨hr.1, hr.2.1⟩)
theorem sim_beginRound (l : Nat) : Sim (bar P F) P (Instr.beginRound l) := by
  unfold Instr.beginRound
  refine SimQ.sim (Q := fun _ => True) (q_bind (q_getLoop l) fun r hr => q_then (sim_setLoop l { r with state := .busy } hr) fun _ => q_of ?_ fun _ => trivial)
  cases r.state <;> first | exact sim_pure _ | exact sim_runtimePanic _
theorem sim_endRound (l : Nat) (j : Option Code) (hj : ∀ c, j = some c → okCode P c = true) : Sim (bar P F) P (Instr.endRound l j) :=
  SimQ.sim (Q := fun _ => True) (q_bind (q_getLoop l) fun r hr => q_then (sim_setLoop l { r with state := if j.isNone then .ready else .done, pending := j } ⟨hr.1, hr.2.1, hj⟩) fun _ => q_pure trivial)
theorem q_endLoop (l : Nat) : SimQ (bar P F) P (Instr.endLoop l) fun j => ∀ c, j = some c → okCode P c = true :=
  q_bind (q_getLoop _) fun _ hr => q_ite (q_then (sim_runtimePanic _) fun _ => q_then (sim_setLoop _ _ ⟨hr.1, hr.2.1, hr.2.2⟩) fun _ => q_pure hr.2.2) (q_then (sim_setLoop _ _ ⟨hr.1, hr.2.1, hr.2.2⟩) fun _ => q_pure hr.2.2)
theorem q_takeDeferred (b : Nat) : SimQ (bar P F) P (Instr.takeDeferred b) fun ds => ∀ d ∈ ds, okTarget d.target = true := by
  unfold Instr.takeDeferred
  refine sim_getObj (fun o ho => ?_) fun x t o ho => .inl fun _ _ => trivial
  rcases o with _ | _ | _ | _ | _ | _ | _ | _ | _ | ds | _ | _
  case deferred =>
    cases ds with
    | some ds =>
      show SimQ (bar P F) P (setObj b (.deferred none) >>= fun _ => pure ds) _
      exact q_then (sim_setObj' _ _ trivial) fun _ => q_pure ho
    | none => exact q_stuck _
  all_goals exact q_stuck _
theorem q_v {s : Sem Value} (h : Sim (bar P F) P s) : SimQ (bar P F) P (do pure (.value (← s)) : Sem Next) (okNext P F) := q_then h fun _ => q_pure trivial
theorem q_u {s : Sem Unit} (h : Sim (bar P F) P s) : SimQ (bar P F) P (do s; pure .skip : Sem Next) (okNext P F) := q_then h fun _ => q_pure trivial
theorem q_builtin (b : Builtin) (h : okBuiltin b = true) (ts : Array TypeId) (t : TypeId) (c : Array Bool) (args : Array Value) : SimQ (bar P F) P (builtin b ts t c args) (okNext P F) := by
  cases b <;> first
    | (cases h; done)
    | exact q_v (sim_append _ _ _) | exact q_v (sim_cap _ _ _) | exact q_v (sim_complex _ _ _) | exact q_v (sim_copy _ _ _) | exact q_v (sim_imag _ _ _) | exact q_v (sim_len _ _ _)
    | exact q_v (sim_max _ _ _) | exact q_v (sim_min _ _ _) | exact q_v (sim_real _ _ _) | exact q_pure trivial
theorem q_callMethod (hF : FenceB P F) (recv : Value) (name : String) (args : Array Value) : SimQ (bar P F) P (callMethod recv name args) (okNext P F) := by
  unfold callMethod
  split
  · exact q_prog rfl (q_then (sim_method _ _ _ _) fun _ => q_callFunc hF _ _)
  · exact q_panics _
  · exact q_stuck _
theorem q_invoke (hF : FenceB P F) (t : Target) (ht : okTarget t = true) (args : Array Value) : SimQ (bar P F) P (invoke t args) (okNext P F) := by
  unfold invoke
  split
  · exact q_panics _
  · exact q_builtin _ ht _ _ _ _
  · exact q_callFunc hF _ _
  · split
    · exact q_callMethod hF _ _ _
    · exact q_stuck _
  · split
    · refine q_then (sim_underlying _) fun u => ?_
      dsimp only
      exact q_callMethod hF _ _ _
    · exact q_stuck _
  · split
    · exact q_then (sim_receiverVia _ _ _ _) fun _ => q_callFunc hF _ _
    · exact q_stuck _
  · exact q_yield _ _
  · exact q_stuck _
  · cases ht
theorem q_resolve (ρ : Operand → Value) (c : Call) (t : TypeId) (hc : okCall c = true) : SimQ (bar P F) P (resolve ρ c t) fun d => okTarget d.target = true := by
  unfold resolve
  unfold okCall at hc
  cases he : c.callee with
  | builtin b =>
    rw [he] at hc
    exact q_pure hc
  | invoke recv name => exact q_pure rfl
  | value f =>
    show SimQ (bar P F) P (Deferred.ofValue (ρ f) (c.args.map ρ)) _
    cases hv : ρ f <;> first | exact q_pure rfl | exact q_stuck _
theorem settings_none : Instr.readSettings "panicnil" .empty (Instr.readSettings "panicnil" "".toUTF8 0) = 0 := by decide
theorem sim_panic (x : Value) : Sim (bar P F) P (Instr.panic x) := by
  cases x <;> first | exact sim_stuck _ | exact sim_goPanic _ | skip
  intro V w v es h
  left
  have e1 : w.sys .env = (.strings #[], w) := by
    have : Kernel.perform .env w.os = .done (.strings w.os.env, w.os) := rfl
    unfold World.sys
    rw [this, h.env]
    rfl
  have e2 : ∀ es, Instr.panicnil.runT (bar P F) w es = (.ok 0 w, es.push ⟨.output, true, false⟩) := by
    intro es
    show ((match (w.sys .env).1 with
      | .strings env => (program >>= fun p => pure (Instr.readSettings "panicnil" (((env.find? fun s => s.extract 0 "GODEBUG=".toUTF8.size == "GODEBUG=".toUTF8).map fun s => s.extract "GODEBUG=".toUTF8.size s.size).getD .empty) (Instr.readSettings "panicnil" p.godebug.toUTF8 0)))
      | _ => stuck "strings expected" : Sem Int).runT (bar P F) (w.sys .env).2 (es.push ⟨.output, true, false⟩)) = _
    rw [e1]
    show (Result.ok (Instr.readSettings "panicnil" .empty (Instr.readSettings "panicnil" "".toUTF8 0)) w, _) = _
    rw [settings_none]
  show Bad ((Instr.panicnil.bind fun n => if (n == 1) = true then goPanic .nilIface else runtimePanic .panicNil).runT (bar P F) w es).1
  rw [Sem.runT_bind', e2]
  exact bad_panicNil _ _
theorem q_execOp (hF : FenceB P F) (ρ : Operand → Value) (o : Oper) (h : okOp P o.op = true) : SimQ (bar P F) P (execOp ρ o) (okNext P F) := by
  obtain ⟨dst, op, type, pos, after, guard⟩ := o
  cases op with
  | move x => exact q_pure trivial
  | assign x => exact q_pure trivial
  | pick c a b => exact q_then (sim_asBool _) fun _ => q_pure trivial
  | alloc e => exact q_v (sim_alloc _ _ _)
  | box e v => exact q_v (sim_box _ _)
  | build t ps => exact q_v (sim_build _ _)
  | buildSlice t n ps => exact q_v (sim_buildSlice _ _ _)
  | load t a => exact q_v (sim_loadAt _ _)
  | store t a x => exact q_u (sim_storeAt _ _ _)
  | nilCheck x =>
    unfold execOp
    dsimp only
    split
    · exact q_panics _
    · exact q_panics _
    · exact q_panics _
    · split
      · exact q_panics _
      · refine q_prog rfl (q_then (sim_nilAhead _ _ _ _) fun _ => q_ite (q_then (sim_unsupported _) fun _ => q_pure trivial) (q_pure trivial))
      · exact q_pure trivial
    · exact q_pure trivial
  | binOp op t x y u => exact q_v (sim_bind (sim_eqGuard _ _ _ _ _ _) fun _ => sim_binOp _ _ _ _)
  | unOp op t x => exact q_v (sim_unary _ _)
  | convert s d x =>
    have h' : ((P.underlying s).any isNumT && (P.underlying d).any isNumT) = true := h
    rw [Bool.and_eq_true] at h'
    exact q_v (sim_convert _ _ _ h'.1 h'.2)
  | sliceToArrayPointer t x => exact q_v (sim_arrayAt _ _)
  | makeInterface t x => exact q_v (sim_makeInterface _ _)
  | makeFunc f a b => exact q_v (sim_makeFunc _ _ _)
  | makeSlice t l c => exact q_v (sim_makeSlice _ _ _)
  | slice t x l h m => exact q_v (sim_sliceAt _ _ _ _ _)
  | fieldAddr t x f => exact q_v (sim_fieldAt _ _ _)
  | field t x f => exact q_v (sim_field _ _ _)
  | indexAddr t x i => exact q_v (sim_indexAt _ _ _)
  | index t x i => exact q_v (sim_index _ _ _)
  | extract t i => exact q_v (sim_extract _ _)
  | call c => exact q_bind (q_resolve ρ c type h) fun d hd => q_invoke hF _ hd _
  | panic x => exact q_v (sim_panic _)
  | _ => cases h
end Go.Proofs.Ythbghcebcahlnaa
