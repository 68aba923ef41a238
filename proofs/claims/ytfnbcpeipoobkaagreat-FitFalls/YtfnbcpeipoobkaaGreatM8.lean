/- From the lone machine's run to arriving. What a well-founded going of the lone machine says in company. A lone contract for every tape goes on well-founded. Goroutine 0 goes on well-founded beside leavers. -/
import Derived.Test.YtfnbcpeipoobkaaGreatM7
import Derived.Control
import Derived.Calls
import Derived.Conc.Beside
set_option linter.unusedSectionVars false
namespace Go.Proofs.YtfnbcpeipoobkaaGreat
open Go
variable {P : Program} {F : Array Func} [Inhabited Junk]

theorem step_lone_of_go {fr fr' : Frame} {cs cs' : List Frame} {w w' : World} {es : Array Event} (h : stepG P true (runG fr cs) w = .go (runG fr' cs') w' es) : step P (lone fr cs w) = .next (lone fr' cs' w') :=
  step_lone_go (by
    have h : stepG P true { frame := fr, callers := cs, status := .running, dying := none } w = .go (runG fr' cs') w' es := h
    rw [h]
    rfl)
theorem step_lone_of_ended {fr : Frame} {cs : List Frame} {w w' : World} {o : Outcome} {es : Array Event} (h : stepG P true (runG fr cs) w = .ended o w' es) : step P (lone fr cs w) = .ended o w' :=
  step_lone_ended (by
    have h : stepG P true { frame := fr, callers := cs, status := .running, dying := none } w = .ended o w' es := h
    rw [h]
    rfl)

theorem arr_of_run (hP : bar P F = P) (hF : FenceB P F) (hB : Bodies P F) {r : Nat} (hr : F[r]? = none) {E : Frame → List Frame → World → Prop} {fr1 : Frame} {up1 : List Frame} {w1 : World} (hE : FitB P fr1 up1 w1 → E fr1 up1 w1) : ∀ (n : Nat) (fr : Frame) (up : List Frame) (w : World), FitB P fr up w → runN P n (lone fr (up ++ [baseF r]) w) = .next (lone fr1 (up1 ++ [baseF r]) w1) → Arr P r E fr up w
  | 0, fr, up, w, hf, e => by
    have e : lone fr (up ++ [baseF r]) w = lone fr1 (up1 ++ [baseF r]) w1 := by
      have : Stepped.next (lone fr (up ++ [baseF r]) w) = .next (lone fr1 (up1 ++ [baseF r]) w1) := e
      injection this
    have h1 : w = w1 := congrArg Machine.world e
    have h2 := congrArg Machine.gs e
    simp only [lone, Array.mk.injEq, List.cons.injEq, Goroutine.mk.injEq, and_true] at h2
    obtain ⟨h3, h4⟩ := h2
    have h4 : up = up1 := List.append_cancel_right h4
    subst h1 h3 h4
    exact .fin (hE hf)
  | n + 1, fr, up, w, hf, e => by
    have hs : Sib P (fun _ => False) w w := ⟨rfl, fun _ _ => .inl rfl, fun _ hx => hx.elim, hf.kind, hf.env⟩
    have hm := step_sim (r := r) (cs := [baseF r]) hF hB hs hf.frame hf.up true true
    rw [hP] at hm
    unfold runN at e
    generalize hS : stepG P true (runG fr (up ++ [baseF r])) w = S at hm
    rcases hm with ⟨o, w2, es2, rfl⟩ | ⟨fr2, w2, es2, h1, h2, h3, rfl⟩ | ⟨fr2, up2, w2, es2, ht, hl, hf2, hu2, he, hz, hS', rfl⟩
    · rw [step_lone_of_ended hS] at e
      cases e
    · rw [step_lone_of_go hS] at e
      obtain ⟨o, w3, es3, hd⟩ := base_dead (P := P) (F := F) (w := w2) hr h1 h2 true
      rw [hP] at hd
      cases n with
      | zero =>
        have e : lone fr2 [] w2 = lone fr1 (up1 ++ [baseF r]) w1 := by
          have : Stepped.next (lone fr2 [] w2) = .next (lone fr1 (up1 ++ [baseF r]) w1) := e
          injection this
        have h2 := congrArg Machine.gs e
        simp [lone] at h2
      | succ n =>
        dsimp only at e
        unfold runN at e
        rw [step_lone_of_ended hd] at e
        cases e
    · rw [step_lone_of_go hS] at e
      obtain ⟨f1, _, _, _⟩ := step_local hP hF hB hf hS
      exact .step hS (arr_of_run hP hF hB hr hE n fr2 up2 w2 f1 e)

/-- A LONE CONTRACT FOR EVERY TAPE GOES ON WELL-FOUNDED. -/
theorem goesW_of_steps (hP : bar P F = P) (hF : FenceB P F) (hB : Bodies P F) {r : Nat} {E : Frame → List Frame → World → Prop} (hE : ∀ fr up w τ d, E fr up (re w τ d) ↔ E fr up w) {fr : Frame} {up : List Frame} {w : World} (hf : FitB P fr up w) (hr : F[r]? = none)
    (h : ∀ τ d, ∃ fr1 up1 w1, (FitB P fr1 up1 w1 → E fr1 up1 w1) ∧ Steps P (lone fr (up ++ [baseF r]) (re w τ d)) (lone fr1 (up1 ++ [baseF r]) w1)) : GoesW P r E fr up w := by
  refine goesW_of_all hP hF hB hE hf fun τ d => ?_
  obtain ⟨fr1, up1, w1, h1, n, h2⟩ := h τ d
  exact arr_of_run hP hF hB hr h1 n fr up _ (fit_re hf τ d) h2
end Go.Proofs.YtfnbcpeipoobkaaGreat

set_option linter.unusedSectionVars false
namespace Go.Proofs.YtfnbcpeipoobkaaGreat
open Go
variable {P : Program} {F : Array Func} [Inhabited Junk]

theorem goesW_re {P0 : Program} {r : Nat} {E : Frame → List Frame → World → Prop} (hE : ∀ fr up w τ d, E fr up (re w τ d) ↔ E fr up w) {fr : Frame} {up : List Frame} {w : World} (h : GoesW P0 r E fr up w) (τ : Nat → Question → Nat) (d : Nat) : GoesW P0 r E fr up (re w τ d) := by
  rcases h.inv with h | ⟨h1, h2⟩
  · exact .fin ((hE _ _ _ _ _).mpr h)
  · exact .step (fun τ' d' => h1 τ' d') fun τ' d' => h2 τ' d'
/-- IN COMPANY: from any world that is the lone one but for the veil, the same step over the program itself. -/
theorem goes_next (hF : FenceB P F) (hB : Bodies P F) {V : Nat → Prop} {r : Nat} {E : Frame → List Frame → World → Prop} {fr : Frame} {up : List Frame} {w v : World} (hg : GoesW (bar P F) r E fr up w) (hs : Sib P V w v) (hf : okFrame P fr) (hu : ∀ f ∈ up, okFrame P f) (cs : List Frame) (m : Bool) :
    E fr up w ∨ ∃ fr' up' w' v' es, stepG P m (runG fr (up ++ cs)) v = .go (runG fr' (up' ++ cs)) v' es ∧ GoesW (bar P F) r E fr' up' w' ∧ Sib P V w' v' ∧ okFrame P fr' ∧ (∀ f ∈ up', okFrame P f) ∧ (∀ e ∈ es, Fine V e) ∧ v'.os = v.os ∧ v'.output = v.output ∧ v'.tape = v.tape ∧ v.drawn ≤ v'.drawn ∧ ∀ x, V x → v'.heap[x]? = v.heap[x]? := by
  rcases hg.inv with h | ⟨h1, h2⟩
  · exact .inl h
  · right
    obtain ⟨fr', up', w', es, h⟩ := h1 v.tape v.drawn
    have hs' : Sib P V (re w v.tape v.drawn) v := ⟨hs.size, hs.like, hs.veil, hs.kind, hs.env⟩
    have hm := step_sim (r := r) (cs := cs) hF hB hs' hf hu true m
    rw [h] at hm
    generalize hS : stepG P m (runG fr (up ++ cs)) v = S at hm
    generalize hg : runG fr' (up' ++ [baseF r]) = g at hm
    rcases hm with ⟨o, w1, es1, hx⟩ | ⟨fr2, w1, es1, k1, k2, k3, hx⟩ | ⟨fr2, up2, w1, es1, ht, hl, hf, hu, he, hz, hS', hx⟩
    · cases hx
    · injection hx with hx
      have := congrArg Goroutine.callers (hg.trans hx)
      simp [runG] at this
    · injection hx with hx hx1 hx2
      subst hx hx1 hx2
      have e1 : fr' = fr2 := congrArg Goroutine.frame hg
      have e2 : up' = up2 := List.append_cancel_right (congrArg Goroutine.callers hg)
      subst e1 e2
      obtain ⟨v', t1, t2, t3, t4, t5, t6, t7⟩ := hS' (fun _ _ _ => rfl)
      exact ⟨fr', up', w', v', es, t1, h2 _ _ _ _ _ _ h, t2, hf, hu, he, t3, t4, t5, by rw [t6]; omega, t7⟩

/-- Good code is the same over both programs. -/
theorem okCode_bar (c : Code) : okCode (bar P F) c = okCode P c := by
  have ho : ∀ o : Op, okOp (bar P F) o = okOp P o := by
    intro o
    cases o with
    | convert a b x => simp only [okOp, under_bar]
    | _ => rfl
  induction c with
  | region id ops draw => simp only [okCode, ho]
  | seq a b ha hb => simp only [okCode, ha, hb]
  | cond c a b ha hb => simp only [okCode, ha, hb]
  | rangeFunc f ps a b ha hb => simp only [okCode, ha, hb]
  | block id c h => simp only [okCode, h]
  | loop c h => simp only [okCode, h]
  | scope c h => simp only [okCode, h]
  | _ => rfl
theorem okObj_bar (o : Obj) (h : okObj P o) : okObj (bar P F) o := by
  cases o with
  | loop l => exact ⟨by rw [okCode_bar]; exact h.1, by rw [okCode_bar]; exact h.2.1, fun c e => by rw [okCode_bar]; exact h.2.2 c e⟩
  | deferred ds => cases ds <;> exact h
  | _ => exact h
end Go.Proofs.YtfnbcpeipoobkaaGreat

set_option linter.unusedSectionVars false
namespace Go.Proofs.YtfnbcpeipoobkaaGreat
open Go
variable {P : Program} {F : Array Func} [Inhabited Junk]

/-- A frame that leaves its function, and what is said of it. -/
def Leaves (P : Program) (f : FuncId) (R : Ending → World → Prop) (fr : Frame) (w : World) : Prop := (∀ (r : Nat) (o : Obj), w.heap[r]? = some o → okObj P o) ∧ w.os.env = #[] ∧ fr.fn = f ∧ ∃ e, R e w ∧ fr.leaving P w e
theorem results_blind (hP : bar P F = P) {fn : Func} {tmps : Array Value} {x : Value} {w : World} (hk : ∀ (r : Nat) (o : Obj), w.heap[r]? = some o → okObj P o) (he : w.os.env = #[]) (τ : Nat → Question → Nat) (d : Nat) (h : (results fn tmps).run P w = .ok x w) : (results fn tmps).run P (re w τ d) = .ok x (re w τ d) := by
  letI : Inhabited Junk := noJunk
  have hs : Sib P (fun _ => False) w (re w τ d) := sib_self rfl hk he
  have hq := sim_results (P := P) (F := F) fn tmps _ _ _ #[] hs
  rw [hP] at hq
  have e1 : ((results fn tmps).runT P w #[]).1 = .ok x w := by rw [Sem.runT_eq]; exact h
  rcases hq with hb | ⟨hg, _, gs⟩
  · rw [e1] at hb
    exact hb.elim
  · obtain ⟨s1, s2, s3, s4, s5, s6, _⟩ := gs (by
      rw [e1]
      intro j q hj
      exact absurd hj (by show ¬ j < w.drawn - w.drawn; omega))
    rw [e1] at s1 s2 s6
    have e2 : ((results fn tmps).runT P (re w τ d) #[]).1 = (results fn tmps).run P (re w τ d) := by rw [Sem.runT_eq]
    rw [e2] at s1 s2 s3 s4 s5 s6
    have e3 : (results fn tmps).run P (re w τ d) = .ok x (wOf ((results fn tmps).run P (re w τ d))) := by
      rw [← e2]
      have := congrArg Prod.fst s1
      rw [e2]
      rw [e2] at this
      exact this
    rw [e3]
    congr 1
    generalize wOf ((results fn tmps).run P (re w τ d)) = v' at *
    have hh : v'.heap = w.heap := Array.ext_getElem? fun i => (s2.like i id).resolve_right fun x => no_jk i _ x.1
    obtain ⟨a1, a2, a3, a4, a5⟩ := v'
    have s6 : a3 = d + (w.drawn - w.drawn) := s6
    have s6 : a3 = d := by omega
    simp only [re] at *
    subst hh s5 s6
    rw [s3, s4]
theorem leaves_blind (hP : bar P F = P) {f : FuncId} {R : Ending → World → Prop} (hR : ∀ e w τ d, R e (re w τ d) ↔ R e w) (fr : Frame) (w : World) (τ : Nat → Question → Nat) (d : Nat) : Leaves P f R fr (re w τ d) ↔ Leaves P f R fr w := by
  have one : ∀ (w : World) (τ : Nat → Question → Nat) (d : Nat), Leaves P f R fr w → Leaves P f R fr (re w τ d) := by
    rintro w τ d ⟨h1, h2, h3, e, h4, h5⟩
    refine ⟨h1, h2, h3, e, (hR _ _ _ _).mpr h4, ?_⟩
    cases e with
    | outgrown => exact h5
    | panicked chain => exact h5
    | returned v =>
      obtain ⟨k1, k2, k3, fn, k4, k5⟩ := h5
      exact ⟨k1, k2, k3, fn, k4, results_blind hP h1 h2 τ d k5⟩
  exact ⟨fun h => one (re w τ d) w.tape w.drawn h, one w τ d⟩
/-- A LONE CONTRACT THAT HOLDS FOR EVERY TAPE GOES ON WELL-FOUNDED. -/
theorem goesW_of_calls (hP : bar P F = P) (hF : FenceB P F) (hB : Bodies P F) {r : Nat} {f : FuncId} {args : Array Value} {w : World} {R : Ending → World → Prop} (hR : ∀ e w τ d, R e (re w τ d) ↔ R e w) (hO : ∀ w, ¬ R .outgrown w) (hf : FitB P (Frame.enter P f args .normal) [] w) (hr : F[r]? = none)
    (h : ∀ τ d, Calls P f args (re w τ d) R) : GoesW P r (fun fr up w => up = [] ∧ Leaves P f R fr w) (Frame.enter P f args .normal) [] w := by
  refine goesW_of_steps hP hF hB (fun fr up w τ d => and_congr_right fun _ => leaves_blind hP hR fr w τ d) hf hr fun τ d => ?_
  obtain ⟨e, w', fr, h1, h2, h3, h4⟩ := h τ d [baseF r]
  refine ⟨fr, [], w', fun hfit => ⟨rfl, hfit.kind, hfit.env, h3, e, h1, h4⟩, ?_⟩
  cases e with
  | outgrown => exact absurd h1 (hO _)
  | returned v => exact h2
  | panicked c => exact h2
end Go.Proofs.YtfnbcpeipoobkaaGreat

set_option linter.unusedSectionVars false
namespace Go.Proofs.YtfnbcpeipoobkaaGreat
open Go Go.Conc
open Go.ConcN (sumTo upd sumTo_upd upd_ne upd_same)
variable {P : Program} {F : Array Func} [Inhabited Junk]

/-- The places of the veiled rows. -/
def Veil (V : Nat → Prop) (l : Go.Loc) : Prop := ∃ a : Addr, l = .cell a ∧ V a.block

theorem evL_of_fine {V : Nat → Prop} {e : Event} (h : Fine V e) {B : Nat} (hB : evB e ≤ B) : EvL (Veil V) B e := by
  obtain ⟨loc, wr, sy⟩ := e
  cases loc with
  | cell a =>
    have h : ¬ V a.block := h
    have hB : a.block + 1 ≤ B := hB
    refine ⟨fun x hx hs => ?_, by simp, by simp, ?_⟩
    · obtain ⟨a', e1, h2⟩ := hs
      have e2 : x.loc = .cell a := by
        cases wr <;> cases sy <;> simp [MemAct.ofEvent, MemAct.touch?] at hx <;> rw [← hx]
      rw [e2] at e1
      cases e1
      exact absurd h2 h
    · show MemAct.low B (MemAct.ofEvent ⟨.cell a, wr, sy⟩)
      have : MemAct.ofEvent ⟨.cell a, wr, sy⟩ = .access ⟨.cell a, wr, sy⟩ := rfl
      rw [this]
      exact hB
  | obj r =>
    have h : ¬ V r := h
    have hB : r + 1 ≤ B := hB
    refine ⟨fun x hx hs => ?_, by simp, by simp, ?_⟩
    · obtain ⟨a', e1, h2⟩ := hs
      have e2 : x.loc = .obj r := by
        cases wr <;> cases sy <;> simp [MemAct.ofEvent, MemAct.touch?] at hx <;> rw [← hx]
      rw [e2] at e1
      cases e1
    · cases wr <;> cases sy <;> simp only [MemAct.ofEvent, MemAct.low, Go.Loc.low] <;> omega
  | mark m =>
    cases m with
    | extern f => exact ⟨fun x hx => by simp [MemAct.ofEvent, MemAct.touch?] at hx, by simp, by simp, by simp [MemAct.ofEvent, MemAct.low]⟩
    | noRoom => exact ⟨fun x hx => by simp [MemAct.ofEvent, MemAct.touch?] at hx, by simp, by simp, by simp [MemAct.ofEvent, MemAct.low]⟩
    | _ => exact h.elim
  | _ => exact h.elim
theorem bound_all (es : List Event) : ∃ B, ∀ e ∈ es, evB e ≤ B := by
  induction es with
  | nil => exact ⟨0, by simp⟩
  | cons e l ih =>
    obtain ⟨B, h⟩ := ih
    refine ⟨max B (evB e), fun x hx => ?_⟩
    rcases List.mem_cons.1 hx with rfl | hx
    · exact Nat.le_max_right _ _
    · exact Nat.le_trans (h x hx) (Nat.le_max_left _ _)
/-- The trace behind a step of good code. -/
theorem past_fine {V : Nat → Prop} {t : Trace} (h : ∃ B, Past (Veil V) B t) {fn : FuncId} {pos : String} {es : Array Event} (hes : ∀ e ∈ es, Fine V e) : ∃ B, Past (Veil V) B (t ++ MemOp.ofEvents 0 fn pos es) := by
  obtain ⟨B, h⟩ := h
  obtain ⟨B', hB⟩ := bound_all es.toList
  refine ⟨max B B', (h.mono (Nat.le_max_left B B')).own fun e he => evL_of_fine (hes e he) ?_⟩
  exact Nat.le_trans (hB e (by simpa using he)) (Nat.le_max_right _ _)

/-- goes_next, and whence it comes. -/
theorem goes_from (hF : FenceB P F) (hB : Bodies P F) {V : Nat → Prop} {r : Nat} {fr : Frame} {up : List Frame} {w v : World} (h1 : ∀ τ d, ∃ fr' up' w' es, stepG (bar P F) true (runG fr (up ++ [baseF r])) (re w τ d) = .go (runG fr' (up' ++ [baseF r])) w' es) (hs : Sib P V w v) (hf : okFrame P fr) (hu : ∀ f ∈ up, okFrame P f) (cs : List Frame) (m : Bool) :
    ∃ fr' up' w' v' es τ d, stepG (bar P F) true (runG fr (up ++ [baseF r])) (re w τ d) = .go (runG fr' (up' ++ [baseF r])) w' es ∧ stepG P m (runG fr (up ++ cs)) v = .go (runG fr' (up' ++ cs)) v' es ∧ Sib P V w' v' ∧ okFrame P fr' ∧ (∀ f ∈ up', okFrame P f) ∧ (∀ e ∈ es, Fine V e) ∧ v'.os = v.os ∧ v'.output = v.output ∧ v'.tape = v.tape ∧ v.drawn ≤ v'.drawn ∧ (∀ x, V x → v'.heap[x]? = v.heap[x]?) ∧ w.heap.size ≤ w'.heap.size ∧ (∀ e ∈ es, evB e ≤ w'.heap.size) := by
  obtain ⟨fr', up', w', es, h⟩ := h1 v.tape v.drawn
  have hs' : Sib P V (re w v.tape v.drawn) v := ⟨hs.size, hs.like, hs.veil, hs.kind, hs.env⟩
  have hm := step_sim (r := r) (cs := cs) hF hB hs' hf hu true m
  rw [h] at hm
  generalize hS : stepG P m (runG fr (up ++ cs)) v = S at hm
  generalize hg : runG fr' (up' ++ [baseF r]) = g at hm
  rcases hm with ⟨o, w1, es1, hx⟩ | ⟨fr2, w1, es1, h1, h2, h3, hx⟩ | ⟨fr2, up2, w1, es1, ht, hl, hf, hu, he, hz, hS', hx⟩
  · cases hx
  · injection hx with hx
    have := congrArg Goroutine.callers (hg.trans hx)
    simp [runG] at this
  · injection hx with hx hx1 hx2
    subst hx hx1 hx2
    have e1 : fr' = fr2 := congrArg Goroutine.frame hg
    have e2 : up' = up2 := List.append_cancel_right (congrArg Goroutine.callers hg)
    subst e1 e2
    obtain ⟨v', t1, t2, t3, t4, t5, t6, t7⟩ := hS' (fun _ _ _ => rfl)
    exact ⟨fr', up', w', v', es, v.tape, v.drawn, h, t1, t2, hf, hu, he, t3, t4, t5, by rw [t6]; omega, t7, hz⟩

/-- What stands where a well-founded going has arrived, beside leavers. -/
def Arrived (P : Program) (V : Nat → Prop) (E : Frame → List Frame → World → Prop) (cs : List Frame) (v : World) (n : Nat) (m : Machine) (t : Trace) : Prop :=
  ∃ (gs : Array Goroutine) (fr : Frame) (up : List Frame) (w v' : World) (sl : Option (Nat × Nat)) (q : Nat → Nat), m = crowd gs v' sl ∧ gs.size = n ∧ gs[0]? = some (runG fr (up ++ cs)) ∧ E fr up w ∧ Sib P V w v' ∧ (okFrame P fr ∧ ∀ f ∈ up, okFrame P f) ∧ Leavers P t gs q ∧ (∃ B, Past (Veil V) B t) ∧ v'.os = v.os ∧ v'.output = v.output ∧ v'.tape = v.tape

theorem sib_at {V : Nat → Prop} {w v : World} (h : Sib P V w v) (d : Nat) : Sib P V w (v.at d) := ⟨h.size, h.like, h.veil, h.kind, h.env⟩

/-- ████ A WELL-FOUNDED GOING BESIDE LEAVERS, ON WHATEVER TAPE. ████ -/
theorem beside_goesW (hF : FenceB P F) (hB : Bodies P F) {V : Nat → Prop} {r : Nat} {E : Frame → List Frame → World → Prop} {cs : List Frame} {fr : Frame} {up : List Frame} {w : World} (hg : GoesW (bar P F) r E fr up w) :
    ∀ (gs : Array Goroutine) (v : World) (sl : Option (Nat × Nat)) (t : Trace) (q : Nat → Nat), gs[0]? = some (runG fr (up ++ cs)) → Leavers P t gs q → (∃ B, Past (Veil V) B t) → Sib P V w v → okFrame P fr → (∀ f ∈ up, okFrame P f) →
      ∃ N m t', runNT P N (crowd gs v sl) t = (.next m, t') ∧ Arrived P V E cs v gs.size m t' := by
  induction hg using GoesW.ind with
  | fin h =>
    intro gs v sl t q h0 hL hP hS hf hu
    exact ⟨0, _, _, rfl, gs, _, _, _, v, sl, q, rfl, rfl, h0, h, hS, ⟨hf, hu⟩, hL, hP, rfl, rfl, rfl⟩
  | @step fr up w h1 h2 ih =>
    have key : ∀ (M : Nat) (gs : Array Goroutine) (v : World) (sl : Option (Nat × Nat)) (t : Trace) (q : Nat → Nat), sumTo gs.size q = M → gs[0]? = some (runG fr (up ++ cs)) → Leavers P t gs q → (∃ B, Past (Veil V) B t) → Sib P V w v → okFrame P fr → (∀ f ∈ up, okFrame P f) →
        ∃ N m t', runNT P N (crowd gs v sl) t = (.next m, t') ∧ Arrived P V E cs v gs.size m t' := by
      intro M
      induction M using Nat.strongRecOn with
      | ind M ihM =>
        intro gs v sl t q hM h0 hL hP hS hf hu
        have hrun : (runG fr (up ++ cs)).status = .running := rfl
        have haw : ∀ g ∈ gs, awake g := by
          intro g hg
          obtain ⟨i, hi, rfl⟩ := Array.mem_iff_getElem.1 hg
          rcases Nat.eq_zero_or_pos i with rfl | hpos
          · have : gs[0] = runG fr (up ++ cs) := by simpa [Array.getElem?_eq_getElem hi] using h0
            rw [this]; exact awake_of (.inl hrun)
          · exact awake_of ((hL.old i _ hpos (Array.getElem?_eq_getElem hi)).status.elim .inl fun x => .inr (.inr x))
        obtain ⟨i, g, d, sl', hi, hg, hst⟩ := crowd_pick (P := P) (w := v) (sl := sl) haw ⟨0, _, h0, hrun⟩
        rcases Nat.eq_zero_or_pos i with rfl | hpos
        · obtain rfl : g = runG fr (up ++ cs) := by rw [h0] at hi; exact (Option.some.inj hi).symm
          obtain ⟨fr', up', w', v', es, τ, d', e1, e2, s1, s2, s3, s4, s5, s6, s7, _⟩ := goes_from hF hB h1 (sib_at hS d) hf hu cs true
          have hrunT := runT_crowd_go (P := P) (sl := sl') (i := 0) hi (show stepG P (0 == 0) (runG fr (up ++ cs)) (v.at d) = _ from e2)
          have hsz : ((gs.map (woken P (runG fr (up ++ cs)) (runG fr' (up' ++ cs)) v')).setIfInBounds 0 (runG fr' (up' ++ cs))).size = gs.size := by simp
          have hlt : 0 < gs.size := (Array.getElem?_eq_some_iff.1 h0).1
          obtain ⟨N, m, t', hr, hA⟩ := ih τ d' fr' up' w' es e1 ((gs.map (woken P (runG fr (up ++ cs)) (runG fr' (up' ++ cs)) v')).setIfInBounds 0 (runG fr' (up' ++ cs))) v' sl' (t ++ MemOp.ofEvents 0 (runG fr (up ++ cs)).frame.fn (runG fr (up ++ cs)).frame.place es) q (by simp [hlt])
            ⟨fun j x hj hx => by
              have hne : 0 ≠ j := by omega
              rw [Array.getElem?_setIfInBounds_ne hne, Array.getElem?_map] at hx
              obtain ⟨y, hy, rfl⟩ := Option.map_eq_some_iff.1 hx
              have hq := hL.old j y hj hy
              rw [woken_quitsD hq, Deaf_other t (by omega) _ (fun op hop => by obtain ⟨e, _, rfl⟩ := Go.Conc.mem_ofEvents hop; rfl)]
              exact hq, fun j hj => by
              rw [Deaf_other t (g' := 0) (by simp at hj; omega) _ (fun op hop => by obtain ⟨e, _, rfl⟩ := Go.Conc.mem_ofEvents hop; rfl)]
              exact hL.above j (by simpa using hj)⟩
            (past_fine hP s4) s1 s2 s3
          rw [hsz] at hA
          obtain ⟨gs2, fr2, up2, w2, v2, sl2, q2, a1, a2, a3, a4, a5, a6, a7, a8, a9, a10, a11⟩ := hA
          exact ⟨N + 1, m, t', by simp only [runNT, hst, hrunT]; exact hr, gs2, fr2, up2, w2, v2, sl2, q2, a1, a2, a3, a4, a5, a6, a7, a8, a9.trans s5, a10.trans s6, a11.trans s7⟩
        · have hq := hL.old i g hpos hi
          have hi0 : (i == 0) = false := by simp; omega
          have hlt : i < gs.size := (Array.getElem?_eq_some_iff.1 hi).1
          cases hqi : q i with
          | zero => rw [hqi] at hq; rw [hq.1] at hg; cases hg
          | succ k =>
            rw [hqi] at hq
            rcases hq with ⟨hfi, _⟩ | ⟨_, g', es, hm, hstp, hq'⟩
            · rw [hfi] at hg; cases hg
            have hrunT := runT_crowd_go (P := P) (sl := sl') (i := i) hi (by rw [hi0]; exact hstp (v.at d))
            have hsz : ((gs.map (woken P g g' (v.at d))).setIfInBounds i g').size = gs.size := by simp
            have hsum : sumTo gs.size (upd q i k) + (k + 1) = sumTo gs.size q + k := by
              have := sumTo_upd q k id hlt
              simpa [hqi] using this
            obtain ⟨B, hP⟩ := hP
            obtain ⟨N, m, t', hr, hA⟩ := ihM (sumTo gs.size (upd q i k)) (by omega) ((gs.map (woken P g g' (v.at d))).setIfInBounds i g') (v.at d) sl' (t ++ MemOp.ofEvents i g.frame.fn g.frame.place es) (upd q i k) (by rw [hsz])
              (by
                have hne : i ≠ 0 := by omega
                rw [Array.getElem?_setIfInBounds_ne hne, Array.getElem?_map, h0]
                simp [woken_run hrun])
              ⟨fun j x hj hx => by
                by_cases hji : i = j
                · subst hji
                  rw [Array.getElem?_setIfInBounds_self_of_lt (by simpa using hlt)] at hx
                  obtain rfl := Option.some.inj hx
                  rw [upd_same, Deaf_own]
                  exact hq'
                · rw [Array.getElem?_setIfInBounds_ne hji, Array.getElem?_map] at hx
                  obtain ⟨y, hy, rfl⟩ := Option.map_eq_some_iff.1 hx
                  have hqj := hL.old j y hj hy
                  rw [woken_quitsD hqj, upd_ne q k (Ne.symm hji), Deaf_other t hji _ (fun op hop => by obtain ⟨e, _, rfl⟩ := Go.Conc.mem_ofEvents hop; rfl)]
                  exact hqj, fun j hj => by
                rw [Deaf_other t (g' := i) (by simp at hj; omega) _ (fun op hop => by obtain ⟨e, _, rfl⟩ := Go.Conc.mem_ofEvents hop; rfl)]
                exact hL.above j (by simpa using hj)⟩
              ⟨B, hP.mute (by omega) hm⟩ (sib_at hS d) hf hu
            rw [hsz] at hA
            obtain ⟨gs2, fr2, up2, w2, v2, sl2, q2, a1, a2, a3, a4, a5, a6, a7, a8, a9, a10, a11⟩ := hA
            exact ⟨N + 1, m, t', by simp only [runNT, hst, hrunT]; exact hr, gs2, fr2, up2, w2, v2, sl2, q2, a1, a2, a3, a4, a5, a6, a7, a8, a9, a10, a11⟩
    intro gs v sl t q
    exact key _ gs v sl t q rfl
end Go.Proofs.YtfnbcpeipoobkaaGreat
