/- A step of good code, veiled and not. -/
import Derived.Test.YthbghcebcahlnaaRJ
import GoSem.Step
set_option linter.unusedSectionVars false
namespace Go.Proofs.Ythbghcebcahlnaa
open Go
variable {P : Program} {F : Array Func} [Inhabited Junk]

def okFrame (P : Program) (fr : Frame) : Prop := (∀ i ∈ fr.todo, okItem P i = true) ∧ ∀ d ∈ fr.defers, okTarget d.target = true
/-- The frame that nothing may come back to. -/
def baseF (r : Nat) : Frame := { fn := 0, tmps := #[], todo := [.code (.refuse "")], defers := [{ target := .fn (.func r) #[], args := #[] }], mode := .run, kind := .normal }
def runG (fr : Frame) (cs : List Frame) : Goroutine := { frame := fr, callers := cs, status := .running, dying := none }

/-- What a step over the barred program, from w, says of the same step over the program, from v. -/
def Moves (P : Program) (V : Nat → Prop) (r : Nat) (cs : List Frame) (w v : World) (S : GStep) (x : GStep) : Prop :=
  (∃ o w1 es, x = .ended o w1 es) ∨
  (∃ fr w1 es, fr.todo = [.code (.refuse "")] ∧ fr.defers = [{ target := .fn (.func r) #[], args := #[] }] ∧ (∃ v', Sib P V w1 v') ∧ x = .go (runG fr []) w1 es) ∨
  ∃ fr up w1 es, w1.tape = w.tape ∧ w.drawn ≤ w1.drawn ∧ okFrame P fr ∧ (∀ f ∈ up, okFrame P f) ∧ (∀ e ∈ es, Fine V e) ∧ (w.heap.size ≤ w1.heap.size ∧ ∀ e ∈ es, evB e ≤ w1.heap.size) ∧
    (AgrT w (w1.drawn - w.drawn) v → ∃ v', S = .go (runG fr (up ++ cs)) v' es ∧ Sib P V w1 v' ∧ v'.os = v.os ∧ v'.output = v.output ∧ v'.tape = v.tape ∧ v'.drawn = v.drawn + (w1.drawn - w.drawn) ∧ ∀ x, V x → v'.heap[x]? = v.heap[x]?) ∧
    x = .go (runG fr (up ++ [baseF r])) w1 es
section
variable {V : Nat → Prop} {r : Nat} {cs : List Frame} {w v : World} {S : GStep}
theorem Moves.ended {o : Outcome} {w1 : World} {es : Array Event} : Moves P V r cs w v S (.ended o w1 es) := Or.inl ⟨o, w1, es, rfl⟩
theorem Moves.base {fr : Frame} {w1 : World} {es : Array Event} (h : fr.todo = [.code (.refuse "")]) (hd : fr.defers = [{ target := .fn (.func r) #[], args := #[] }]) (hs : ∃ v', Sib P V w1 v') : Moves P V r cs w v S (.go (runG fr []) w1 es) := Or.inr (Or.inl ⟨fr, w1, es, h, hd, hs, rfl⟩)
theorem Moves.go {fr : Frame} {up : List Frame} {w1 : World} {es : Array Event} (ht : w1.tape = w.tape) (hl : w.drawn ≤ w1.drawn) (hf : okFrame P fr) (hu : ∀ f ∈ up, okFrame P f) (he : ∀ e ∈ es, Fine V e) (hz : w.heap.size ≤ w1.heap.size ∧ ∀ e ∈ es, evB e ≤ w1.heap.size)
    (hS : AgrT w (w1.drawn - w.drawn) v → ∃ v', S = .go (runG fr (up ++ cs)) v' es ∧ Sib P V w1 v' ∧ v'.os = v.os ∧ v'.output = v.output ∧ v'.tape = v.tape ∧ v'.drawn = v.drawn + (w1.drawn - w.drawn) ∧ ∀ x, V x → v'.heap[x]? = v.heap[x]?) :
    Moves P V r cs w v S (.go (runG fr (up ++ [baseF r])) w1 es) := Or.inr (Or.inr ⟨fr, up, w1, es, ht, hl, hf, hu, he, hz, hS, rfl⟩)
end
theorem mv_go {V : Nat → Prop} {r : Nat} {cs up : List Frame} {w v : World} {fr : Frame} (hs : Sib P V w v) (hf : okFrame P fr) (hu : ∀ f ∈ up, okFrame P f) : Moves P V r cs w v (.go (runG fr (up ++ cs)) v) (.go (runG fr (up ++ [baseF r])) w) :=
  .go rfl (Nat.le_refl _) hf hu (by simp) ⟨Nat.le_refl _, by simp⟩ fun _ => ⟨v, rfl, hs, rfl, rfl, rfl, by simp, fun _ _ => rfl⟩

theorem seen_bar (hF : FenceB P F) (fn : FuncId) (es : Array Event) : seen (bar P F) fn es = seen P fn es := by
  have e : ∀ f : FuncId, ((bar P F).funcs[f]?).any (·.norace) = (P.funcs[f]?).any (·.norace) := by
    intro f
    have h := hF.same f
    show (F[f]?).any (·.norace) = _
    cases h1 : F[f]? <;> cases h2 : P.funcs[f]? <;> rw [h1, h2] at h <;> simp at h ⊢
    exact h.1
  unfold seen
  simp only [e]
theorem seen_sub (p : Program) (fn : FuncId) (es : Array Event) (e : Event) (h : e ∈ seen p fn es) : e ∈ es := by
  have key : ∀ (q0 : FuncId → Bool) (l : List Event) (q : Bool) (kept : Array Event), e ∈ (l.foldl (fun (x : Bool × Array Event) e => match e.loc with | .mark (.extern f) => (q0 f, x.2) | _ => (x.1, if x.1 && !e.sync then x.2 else x.2.push e)) (q, kept)).2 → e ∈ kept ∨ e ∈ l := by
    intro q0 l
    induction l with
    | nil => intro q kept h; exact .inl h
    | cons a l ih =>
      intro q kept h
      rw [List.foldl_cons] at h
      have : ∃ q' kept', (match a.loc with | .mark (.extern f) => (q0 f, kept) | _ => (q, if q && !a.sync then kept else kept.push a)) = (q', kept') ∧ ∀ x ∈ kept', x ∈ kept ∨ x = a := by
        split
        · exact ⟨_, _, rfl, fun x hx => .inl hx⟩
        · refine ⟨_, _, rfl, fun x hx => ?_⟩
          split at hx
          · exact .inl hx
          · exact Array.mem_push.mp hx
      obtain ⟨q', kept', e1, e2⟩ := this
      simp only [e1] at h
      rcases ih q' kept' h with h | h
      · rcases e2 e h with h | rfl
        · exact .inl h
        · exact .inr (List.mem_cons_self ..)
      · exact .inr (List.mem_cons_of_mem _ h)
  unfold seen at h
  dsimp only at h
  rw [← Array.foldl_toList] at h
  rcases key _ es.toList _ #[] h with h | h
  · simp at h
  · exact Array.mem_toList_iff.mp h

theorem ok_finish {fr : Frame} (h : okFrame P fr) (x : Value) : okFrame P (fr.finish x) := by
  obtain ⟨h1, h2⟩ := h
  unfold Frame.finish
  split
  all_goals
    rename_i e
    first | (rw [e] at h1) | skip
    refine ⟨fun i hi => ?_, h2⟩
  · rcases List.mem_cons.mp hi with rfl | hi
    · have := h1 _ (List.mem_cons_self ..)
      exact this
    · exact h1 _ (List.mem_cons_of_mem _ hi)
  · rcases List.mem_cons.mp hi with rfl | hi
    · rfl
    · exact h1 _ (List.mem_cons_of_mem _ hi)
  · exact h1 _ (List.mem_cons_of_mem _ hi)
  · exact absurd (h1 _ (List.mem_cons_self ..)) (by simp [okItem])
  · exact absurd (h1 _ (List.mem_cons_self ..)) (by simp [okItem])
  · exact h1 _ hi
theorem ok_raise {fr : Frame} (h : okFrame P fr) (c : List PanicEntry) : okFrame P (fr.raise c) := by
  unfold Frame.raise
  split <;> exact h
theorem ok_tail {fr : Frame} {i : Item} {k : List Item} (h : okFrame P fr) (e : fr.todo = i :: k) : (okItem P i = true) ∧ ∀ j ∈ k, okItem P j = true := by
  obtain ⟨h1, _⟩ := h
  rw [e] at h1
  exact ⟨h1 _ (List.mem_cons_self ..), fun j hj => h1 _ (List.mem_cons_of_mem _ hj)⟩

theorem moves_after {V : Nat → Prop} {r : Nat} {cs : List Frame} {w v : World} {S S0 : GStep} {es : Array Event} (h : Moves P V r cs w v S S0) (he : ∀ e ∈ es, Fine V e ∧ evB e ≤ w.heap.size) : Moves P V r cs w v (S.after es) (S0.after es) := by
  rcases h with ⟨o, w1, es1, rfl⟩ | ⟨fr, w1, es1, h, hd, hs, rfl⟩ | ⟨fr, up, w1, es1, ht, hl, hf, hu, he', hz, hS, rfl⟩
  · exact .ended
  · exact .base h hd hs
  · refine .go ht hl hf hu (fun e h => ?_) ⟨hz.1, fun e h => ?_⟩ fun hA => ?_
    · rcases Array.mem_append.mp h with h | h
      · exact (he e h).1
      · exact he' e h
    · rcases Array.mem_append.mp h with h | h
      · exact Nat.le_trans (he e h).2 hz.1
      · exact hz.2 e h
    · obtain ⟨v', e, rest⟩ := hS hA
      exact ⟨v', by rw [e]; rfl, rest⟩
/-- A run, and what is made of it. -/
theorem moves_run {α : Type} {V : Nat → Prop} {r : Nat} {cs : List Frame} {w v : World} {S S0 : GStep} {s : Sem α} {Q : α → Prop} (hs : Sib P V w v) (hq : SimQ (bar P F) P s Q)
    (hbad : ∀ x es, s.runT (bar P F) w #[] = (x, es) → Bad x → Moves P V r cs w v S S0)
    (hok : ∀ x es, s.runT (bar P F) w #[] = (x, es) → (∀ a w', x = .ok a w' → Q a) → (∀ h w', x = .halt h w' → ∃ z, h = .panic z) → (∀ fn e, e ∈ seen P fn es → Fine V e ∧ evB e ≤ (wOf x).heap.size) →
      ∃ K : World → GStep, (∀ v', s.runT P v #[] = (putW v' x, es) → S = K v') ∧ ∀ v', Sib P V (wOf x) v' → Moves P V r cs (wOf x) v' (K v') S0) : Moves P V r cs w v S S0 := by
  have h2 : Sib P V w { v with tape := w.tape, drawn := w.drawn } := ⟨hs.size, hs.like, hs.veil, hs.kind, hs.env⟩
  have hx1 := hq V w v #[] hs
  rcases hq V w _ #[] h2 with hb | ⟨hg, gq, gs⟩
  · exact hbad _ _ rfl hb
  · have gsib := (gs fun j q _ => rfl).sib
    have gs1 := (hx1.resolve_left (good_not hg)).2.2
    obtain ⟨K, hK, hM⟩ := hok _ _ rfl gq hg.halt (fun fn e he => (hg.fine e (seen_sub _ _ _ _ he)).resolve_left (by simp))
    by_cases hA : AgrT w ((wOf (s.runT (bar P F) w #[]).1).drawn - w.drawn) v
    · obtain ⟨s1, s2, s3, s4, s5, s6, s7⟩ := gs1 hA
      have hM := hM _ s2
      rw [← hK _ s1] at hM
      have g3 := hg.tape
      have g4 := hg.le
      have g5 := hg.grow
      generalize wOf (s.runT (bar P F) w #[]).1 = w1 at *
      generalize wOf (s.runT P v #[]).1 = v1 at *
      rcases hM with ⟨o, w2, es, rfl⟩ | ⟨fr, w2, es, h, hd, hs, rfl⟩ | ⟨fr, up, w2, es, ht, hl, hf, hu, he, hz, hS, rfl⟩
      · exact .ended
      · exact .base h hd hs
      · refine .go (ht.trans g3) (Nat.le_trans g4 hl) hf hu he ⟨Nat.le_trans g5 hz.1, hz.2⟩ fun hA2 => ?_
        obtain ⟨v', e, t1, t2, t3, t4, t5, t6⟩ := hS (fun j q hj => by
          rw [s5, s6, g3]
          have := hA2 (w1.drawn - w.drawn + j) q (by omega)
          rw [show v.drawn + (w1.drawn - w.drawn) + j = v.drawn + (w1.drawn - w.drawn + j) by omega, this]
          congr 1
          omega)
        exact ⟨v', e, t1, t2.trans s3, t3.trans s4, t4.trans s5, by rw [t5, s6]; omega, fun x hx => (t6 x hx).trans (s7 x hx)⟩
    · have hM := hM _ gsib
      have g3 := hg.tape
      have g4 := hg.le
      have g5 := hg.grow
      generalize wOf (s.runT (bar P F) w #[]).1 = w1 at *
      rcases hM with ⟨o, w2, es, rfl⟩ | ⟨fr, w2, es, h, hd, hs, rfl⟩ | ⟨fr, up, w2, es, ht, hl, hf, hu, he, hz, hS, rfl⟩
      · exact .ended
      · exact .base h hd hs
      · exact .go (ht.trans g3) (Nat.le_trans g4 hl) hf hu he ⟨Nat.le_trans g5 hz.1, hz.2⟩ fun hA2 => absurd (fun j q hj => hA2 j q (by omega)) hA

/-- The good functions' bodies are good. -/
def Bodies (P : Program) (F : Array Func) : Prop := ∀ (f : FuncId) (fn : Func) (c : Code), F[f]? = some fn → fn.body = some c → okCode P c = true

theorem enter_same {f : FuncId} {args : Array Value} (hB : Bodies P F) (h : okNext P F (.enter f args)) (k : CallKind) : Frame.enter (bar P F) f args k = Frame.enter P f args k ∧ okFrame P (Frame.enter P f args k) := by
  obtain ⟨fn, c, g1, g2, g3⟩ := h
  have g4 : (bar P F).funcs[f]? = some fn := g1
  unfold Frame.enter
  rw [g4, g2]
  refine ⟨rfl, fun i hi => ?_, by simp⟩
  have : i = .code c := by simpa [g3] using hi
  subst this
  exact hB f fn c g1 g3
theorem round_ok {l : Nat} {f : FuncId} {tmps : Array Value} {a b : Code} (h : okNext P F (.round l f tmps a b)) (k : CallKind) : okFrame P (Frame.round l f tmps a b k) := by
  refine ⟨fun i hi => ?_, by simp [Frame.round]⟩
  have : i = .code a ∨ i = .beginRound ∨ i = .code b := by simpa [Frame.round] using hi
  rcases this with rfl | rfl | rfl
  · exact h.1
  · rfl
  · exact h.2
theorem ok_more {fr : Frame} {up : List Frame} (hf : okFrame P fr) (hu : ∀ f ∈ up, okFrame P f) : ∀ f ∈ fr :: up, okFrame P f := by
  intro f hf'
  rcases List.mem_cons.mp hf' with rfl | h
  · exact hf
  · exact hu f h
theorem apply_sim (hF : FenceB P F) (hB : Bodies P F) {V : Nat → Prop} {w v : World} (hs : Sib P V w v) {fr : Frame} {up cs : List Frame} {r : Nat} (hf : okFrame P fr) (hu : ∀ f ∈ up, okFrame P f) (s : Sem Next) (hq : SimQ (bar P F) P s (okNext P F)) :
    Moves P V r cs w v (stepG.apply P true fr (up ++ cs) none s v) (stepG.apply (bar P F) true fr (up ++ [baseF r]) none s w) := by
  unfold stepG.apply
  simp only [if_true]
  refine moves_run hs hq (fun x es e hb => ?_) fun x es e ha hh hfine => ⟨fun v' => _, fun v' e' => by rw [e'], fun v' hs' => ?_⟩
  · rw [e]
    cases x with
    | ok a w' => exact hb.elim
    | halt h w' =>
      cases h with
      | unsupported u => cases u <;> first | exact hb.elim | exact .ended
      | stuck s => exact .ended
      | _ => exact hb.elim
  · rw [e]
    have hfine2 : ∀ e ∈ seen P fr.fn (if (fr.kind == CallKind.early) = true then #[] else es), Fine V e ∧ evB e ≤ (wOf x).heap.size := by
      intro e he
      split at he
      · have := seen_sub _ _ _ _ he
        simp at this
      · exact hfine _ e he
    cases x with
    | ok a w' =>
      have ha := ha a w' rfl
      dsimp only [putW, wOf]
      rw [seen_bar hF]
      refine moves_after ?_ hfine2
      cases a with
      | value z => exact mv_go hs' (ok_finish hf _) hu
      | skip => exact mv_go hs' (ok_finish hf _) hu
      | enter f args =>
        dsimp only
        rw [(enter_same hB ha _).1]
        exact mv_go (up := fr :: up) hs' (enter_same hB ha _).2 (ok_more hf hu)
      | round l f tmps assign body => exact mv_go (up := fr :: up) hs' (round_ok ha _) (ok_more hf hu)
      | _ => exact ha.elim
    | halt h w' =>
      obtain ⟨z, rfl⟩ := hh h w' rfl
      dsimp only [putW, wOf]
      rw [seen_bar hF]
      exact moves_after (mv_go hs' (ok_raise hf _) hu) hfine2
end Go.Proofs.Ythbghcebcahlnaa
