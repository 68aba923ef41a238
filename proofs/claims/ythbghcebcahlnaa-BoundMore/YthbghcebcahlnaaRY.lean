/- The machine of two: from the go statement on: the child works. -/
import Derived.Test.YthbghcebcahlnaaRX
set_option linter.unusedSectionVars false
namespace Go.Proofs.Ythbghcebcahlnaa
open Go Go.Conc
variable {P : Program} {F : Array Func} [Inhabited Junk]

theorem ops_fine {Wg : Nat} {fn : FuncId} {pos : String} {es : Array Event} (h : ∀ e ∈ es, Fine (fun x => x = Wg) e) : ∀ op ∈ MemOp.ofEvents 1 fn pos es, OpOk (fun x => x = Wg) (sA Wg) 1 op := fun op hop => by
  obtain ⟨e, he, rfl⟩ := Go.Conc.mem_ofEvents hop
  have hf := h e he
  refine ⟨rfl, fun x hx => .inr ⟨fun hv => ?_, rfl⟩, fun e' => ?_⟩
  · have hx : (MemAct.ofEvent e).touch? = some x := hx
    obtain ⟨a, e1, hV⟩ := hv
    obtain ⟨loc, wr, sy⟩ := e
    cases loc with
    | cell a' =>
      have e2 : x.loc = .cell a' := by cases wr <;> cases sy <;> simp [MemAct.ofEvent, MemAct.touch?] at hx <;> rw [← hx]
      rw [e2] at e1
      cases e1
      exact hf hV
    | obj r =>
      have e2 : x.loc = .obj r := by cases wr <;> cases sy <;> simp [MemAct.ofEvent, MemAct.touch?] at hx <;> rw [← hx]
      rw [e2] at e1
      cases e1
    | mark m => cases m <;> first | exact hf.elim | simp [MemAct.ofEvent, MemAct.touch?] at hx
    | _ => exact hf.elim
  · obtain ⟨loc, wr, sy⟩ := e
    have e' : MemAct.ofEvent ⟨loc, wr, sy⟩ = .mark (.release (sA Wg)) := e'
    cases loc with
    | mark m =>
      cases m <;> first | exact hf.elim | simp [MemAct.ofEvent] at e'
    | obj r => cases wr <;> cases sy <;> simp [MemAct.ofEvent] at e'
    | _ => simp [MemAct.ofEvent] at e'
theorem deaf_fine {V : Nat → Prop} {es : Array Event} (d : Nat) (h : ∀ e ∈ es, Fine V e) : deafBehind d es = d :=
  deafBehind_still (fun e he => by
    have hf := h e he
    obtain ⟨loc, wr, sy⟩ := e
    constructor <;> (intro e1; have e1 : loc = _ := e1; subst e1; exact hf)) d

/-- ████ THE CHILD WORKS, THE CALLER WAITS, THEY JOIN. ████ -/
theorem work_run (hF : FenceB P F) (hB : Bodies P F) {ty : TypeId} {Wg : Nat} {End : Goroutine → Prop} {v0 : World} {r : Nat} {E : Frame → List Frame → World → Prop} {cs1 : List Frame} (hE : ∀ fr up w, E fr up w → ∃ n1, Chi P ty Wg n1 ⟨0, 0⟩ (runG fr (up ++ cs1)))
    {fr : Frame} {up : List Frame} {w : World} (hg : GoesW (bar P F) r E fr up w) : ∀ (n0 : Nat) (a : Goroutine) (v : World) (sl : Option (Nat × Nat)) (t : Trace) (c : CS) (st sm : Int), CM P ty Wg End n0 c a → Mid Wg t c.d 0 → GrpAt ty Wg v st sm → Fits1 ⟨0, 0⟩ c st sm → Sib P (fun x => x = Wg) w v → okFrame P fr → (∀ f ∈ up, okFrame P f) → (v.os = v0.os ∧ v.output = v0.output ∧ v.tape = v0.tape) →
    ∃ N m t', runNT P N (duo a (runG fr (up ++ cs1)) v sl) t = (.next m, t') ∧ ∃ fr' up' w', E fr' up' w' ∧ Joined P ty Wg End w' v0 m t' := by
  induction hg using GoesW.ind with
  | @fin fr up w h =>
    intro n0 a v sl t c st sm hC hMi hG hf hS hf1 hu ho
    obtain ⟨n1, hK⟩ := hE fr up w h
    obtain ⟨N, m, t', hr, hJ⟩ := chi_run (w := w) (v0 := v0) n1 n0 a _ v sl t ⟨0, 0⟩ c st sm hK hC hMi (fun h => absurd h (by decide)) hG hf hS ho
    exact ⟨N, m, t', hr, fr, up, w, h, hJ⟩
  | @step fr up w h1 h2 ih =>
    have hrb : (runG fr (up ++ cs1)).status = .running := rfl
    -- a step of the child's
    have child : ∀ (n0 : Nat) (a : Goroutine) (v : World) (sl : Option (Nat × Nat)) (t : Trace) (c : CS) (st sm : Int), CM P ty Wg End n0 c a → Mid Wg t c.d 0 → GrpAt ty Wg v st sm → Fits1 ⟨0, 0⟩ c st sm → Sib P (fun x => x = Wg) w v → okFrame P fr → (∀ f ∈ up, okFrame P f) → (v.os = v0.os ∧ v.output = v0.output ∧ v.tape = v0.tape) →
        ∃ N m t' m1 ops, runT P (duo a (runG fr (up ++ cs1)) v sl) 1 = (.next m1, ops) ∧ runNT P N m1 (t ++ ops) = (.next m, t') ∧ ∃ fr' up' w', E fr' up' w' ∧ Joined P ty Wg End w' v0 m t' := by
      intro n0 a v sl t c st sm hC hMi hG hf hS hf1 hu ho
      obtain ⟨fr', up', w', v', es, τ, d', e1, e2, s1, s2, s3, s4, s5, s6, s7, _, s8, _⟩ := goes_from hF hB h1 hS hf1 hu cs1 false
      have hrun := runT_duo1 (P := P) (a := a) (sl := sl) e2
      have hG' : GrpAt ty Wg v' st sm := by
        have := s8 Wg rfl
        unfold GrpAt
        rw [this]
        exact hG
      have hMi' := hMi.own1 (fn := (runG fr (up ++ cs1)).frame.fn) (pos := (runG fr (up ++ cs1)).frame.place) (ops_fine s4) (deaf_fine 0 s4)
      obtain ⟨N, m, t', hr, hJ⟩ := ih τ d' fr' up' w' es e1 n0 (woken P (runG fr (up ++ cs1)) (runG fr' (up' ++ cs1)) v' a) v' sl _ c st sm (cm_woken hC) hMi' hG' hf s1 s2 s3 ⟨s5.trans ho.1, s6.trans ho.2.1, s7.trans ho.2.2⟩
      exact ⟨N, m, t', _, _, hrun, hr, hJ⟩
    intro n0
    induction n0 using Nat.strongRecOn with
    | ind n0 ih0 =>
      have blocked : ∀ (n : Nat) (a : Goroutine) (v : World) (sl : Option (Nat × Nat)) (t : Trace) (c : CS) (st sm : Int), Blk P ty Wg End n c a → Mid Wg t c.d 0 → GrpAt ty Wg v st sm → Fits1 ⟨0, 0⟩ c st sm → Sib P (fun x => x = Wg) w v → okFrame P fr → (∀ f ∈ up, okFrame P f) → (v.os = v0.os ∧ v.output = v0.output ∧ v.tape = v0.tape) →
          ∃ N m t', runNT P N (duo a (runG fr (up ++ cs1)) v sl) t = (.next m, t') ∧ ∃ fr' up' w', E fr' up' w' ∧ Joined P ty Wg End w' v0 m t' := by
        intro n a v sl t c st sm hC hMi hG hf hS hf1 hu ho
        obtain ⟨d, sl', hmv⟩ := duo_pick (P := P) (w := v) (sl := sl) (cm_awake (.inr hC)) (awake_of (.inl hrb)) (.inr hrb)
        rcases hmv with ⟨hra, _⟩ | ⟨_, hst⟩
        · obtain ⟨g, rfl, _⟩ := hC
          cases hra
        · obtain ⟨N, m, t', m1, ops, e1, hr', hJ⟩ := child n a (v.at d) sl' t c st sm (.inr hC) hMi hG hf (sib_at hS d) hf1 hu ho
          refine ⟨N + 1, m, t', ?_, hJ⟩
          simp only [runNT, hst, e1]
          exact hr'
      intro a v sl t c st sm hC hMi hG hf hS hf1 hu ho
      rcases hC with ⟨hra, hC⟩ | hC
      · obtain ⟨d, sl', hmv⟩ := duo_pick (P := P) (w := v) (sl := sl) (awake_of (.inl hra)) (awake_of (.inl hrb)) (.inr hrb)
        rcases hmv with ⟨_, hst⟩ | ⟨_, hst⟩
        · obtain ⟨_, a', v', es, c', st', sm', hgo, hor, hG', hS', hN, ho', hd, hev, _⟩ := cal_step hC (fits1_not3 hf) (grp_at hG d) (fits1_0 hf) (sib_at hS d)
          have hrun := runT_duo0 (P := P) (b := runG fr (up ++ cs1)) (sl := sl') hgo
          rw [woken_run hrb] at hrun
          have ho2 : v'.os = v0.os ∧ v'.output = v0.output ∧ v'.tape = v0.tape := ⟨ho'.1.trans ho.1, ho'.2.1.trans ho.2.1, ho'.2.2.trans ho.2.2⟩
          have hf' := fits1_next hf hN
          have hMi' := hMi.own0 (fn := a.frame.fn) (pos := a.frame.place) hev hd
          rcases hor with ⟨hB, _⟩ | ⟨n', hn', hC'⟩
          · obtain ⟨N, m, t', hr', hJ⟩ := blocked n0 a' v' sl' _ c' st' sm' hB hMi' hG' hf' hS' hf1 hu ho2
            refine ⟨N + 1, m, t', ?_, hJ⟩
            simp only [runNT, hst, hrun]
            exact hr'
          · have hra' := (cal_step hC' (fits1_not3 hf') hG' (fits1_0 hf') hS').1
            obtain ⟨N, m, t', hr', hJ⟩ := ih0 n' hn' a' v' sl' _ c' st' sm' (.inl ⟨hra', hC'⟩) hMi' hG' hf' hS' hf1 hu ho2
            refine ⟨N + 1, m, t', ?_, hJ⟩
            simp only [runNT, hst, hrun]
            exact hr'
        · obtain ⟨N, m, t', m1, ops, e1, hr', hJ⟩ := child n0 a (v.at d) sl' t c st sm (.inl ⟨hra, hC⟩) hMi hG hf (sib_at hS d) hf1 hu ho
          refine ⟨N + 1, m, t', ?_, hJ⟩
          simp only [runNT, hst, e1]
          exact hr'
      · exact blocked n0 a v sl t c st sm hC hMi hG hf hS hf1 hu ho
end Go.Proofs.Ythbghcebcahlnaa
