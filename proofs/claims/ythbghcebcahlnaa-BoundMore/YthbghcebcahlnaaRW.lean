/- The machine of two behind the child's last act at the group. -/
import Derived.Test.YthbghcebcahlnaaRV
set_option linter.unusedSectionVars false
namespace Go.Proofs.Ythbghcebcahlnaa
open Go Go.Conc
variable {P : Program} {F : Array Func} [Inhabited Junk]

/-- The caller is past its acquire and at the end of its way; the child only leaves. -/
def Joined (P : Program) (ty : TypeId) (Wg : Nat) (End : Goroutine → Prop) (w v0 : World) (m : Machine) (t : Trace) : Prop :=
  ∃ (a b : Goroutine) (v : World) (sl : Option (Nat × Nat)) (q : Nat), m = duo a b v sl ∧ End a ∧ GrpAt ty Wg v 0 0 ∧ Sib P (fun x => x = Wg) w v ∧ QuitsD P q (Deaf t 1) b ∧ (∃ B, Past (Veil fun x => x = Wg) B t) ∧ (∀ j, 2 ≤ j → Deaf t j = 0) ∧ v.os = v0.os ∧ v.output = v0.output ∧ v.tape = v0.tape
theorem of_g {g : Nat} {fn : FuncId} {pos : String} {es : Array Event} : ∀ op ∈ MemOp.ofEvents g fn pos es, op.g = g := fun op hop => by obtain ⟨e, _, rfl⟩ := Go.Conc.mem_ofEvents hop; rfl
theorem of_none (t : Trace) (g : Nat) (fn : FuncId) (pos : String) : t ++ MemOp.ofEvents g fn pos #[] = t := by simp [MemOp.ofEvents]
theorem ops0 {Wg g : Nat} {fn : FuncId} {pos : String} {es : Array Event} (h : ∀ e ∈ es, Ev0 Wg e) (hg : g = 0) : ∀ op ∈ MemOp.ofEvents g fn pos es, OpOk (fun x => x = Wg) (sA Wg) g op := fun op hop => by
  obtain ⟨e, he, rfl⟩ := Go.Conc.mem_ofEvents hop
  exact ⟨rfl, fun x hx => .inl ⟨((h e he).1 x hx).1, ((h e he).1 x hx).2, fun _ => hg⟩, (h e he).2⟩
theorem running_not {a : Goroutine} {q d : Nat} (h : QuitsD P q d a) (hr : a.status = .running) : ∃ k g' es, q = k + 1 ∧ (∀ e ∈ es, Event.mute e = true) ∧ (∀ w, stepG P false a w = .go g' w es) ∧ QuitsD P k (deafBehind d es) g' := by
  cases q with
  | zero => rw [h.1] at hr; cases hr
  | succ k =>
    rcases h with ⟨hf, _⟩ | ⟨_, g', es, hm, hs, hq⟩
    · rw [hf] at hr; cases hr
    · exact ⟨k, g', es, rfl, hm, hs, hq⟩
theorem mute_touch {e : Event} (h : e.mute = true) : (MemAct.ofEvent e).touch? = none := touch_mute h

/-- PAST THE ACQUIRE. -/
theorem glide_beside {ty : TypeId} {Wg : Nat} {End : Goroutine → Prop} {w v0 : World} : ∀ (M n q : Nat) (a b : Goroutine) (v : World) (sl : Option (Nat × Nat)) (t : Trace) (s : CS), n + q ≤ M → s.p = 3 → Cal P ty Wg End n s a → QuitsD P q (Deaf t 1) b → (∃ B, Past (Veil fun x => x = Wg) B t) → GrpAt ty Wg v 0 0 → Sib P (fun x => x = Wg) w v → (∀ j, 2 ≤ j → Deaf t j = 0) → (v.os = v0.os ∧ v.output = v0.output ∧ v.tape = v0.tape) →
    ∃ N m t', runNT P N (duo a b v sl) t = (.next m, t') ∧ Joined P ty Wg End w v0 m t' := by
  intro M
  induction M with
  | zero =>
    intro n q a b v sl t s hM hp hC hQ hP hG hS hA ho
    obtain rfl : n = 0 := by omega
    exact ⟨0, _, _, rfl, a, b, v, sl, q, rfl, hC.2, hG, hS, hQ, hP, hA, ho⟩
  | succ M ih =>
    intro n q a b v sl t s hM hp hC hQ hP hG hS hA ho
    cases n with
    | zero => exact ⟨0, _, _, rfl, a, b, v, sl, q, rfl, hC.2, hG, hS, hQ, hP, hA, ho⟩
    | succ n =>
      rcases hC with hC | ⟨hr, hC⟩
      · exact ⟨0, _, _, rfl, a, b, v, sl, q, rfl, hC.2, hG, hS, hQ, hP, hA, ho⟩
      · rcases hC with h0 | ⟨hp', _⟩ | ⟨hp', _⟩ | ⟨hp', _⟩ | ⟨hp', _⟩ | ⟨hp', _⟩ | ⟨hp', _⟩ | ⟨hp', _⟩ | ⟨hp', _⟩
        · obtain ⟨d, sl', hmv⟩ := duo_pick (P := P) (w := v) (sl := sl) (awake_of (.inl hr)) (awake_of (hQ.status.elim .inl fun x => .inr (.inr x))) (.inl hr)
          rcases hmv with ⟨_, hst⟩ | ⟨hrb, hst⟩
          · obtain ⟨a', h1, h2⟩ := h0 (v.at d) 0 0 (grp_at hG d)
            have hrun := runT_duo0 (P := P) (b := b) (sl := sl') h1
            rw [woken_quitsD hQ] at hrun
            obtain ⟨N, m, t', hr', hJ⟩ := ih n q a' b (v.at d) sl' t s (by omega) hp h2 hQ hP hG (sib_at hS d) hA ho
            refine ⟨N + 1, m, t', ?_, hJ⟩
            simp only [runNT, hst, hrun, of_none]
            exact hr'
          · obtain ⟨k, b', es, rfl, hm, hs, hq⟩ := running_not hQ hrb
            have hrun := runT_duo1 (P := P) (a := a) (sl := sl') (hs (v.at d))
            rw [woken_run hr] at hrun
            obtain ⟨B, hP⟩ := hP
            obtain ⟨N, m, t', hr', hJ⟩ := ih (n + 1) k a b' (v.at d) sl' (t ++ MemOp.ofEvents 1 b.frame.fn b.frame.place es) s (by omega) hp (.inr ⟨hr, .inl h0⟩) (by rw [Deaf_own]; exact hq) ⟨B, hP.mute (by decide) hm⟩ hG (sib_at hS d) (fun j hj => by rw [Deaf_other t (by omega) _ of_g]; exact hA j hj) ho
            refine ⟨N + 1, m, t', ?_, hJ⟩
            simp only [runNT, hst, hrun]
            exact hr'
        all_goals (exfalso; omega)

/-- What holds of the trace while the two are at it. -/
structure Mid (Wg : Nat) (t : Trace) (d0 d1 : Nat) : Prop where
  ti : TI (fun x => x = Wg) (sA Wg) t
  deaf0 : Deaf t 0 = d0
  deaf1 : Deaf t 1 = d1
  above : ∀ j, 2 ≤ j → Deaf t j = 0
  two : ∀ i g, t.g? i = some g → g = 0 ∨ g = 1
theorem two_app {t u : Trace} (h : ∀ i g, t.g? i = some g → g = 0 ∨ g = 1) {g : Nat} (hg : g = 0 ∨ g = 1) (hu : ∀ op ∈ u, op.g = g) : ∀ i g, (t ++ u).g? i = some g → g = 0 ∨ g = 1 := by
  intro i g' hi
  obtain ⟨op, ho, rfl⟩ := Option.map_eq_some_iff.1 hi
  rcases getElem?_append_cases ho with ⟨_, ho'⟩ | ⟨_, hou⟩
  · exact h i op.g (by simp [Trace.g?, ho'])
  · rw [hu op hou]; exact hg
/-- A step of the caller's. -/
theorem Mid.own0 {Wg d0 d1 d0' : Nat} {t : Trace} (h : Mid Wg t d0 d1) {fn : FuncId} {pos : String} {es : Array Event} (he : ∀ e ∈ es, Ev0 Wg e) (hd : deafBehind d0 es = d0') : Mid Wg (t ++ MemOp.ofEvents 0 fn pos es) d0' d1 :=
  ⟨h.ti.app (.inl rfl) (ops0 he rfl), by rw [Deaf_own, h.deaf0, hd], by rw [Deaf_other t (by decide) _ of_g, h.deaf1], fun j hj => by rw [Deaf_other t (by omega) _ of_g]; exact h.above j hj, two_app h.two (.inl rfl) of_g⟩
/-- A step of the child's. -/
theorem Mid.own1 {Wg d0 d1 d1' : Nat} {t : Trace} (h : Mid Wg t d0 d1) {fn : FuncId} {pos : String} {es : Array Event} (he : ∀ op ∈ MemOp.ofEvents 1 fn pos es, OpOk (fun x => x = Wg) (sA Wg) 1 op) (hd : deafBehind d1 es = d1') : Mid Wg (t ++ MemOp.ofEvents 1 fn pos es) d0 d1' :=
  ⟨h.ti.app (.inr rfl) he, by rw [Deaf_other t (by decide) _ of_g, h.deaf0], by rw [Deaf_own, h.deaf1, hd], fun j hj => by rw [Deaf_other t (by omega) _ of_g]; exact h.above j hj, two_app h.two (.inr rfl) of_g⟩
theorem ops_mute {Wg : Nat} {fn : FuncId} {pos : String} {es : Array Event} (h : ∀ e ∈ es, Event.mute e = true) : ∀ op ∈ MemOp.ofEvents 1 fn pos es, OpOk (fun x => x = Wg) (sA Wg) 1 op := fun op hop => by
  obtain ⟨e, he, rfl⟩ := Go.Conc.mem_ofEvents hop
  refine ⟨rfl, fun x hx => ?_, fun e' => ?_⟩
  · have hx : (MemAct.ofEvent e).touch? = some x := hx
    rw [touch_mute (h e he)] at hx
    cases hx
  · have hm := h e he
    obtain ⟨loc, wr, sy⟩ := e
    cases loc with
    | mark m =>
      have e' : MemAct.mark m = .mark (.release (sA Wg)) := e'
      cases e'
      simp [Event.mute] at hm
    | obj r => cases wr <;> cases sy <;> simp [MemAct.ofEvent] at e'
    | _ => simp [MemAct.ofEvent] at e'

/-- The acquire is heard: all is handed over. -/
theorem mid_past {Wg d1 r : Nat} {t : Trace} (h : Mid Wg t 0 d1) (hr : Rel (fun x => x = Wg) (sA Wg) t r) (fn : FuncId) (pos : String) : ∃ B, Past (Veil fun x => x = Wg) B (t ++ MemOp.ofEvents 0 fn pos #[mkE (.acquire (sA Wg))]) := by
  have e1 : MemOp.ofEvents 0 fn pos #[mkE (.acquire (sA Wg))] = #[{ g := 0, fn, pos, act := .mark (.acquire (sA Wg)) }] := by rw [ofEvents_eq]; simp [mkE, MemAct.ofEvent]
  have hm := h.own0 (fn := fn) (pos := pos) (es := #[mkE (.acquire (sA Wg))]) (d0' := 0) (fun e he => by simp at he; rw [he]; exact ev0_mark Wg _ rfl (by simp)) rfl
  have hr' := hr.app0 (u := MemOp.ofEvents 0 fn pos #[mkE (.acquire (sA Wg))]) of_g
  have hlt : r < t.size := by
    have := hr.rel.act
    exact lt_of_act? this
  rw [e1] at hm hr' ⊢
  have hy : (t ++ #[({ g := 0, fn, pos, act := .mark (.acquire (sA Wg)) } : MemOp)])[t.size]? = some { g := 0, fn, pos, act := .mark (.acquire (sA Wg)) } := by simp
  exact hm.ti.past hr' (q := t.size) (by rw [act?_of hy]) (by simp [Trace.g?]) ⟨0, by simp [Trace.g?], by rw [deaf_old (Nat.le_refl _)]; exact h.deaf0⟩ hlt hm.deaf0 hm.two

/-- THE CHILD ONLY LEAVES. -/
theorem quits_run {ty : TypeId} {Wg : Nat} {End : Goroutine → Prop} {w v0 : World} : ∀ (M n q : Nat) (a b : Goroutine) (v : World) (sl : Option (Nat × Nat)) (t : Trace) (s : CS) (st sm : Int) (d1 r : Nat), n + q ≤ M → s.p ≠ 3 → Cal P ty Wg End n s a → QuitsD P q d1 b → Mid Wg t s.d d1 → Rel (fun x => x = Wg) (sA Wg) t r → GrpAt ty Wg v st sm → ((s.p = 0 ∧ st = 0 ∧ sm = 0) ∨ (s.p = 1 ∧ st = 0 ∧ sm = 1) ∨ (s.p = 2 ∧ st = 0 ∧ sm = 0)) → Sib P (fun x => x = Wg) w v → (v.os = v0.os ∧ v.output = v0.output ∧ v.tape = v0.tape) →
    ∃ N m t', runNT P N (duo a b v sl) t = (.next m, t') ∧ Joined P ty Wg End w v0 m t' := by
  intro M
  induction M with
  | zero =>
    intro n q a b v sl t s st sm d1 r hM hp hC
    obtain rfl : n = 0 := by omega
    exact absurd hC.1 hp
  | succ M ih =>
    intro n q a b v sl t s st sm d1 r hM hp hC hQ hMi hR hG hf hS ho
    have hf0 : Fits0 s st sm := by
      rcases hf with ⟨h1, h2, h3⟩ | ⟨h1, h2, h3⟩ | ⟨h1, h2, h3⟩
      · exact .inl ⟨h1, h3, .inl h2⟩
      · exact .inr (.inl ⟨h1, .inr ⟨h2, h3⟩⟩)
      · exact .inr (.inr ⟨h1, h2, h3⟩)
    have hr := (cal_step hC hp hG hf0 hS).1
    obtain ⟨d, sl', hmv⟩ := duo_pick (P := P) (w := v) (sl := sl) (awake_of (.inl hr)) (awake_of (hQ.status.elim .inl fun x => .inr (.inr x))) (.inl hr)
    rcases hmv with ⟨_, hst⟩ | ⟨hrb, hst⟩
    · obtain ⟨_, a', v', es, s', st', sm', hgo, hor, hG', hS', hN, ho', hd, hev, hpast⟩ := cal_step hC hp (grp_at hG d) hf0 (sib_at hS d)
      have hrun := runT_duo0 (P := P) (b := b) (sl := sl') hgo
      rw [woken_quitsD hQ] at hrun
      have ho2 : v'.os = v0.os ∧ v'.output = v0.output ∧ v'.tape = v0.tape := ⟨ho'.1.trans ho.1, ho'.2.1.trans ho.2.1, ho'.2.2.trans ho.2.2⟩
      rcases hor with ⟨hB, rfl, hsm, _, _⟩ | ⟨n', hn', hC'⟩
      · exfalso
        obtain ⟨_, _, _, _, hp1, _⟩ := hB
        rcases hf with ⟨h1, _⟩ | ⟨_, _, h3⟩ | ⟨h1, _⟩
        · omega
        · rw [h3] at hsm; cases hsm
        · omega
      · by_cases h3 : s'.p = 3
        · have hes := hpast h3
          subst hes
          have hd0 : s.d = 0 ∧ st' = 0 ∧ sm' = 0 := by
            rcases hN with x | x | x | x | x | x | x
            · have := x.2.1; omega
            · have := x.2.1; omega
            · have := x.2.1; omega
            · have := x.2.1; omega
            · have := x.2.1; omega
            · have := x.2.1; omega
            · exact ⟨x.2.2.1, x.2.2.2.2.1, x.2.2.2.2.2⟩
          obtain ⟨hd0, rfl, rfl⟩ := hd0
          rw [hd0] at hMi
          have hm2 := hMi.own0 (fn := a.frame.fn) (pos := a.frame.place) hev (d0' := 0) rfl
          obtain ⟨N, m, t', hr', hJ⟩ := glide_beside (w := w) (v0 := v0) _ n' q a' b v' sl' _ s' (Nat.le_refl _) h3 hC' (by rw [hm2.deaf1]; exact hQ) (mid_past hMi hR a.frame.fn a.frame.place) hG' hS' hm2.above ho2
          refine ⟨N + 1, m, t', ?_, hJ⟩
          simp only [runNT, hst, hrun]
          exact hr'
        · have hf' : (s'.p = 0 ∧ st' = 0 ∧ sm' = 0) ∨ (s'.p = 1 ∧ st' = 0 ∧ sm' = 1) ∨ (s'.p = 2 ∧ st' = 0 ∧ sm' = 0) := by
            rcases hN with x | x | x | x | x | x | x
            · rcases hf with y | y | y
              · exact .inl ⟨x.2.1, x.2.2.2.1.trans y.2.1, x.2.2.2.2.1⟩
              · have := x.1; omega
              · have := x.1; omega
            · rcases hf with y | y | y
              · have h1 := x.2.2.1; rw [y.2.1] at h1; cases h1
              · have := x.1; omega
              · have := x.1; omega
            · exact .inr (.inr ⟨x.2.1, x.2.2.2.2.1, x.2.2.2.2.2⟩)
            · rcases hf with y | y | y
              · have := x.1; omega
              · exact .inr (.inl ⟨x.2.1, x.2.2.1.trans y.2.1, x.2.2.2.trans y.2.2⟩)
              · have := x.1; omega
            · exact .inr (.inr ⟨x.2.1, x.2.2.2.2.1, x.2.2.2.2.2⟩)
            · exact .inr (.inr ⟨x.2.1, x.2.2.1, x.2.2.2⟩)
            · exact absurd x.2.1 h3
          obtain ⟨N, m, t', hr', hJ⟩ := ih n' q a' b v' sl' _ s' st' sm' d1 r (by omega) h3 hC' hQ (hMi.own0 (fn := a.frame.fn) (pos := a.frame.place) hev hd) (hR.app0 of_g) hG' hf' hS' ho2
          refine ⟨N + 1, m, t', ?_, hJ⟩
          simp only [runNT, hst, hrun]
          exact hr'
    · obtain ⟨k, b', es, rfl, hm, hs, hq⟩ := running_not hQ hrb
      have hrun := runT_duo1 (P := P) (a := a) (sl := sl') (hs (v.at d))
      rw [woken_run hr] at hrun
      obtain ⟨N, m, t', hr', hJ⟩ := ih n k a b' (v.at d) sl' (t ++ MemOp.ofEvents 1 b.frame.fn b.frame.place es) s st sm (deafBehind d1 es) r (by omega) hp hC hq (hMi.own1 (ops_mute hm) rfl) (hR.app1 _ _ _ fun j e he => .inl (touch_mute (hm e (Array.mem_iff_getElem?.2 ⟨j, he⟩)))) hG hf (sib_at hS d) ho
      refine ⟨N + 1, m, t', ?_, hJ⟩
      simp only [runNT, hst, hrun]
      exact hr'
end Go.Proofs.Ythbghcebcahlnaa
