/- The machine of two behind the child's last act at the group. The machine of two: from the child's walk to the group on, and from the go statement on. The machine of two: from the go statement on: the child works. Goroutine 0 alone, ahead of the go statement: its trace. -/
import Derived.Test.YtfnbcpeipoobkaaGreatM9
set_option linter.unusedSectionVars false
namespace Go.Proofs.YtfnbcpeipoobkaaGreat
open Go Go.Conc
variable {P : Program} {F : Array Func} [Inhabited Junk]

/-- The caller is past its acquire and at the end of its way; the child only leaves. -/
def Joined (P : Program) (ty : TypeId) (Wg : Nat) (End : Goroutine → Prop) (w v0 : World) (m : Machine) (t : Trace) : Prop :=
  ∃ (a b : Goroutine) (v : World) (sl : Option (Nat × Nat)) (q : Nat), m = duo a b v sl ∧ End a ∧ GrpAt ty Wg v 0 0 ∧ Sib P (fun x => x = Wg) w v ∧ QuitsD P q (Deaf t 1) b ∧ (∃ B, Past (Veil fun x => x = Wg) B t) ∧ (∀ j, 2 ≤ j → Deaf t j = 0) ∧ v.os = v0.os ∧ v.output = v0.output ∧ v.tape = v0.tape
theorem of_g {g : Nat} {fn : FuncId} {pos : String} {es : Array Event} : ∀ op ∈ MemOp.ofEvents g fn pos es, op.g = g := fun op hop => by obtain ⟨e, _, rfl⟩ := Go.Conc.mem_ofEvents hop; rfl
theorem of_none (t : Trace) (g : Nat) (fn : FuncId) (pos : String) : t ++ MemOp.ofEvents g fn pos #[] = t := by simp [MemOp.ofEvents]
theorem ops0 {Wg g : Nat} {fn : FuncId} {pos : String} {es : Array Event} (h : ∀ e ∈ es, Ev0 Wg e) (hg : g = 0) : ∀ op ∈ MemOp.ofEvents g fn pos es, OpOk (fun x => x = Wg) (sA Wg) g op := fun op hop => by
  obtain ⟨e, he, rfl⟩ := Go.Conc.mem_ofEvents hop
  exact ⟨rfl, fun x hx => .inl ⟨((h e he).1 x hx).1, ((h e he).1 x hx).2, fun _ => hg⟩, (h e he).2⟩
theorem running_not {a : Goroutine} {q d : Nat} (h : QuitsD P q d a) (hr : a.status = .running) : ∃ k g' es, q = k + 1 ∧ (∀ e ∈ es, Event.mute e = true) ∧ (∀ w, stepG P false a w = .go g' w es) ∧ QuitsD P k (deafBehind d es) g' := by
  cases q with
  | zero => rw [h.1] at hr; cases hr
  | succ k =>
    rcases h with ⟨hf, _⟩ | ⟨_, g', es, hm, hs, hq⟩
    · rw [hf] at hr; cases hr
    · exact ⟨k, g', es, rfl, hm, hs, hq⟩
theorem mute_touch {e : Event} (h : e.mute = true) : (MemAct.ofEvent e).touch? = none := touch_mute h

/-- PAST THE ACQUIRE. -/
theorem glide_beside {ty : TypeId} {Wg : Nat} {End : Goroutine → Prop} {w v0 : World} : ∀ (M n q : Nat) (a b : Goroutine) (v : World) (sl : Option (Nat × Nat)) (t : Trace) (s : CS), n + q ≤ M → s.p = 3 → Cal P ty Wg End n s a → QuitsD P q (Deaf t 1) b → (∃ B, Past (Veil fun x => x = Wg) B t) → GrpAt ty Wg v 0 0 → Sib P (fun x => x = Wg) w v → (∀ j, 2 ≤ j → Deaf t j = 0) → (v.os = v0.os ∧ v.output = v0.output ∧ v.tape = v0.tape) →
    ∃ N m t', runNT P N (duo a b v sl) t = (.next m, t') ∧ Joined P ty Wg End w v0 m t' := by
  intro M
  induction M with
  | zero =>
    intro n q a b v sl t s hM hp hC hQ hP hG hS hA ho
    obtain rfl : n = 0 := by omega
    exact ⟨0, _, _, rfl, a, b, v, sl, q, rfl, hC.2, hG, hS, hQ, hP, hA, ho⟩
  | succ M ih =>
    intro n q a b v sl t s hM hp hC hQ hP hG hS hA ho
    cases n with
    | zero => exact ⟨0, _, _, rfl, a, b, v, sl, q, rfl, hC.2, hG, hS, hQ, hP, hA, ho⟩
    | succ n =>
      rcases hC with hC | ⟨hr, hC⟩
      · exact ⟨0, _, _, rfl, a, b, v, sl, q, rfl, hC.2, hG, hS, hQ, hP, hA, ho⟩
      · rcases hC with h0 | ⟨hp', _⟩ | ⟨hp', _⟩ | ⟨hp', _⟩ | ⟨hp', _⟩ | ⟨hp', _⟩ | ⟨hp', _⟩ | ⟨hp', _⟩ | ⟨hp', _⟩
        · obtain ⟨d, sl', hmv⟩ := duo_pick (P := P) (w := v) (sl := sl) (awake_of (.inl hr)) (awake_of (hQ.status.elim .inl fun x => .inr (.inr x))) (.inl hr)
          rcases hmv with ⟨_, hst⟩ | ⟨hrb, hst⟩
          · obtain ⟨a', h1, h2⟩ := h0 (v.at d) 0 0 (grp_at hG d)
            have hrun := runT_duo0 (P := P) (b := b) (sl := sl') h1
            rw [woken_quitsD hQ] at hrun
            obtain ⟨N, m, t', hr', hJ⟩ := ih n q a' b (v.at d) sl' t s (by omega) hp h2 hQ hP hG (sib_at hS d) hA ho
            refine ⟨N + 1, m, t', ?_, hJ⟩
            simp only [runNT, hst, hrun, of_none]
            exact hr'
          · obtain ⟨k, b', es, rfl, hm, hs, hq⟩ := running_not hQ hrb
            have hrun := runT_duo1 (P := P) (a := a) (sl := sl') (hs (v.at d))
            rw [woken_run hr] at hrun
            obtain ⟨B, hP⟩ := hP
            obtain ⟨N, m, t', hr', hJ⟩ := ih (n + 1) k a b' (v.at d) sl' (t ++ MemOp.ofEvents 1 b.frame.fn b.frame.place es) s (by omega) hp (.inr ⟨hr, .inl h0⟩) (by rw [Deaf_own]; exact hq) ⟨B, hP.mute (by decide) hm⟩ hG (sib_at hS d) (fun j hj => by rw [Deaf_other t (by omega) _ of_g]; exact hA j hj) ho
            refine ⟨N + 1, m, t', ?_, hJ⟩
            simp only [runNT, hst, hrun]
            exact hr'
        all_goals (exfalso; omega)

/-- What holds of the trace while the two are at it. -/
structure Mid (Wg : Nat) (t : Trace) (d0 d1 : Nat) : Prop where
  ti : TI (fun x => x = Wg) (sA Wg) t
  deaf0 : Deaf t 0 = d0
  deaf1 : Deaf t 1 = d1
  above : ∀ j, 2 ≤ j → Deaf t j = 0
  two : ∀ i g, t.g? i = some g → g = 0 ∨ g = 1
theorem two_app {t u : Trace} (h : ∀ i g, t.g? i = some g → g = 0 ∨ g = 1) {g : Nat} (hg : g = 0 ∨ g = 1) (hu : ∀ op ∈ u, op.g = g) : ∀ i g, (t ++ u).g? i = some g → g = 0 ∨ g = 1 := by
  intro i g' hi
  obtain ⟨op, ho, rfl⟩ := Option.map_eq_some_iff.1 hi
  rcases getElem?_append_cases ho with ⟨_, ho'⟩ | ⟨_, hou⟩
  · exact h i op.g (by simp [Trace.g?, ho'])
  · rw [hu op hou]; exact hg
/-- A step of the caller's. -/
theorem Mid.own0 {Wg d0 d1 d0' : Nat} {t : Trace} (h : Mid Wg t d0 d1) {fn : FuncId} {pos : String} {es : Array Event} (he : ∀ e ∈ es, Ev0 Wg e) (hd : deafBehind d0 es = d0') : Mid Wg (t ++ MemOp.ofEvents 0 fn pos es) d0' d1 :=
  ⟨h.ti.app (.inl rfl) (ops0 he rfl), by rw [Deaf_own, h.deaf0, hd], by rw [Deaf_other t (by decide) _ of_g, h.deaf1], fun j hj => by rw [Deaf_other t (by omega) _ of_g]; exact h.above j hj, two_app h.two (.inl rfl) of_g⟩
/-- A step of the child's. -/
theorem Mid.own1 {Wg d0 d1 d1' : Nat} {t : Trace} (h : Mid Wg t d0 d1) {fn : FuncId} {pos : String} {es : Array Event} (he : ∀ op ∈ MemOp.ofEvents 1 fn pos es, OpOk (fun x => x = Wg) (sA Wg) 1 op) (hd : deafBehind d1 es = d1') : Mid Wg (t ++ MemOp.ofEvents 1 fn pos es) d0 d1' :=
  ⟨h.ti.app (.inr rfl) he, by rw [Deaf_other t (by decide) _ of_g, h.deaf0], by rw [Deaf_own, h.deaf1, hd], fun j hj => by rw [Deaf_other t (by omega) _ of_g]; exact h.above j hj, two_app h.two (.inr rfl) of_g⟩
theorem ops_mute {Wg : Nat} {fn : FuncId} {pos : String} {es : Array Event} (h : ∀ e ∈ es, Event.mute e = true) : ∀ op ∈ MemOp.ofEvents 1 fn pos es, OpOk (fun x => x = Wg) (sA Wg) 1 op := fun op hop => by
  obtain ⟨e, he, rfl⟩ := Go.Conc.mem_ofEvents hop
  refine ⟨rfl, fun x hx => ?_, fun e' => ?_⟩
  · have hx : (MemAct.ofEvent e).touch? = some x := hx
    rw [touch_mute (h e he)] at hx
    cases hx
  · have hm := h e he
    obtain ⟨loc, wr, sy⟩ := e
    cases loc with
    | mark m =>
      have e' : MemAct.mark m = .mark (.release (sA Wg)) := e'
      cases e'
      simp [Event.mute] at hm
    | obj r => cases wr <;> cases sy <;> simp [MemAct.ofEvent] at e'
    | _ => simp [MemAct.ofEvent] at e'

/-- The acquire is heard: all is handed over. -/
theorem mid_past {Wg d1 r : Nat} {t : Trace} (h : Mid Wg t 0 d1) (hr : Rel (fun x => x = Wg) (sA Wg) t r) (fn : FuncId) (pos : String) : ∃ B, Past (Veil fun x => x = Wg) B (t ++ MemOp.ofEvents 0 fn pos #[mkE (.acquire (sA Wg))]) := by
  have e1 : MemOp.ofEvents 0 fn pos #[mkE (.acquire (sA Wg))] = #[{ g := 0, fn, pos, act := .mark (.acquire (sA Wg)) }] := by rw [ofEvents_eq]; simp [mkE, MemAct.ofEvent]
  have hm := h.own0 (fn := fn) (pos := pos) (es := #[mkE (.acquire (sA Wg))]) (d0' := 0) (fun e he => by simp at he; rw [he]; exact ev0_mark Wg _ rfl (by simp)) rfl
  have hr' := hr.app0 (u := MemOp.ofEvents 0 fn pos #[mkE (.acquire (sA Wg))]) of_g
  have hlt : r < t.size := by
    have := hr.rel.act
    exact lt_of_act? this
  rw [e1] at hm hr' ⊢
  have hy : (t ++ #[({ g := 0, fn, pos, act := .mark (.acquire (sA Wg)) } : MemOp)])[t.size]? = some { g := 0, fn, pos, act := .mark (.acquire (sA Wg)) } := by simp
  exact hm.ti.past hr' (q := t.size) (by rw [act?_of hy]) (by simp [Trace.g?]) ⟨0, by simp [Trace.g?], by rw [deaf_old (Nat.le_refl _)]; exact h.deaf0⟩ hlt hm.deaf0 hm.two

/-- THE CHILD ONLY LEAVES. -/
theorem quits_run {ty : TypeId} {Wg : Nat} {End : Goroutine → Prop} {w v0 : World} : ∀ (M n q : Nat) (a b : Goroutine) (v : World) (sl : Option (Nat × Nat)) (t : Trace) (s : CS) (st sm : Int) (d1 r : Nat), n + q ≤ M → s.p ≠ 3 → Cal P ty Wg End n s a → QuitsD P q d1 b → Mid Wg t s.d d1 → Rel (fun x => x = Wg) (sA Wg) t r → GrpAt ty Wg v st sm → ((s.p = 0 ∧ st = 0 ∧ sm = 0) ∨ (s.p = 1 ∧ st = 0 ∧ sm = 1) ∨ (s.p = 2 ∧ st = 0 ∧ sm = 0)) → Sib P (fun x => x = Wg) w v → (v.os = v0.os ∧ v.output = v0.output ∧ v.tape = v0.tape) →
    ∃ N m t', runNT P N (duo a b v sl) t = (.next m, t') ∧ Joined P ty Wg End w v0 m t' := by
  intro M
  induction M with
  | zero =>
    intro n q a b v sl t s st sm d1 r hM hp hC
    obtain rfl : n = 0 := by omega
    exact absurd hC.1 hp
  | succ M ih =>
    intro n q a b v sl t s st sm d1 r hM hp hC hQ hMi hR hG hf hS ho
    have hf0 : Fits0 s st sm := by
      rcases hf with ⟨h1, h2, h3⟩ | ⟨h1, h2, h3⟩ | ⟨h1, h2, h3⟩
      · exact .inl ⟨h1, h3, .inl h2⟩
      · exact .inr (.inl ⟨h1, .inr ⟨h2, h3⟩⟩)
      · exact .inr (.inr ⟨h1, h2, h3⟩)
    have hr := (cal_step hC hp hG hf0 hS).1
    obtain ⟨d, sl', hmv⟩ := duo_pick (P := P) (w := v) (sl := sl) (awake_of (.inl hr)) (awake_of (hQ.status.elim .inl fun x => .inr (.inr x))) (.inl hr)
    rcases hmv with ⟨_, hst⟩ | ⟨hrb, hst⟩
    · obtain ⟨_, a', v', es, s', st', sm', hgo, hor, hG', hS', hN, ho', hd, hev, hpast⟩ := cal_step hC hp (grp_at hG d) hf0 (sib_at hS d)
      have hrun := runT_duo0 (P := P) (b := b) (sl := sl') hgo
      rw [woken_quitsD hQ] at hrun
      have ho2 : v'.os = v0.os ∧ v'.output = v0.output ∧ v'.tape = v0.tape := ⟨ho'.1.trans ho.1, ho'.2.1.trans ho.2.1, ho'.2.2.trans ho.2.2⟩
      rcases hor with ⟨hB, rfl, hsm, _, _⟩ | ⟨n', hn', hC'⟩
      · exfalso
        obtain ⟨_, _, _, _, hp1, _⟩ := hB
        rcases hf with ⟨h1, _⟩ | ⟨_, _, h3⟩ | ⟨h1, _⟩
        · omega
        · rw [h3] at hsm; cases hsm
        · omega
      · by_cases h3 : s'.p = 3
        · have hes := hpast h3
          subst hes
          have hd0 : s.d = 0 ∧ st' = 0 ∧ sm' = 0 := by
            rcases hN with x | x | x | x | x | x | x
            · have := x.2.1; omega
            · have := x.2.1; omega
            · have := x.2.1; omega
            · have := x.2.1; omega
            · have := x.2.1; omega
            · have := x.2.1; omega
            · exact ⟨x.2.2.1, x.2.2.2.2.1, x.2.2.2.2.2⟩
          obtain ⟨hd0, rfl, rfl⟩ := hd0
          rw [hd0] at hMi
          have hm2 := hMi.own0 (fn := a.frame.fn) (pos := a.frame.place) hev (d0' := 0) rfl
          obtain ⟨N, m, t', hr', hJ⟩ := glide_beside (w := w) (v0 := v0) _ n' q a' b v' sl' _ s' (Nat.le_refl _) h3 hC' (by rw [hm2.deaf1]; exact hQ) (mid_past hMi hR a.frame.fn a.frame.place) hG' hS' hm2.above ho2
          refine ⟨N + 1, m, t', ?_, hJ⟩
          simp only [runNT, hst, hrun]
          exact hr'
        · have hf' : (s'.p = 0 ∧ st' = 0 ∧ sm' = 0) ∨ (s'.p = 1 ∧ st' = 0 ∧ sm' = 1) ∨ (s'.p = 2 ∧ st' = 0 ∧ sm' = 0) := by
            rcases hN with x | x | x | x | x | x | x
            · rcases hf with y | y | y
              · exact .inl ⟨x.2.1, x.2.2.2.1.trans y.2.1, x.2.2.2.2.1⟩
              · have := x.1; omega
              · have := x.1; omega
            · rcases hf with y | y | y
              · have h1 := x.2.2.1; rw [y.2.1] at h1; cases h1
              · have := x.1; omega
              · have := x.1; omega
            · exact .inr (.inr ⟨x.2.1, x.2.2.2.2.1, x.2.2.2.2.2⟩)
            · rcases hf with y | y | y
              · have := x.1; omega
              · exact .inr (.inl ⟨x.2.1, x.2.2.1.trans y.2.1, x.2.2.2.trans y.2.2⟩)
              · have := x.1; omega
            · exact .inr (.inr ⟨x.2.1, x.2.2.2.2.1, x.2.2.2.2.2⟩)
            · exact .inr (.inr ⟨x.2.1, x.2.2.1, x.2.2.2⟩)
            · exact absurd x.2.1 h3
          obtain ⟨N, m, t', hr', hJ⟩ := ih n' q a' b v' sl' _ s' st' sm' d1 r (by omega) h3 hC' hQ (hMi.own0 (fn := a.frame.fn) (pos := a.frame.place) hev hd) (hR.app0 of_g) hG' hf' hS' ho2
          refine ⟨N + 1, m, t', ?_, hJ⟩
          simp only [runNT, hst, hrun]
          exact hr'
    · obtain ⟨k, b', es, rfl, hm, hs, hq⟩ := running_not hQ hrb
      have hrun := runT_duo1 (P := P) (a := a) (sl := sl') (hs (v.at d))
      rw [woken_run hr] at hrun
      obtain ⟨N, m, t', hr', hJ⟩ := ih n k a b' (v.at d) sl' (t ++ MemOp.ofEvents 1 b.frame.fn b.frame.place es) s st sm (deafBehind d1 es) r (by omega) hp hC hq (hMi.own1 (ops_mute hm) rfl) (hR.app1 _ _ _ fun j e he => .inl (touch_mute (hm e (Array.mem_iff_getElem?.2 ⟨j, he⟩)))) hG hf (sib_at hS d) ho
      refine ⟨N + 1, m, t', ?_, hJ⟩
      simp only [runNT, hst, hrun]
      exact hr'
end Go.Proofs.YtfnbcpeipoobkaaGreat

set_option linter.unusedSectionVars false
namespace Go.Proofs.YtfnbcpeipoobkaaGreat
open Go Go.Conc
variable {P : Program} {F : Array Func} [Inhabited Junk]

theorem ops_ev1 {Wg d : Nat} {fn : FuncId} {pos : String} {es : Array Event} (h : Ev1 Wg d es) : ∀ op ∈ MemOp.ofEvents 1 fn pos es, OpOk (fun x => x = Wg) (sA Wg) 1 op := fun op hop => by
  obtain ⟨e, he, rfl⟩ := Go.Conc.mem_ofEvents hop
  obtain ⟨j, hj⟩ := Array.mem_iff_getElem?.1 he
  obtain ⟨h1, h2⟩ := h j e hj
  refine ⟨rfl, fun x hx => ?_, h1⟩
  have hx : (MemAct.ofEvent e).touch? = some x := hx
  rcases h2 with h2 | ⟨⟨a, wr, rfl, ha⟩, _⟩
  · rw [h2] at hx; cases hx
  · left
    cases wr <;> simp [MemAct.ofEvent, MemAct.touch?] at hx <;> subst hx <;> exact ⟨⟨a, rfl, ha⟩, by simp, by simp⟩
theorem rel_ev1 {Wg r : Nat} {t : Trace} (h : Rel (fun x => x = Wg) (sA Wg) t r) (fn : FuncId) (pos : String) {es : Array Event} (he : Ev1 Wg (Deaf t 1) es) : Rel (fun x => x = Wg) (sA Wg) (t ++ MemOp.ofEvents 1 fn pos es) r :=
  h.app1 fn pos es fun j e hj => (he j e hj).2
/-- The caller, running or blocked. -/
def CM (P : Program) (ty : TypeId) (Wg : Nat) (End : Goroutine → Prop) (n : Nat) (c : CS) (a : Goroutine) : Prop := (a.status = .running ∧ Cal P ty Wg End n c a) ∨ Blk P ty Wg End n c a
theorem cm_awake {ty : TypeId} {Wg : Nat} {End : Goroutine → Prop} {n : Nat} {c : CS} {a : Goroutine} (h : CM P ty Wg End n c a) : awake a := by
  rcases h with ⟨h, _⟩ | ⟨g, rfl, _⟩
  · exact awake_of (.inl h)
  · exact awake_of (.inr (.inl rfl))
theorem blk_again {g : Goroutine} (hs : g.status = .running) (ho : g.offers = none) (w : World) : ({ g with status := .blocked } : Goroutine).again w = g := by
  obtain ⟨fr, cs, stt, dy, off⟩ := g
  simp only at hs ho
  subst hs ho
  simp [Goroutine.again]
theorem cm_woken {ty : TypeId} {Wg : Nat} {End : Goroutine → Prop} {n : Nat} {c : CS} {a b b' : Goroutine} {w : World} (h : CM P ty Wg End n c a) : CM P ty Wg End n c (woken P b b' w a) := by
  rcases h with ⟨h1, h2⟩ | ⟨g, rfl, h1, h2, h3, h4⟩
  · rw [woken_run h1]; exact .inl ⟨h1, h2⟩
  · unfold woken
    split
    · rw [blk_again h1 h2]; exact .inl ⟨h1, h4⟩
    · exact .inr ⟨g, rfl, h1, h2, h3, h4⟩
theorem cm_free {ty : TypeId} {Wg : Nat} {End : Goroutine → Prop} {n : Nat} {c : CS} {a b b' : Goroutine} {w : World} (h : CM P ty Wg End n c a) (hm : mayWake P b = true) (hb : b'.status = .running) : Cal P ty Wg End n c (woken P b b' w a) := by
  rcases h with ⟨h1, h2⟩ | ⟨g, rfl, h1, h2, h3, h4⟩
  · rw [woken_run h1]; exact h2
  · have : woken P b b' w { g with status := .blocked } = g := by
      unfold woken
      rw [if_pos (by simp [hm, hb]), blk_again h1 h2]
    rw [this]
    exact h4
theorem fits1_0 {s : KS} {c : CS} {st sm : Int} (h : Fits1 s c st sm) : Fits0 c st sm := by
  obtain ⟨rfl, ⟨_, ⟨rfl, h1, h2⟩ | ⟨_, h1⟩⟩ | ⟨_, _, h1⟩ | ⟨_, _, h1⟩⟩ := h
  · exact .inl ⟨h1, rfl, .inr ⟨rfl, h2⟩⟩
  · exact .inr (.inl ⟨h1, .inl rfl⟩)
  · exact .inr (.inl ⟨h1, .inl rfl⟩)
  · exact .inr (.inl ⟨h1, .inl rfl⟩)
theorem fits1_not3 {s : KS} {c : CS} {st sm : Int} (h : Fits1 s c st sm) : c.p ≠ 3 := by
  obtain ⟨_, ⟨_, ⟨_, h1, _⟩ | ⟨_, h1⟩⟩ | ⟨_, _, h1⟩ | ⟨_, _, h1⟩⟩ := h <;> omega
theorem fits1_next {s : KS} {c c' : CS} {st sm st' sm' : Int} (h : Fits1 s c st sm) (hN : Next0 c st sm c' st' sm') : Fits1 s c' st' sm' := by
  obtain ⟨rfl, h⟩ := h
  rcases hN with x | x | x | x | x | x | x
  · obtain ⟨x1, x2, _, rfl, rfl, x3⟩ := x
    refine ⟨rfl, ?_⟩
    rcases h with ⟨h0, ⟨rfl, h1, h2⟩ | ⟨_, h1⟩⟩ | ⟨_, _, h1⟩ | ⟨_, _, h1⟩
    · exact .inl ⟨h0, .inl ⟨rfl, x2, x3 rfl⟩⟩
    all_goals (exfalso; omega)
  · obtain ⟨x1, x2, rfl, _, rfl, rfl⟩ := x
    refine ⟨rfl, ?_⟩
    rcases h with ⟨h0, ⟨_, h1, h2⟩ | ⟨_, h1⟩⟩ | ⟨_, _, h1⟩ | ⟨_, _, h1⟩
    · exact .inl ⟨h0, .inr ⟨rfl, x2⟩⟩
    all_goals (exfalso; omega)
  · obtain ⟨x1, _, rfl, _⟩ := x
    exfalso
    rcases h with ⟨h0, ⟨h, _⟩ | ⟨_, h1⟩⟩ | ⟨_, _, h1⟩ | ⟨_, _, h1⟩
    · cases h
    all_goals omega
  · obtain ⟨x1, x2, rfl, rfl⟩ := x
    refine ⟨rfl, ?_⟩
    rcases h with ⟨h0, ⟨_, h1, h2⟩ | ⟨h3, h1⟩⟩ | ⟨h0, h3, h1⟩ | ⟨h0, h3, h1⟩
    · exfalso; omega
    · exact .inl ⟨h0, .inr ⟨h3, x2⟩⟩
    · exact .inr (.inl ⟨h0, h3, x2⟩)
    · exact .inr (.inr ⟨h0, h3, x2⟩)
  · have := x.2.2.2.1
    cases this
  · exfalso
    have := x.1
    rcases h with ⟨h0, ⟨_, h1, h2⟩ | ⟨h3, h1⟩⟩ | ⟨h0, h3, h1⟩ | ⟨h0, h3, h1⟩ <;> omega
  · exfalso
    have := x.1
    rcases h with ⟨h0, ⟨_, h1, h2⟩ | ⟨h3, h1⟩⟩ | ⟨h0, h3, h1⟩ | ⟨h0, h3, h1⟩ <;> omega
theorem next_not3 {s : KS} {c c' : CS} {st sm st' sm' : Int} (h : Fits1 s c st sm) (hN : Next0 c st sm c' st' sm') : c'.p ≠ 3 := fits1_not3 (fits1_next h hN)

/-- THE CHILD WALKS TO THE GROUP AND DOES ITS ACTS. -/
theorem chi_run {ty : TypeId} {Wg : Nat} {End : Goroutine → Prop} {w v0 : World} : ∀ (n1 n0 : Nat) (a b : Goroutine) (v : World) (sl : Option (Nat × Nat)) (t : Trace) (s : KS) (c : CS) (st sm : Int), Chi P ty Wg n1 s b → CM P ty Wg End n0 c a → Mid Wg t c.d s.d → (1 ≤ s.p → ∃ r, Rel (fun x => x = Wg) (sA Wg) t r) → GrpAt ty Wg v st sm → Fits1 s c st sm → Sib P (fun x => x = Wg) w v → (v.os = v0.os ∧ v.output = v0.output ∧ v.tape = v0.tape) →
    ∃ N m t', runNT P N (duo a b v sl) t = (.next m, t') ∧ Joined P ty Wg End w v0 m t' := by
  intro n1
  induction n1 using Nat.strongRecOn with
  | ind n1 ih1 =>
    -- a step of the child's
    have child : ∀ (n0 : Nat) (a b : Goroutine) (v : World) (sl : Option (Nat × Nat)) (t : Trace) (s : KS) (c : CS) (st sm : Int), Chi P ty Wg n1 s b → CM P ty Wg End n0 c a → Mid Wg t c.d s.d → (1 ≤ s.p → ∃ r, Rel (fun x => x = Wg) (sA Wg) t r) → GrpAt ty Wg v st sm → Fits1 s c st sm → Sib P (fun x => x = Wg) w v → (v.os = v0.os ∧ v.output = v0.output ∧ v.tape = v0.tape) →
        ∃ x N m t', runT P (duo a b v sl) 1 = x ∧ (∃ m1 ops, x = (.next m1, ops) ∧ runNT P N m1 (t ++ ops) = (.next m, t')) ∧ Joined P ty Wg End w v0 m t' := by
      intro n0 a b v sl t s c st sm hK hC hMi hR hG hf hS ho
      obtain ⟨hrb, b', v', es, st', sm', hgo, hG', hS', ho', hor⟩ := chi_step hK hG hf hS
      have hrun := runT_duo1 (P := P) (a := a) (sl := sl) hgo
      have ho2 : v'.os = v0.os ∧ v'.output = v0.output ∧ v'.tape = v0.tape := ⟨ho'.1.trans ho.1, ho'.2.1.trans ho.2.1, ho'.2.2.trans ho.2.2⟩
      rcases hor with ⟨n', s', hn', hK', hf', hd, hev⟩ | ⟨hp1, ⟨q, hq⟩, hev, hor⟩
      · have hMi' : Mid Wg (t ++ MemOp.ofEvents 1 b.frame.fn b.frame.place es) c.d s'.d ∧ (1 ≤ s'.p → ∃ r, Rel (fun x => x = Wg) (sA Wg) (t ++ MemOp.ofEvents 1 b.frame.fn b.frame.place es) r) := by
          rcases hev with ⟨_, h2, rfl⟩ | ⟨h1, h0, h2, rfl⟩ | ⟨h1, h2, he⟩
          · rw [of_none]
            refine ⟨?_, fun h => by omega⟩
            have hd : s.d = s'.d := hd
            rw [← hd]; exact hMi
          · refine ⟨hMi.own1 (fun op hop => ?_) hd, fun _ => ⟨t.size, Rel.new (by rw [hMi.deaf1]; exact h0) _ _⟩⟩
            obtain ⟨e, he, rfl⟩ := Go.Conc.mem_ofEvents hop
            simp at he
            subst he
            exact ⟨rfl, fun x hx => by simp [mkE, MemAct.ofEvent, MemAct.touch?] at hx, by simp [mkE, MemAct.ofEvent]⟩
          · obtain ⟨r, hr⟩ := hR h1
            exact ⟨hMi.own1 (ops_ev1 he) hd, fun _ => ⟨r, rel_ev1 hr _ _ (by rw [hMi.deaf1]; exact he)⟩⟩
        obtain ⟨N, m, t', hr', hJ⟩ := ih1 n' hn' n0 (woken P b b' v' a) b' v' sl _ s' c st' sm' hK' (cm_woken hC) hMi'.1 hMi'.2 hG' hf' hS' ho2
        exact ⟨_, N, m, t', rfl, ⟨_, _, hrun, hr'⟩, hJ⟩
      · obtain ⟨r, hr⟩ := hR hp1
        have hMi' : Mid Wg (t ++ MemOp.ofEvents 1 b.frame.fn b.frame.place es) c.d (deafBehind s.d es) := hMi.own1 (ops_ev1 hev) rfl
        have hR' := rel_ev1 hr b.frame.fn b.frame.place (by rw [hMi.deaf1]; exact hev)
        rcases hor with ⟨rfl, rfl, hc⟩ | ⟨rfl, rfl, hc, hmw, hst⟩
        · have hC' : Cal P ty Wg End n0 c a ∧ a.status = .running := by
            rcases hC with x | ⟨g, _, _, _, h3, _⟩
            · exact ⟨x.2, x.1⟩
            · exfalso; omega
          rw [woken_run hC'.2] at hrun
          obtain ⟨N, m, t', hr', hJ⟩ := quits_run (w := w) (v0 := v0) _ n0 q a b' v' sl _ c 0 0 _ r (Nat.le_refl _) (by omega) hC'.1 hq hMi' hR' hG' (.inl ⟨hc, rfl, rfl⟩) hS' ho2
          exact ⟨_, N, m, t', rfl, ⟨_, _, hrun, hr'⟩, hJ⟩
        · obtain ⟨N, m, t', hr', hJ⟩ := quits_run (w := w) (v0 := v0) _ n0 q (woken P b b' v' a) b' v' sl _ c 0 1 _ r (Nat.le_refl _) (by omega) (cm_free hC hmw hst) hq hMi' hR' hG' (.inr (.inl ⟨hc, rfl, rfl⟩)) hS' ho2
          exact ⟨_, N, m, t', rfl, ⟨_, _, hrun, hr'⟩, hJ⟩
    intro n0
    induction n0 using Nat.strongRecOn with
    | ind n0 ih0 =>
      -- the caller is blocked
      have blocked : ∀ (n : Nat) (a b : Goroutine) (v : World) (sl : Option (Nat × Nat)) (t : Trace) (s : KS) (c : CS) (st sm : Int), Chi P ty Wg n1 s b → Blk P ty Wg End n c a → Mid Wg t c.d s.d → (1 ≤ s.p → ∃ r, Rel (fun x => x = Wg) (sA Wg) t r) → GrpAt ty Wg v st sm → Fits1 s c st sm → Sib P (fun x => x = Wg) w v → (v.os = v0.os ∧ v.output = v0.output ∧ v.tape = v0.tape) →
          ∃ N m t', runNT P N (duo a b v sl) t = (.next m, t') ∧ Joined P ty Wg End w v0 m t' := by
        intro n a b v sl t s c st sm hK hC hMi hR hG hf hS ho
        have hrb := (chi_step hK hG hf hS).1
        obtain ⟨d, sl', hmv⟩ := duo_pick (P := P) (w := v) (sl := sl) (cm_awake (.inr hC)) (awake_of (.inl hrb)) (.inr hrb)
        rcases hmv with ⟨hra, _⟩ | ⟨_, hst⟩
        · obtain ⟨g, rfl, _⟩ := hC
          cases hra
        · obtain ⟨x, N, m, t', hx, ⟨m1, ops, e1, hr'⟩, hJ⟩ := child n a b (v.at d) sl' t s c st sm hK (.inr hC) hMi hR hG hf (sib_at hS d) ho
          refine ⟨N + 1, m, t', ?_, hJ⟩
          simp only [runNT, hst, hx, e1]
          exact hr'
      intro a b v sl t s c st sm hK hC hMi hR hG hf hS ho
      rcases hC with ⟨hra, hC⟩ | hC
      · have hrb := (chi_step hK hG hf hS).1
        obtain ⟨d, sl', hmv⟩ := duo_pick (P := P) (w := v) (sl := sl) (awake_of (.inl hra)) (awake_of (.inl hrb)) (.inr hrb)
        rcases hmv with ⟨_, hst⟩ | ⟨_, hst⟩
        · obtain ⟨_, a', v', es, c', st', sm', hgo, hor, hG', hS', hN, ho', hd, hev, _⟩ := cal_step hC (fits1_not3 hf) (grp_at hG d) (fits1_0 hf) (sib_at hS d)
          have hrun := runT_duo0 (P := P) (b := b) (sl := sl') hgo
          rw [woken_run hrb] at hrun
          have ho2 : v'.os = v0.os ∧ v'.output = v0.output ∧ v'.tape = v0.tape := ⟨ho'.1.trans ho.1, ho'.2.1.trans ho.2.1, ho'.2.2.trans ho.2.2⟩
          have hf' := fits1_next hf hN
          have hMi' := hMi.own0 (fn := a.frame.fn) (pos := a.frame.place) hev hd
          have hR' : 1 ≤ s.p → ∃ r, Rel (fun x => x = Wg) (sA Wg) (t ++ MemOp.ofEvents 0 a.frame.fn a.frame.place es) r := fun h => by
            obtain ⟨r, hr⟩ := hR h
            exact ⟨r, hr.app0 of_g⟩
          rcases hor with ⟨hB, _⟩ | ⟨n', hn', hC'⟩
          · obtain ⟨N, m, t', hr', hJ⟩ := blocked n0 a' b v' sl' _ s c' st' sm' hK hB hMi' hR' hG' hf' hS' ho2
            refine ⟨N + 1, m, t', ?_, hJ⟩
            simp only [runNT, hst, hrun]
            exact hr'
          · have hra' := (cal_step hC' (fits1_not3 hf') hG' (fits1_0 hf') hS').1
            obtain ⟨N, m, t', hr', hJ⟩ := ih0 n' hn' a' b v' sl' _ s c' st' sm' hK (.inl ⟨hra', hC'⟩) hMi' hR' hG' hf' hS' ho2
            refine ⟨N + 1, m, t', ?_, hJ⟩
            simp only [runNT, hst, hrun]
            exact hr'
        · obtain ⟨x, N, m, t', hx, ⟨m1, ops, e1, hr'⟩, hJ⟩ := child n0 a b (v.at d) sl' t s c st sm hK (.inl ⟨hra, hC⟩) hMi hR hG hf (sib_at hS d) ho
          refine ⟨N + 1, m, t', ?_, hJ⟩
          simp only [runNT, hst, hx, e1]
          exact hr'
      · exact blocked n0 a b v sl t s c st sm hK hC hMi hR hG hf hS ho
end Go.Proofs.YtfnbcpeipoobkaaGreat

set_option linter.unusedSectionVars false
namespace Go.Proofs.YtfnbcpeipoobkaaGreat
open Go Go.Conc
variable {P : Program} {F : Array Func} [Inhabited Junk]

theorem ops_fine {Wg : Nat} {fn : FuncId} {pos : String} {es : Array Event} (h : ∀ e ∈ es, Fine (fun x => x = Wg) e) : ∀ op ∈ MemOp.ofEvents 1 fn pos es, OpOk (fun x => x = Wg) (sA Wg) 1 op := fun op hop => by
  obtain ⟨e, he, rfl⟩ := Go.Conc.mem_ofEvents hop
  have hf := h e he
  refine ⟨rfl, fun x hx => .inr ⟨fun hv => ?_, rfl⟩, fun e' => ?_⟩
  · have hx : (MemAct.ofEvent e).touch? = some x := hx
    obtain ⟨a, e1, hV⟩ := hv
    obtain ⟨loc, wr, sy⟩ := e
    cases loc with
    | cell a' =>
      have e2 : x.loc = .cell a' := by cases wr <;> cases sy <;> simp [MemAct.ofEvent, MemAct.touch?] at hx <;> rw [← hx]
      rw [e2] at e1
      cases e1
      exact hf hV
    | obj r =>
      have e2 : x.loc = .obj r := by cases wr <;> cases sy <;> simp [MemAct.ofEvent, MemAct.touch?] at hx <;> rw [← hx]
      rw [e2] at e1
      cases e1
    | mark m => cases m <;> first | exact hf.elim | simp [MemAct.ofEvent, MemAct.touch?] at hx
    | _ => exact hf.elim
  · obtain ⟨loc, wr, sy⟩ := e
    have e' : MemAct.ofEvent ⟨loc, wr, sy⟩ = .mark (.release (sA Wg)) := e'
    cases loc with
    | mark m =>
      cases m <;> first | exact hf.elim | simp [MemAct.ofEvent] at e'
    | obj r => cases wr <;> cases sy <;> simp [MemAct.ofEvent] at e'
    | _ => simp [MemAct.ofEvent] at e'
theorem deaf_fine {V : Nat → Prop} {es : Array Event} (d : Nat) (h : ∀ e ∈ es, Fine V e) : deafBehind d es = d :=
  deafBehind_still (fun e he => by
    have hf := h e he
    obtain ⟨loc, wr, sy⟩ := e
    constructor <;> (intro e1; have e1 : loc = _ := e1; subst e1; exact hf)) d

/-- ████ THE CHILD WORKS, THE CALLER WAITS, THEY JOIN. ████ -/
theorem work_run (hF : FenceB P F) (hB : Bodies P F) {ty : TypeId} {Wg : Nat} {End : Goroutine → Prop} {v0 : World} {r : Nat} {E : Frame → List Frame → World → Prop} {cs1 : List Frame} (hE : ∀ fr up w, E fr up w → ∃ n1, Chi P ty Wg n1 ⟨0, 0⟩ (runG fr (up ++ cs1)))
    {fr : Frame} {up : List Frame} {w : World} (hg : GoesW (bar P F) r E fr up w) : ∀ (n0 : Nat) (a : Goroutine) (v : World) (sl : Option (Nat × Nat)) (t : Trace) (c : CS) (st sm : Int), CM P ty Wg End n0 c a → Mid Wg t c.d 0 → GrpAt ty Wg v st sm → Fits1 ⟨0, 0⟩ c st sm → Sib P (fun x => x = Wg) w v → okFrame P fr → (∀ f ∈ up, okFrame P f) → (v.os = v0.os ∧ v.output = v0.output ∧ v.tape = v0.tape) →
    ∃ N m t', runNT P N (duo a (runG fr (up ++ cs1)) v sl) t = (.next m, t') ∧ ∃ fr' up' w', E fr' up' w' ∧ Joined P ty Wg End w' v0 m t' := by
  induction hg using GoesW.ind with
  | @fin fr up w h =>
    intro n0 a v sl t c st sm hC hMi hG hf hS hf1 hu ho
    obtain ⟨n1, hK⟩ := hE fr up w h
    obtain ⟨N, m, t', hr, hJ⟩ := chi_run (w := w) (v0 := v0) n1 n0 a _ v sl t ⟨0, 0⟩ c st sm hK hC hMi (fun h => absurd h (by decide)) hG hf hS ho
    exact ⟨N, m, t', hr, fr, up, w, h, hJ⟩
  | @step fr up w h1 h2 ih =>
    have hrb : (runG fr (up ++ cs1)).status = .running := rfl
    -- a step of the child's
    have child : ∀ (n0 : Nat) (a : Goroutine) (v : World) (sl : Option (Nat × Nat)) (t : Trace) (c : CS) (st sm : Int), CM P ty Wg End n0 c a → Mid Wg t c.d 0 → GrpAt ty Wg v st sm → Fits1 ⟨0, 0⟩ c st sm → Sib P (fun x => x = Wg) w v → okFrame P fr → (∀ f ∈ up, okFrame P f) → (v.os = v0.os ∧ v.output = v0.output ∧ v.tape = v0.tape) →
        ∃ N m t' m1 ops, runT P (duo a (runG fr (up ++ cs1)) v sl) 1 = (.next m1, ops) ∧ runNT P N m1 (t ++ ops) = (.next m, t') ∧ ∃ fr' up' w', E fr' up' w' ∧ Joined P ty Wg End w' v0 m t' := by
      intro n0 a v sl t c st sm hC hMi hG hf hS hf1 hu ho
      obtain ⟨fr', up', w', v', es, τ, d', e1, e2, s1, s2, s3, s4, s5, s6, s7, _, s8, _⟩ := goes_from hF hB h1 hS hf1 hu cs1 false
      have hrun := runT_duo1 (P := P) (a := a) (sl := sl) e2
      have hG' : GrpAt ty Wg v' st sm := by
        have := s8 Wg rfl
        unfold GrpAt
        rw [this]
        exact hG
      have hMi' := hMi.own1 (fn := (runG fr (up ++ cs1)).frame.fn) (pos := (runG fr (up ++ cs1)).frame.place) (ops_fine s4) (deaf_fine 0 s4)
      obtain ⟨N, m, t', hr, hJ⟩ := ih τ d' fr' up' w' es e1 n0 (woken P (runG fr (up ++ cs1)) (runG fr' (up' ++ cs1)) v' a) v' sl _ c st sm (cm_woken hC) hMi' hG' hf s1 s2 s3 ⟨s5.trans ho.1, s6.trans ho.2.1, s7.trans ho.2.2⟩
      exact ⟨N, m, t', _, _, hrun, hr, hJ⟩
    intro n0
    induction n0 using Nat.strongRecOn with
    | ind n0 ih0 =>
      have blocked : ∀ (n : Nat) (a : Goroutine) (v : World) (sl : Option (Nat × Nat)) (t : Trace) (c : CS) (st sm : Int), Blk P ty Wg End n c a → Mid Wg t c.d 0 → GrpAt ty Wg v st sm → Fits1 ⟨0, 0⟩ c st sm → Sib P (fun x => x = Wg) w v → okFrame P fr → (∀ f ∈ up, okFrame P f) → (v.os = v0.os ∧ v.output = v0.output ∧ v.tape = v0.tape) →
          ∃ N m t', runNT P N (duo a (runG fr (up ++ cs1)) v sl) t = (.next m, t') ∧ ∃ fr' up' w', E fr' up' w' ∧ Joined P ty Wg End w' v0 m t' := by
        intro n a v sl t c st sm hC hMi hG hf hS hf1 hu ho
        obtain ⟨d, sl', hmv⟩ := duo_pick (P := P) (w := v) (sl := sl) (cm_awake (.inr hC)) (awake_of (.inl hrb)) (.inr hrb)
        rcases hmv with ⟨hra, _⟩ | ⟨_, hst⟩
        · obtain ⟨g, rfl, _⟩ := hC
          cases hra
        · obtain ⟨N, m, t', m1, ops, e1, hr', hJ⟩ := child n a (v.at d) sl' t c st sm (.inr hC) hMi hG hf (sib_at hS d) hf1 hu ho
          refine ⟨N + 1, m, t', ?_, hJ⟩
          simp only [runNT, hst, e1]
          exact hr'
      intro a v sl t c st sm hC hMi hG hf hS hf1 hu ho
      rcases hC with ⟨hra, hC⟩ | hC
      · obtain ⟨d, sl', hmv⟩ := duo_pick (P := P) (w := v) (sl := sl) (awake_of (.inl hra)) (awake_of (.inl hrb)) (.inr hrb)
        rcases hmv with ⟨_, hst⟩ | ⟨_, hst⟩
        · obtain ⟨_, a', v', es, c', st', sm', hgo, hor, hG', hS', hN, ho', hd, hev, _⟩ := cal_step hC (fits1_not3 hf) (grp_at hG d) (fits1_0 hf) (sib_at hS d)
          have hrun := runT_duo0 (P := P) (b := runG fr (up ++ cs1)) (sl := sl') hgo
          rw [woken_run hrb] at hrun
          have ho2 : v'.os = v0.os ∧ v'.output = v0.output ∧ v'.tape = v0.tape := ⟨ho'.1.trans ho.1, ho'.2.1.trans ho.2.1, ho'.2.2.trans ho.2.2⟩
          have hf' := fits1_next hf hN
          have hMi' := hMi.own0 (fn := a.frame.fn) (pos := a.frame.place) hev hd
          rcases hor with ⟨hB, _⟩ | ⟨n', hn', hC'⟩
          · obtain ⟨N, m, t', hr', hJ⟩ := blocked n0 a' v' sl' _ c' st' sm' hB hMi' hG' hf' hS' hf1 hu ho2
            refine ⟨N + 1, m, t', ?_, hJ⟩
            simp only [runNT, hst, hrun]
            exact hr'
          · have hra' := (cal_step hC' (fits1_not3 hf') hG' (fits1_0 hf') hS').1
            obtain ⟨N, m, t', hr', hJ⟩ := ih0 n' hn' a' v' sl' _ c' st' sm' (.inl ⟨hra', hC'⟩) hMi' hG' hf' hS' hf1 hu ho2
            refine ⟨N + 1, m, t', ?_, hJ⟩
            simp only [runNT, hst, hrun]
            exact hr'
        · obtain ⟨N, m, t', m1, ops, e1, hr', hJ⟩ := child n0 a (v.at d) sl' t c st sm (.inl ⟨hra, hC⟩) hMi hG hf (sib_at hS d) hf1 hu ho
          refine ⟨N + 1, m, t', ?_, hJ⟩
          simp only [runNT, hst, e1]
          exact hr'
      · exact blocked n0 a v sl t c st sm hC hMi hG hf hS hf1 hu ho
end Go.Proofs.YtfnbcpeipoobkaaGreat

set_option linter.unusedSectionVars false
namespace Go.Proofs.YtfnbcpeipoobkaaGreat
open Go Go.Conc
variable {P : Program} {F : Array Func} [Inhabited Junk]

/-- The trace of goroutine 0 alone: it touches what lies below n, and says no word. -/
structure Lone0 (n : Nat) (t : Trace) : Prop where
  ops : ∀ op ∈ t, op.g = 0 ∧ ∃ e, op.act = MemAct.ofEvent e ∧ Fine (fun _ => False) e ∧ evB e ≤ n
  deaf : Deaf t 0 = 0
theorem lone0_nil (n : Nat) : Lone0 n #[] := ⟨by simp, by simp [Deaf, Trace.deaf]⟩
theorem Lone0.app {n m : Nat} {t : Trace} (h : Lone0 n t) (hnm : n ≤ m) {fn : FuncId} {pos : String} {es : Array Event} (hf : ∀ e ∈ es, Fine (fun _ => False) e) (hb : ∀ e ∈ es, evB e ≤ m) : Lone0 m (t ++ MemOp.ofEvents 0 fn pos es) := by
  refine ⟨fun op hop => ?_, by rw [Deaf_own, h.deaf, deaf_fine 0 hf]⟩
  rcases Array.mem_append.1 hop with ho | ho
  · obtain ⟨h1, e, h2, h3, h4⟩ := h.ops op ho
    exact ⟨h1, e, h2, h3, Nat.le_trans h4 hnm⟩
  · obtain ⟨e, he, rfl⟩ := Go.Conc.mem_ofEvents ho
    exact ⟨rfl, e, rfl, hf e he, hb e he⟩
/-- .. is quiet on whatever is made later. -/
theorem Lone0.quiet {n Wg : Nat} {t : Trace} (h : Lone0 n t) (hW : n ≤ Wg) : Quiet (Veil fun x => x = Wg) t := by
  intro i op x hi hx hs
  obtain ⟨_, e, h2, h3, h4⟩ := h.ops op (mem_of_getElem? hi)
  exfalso
  rw [h2] at hx
  obtain ⟨a, e1, hV⟩ := hs
  obtain ⟨loc, wr, sy⟩ := e
  cases loc with
  | cell a' =>
    have e2 : x.loc = .cell a' := by cases wr <;> cases sy <;> simp [MemAct.ofEvent, MemAct.touch?] at hx <;> rw [← hx]
    rw [e2] at e1
    cases e1
    have h4 : a.block + 1 ≤ n := h4
    omega
  | obj r =>
    have e2 : x.loc = .obj r := by cases wr <;> cases sy <;> simp [MemAct.ofEvent, MemAct.touch?] at hx <;> rw [← hx]
    rw [e2] at e1
    cases e1
  | mark m => cases m <;> first | exact h3.elim | simp [MemAct.ofEvent, MemAct.touch?] at hx
  | _ => exact h3.elim
theorem Lone0.norel {n Wg : Nat} {t : Trace} (h : Lone0 n t) : NoRelease (sA Wg) t := by
  intro i hi
  obtain ⟨op, ho, e'⟩ := Option.map_eq_some_iff.1 hi
  obtain ⟨_, e, h2, h3, _⟩ := h.ops op (mem_of_getElem? ho)
  have e' : op.act = .mark (.release (sA Wg)) := e'
  rw [h2] at e'
  obtain ⟨loc, wr, sy⟩ := e
  cases loc with
  | mark m => cases m <;> first | exact h3.elim | simp [MemAct.ofEvent] at e'
  | obj r => cases wr <;> cases sy <;> simp [MemAct.ofEvent] at e'
  | _ => simp [MemAct.ofEvent] at e'

/-- ████ GOROUTINE 0 ALONE GOES AS THE LONE MACHINE OVER THE BARRED PROGRAM. ████ -/
theorem solo_goesW (hF : FenceB P F) (hB : Bodies P F) {r : Nat} {E : Frame → List Frame → World → Prop} {cs : List Frame} {fr : Frame} {up : List Frame} {w : World} (hg : GoesW (bar P F) r E fr up w) :
    ∀ (v : World) (t : Trace), Sib P (fun _ => False) w v → okFrame P fr → (∀ f ∈ up, okFrame P f) → Lone0 v.heap.size t →
      ∃ N fr' up' w' v' t', runNT P N (solo (runG fr (up ++ cs)) v) t = (.next (solo (runG fr' (up' ++ cs)) v'), t') ∧ E fr' up' w' ∧ Sib P (fun _ => False) w' v' ∧ (okFrame P fr' ∧ ∀ f ∈ up', okFrame P f) ∧ Lone0 v'.heap.size t' ∧ v'.os = v.os ∧ v'.output = v.output ∧ v'.tape = v.tape := by
  induction hg using GoesW.ind with
  | @fin fr up w h =>
    intro v t hS hf hu hL
    exact ⟨0, fr, up, w, v, t, rfl, h, hS, ⟨hf, hu⟩, hL, rfl, rfl, rfl⟩
  | @step fr up w h1 h2 ih =>
    intro v t hS hf hu hL
    obtain ⟨fr', up', w', v', es, τ, d', e1, e2, s1, s2, s3, s4, s5, s6, s7, _, _, s9, s10⟩ := goes_from hF hB h1 hS hf hu cs true
    have hst := (stepT_solo (P := P) (a := runG fr (up ++ cs)) (w := v) rfl).trans (runT_solo_go e2)
    have hz : v.heap.size ≤ v'.heap.size := by rw [hS.size, s1.size]; exact s9
    obtain ⟨N, fr2, up2, w2, v2, t2, k1, k2, k3, k4, k5, k6, k7, k8⟩ := ih τ d' fr' up' w' es e1 v' _ s1 s2 s3 (hL.app hz (fn := (runG fr (up ++ cs)).frame.fn) (pos := (runG fr (up ++ cs)).frame.place) s4 (fun e he => by rw [s1.size]; exact s10 e he))
    exact ⟨N + 1, fr2, up2, w2, v2, t2, by simp only [runNT, hst]; exact k1, k2, k3, k4, k5, k6.trans s5, k7.trans s6, k8.trans s7⟩

/-- AT THE go STATEMENT: the machine of one becomes a machine of two. -/
theorem fork_mid {Wg : Nat} {a a' child : Goroutine} {v v' : World} {t : Trace} (h0 : ∀ op ∈ t, op.g = 0) (hq : Quiet (Veil fun x => x = Wg) t) (hn : NoRelease (sA Wg) t) (hd : Deaf t 0 = 0) (hr : a.status = .running) (hs : stepG P true a v = .spawn a' child v' #[]) :
    ∃ t', runNT P 1 (solo a v) t = (.next (duo a' child v' none), t') ∧ Mid Wg t' 0 0 := by
  have hst := (stepT_solo (P := P) (a := a) (w := v) hr).trans (runT_solo_spawn hs)
  obtain ⟨k1, k2, k3, k4⟩ := TI.init (V := fun x => x = Wg) (ad := sA Wg) (x := { g := 0, fn := a.frame.fn, pos := a.frame.place, act := .go 1 }) (y := { g := 1, fn := child.frame.fn, pos := a.frame.place, act := .start }) h0 hq hn hd ⟨rfl, rfl⟩ ⟨rfl, rfl⟩
  refine ⟨(t.push { g := 0, fn := a.frame.fn, pos := a.frame.place, act := .go 1 }).push { g := 1, fn := child.frame.fn, pos := a.frame.place, act := .start }, ?_, k1, k2, k3 1 (Nat.le_refl _), fun j hj => k3 j (by omega), k4⟩
  simp only [runNT, hst]
  simp [MemOp.ofEvents]
  apply Array.toList_inj.1
  simp
end Go.Proofs.YtfnbcpeipoobkaaGreat
