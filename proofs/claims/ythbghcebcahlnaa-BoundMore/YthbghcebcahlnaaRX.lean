/- The machine of two: from the child's walk to the group on, and from the go statement on. -/
import Derived.Test.YthbghcebcahlnaaRW
set_option linter.unusedSectionVars false
namespace Go.Proofs.Ythbghcebcahlnaa
open Go Go.Conc
variable {P : Program} {F : Array Func} [Inhabited Junk]

theorem ops_ev1 {Wg d : Nat} {fn : FuncId} {pos : String} {es : Array Event} (h : Ev1 Wg d es) : ∀ op ∈ MemOp.ofEvents 1 fn pos es, OpOk (fun x => x = Wg) (sA Wg) 1 op := fun op hop => by
  obtain ⟨e, he, rfl⟩ := Go.Conc.mem_ofEvents hop
  obtain ⟨j, hj⟩ := Array.mem_iff_getElem?.1 he
  obtain ⟨h1, h2⟩ := h j e hj
  refine ⟨rfl, fun x hx => ?_, h1⟩
  have hx : (MemAct.ofEvent e).touch? = some x := hx
  rcases h2 with h2 | ⟨⟨a, wr, rfl, ha⟩, _⟩
  · rw [h2] at hx; cases hx
  · left
    cases wr <;> simp [MemAct.ofEvent, MemAct.touch?] at hx <;> subst hx <;> exact ⟨⟨a, rfl, ha⟩, by simp, by simp⟩
theorem rel_ev1 {Wg r : Nat} {t : Trace} (h : Rel (fun x => x = Wg) (sA Wg) t r) (fn : FuncId) (pos : String) {es : Array Event} (he : Ev1 Wg (Deaf t 1) es) : Rel (fun x => x = Wg) (sA Wg) (t ++ MemOp.ofEvents 1 fn pos es) r :=
  h.app1 fn pos es fun j e hj => (he j e hj).2
/-- The caller, running or blocked. -/
def CM (P : Program) (ty : TypeId) (Wg : Nat) (End : Goroutine → Prop) (n : Nat) (c : CS) (a : Goroutine) : Prop := (a.status = .running ∧ Cal P ty Wg End n c a) ∨ Blk P ty Wg End n c a
theorem cm_awake {ty : TypeId} {Wg : Nat} {End : Goroutine → Prop} {n : Nat} {c : CS} {a : Goroutine} (h : CM P ty Wg End n c a) : awake a := by
  rcases h with ⟨h, _⟩ | ⟨g, rfl, _⟩
  · exact awake_of (.inl h)
  · exact awake_of (.inr (.inl rfl))
theorem blk_again {g : Goroutine} (hs : g.status = .running) (ho : g.offers = none) (w : World) : ({ g with status := .blocked } : Goroutine).again w = g := by
  obtain ⟨fr, cs, stt, dy, off⟩ := g
  simp only at hs ho
  subst hs ho
  simp [Goroutine.again]
theorem cm_woken {ty : TypeId} {Wg : Nat} {End : Goroutine → Prop} {n : Nat} {c : CS} {a b b' : Goroutine} {w : World} (h : CM P ty Wg End n c a) : CM P ty Wg End n c (woken P b b' w a) := by
  rcases h with ⟨h1, h2⟩ | ⟨g, rfl, h1, h2, h3, h4⟩
  · rw [woken_run h1]; exact .inl ⟨h1, h2⟩
  · unfold woken
    split
    · rw [blk_again h1 h2]; exact .inl ⟨h1, h4⟩
    · exact .inr ⟨g, rfl, h1, h2, h3, h4⟩
theorem cm_free {ty : TypeId} {Wg : Nat} {End : Goroutine → Prop} {n : Nat} {c : CS} {a b b' : Goroutine} {w : World} (h : CM P ty Wg End n c a) (hm : mayWake P b = true) (hb : b'.status = .running) : Cal P ty Wg End n c (woken P b b' w a) := by
  rcases h with ⟨h1, h2⟩ | ⟨g, rfl, h1, h2, h3, h4⟩
  · rw [woken_run h1]; exact h2
  · have : woken P b b' w { g with status := .blocked } = g := by
      unfold woken
      rw [if_pos (by simp [hm, hb]), blk_again h1 h2]
    rw [this]
    exact h4
theorem fits1_0 {s : KS} {c : CS} {st sm : Int} (h : Fits1 s c st sm) : Fits0 c st sm := by
  obtain ⟨rfl, ⟨_, ⟨rfl, h1, h2⟩ | ⟨_, h1⟩⟩ | ⟨_, _, h1⟩ | ⟨_, _, h1⟩⟩ := h
  · exact .inl ⟨h1, rfl, .inr ⟨rfl, h2⟩⟩
  · exact .inr (.inl ⟨h1, .inl rfl⟩)
  · exact .inr (.inl ⟨h1, .inl rfl⟩)
  · exact .inr (.inl ⟨h1, .inl rfl⟩)
theorem fits1_not3 {s : KS} {c : CS} {st sm : Int} (h : Fits1 s c st sm) : c.p ≠ 3 := by
  obtain ⟨_, ⟨_, ⟨_, h1, _⟩ | ⟨_, h1⟩⟩ | ⟨_, _, h1⟩ | ⟨_, _, h1⟩⟩ := h <;> omega
theorem fits1_next {s : KS} {c c' : CS} {st sm st' sm' : Int} (h : Fits1 s c st sm) (hN : Next0 c st sm c' st' sm') : Fits1 s c' st' sm' := by
  obtain ⟨rfl, h⟩ := h
  rcases hN with x | x | x | x | x | x | x
  · obtain ⟨x1, x2, _, rfl, rfl, x3⟩ := x
    refine ⟨rfl, ?_⟩
    rcases h with ⟨h0, ⟨rfl, h1, h2⟩ | ⟨_, h1⟩⟩ | ⟨_, _, h1⟩ | ⟨_, _, h1⟩
    · exact .inl ⟨h0, .inl ⟨rfl, x2, x3 rfl⟩⟩
    all_goals (exfalso; omega)
  · obtain ⟨x1, x2, rfl, _, rfl, rfl⟩ := x
    refine ⟨rfl, ?_⟩
    rcases h with ⟨h0, ⟨_, h1, h2⟩ | ⟨_, h1⟩⟩ | ⟨_, _, h1⟩ | ⟨_, _, h1⟩
    · exact .inl ⟨h0, .inr ⟨rfl, x2⟩⟩
    all_goals (exfalso; omega)
  · obtain ⟨x1, _, rfl, _⟩ := x
    exfalso
    rcases h with ⟨h0, ⟨h, _⟩ | ⟨_, h1⟩⟩ | ⟨_, _, h1⟩ | ⟨_, _, h1⟩
    · cases h
    all_goals omega
  · obtain ⟨x1, x2, rfl, rfl⟩ := x
    refine ⟨rfl, ?_⟩
    rcases h with ⟨h0, ⟨_, h1, h2⟩ | ⟨h3, h1⟩⟩ | ⟨h0, h3, h1⟩ | ⟨h0, h3, h1⟩
    · exfalso; omega
    · exact .inl ⟨h0, .inr ⟨h3, x2⟩⟩
    · exact .inr (.inl ⟨h0, h3, x2⟩)
    · exact .inr (.inr ⟨h0, h3, x2⟩)
  · have := x.2.2.2.1
    cases this
  · exfalso
    have := x.1
    rcases h with ⟨h0, ⟨_, h1, h2⟩ | ⟨h3, h1⟩⟩ | ⟨h0, h3, h1⟩ | ⟨h0, h3, h1⟩ <;> omega
  · exfalso
    have := x.1
    rcases h with ⟨h0, ⟨_, h1, h2⟩ | ⟨h3, h1⟩⟩ | ⟨h0, h3, h1⟩ | ⟨h0, h3, h1⟩ <;> omega
theorem next_not3 {s : KS} {c c' : CS} {st sm st' sm' : Int} (h : Fits1 s c st sm) (hN : Next0 c st sm c' st' sm') : c'.p ≠ 3 := fits1_not3 (fits1_next h hN)

/-- THE CHILD WALKS TO THE GROUP AND DOES ITS ACTS. -/
theorem chi_run {ty : TypeId} {Wg : Nat} {End : Goroutine → Prop} {w v0 : World} : ∀ (n1 n0 : Nat) (a b : Goroutine) (v : World) (sl : Option (Nat × Nat)) (t : Trace) (s : KS) (c : CS) (st sm : Int), Chi P ty Wg n1 s b → CM P ty Wg End n0 c a → Mid Wg t c.d s.d → (1 ≤ s.p → ∃ r, Rel (fun x => x = Wg) (sA Wg) t r) → GrpAt ty Wg v st sm → Fits1 s c st sm → Sib P (fun x => x = Wg) w v → (v.os = v0.os ∧ v.output = v0.output ∧ v.tape = v0.tape) →
    ∃ N m t', runNT P N (duo a b v sl) t = (.next m, t') ∧ Joined P ty Wg End w v0 m t' := by
  intro n1
  induction n1 using Nat.strongRecOn with
  | ind n1 ih1 =>
    -- a step of the child's
    have child : ∀ (n0 : Nat) (a b : Goroutine) (v : World) (sl : Option (Nat × Nat)) (t : Trace) (s : KS) (c : CS) (st sm : Int), Chi P ty Wg n1 s b → CM P ty Wg End n0 c a → Mid Wg t c.d s.d → (1 ≤ s.p → ∃ r, Rel (fun x => x = Wg) (sA Wg) t r) → GrpAt ty Wg v st sm → Fits1 s c st sm → Sib P (fun x => x = Wg) w v → (v.os = v0.os ∧ v.output = v0.output ∧ v.tape = v0.tape) →
        ∃ x N m t', runT P (duo a b v sl) 1 = x ∧ (∃ m1 ops, x = (.next m1, ops) ∧ runNT P N m1 (t ++ ops) = (.next m, t')) ∧ Joined P ty Wg End w v0 m t' := by
      intro n0 a b v sl t s c st sm hK hC hMi hR hG hf hS ho
      obtain ⟨hrb, b', v', es, st', sm', hgo, hG', hS', ho', hor⟩ := chi_step hK hG hf hS
      have hrun := runT_duo1 (P := P) (a := a) (sl := sl) hgo
      have ho2 : v'.os = v0.os ∧ v'.output = v0.output ∧ v'.tape = v0.tape := ⟨ho'.1.trans ho.1, ho'.2.1.trans ho.2.1, ho'.2.2.trans ho.2.2⟩
      rcases hor with ⟨n', s', hn', hK', hf', hd, hev⟩ | ⟨hp1, ⟨q, hq⟩, hev, hor⟩
      · have hMi' : Mid Wg (t ++ MemOp.ofEvents 1 b.frame.fn b.frame.place es) c.d s'.d ∧ (1 ≤ s'.p → ∃ r, Rel (fun x => x = Wg) (sA Wg) (t ++ MemOp.ofEvents 1 b.frame.fn b.frame.place es) r) := by
          rcases hev with ⟨_, h2, rfl⟩ | ⟨h1, h0, h2, rfl⟩ | ⟨h1, h2, he⟩
          · rw [of_none]
            refine ⟨?_, fun h => by omega⟩
            have hd : s.d = s'.d := hd
            rw [← hd]; exact hMi
          · refine ⟨hMi.own1 (fun op hop => ?_) hd, fun _ => ⟨t.size, Rel.new (by rw [hMi.deaf1]; exact h0) _ _⟩⟩
            obtain ⟨e, he, rfl⟩ := Go.Conc.mem_ofEvents hop
            simp at he
            subst he
            exact ⟨rfl, fun x hx => by simp [mkE, MemAct.ofEvent, MemAct.touch?] at hx, by simp [mkE, MemAct.ofEvent]⟩
          · obtain ⟨r, hr⟩ := hR h1
            exact ⟨hMi.own1 (ops_ev1 he) hd, fun _ => ⟨r, rel_ev1 hr _ _ (by rw [hMi.deaf1]; exact he)⟩⟩
        obtain ⟨N, m, t', hr', hJ⟩ := ih1 n' hn' n0 (woken P b b' v' a) b' v' sl _ s' c st' sm' hK' (cm_woken hC) hMi'.1 hMi'.2 hG' hf' hS' ho2
        exact ⟨_, N, m, t', rfl, ⟨_, _, hrun, hr'⟩, hJ⟩
      · obtain ⟨r, hr⟩ := hR hp1
        have hMi' : Mid Wg (t ++ MemOp.ofEvents 1 b.frame.fn b.frame.place es) c.d (deafBehind s.d es) := hMi.own1 (ops_ev1 hev) rfl
        have hR' := rel_ev1 hr b.frame.fn b.frame.place (by rw [hMi.deaf1]; exact hev)
        rcases hor with ⟨rfl, rfl, hc⟩ | ⟨rfl, rfl, hc, hmw, hst⟩
        · have hC' : Cal P ty Wg End n0 c a ∧ a.status = .running := by
            rcases hC with x | ⟨g, _, _, _, h3, _⟩
            · exact ⟨x.2, x.1⟩
            · exfalso; omega
          rw [woken_run hC'.2] at hrun
          obtain ⟨N, m, t', hr', hJ⟩ := quits_run (w := w) (v0 := v0) _ n0 q a b' v' sl _ c 0 0 _ r (Nat.le_refl _) (by omega) hC'.1 hq hMi' hR' hG' (.inl ⟨hc, rfl, rfl⟩) hS' ho2
          exact ⟨_, N, m, t', rfl, ⟨_, _, hrun, hr'⟩, hJ⟩
        · obtain ⟨N, m, t', hr', hJ⟩ := quits_run (w := w) (v0 := v0) _ n0 q (woken P b b' v' a) b' v' sl _ c 0 1 _ r (Nat.le_refl _) (by omega) (cm_free hC hmw hst) hq hMi' hR' hG' (.inr (.inl ⟨hc, rfl, rfl⟩)) hS' ho2
          exact ⟨_, N, m, t', rfl, ⟨_, _, hrun, hr'⟩, hJ⟩
    intro n0
    induction n0 using Nat.strongRecOn with
    | ind n0 ih0 =>
      -- the caller is blocked
      have blocked : ∀ (n : Nat) (a b : Goroutine) (v : World) (sl : Option (Nat × Nat)) (t : Trace) (s : KS) (c : CS) (st sm : Int), Chi P ty Wg n1 s b → Blk P ty Wg End n c a → Mid Wg t c.d s.d → (1 ≤ s.p → ∃ r, Rel (fun x => x = Wg) (sA Wg) t r) → GrpAt ty Wg v st sm → Fits1 s c st sm → Sib P (fun x => x = Wg) w v → (v.os = v0.os ∧ v.output = v0.output ∧ v.tape = v0.tape) →
          ∃ N m t', runNT P N (duo a b v sl) t = (.next m, t') ∧ Joined P ty Wg End w v0 m t' := by
        intro n a b v sl t s c st sm hK hC hMi hR hG hf hS ho
        have hrb := (chi_step hK hG hf hS).1
        obtain ⟨d, sl', hmv⟩ := duo_pick (P := P) (w := v) (sl := sl) (cm_awake (.inr hC)) (awake_of (.inl hrb)) (.inr hrb)
        rcases hmv with ⟨hra, _⟩ | ⟨_, hst⟩
        · obtain ⟨g, rfl, _⟩ := hC
          cases hra
        · obtain ⟨x, N, m, t', hx, ⟨m1, ops, e1, hr'⟩, hJ⟩ := child n a b (v.at d) sl' t s c st sm hK (.inr hC) hMi hR hG hf (sib_at hS d) ho
          refine ⟨N + 1, m, t', ?_, hJ⟩
          simp only [runNT, hst, hx, e1]
          exact hr'
      intro a b v sl t s c st sm hK hC hMi hR hG hf hS ho
      rcases hC with ⟨hra, hC⟩ | hC
      · have hrb := (chi_step hK hG hf hS).1
        obtain ⟨d, sl', hmv⟩ := duo_pick (P := P) (w := v) (sl := sl) (awake_of (.inl hra)) (awake_of (.inl hrb)) (.inr hrb)
        rcases hmv with ⟨_, hst⟩ | ⟨_, hst⟩
        · obtain ⟨_, a', v', es, c', st', sm', hgo, hor, hG', hS', hN, ho', hd, hev, _⟩ := cal_step hC (fits1_not3 hf) (grp_at hG d) (fits1_0 hf) (sib_at hS d)
          have hrun := runT_duo0 (P := P) (b := b) (sl := sl') hgo
          rw [woken_run hrb] at hrun
          have ho2 : v'.os = v0.os ∧ v'.output = v0.output ∧ v'.tape = v0.tape := ⟨ho'.1.trans ho.1, ho'.2.1.trans ho.2.1, ho'.2.2.trans ho.2.2⟩
          have hf' := fits1_next hf hN
          have hMi' := hMi.own0 (fn := a.frame.fn) (pos := a.frame.place) hev hd
          have hR' : 1 ≤ s.p → ∃ r, Rel (fun x => x = Wg) (sA Wg) (t ++ MemOp.ofEvents 0 a.frame.fn a.frame.place es) r := fun h => by
            obtain ⟨r, hr⟩ := hR h
            exact ⟨r, hr.app0 of_g⟩
          rcases hor with ⟨hB, _⟩ | ⟨n', hn', hC'⟩
          · obtain ⟨N, m, t', hr', hJ⟩ := blocked n0 a' b v' sl' _ s c' st' sm' hK hB hMi' hR' hG' hf' hS' ho2
            refine ⟨N + 1, m, t', ?_, hJ⟩
            simp only [runNT, hst, hrun]
            exact hr'
          · have hra' := (cal_step hC' (fits1_not3 hf') hG' (fits1_0 hf') hS').1
            obtain ⟨N, m, t', hr', hJ⟩ := ih0 n' hn' a' b v' sl' _ s c' st' sm' hK (.inl ⟨hra', hC'⟩) hMi' hR' hG' hf' hS' ho2
            refine ⟨N + 1, m, t', ?_, hJ⟩
            simp only [runNT, hst, hrun]
            exact hr'
        · obtain ⟨x, N, m, t', hx, ⟨m1, ops, e1, hr'⟩, hJ⟩ := child n0 a b (v.at d) sl' t s c st sm hK (.inl ⟨hra, hC⟩) hMi hR hG hf (sib_at hS d) ho
          refine ⟨N + 1, m, t', ?_, hJ⟩
          simp only [runNT, hst, hx, e1]
          exact hr'
      · exact blocked n0 a b v sl t s c st sm hK hC hMi hR hG hf hS ho
end Go.Proofs.Ythbghcebcahlnaa
