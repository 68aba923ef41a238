/- Goroutine 0 alone, from the callers' call to the go statement. -/
import Derived.Test.YthbghcebcahlnaaSC
import Derived.Test.YthbghcebcahlnaaSI
import Derived.Conc.WgGenLoneE
set_option linter.unusedSectionVars false
namespace Go.Proofs.Ythbghcebcahlnaa
open Go Go.Conc
open Go.ConcR (AtMkS Deaf_keep)

/-- What goroutine 0 may list while it makes the group ready. -/
def EvW (Wg : Nat) (e : Event) : Prop := (∀ x, (MemAct.ofEvent e).touch? = some x → Veil (fun x => x = Wg) x.loc → x.kind ≠ .plain) ∧ MemAct.ofEvent e ≠ .mark (.release (sA Wg)) ∧ e.loc ≠ .mark .disable ∧ e.loc ≠ .mark .enable
theorem evW_cell {Wg : Nat} (a : Addr) (x s : Bool) (h : a.block ≠ Wg) : EvW Wg ⟨.cell a, x, s⟩ := by
  refine ⟨fun y hy hs => ?_, by cases x <;> cases s <;> simp [MemAct.ofEvent], by simp, by simp⟩
  exfalso
  obtain ⟨b, e1, hb⟩ := hs
  have : y.loc = .cell a := by cases x <;> cases s <;> simp [MemAct.ofEvent, MemAct.touch?] at hy <;> rw [← hy]
  rw [this] at e1
  cases e1
  exact h hb
theorem evW_atomic {Wg : Nat} (a : Addr) (x : Bool) : EvW Wg ⟨.cell a, x, true⟩ := by
  refine ⟨fun y hy _ => ?_, by cases x <;> simp [MemAct.ofEvent], by simp, by simp⟩
  cases x <;> simp [MemAct.ofEvent, MemAct.touch?] at hy <;> subst hy <;> simp
theorem evW_said {Wg : Nat} (a : Addr) : EvW Wg ⟨.mark (.read a), false, true⟩ := by
  refine ⟨fun y hy _ => ?_, by simp [MemAct.ofEvent], by simp, by simp⟩
  simp [MemAct.ofEvent, MemAct.touch?] at hy
  subst hy
  simp
variable {P : Program} {F : Array Func} [Inhabited Junk]
/-- The trace of goroutine 0 alone. -/
structure St0 (Wg : Nat) (t : Trace) (d : Nat) : Prop where
  g0 : ∀ op ∈ t, op.g = 0
  quiet : Quiet (Veil fun x => x = Wg) t
  norel : NoRelease (sA Wg) t
  deaf : Deaf t 0 = d
theorem Lone0.st {n Wg : Nat} {t : Trace} (h : Lone0 n t) (hW : n ≤ Wg) : St0 Wg t 0 := ⟨fun op ho => (h.ops op ho).1, h.quiet hW, h.norel, h.deaf⟩
theorem St0.app {Wg d : Nat} {t u : Trace} (h : St0 Wg t d) (hu : ∀ op ∈ u, op.g = 0 ∧ ∃ e, EvW Wg e ∧ op.act = .ofEvent e) : St0 Wg (t ++ u) d := by
  refine ⟨fun op ho => (Array.mem_append.1 ho).elim (h.g0 op) fun x => (hu op x).1, h.quiet.app fun op ho x hx hs => ?_, h.norel.app fun op ho => ?_, ?_⟩
  · obtain ⟨h0, e, he, ha⟩ := hu op ho
    rw [ha] at hx
    exact ⟨he.1 x hx hs, fun _ => h0⟩
  · obtain ⟨_, e, he, ha⟩ := hu op ho
    rw [ha]
    exact he.2.1
  · rw [Deaf_keep t 0 _ fun op ho => ?_, h.deaf]
    obtain ⟨_, e, he, ha⟩ := hu op ho
    rw [ha]
    obtain ⟨loc, wr, sy⟩ := e
    obtain ⟨_, _, h3, h4⟩ := he
    cases loc with
    | mark m => exact ⟨fun e' => h3 (by cases e'; rfl), fun e' => h4 (by cases e'; rfl)⟩
    | _ => cases wr <;> cases sy <;> simp [MemAct.ofEvent]
theorem St0.mark {Wg d d' : Nat} {t : Trace} (h : St0 Wg t d) (fn : FuncId) (pos : String) (m : Mark) (hm : (MemAct.mark m).touch? = none) (hr : m ≠ .release (sA Wg)) (hd : deafBehind d #[⟨.mark m, false, true⟩] = d') : St0 Wg (t ++ MemOp.ofEvents 0 fn pos #[⟨.mark m, false, true⟩]) d' := by
  refine ⟨fun op ho => (Array.mem_append.1 ho).elim (h.g0 op) fun x => of_g op x, h.quiet.app fun op ho x hx hs => ?_, h.norel.app fun op ho => ?_, by rw [Deaf_own, h.deaf, hd]⟩
  · obtain ⟨e, he, rfl⟩ := Go.Conc.mem_ofEvents ho
    simp at he
    subst he
    have hx : (MemAct.mark m).touch? = some x := hx
    rw [hm] at hx
    cases hx
  · obtain ⟨e, he, rfl⟩ := Go.Conc.mem_ofEvents ho
    simp at he
    subst he
    show MemAct.mark m ≠ .mark (.release (sA Wg))
    simpa using hr

/-- Goroutine 0 stands at the go statement. -/
def AtGoW (P : Program) (K : Goroutine → Goroutine → World → Prop) (a : Goroutine) (w : World) : Prop := a.status = .running ∧ ∃ a' child, stepG P true a w = .spawn a' child w #[] ∧ K a' child w
/-- ████ FROM THE CALL TO THE MACHINE OF TWO. ████ -/
theorem start_run {Wg : Nat} {K : Goroutine → Goroutine → World → Prop} {a : Goroutine} {v : World} {t : Trace} (hT : St0 Wg t 0)
    (h : ∃ n, Goes P true Eq (DE (EvW Wg)) (AtMkS P .disable fun a w => ∃ n, Goes P true Eq (DE (EvW Wg)) (AtMkS P .enable fun a w => ∃ n, Goes P true Eq (DE (EvW Wg)) (AtGoW P K) n a w) n a w) n a v) :
    ∃ N a' child v' t', runNT P N (solo a v) t = (.next (duo a' child v' none), t') ∧ Mid Wg t' 0 0 ∧ K a' child v' := by
  obtain ⟨n0, h0⟩ := h
  obtain ⟨k0, a0, w0, u0, r0, ⟨s0, a0', g0, n1, h1⟩, o0⟩ := solo_goesE t h0
  have st0 := (stepT_solo (P := P) (w := w0) s0).trans (runT_solo_go g0)
  obtain ⟨k1, a1, w1, u1, r1, ⟨s1, a1', g1, n2, h2⟩, o1⟩ := solo_goesE (t ++ u0 ++ MemOp.ofEvents 0 a0.frame.fn a0.frame.place #[⟨.mark .disable, false, true⟩]) h1
  have st1 := (stepT_solo (P := P) (w := w1) s1).trans (runT_solo_go g1)
  obtain ⟨k2, a2, w2, u2, r2, ⟨s2, a', child, hsp, hK⟩, o2⟩ := solo_goesE (t ++ u0 ++ MemOp.ofEvents 0 a0.frame.fn a0.frame.place #[⟨.mark .disable, false, true⟩] ++ u1 ++ MemOp.ofEvents 0 a1.frame.fn a1.frame.place #[⟨.mark .enable, false, true⟩]) h2
  have t0 := hT.app o0
  have t1 := t0.mark (d' := 1) a0.frame.fn a0.frame.place .disable rfl (by simp) rfl
  have t2 := t1.app o1
  have t3 := t2.mark (d' := 0) a1.frame.fn a1.frame.place .enable rfl (by simp) rfl
  have t4 := t3.app o2
  obtain ⟨t', hr, hM⟩ := fork_mid (P := P) t4.g0 t4.quiet t4.norel t4.deaf s2 hsp
  have q0 : runNT P (k0 + 1) (solo a v) t = (.next (solo a0' w0), t ++ u0 ++ MemOp.ofEvents 0 a0.frame.fn a0.frame.place #[⟨.mark .disable, false, true⟩]) := by rw [runNT_add, r0]; simp only [runNT, st0]; rfl
  have q1 : runNT P (k1 + 1) (solo a0' w0) (t ++ u0 ++ MemOp.ofEvents 0 a0.frame.fn a0.frame.place #[⟨.mark .disable, false, true⟩]) = (.next (solo a1' w1), t ++ u0 ++ MemOp.ofEvents 0 a0.frame.fn a0.frame.place #[⟨.mark .disable, false, true⟩] ++ u1 ++ MemOp.ofEvents 0 a1.frame.fn a1.frame.place #[⟨.mark .enable, false, true⟩]) := by rw [runNT_add, r1]; simp only [runNT, st1]; rfl
  refine ⟨k0 + 1 + (k1 + 1) + (k2 + 1), a', child, w2, t', ?_, hM, hK⟩
  rw [runNT_add, runNT_add, q0]
  simp only [q1]
  rw [runNT_add, r2]
  exact hr

/-- Runs behind each other. -/
theorem run_then {N M : Nat} {m m1 : Machine} {t t1 : Trace} {r : Stepped × Trace} (h1 : runNT P N m t = (.next m1, t1)) (h2 : runNT P M m1 t1 = r) : runNT P (N + M) m t = r := by
  rw [runNT_add, h1]
  exact h2
end Go.Proofs.Ythbghcebcahlnaa
