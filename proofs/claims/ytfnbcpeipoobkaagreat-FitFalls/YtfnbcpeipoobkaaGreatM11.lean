/- The child's first steps, ahead of its work. Goroutine 0 alone, from the callers' call to the go statement. The library's wait group, as this program has it. From the kit's walks to the scripts of the caller and the child. -/
import Derived.Test.YtfnbcpeipoobkaaGreatM10
import Derived.Conc.WgGenLoneE
import Derived.Test.YtfnbcpeipoobkaaGreatChecked
import Derived.KernelRfl
import Derived.Conc.WgGenWait
import Derived.Conc.WgGenDone
set_option linter.unusedSectionVars false
namespace Go.Proofs.YtfnbcpeipoobkaaGreat
open Go Go.Conc
variable {P : Program} {F : Array Func} [Inhabited Junk]

/-- A child that comes to T within so many steps that nobody sees. -/
def Idle (P : Program) (T : Goroutine) : Nat → Goroutine → Prop
  | 0, g => g = T
  | n + 1, g => g.status = .running ∧ ∃ g', (∀ w, stepG P false g w = .go g' w #[]) ∧ Idle P T n g'

/-- ████ FROM THE go STATEMENT ON: the child's first steps, its work, the join. ████ -/
theorem idle_run (hF : FenceB P F) (hB : Bodies P F) {ty : TypeId} {Wg : Nat} {End : Goroutine → Prop} {v0 : World} {r : Nat} {E : Frame → List Frame → World → Prop} {cs1 : List Frame} (hE : ∀ fr up w, E fr up w → ∃ n1, Chi P ty Wg n1 ⟨0, 0⟩ (runG fr (up ++ cs1)))
    {fr : Frame} {up : List Frame} {w : World} (hg : GoesW (bar P F) r E fr up w) (hf1 : okFrame P fr) (hu : ∀ f ∈ up, okFrame P f) : ∀ (k : Nat) (b : Goroutine), Idle P (runG fr (up ++ cs1)) k b → ∀ (n0 : Nat) (a : Goroutine) (v : World) (sl : Option (Nat × Nat)) (t : Trace) (c : CS) (st sm : Int), CM P ty Wg End n0 c a → Mid Wg t c.d 0 → GrpAt ty Wg v st sm → Fits1 ⟨0, 0⟩ c st sm → Sib P (fun x => x = Wg) w v → (v.os = v0.os ∧ v.output = v0.output ∧ v.tape = v0.tape) →
    ∃ N m t', runNT P N (duo a b v sl) t = (.next m, t') ∧ ∃ fr' up' w', E fr' up' w' ∧ Joined P ty Wg End w' v0 m t' := by
  intro k
  induction k with
  | zero =>
    intro b hb n0 a v sl t c st sm hC hMi hG hf hS ho
    obtain rfl : b = _ := hb
    exact work_run hF hB hE hg n0 a v sl t c st sm hC hMi hG hf hS hf1 hu ho
  | succ k ih =>
    intro b hb
    obtain ⟨hrb, b', hst', hb'⟩ := hb
    -- a step of the child's
    have child : ∀ (n0 : Nat) (a : Goroutine) (v : World) (sl : Option (Nat × Nat)) (t : Trace) (c : CS) (st sm : Int), CM P ty Wg End n0 c a → Mid Wg t c.d 0 → GrpAt ty Wg v st sm → Fits1 ⟨0, 0⟩ c st sm → Sib P (fun x => x = Wg) w v → (v.os = v0.os ∧ v.output = v0.output ∧ v.tape = v0.tape) →
        ∃ N m t' m1 ops, runT P (duo a b v sl) 1 = (.next m1, ops) ∧ runNT P N m1 (t ++ ops) = (.next m, t') ∧ ∃ fr' up' w', E fr' up' w' ∧ Joined P ty Wg End w' v0 m t' := by
      intro n0 a v sl t c st sm hC hMi hG hf hS ho
      have hrun := runT_duo1 (P := P) (a := a) (sl := sl) (hst' v)
      obtain ⟨N, m, t', hr, hJ⟩ := ih b' hb' n0 (woken P b b' v a) v sl t c st sm (cm_woken hC) hMi hG hf hS ho
      refine ⟨N, m, t', _, _, hrun, ?_, hJ⟩
      rw [of_none]
      exact hr
    intro n0
    induction n0 using Nat.strongRecOn with
    | ind n0 ih0 =>
      have blocked : ∀ (n : Nat) (a : Goroutine) (v : World) (sl : Option (Nat × Nat)) (t : Trace) (c : CS) (st sm : Int), Blk P ty Wg End n c a → Mid Wg t c.d 0 → GrpAt ty Wg v st sm → Fits1 ⟨0, 0⟩ c st sm → Sib P (fun x => x = Wg) w v → (v.os = v0.os ∧ v.output = v0.output ∧ v.tape = v0.tape) →
          ∃ N m t', runNT P N (duo a b v sl) t = (.next m, t') ∧ ∃ fr' up' w', E fr' up' w' ∧ Joined P ty Wg End w' v0 m t' := by
        intro n a v sl t c st sm hC hMi hG hf hS ho
        obtain ⟨d, sl', hmv⟩ := duo_pick (P := P) (w := v) (sl := sl) (cm_awake (.inr hC)) (awake_of (.inl hrb)) (.inr hrb)
        rcases hmv with ⟨hra, _⟩ | ⟨_, hst⟩
        · obtain ⟨g, rfl, _⟩ := hC
          cases hra
        · obtain ⟨N, m, t', m1, ops, e1, hr', hJ⟩ := child n a (v.at d) sl' t c st sm (.inr hC) hMi hG hf (sib_at hS d) ho
          refine ⟨N + 1, m, t', ?_, hJ⟩
          simp only [runNT, hst, e1]
          exact hr'
      intro a v sl t c st sm hC hMi hG hf hS ho
      rcases hC with ⟨hra, hC⟩ | hC
      · obtain ⟨d, sl', hmv⟩ := duo_pick (P := P) (w := v) (sl := sl) (awake_of (.inl hra)) (awake_of (.inl hrb)) (.inr hrb)
        rcases hmv with ⟨_, hst⟩ | ⟨_, hst⟩
        · obtain ⟨_, a', v', es, c', st', sm', hgo, hor, hG', hS', hN, ho', hd, hev, _⟩ := cal_step hC (fits1_not3 hf) (grp_at hG d) (fits1_0 hf) (sib_at hS d)
          have hrun := runT_duo0 (P := P) (b := b) (sl := sl') hgo
          rw [woken_run hrb] at hrun
          have ho2 : v'.os = v0.os ∧ v'.output = v0.output ∧ v'.tape = v0.tape := ⟨ho'.1.trans ho.1, ho'.2.1.trans ho.2.1, ho'.2.2.trans ho.2.2⟩
          have hf' := fits1_next hf hN
          have hMi' := hMi.own0 (fn := a.frame.fn) (pos := a.frame.place) hev hd
          rcases hor with ⟨hB, _⟩ | ⟨n', hn', hC'⟩
          · obtain ⟨N, m, t', hr', hJ⟩ := blocked n0 a' v' sl' _ c' st' sm' hB hMi' hG' hf' hS' ho2
            refine ⟨N + 1, m, t', ?_, hJ⟩
            simp only [runNT, hst, hrun]
            exact hr'
          · have hra' := (cal_step hC' (fits1_not3 hf') hG' (fits1_0 hf') hS').1
            obtain ⟨N, m, t', hr', hJ⟩ := ih0 n' hn' a' v' sl' _ c' st' sm' (.inl ⟨hra', hC'⟩) hMi' hG' hf' hS' ho2
            refine ⟨N + 1, m, t', ?_, hJ⟩
            simp only [runNT, hst, hrun]
            exact hr'
        · obtain ⟨N, m, t', m1, ops, e1, hr', hJ⟩ := child n0 a (v.at d) sl' t c st sm (.inl ⟨hra, hC⟩) hMi hG hf (sib_at hS d) ho
          refine ⟨N + 1, m, t', ?_, hJ⟩
          simp only [runNT, hst, e1]
          exact hr'
      · exact blocked n0 a v sl t c st sm hC hMi hG hf hS ho
end Go.Proofs.YtfnbcpeipoobkaaGreat

set_option linter.unusedSectionVars false
namespace Go.Proofs.YtfnbcpeipoobkaaGreat
open Go Go.Conc
open Go.ConcR (AtMkS Deaf_keep)

/-- What goroutine 0 may list while it makes the group ready. -/
def EvW (Wg : Nat) (e : Event) : Prop := (∀ x, (MemAct.ofEvent e).touch? = some x → Veil (fun x => x = Wg) x.loc → x.kind ≠ .plain) ∧ MemAct.ofEvent e ≠ .mark (.release (sA Wg)) ∧ e.loc ≠ .mark .disable ∧ e.loc ≠ .mark .enable
theorem evW_cell {Wg : Nat} (a : Addr) (x s : Bool) (h : a.block ≠ Wg) : EvW Wg ⟨.cell a, x, s⟩ := by
  refine ⟨fun y hy hs => ?_, by cases x <;> cases s <;> simp [MemAct.ofEvent], by simp, by simp⟩
  exfalso
  obtain ⟨b, e1, hb⟩ := hs
  have : y.loc = .cell a := by cases x <;> cases s <;> simp [MemAct.ofEvent, MemAct.touch?] at hy <;> rw [← hy]
  rw [this] at e1
  cases e1
  exact h hb
theorem evW_atomic {Wg : Nat} (a : Addr) (x : Bool) : EvW Wg ⟨.cell a, x, true⟩ := by
  refine ⟨fun y hy _ => ?_, by cases x <;> simp [MemAct.ofEvent], by simp, by simp⟩
  cases x <;> simp [MemAct.ofEvent, MemAct.touch?] at hy <;> subst hy <;> simp
theorem evW_said {Wg : Nat} (a : Addr) : EvW Wg ⟨.mark (.read a), false, true⟩ := by
  refine ⟨fun y hy _ => ?_, by simp [MemAct.ofEvent], by simp, by simp⟩
  simp [MemAct.ofEvent, MemAct.touch?] at hy
  subst hy
  simp
variable {P : Program} {F : Array Func} [Inhabited Junk]
/-- The trace of goroutine 0 alone. -/
structure St0 (Wg : Nat) (t : Trace) (d : Nat) : Prop where
  g0 : ∀ op ∈ t, op.g = 0
  quiet : Quiet (Veil fun x => x = Wg) t
  norel : NoRelease (sA Wg) t
  deaf : Deaf t 0 = d
theorem Lone0.st {n Wg : Nat} {t : Trace} (h : Lone0 n t) (hW : n ≤ Wg) : St0 Wg t 0 := ⟨fun op ho => (h.ops op ho).1, h.quiet hW, h.norel, h.deaf⟩
theorem St0.app {Wg d : Nat} {t u : Trace} (h : St0 Wg t d) (hu : ∀ op ∈ u, op.g = 0 ∧ ∃ e, EvW Wg e ∧ op.act = .ofEvent e) : St0 Wg (t ++ u) d := by
  refine ⟨fun op ho => (Array.mem_append.1 ho).elim (h.g0 op) fun x => (hu op x).1, h.quiet.app fun op ho x hx hs => ?_, h.norel.app fun op ho => ?_, ?_⟩
  · obtain ⟨h0, e, he, ha⟩ := hu op ho
    rw [ha] at hx
    exact ⟨he.1 x hx hs, fun _ => h0⟩
  · obtain ⟨_, e, he, ha⟩ := hu op ho
    rw [ha]
    exact he.2.1
  · rw [Deaf_keep t 0 _ fun op ho => ?_, h.deaf]
    obtain ⟨_, e, he, ha⟩ := hu op ho
    rw [ha]
    obtain ⟨loc, wr, sy⟩ := e
    obtain ⟨_, _, h3, h4⟩ := he
    cases loc with
    | mark m => exact ⟨fun e' => h3 (by cases e'; rfl), fun e' => h4 (by cases e'; rfl)⟩
    | _ => cases wr <;> cases sy <;> simp [MemAct.ofEvent]
theorem St0.mark {Wg d d' : Nat} {t : Trace} (h : St0 Wg t d) (fn : FuncId) (pos : String) (m : Mark) (hm : (MemAct.mark m).touch? = none) (hr : m ≠ .release (sA Wg)) (hd : deafBehind d #[⟨.mark m, false, true⟩] = d') : St0 Wg (t ++ MemOp.ofEvents 0 fn pos #[⟨.mark m, false, true⟩]) d' := by
  refine ⟨fun op ho => (Array.mem_append.1 ho).elim (h.g0 op) fun x => of_g op x, h.quiet.app fun op ho x hx hs => ?_, h.norel.app fun op ho => ?_, by rw [Deaf_own, h.deaf, hd]⟩
  · obtain ⟨e, he, rfl⟩ := Go.Conc.mem_ofEvents ho
    simp at he
    subst he
    have hx : (MemAct.mark m).touch? = some x := hx
    rw [hm] at hx
    cases hx
  · obtain ⟨e, he, rfl⟩ := Go.Conc.mem_ofEvents ho
    simp at he
    subst he
    show MemAct.mark m ≠ .mark (.release (sA Wg))
    simpa using hr

/-- Goroutine 0 stands at the go statement. -/
def AtGoW (P : Program) (K : Goroutine → Goroutine → World → Prop) (a : Goroutine) (w : World) : Prop := a.status = .running ∧ ∃ a' child, stepG P true a w = .spawn a' child w #[] ∧ K a' child w
/-- ████ FROM THE CALL TO THE MACHINE OF TWO. ████ -/
theorem start_run {Wg : Nat} {K : Goroutine → Goroutine → World → Prop} {a : Goroutine} {v : World} {t : Trace} (hT : St0 Wg t 0)
    (h : ∃ n, Goes P true Eq (DE (EvW Wg)) (AtMkS P .disable fun a w => ∃ n, Goes P true Eq (DE (EvW Wg)) (AtMkS P .enable fun a w => ∃ n, Goes P true Eq (DE (EvW Wg)) (AtGoW P K) n a w) n a w) n a v) :
    ∃ N a' child v' t', runNT P N (solo a v) t = (.next (duo a' child v' none), t') ∧ Mid Wg t' 0 0 ∧ K a' child v' := by
  obtain ⟨n0, h0⟩ := h
  obtain ⟨k0, a0, w0, u0, r0, ⟨s0, a0', g0, n1, h1⟩, o0⟩ := solo_goesE t h0
  have st0 := (stepT_solo (P := P) (w := w0) s0).trans (runT_solo_go g0)
  obtain ⟨k1, a1, w1, u1, r1, ⟨s1, a1', g1, n2, h2⟩, o1⟩ := solo_goesE (t ++ u0 ++ MemOp.ofEvents 0 a0.frame.fn a0.frame.place #[⟨.mark .disable, false, true⟩]) h1
  have st1 := (stepT_solo (P := P) (w := w1) s1).trans (runT_solo_go g1)
  obtain ⟨k2, a2, w2, u2, r2, ⟨s2, a', child, hsp, hK⟩, o2⟩ := solo_goesE (t ++ u0 ++ MemOp.ofEvents 0 a0.frame.fn a0.frame.place #[⟨.mark .disable, false, true⟩] ++ u1 ++ MemOp.ofEvents 0 a1.frame.fn a1.frame.place #[⟨.mark .enable, false, true⟩]) h2
  have t0 := hT.app o0
  have t1 := t0.mark (d' := 1) a0.frame.fn a0.frame.place .disable rfl (by simp) rfl
  have t2 := t1.app o1
  have t3 := t2.mark (d' := 0) a1.frame.fn a1.frame.place .enable rfl (by simp) rfl
  have t4 := t3.app o2
  obtain ⟨t', hr, hM⟩ := fork_mid (P := P) t4.g0 t4.quiet t4.norel t4.deaf s2 hsp
  have q0 : runNT P (k0 + 1) (solo a v) t = (.next (solo a0' w0), t ++ u0 ++ MemOp.ofEvents 0 a0.frame.fn a0.frame.place #[⟨.mark .disable, false, true⟩]) := by rw [runNT_add, r0]; simp only [runNT, st0]; rfl
  have q1 : runNT P (k1 + 1) (solo a0' w0) (t ++ u0 ++ MemOp.ofEvents 0 a0.frame.fn a0.frame.place #[⟨.mark .disable, false, true⟩]) = (.next (solo a1' w1), t ++ u0 ++ MemOp.ofEvents 0 a0.frame.fn a0.frame.place #[⟨.mark .disable, false, true⟩] ++ u1 ++ MemOp.ofEvents 0 a1.frame.fn a1.frame.place #[⟨.mark .enable, false, true⟩]) := by rw [runNT_add, r1]; simp only [runNT, st1]; rfl
  refine ⟨k0 + 1 + (k1 + 1) + (k2 + 1), a', child, w2, t', ?_, hM, hK⟩
  rw [runNT_add, runNT_add, q0]
  simp only [q1]
  rw [runNT_add, r2]
  exact hr

/-- Runs behind each other. -/
theorem run_then {N M : Nat} {m m1 : Machine} {t t1 : Trace} {r : Stepped × Trace} (h1 : runNT P N m t = (.next m1, t1)) (h2 : runNT P M m1 t1 = r) : runNT P (N + M) m t = r := by
  rw [runNT_add, h1]
  exact h2
end Go.Proofs.YtfnbcpeipoobkaaGreat

namespace Go.Proofs.YtfnbcpeipoobkaaGreat
open Go Go.Conc.Lib
abbrev link : WgLink := { add := 22, done := 24, wait := 26, relMerge := 40, disable := 41, enable := 42, inBubble := 43, associate := 44, fatal := 45, uOr := 46, uAdd := 47, raceRead := 48, uLoad := 49, uStore := 50, disassociate := 51, semrelease := 52, acquire := 55, isAssociated := 56, uCas := 57, raceWrite := 58, semacquire := 59, orU64 := 77, addU64 := 78, loadU64 := 79, storeU64 := 80, casU64 := 84, tWgP := 95, tUP := 97, tAssoc := 98, tWg := 73, tAU := 70, tU64 := 68, tUint := 102, tU32 := 71, tPU32 := 103, tPAU := 133, tPU64 := 135, tNoCopy := 67, tANoCopy := 61, tAlign64 := 62 }
set_option maxHeartbeats 4000000 in
theorem wgLib : WgLib Tryz.prog link := by
  constructor
  all_goals first | kernel_rfl | (intro w; kernel_rfl)
end Go.Proofs.YtfnbcpeipoobkaaGreat

set_option linter.unusedSectionVars false
namespace Go.Proofs.YtfnbcpeipoobkaaGreat
open Go Go.Conc
variable {P : Program} {F : Array Func} [Inhabited Junk]

theorem Cal.more {ty : TypeId} {Wg : Nat} {End : Goroutine → Prop} : ∀ {n : Nat} {s : CS} {g : Goroutine}, Cal P ty Wg End n s g → Cal P ty Wg End (n + 1) s g
  | 0, s, g, h => .inl h
  | n + 1, s, g, h => by
    rcases h with h | ⟨hr, h⟩
    · exact .inl h
    · refine .inr ⟨hr, ?_⟩
      rcases h with h0 | ⟨hp, g', h1, h2⟩ | ⟨hp, g1, g2, h1, h2, h3⟩ | ⟨hp, g1, g2, h1, h2, h3⟩ | ⟨hp, g', h1, h2⟩ | ⟨hp, g', h0, h1, h2, h3⟩ | ⟨hp, g', h1, h2⟩ | ⟨hp, g', h1, h2⟩ | ⟨hp, hd, g', h1, h2⟩
      · exact .inl fun w st sm hw => let ⟨g', h1, h2⟩ := h0 w st sm hw; ⟨g', h1, h2.more⟩
      · exact .inr (.inl ⟨hp, g', h1, h2.more⟩)
      · exact .inr (.inr (.inl ⟨hp, g1, g2, h1, h2.more, fun hk => ⟨(h3 hk).1, (h3 hk).2.more⟩⟩))
      · exact .inr (.inr (.inr (.inl ⟨hp, g1, g2, h1, h2.more, fun hk => ⟨(h3 hk).1, (h3 hk).2.more⟩⟩)))
      · exact .inr (.inr (.inr (.inr (.inl ⟨hp, g', h1, h2.more⟩))))
      · exact .inr (.inr (.inr (.inr (.inr (.inl ⟨hp, g', h0, h1, h2, h3.more⟩)))))
      · exact .inr (.inr (.inr (.inr (.inr (.inr (.inl ⟨hp, g', h1, h2.more⟩))))))
      · exact .inr (.inr (.inr (.inr (.inr (.inr (.inr (.inl ⟨hp, g', h1, h2.more⟩)))))))
      · exact .inr (.inr (.inr (.inr (.inr (.inr (.inr (.inr ⟨hp, hd, g', h1, h2.more⟩)))))))
theorem Cal.mono {ty : TypeId} {Wg : Nat} {End : Goroutine → Prop} {n m : Nat} {s : CS} {g : Goroutine} (h : Cal P ty Wg End n s g) (hnm : n ≤ m) : Cal P ty Wg End m s g := by
  induction hnm with
  | refl => exact h
  | step _ ih => exact ih.more
theorem Chi.more {ty : TypeId} {Wg : Nat} : ∀ {n : Nat} {s : KS} {g : Goroutine}, Chi P ty Wg n s g → Chi P ty Wg (n + 1) s g
  | 0, s, g, h => h.elim
  | n + 1, s, g, h => by
    obtain ⟨hr, h⟩ := h
    refine ⟨hr, ?_⟩
    rcases h with h0 | ⟨hp, hd, g', h1, h2⟩ | ⟨hp, g', h1, h2⟩ | ⟨hp, hd, g1, g2, h1, h2, h3, h4⟩ | ⟨hp, hd, g', h1, h2⟩ | ⟨hp, hd, g', h1, h2⟩ | ⟨hp, hd, hmw, g', h1, h2, h3⟩
    · exact .inl fun w st sm hw => let ⟨g', h1, h2⟩ := h0 w st sm hw; ⟨g', h1, h2.more⟩
    · exact .inr (.inl ⟨hp, hd, g', h1, h2.more⟩)
    · exact .inr (.inr (.inl ⟨hp, g', h1, h2.more⟩))
    · exact .inr (.inr (.inr (.inl ⟨hp, hd, g1, g2, h1, h2, h3, h4.more⟩)))
    · exact .inr (.inr (.inr (.inr (.inl ⟨hp, hd, g', h1, h2.more⟩))))
    · exact .inr (.inr (.inr (.inr (.inr (.inl ⟨hp, hd, g', h1, h2.more⟩)))))
    · exact .inr (.inr (.inr (.inr (.inr (.inr ⟨hp, hd, hmw, g', h1, h2, h3⟩)))))
theorem Chi.mono {ty : TypeId} {Wg : Nat} {n m : Nat} {s : KS} {g : Goroutine} (h : Chi P ty Wg n s g) (hnm : n ≤ m) : Chi P ty Wg m s g := by
  induction hnm with
  | refl => exact h
  | step _ ih => exact ih.more

/-- What is known of the world between two idle steps: the group is there. -/
def RG (ty : TypeId) (Wg : Nat) (_ w : World) : Prop := ∃ st sm, GrpAt ty Wg w st sm
theorem rg_some (ty : TypeId) (Wg : Nat) (w : World) : ∃ w1, RG ty Wg w w1 := by
  refine ⟨{ w with heap := Array.replicate (Wg + 1) (.cells #[.int .u64 0, .int .u32 0] ty) }, 0, 0, ?_⟩
  simp [GrpAt]
theorem rg_rely {ty : TypeId} {Wg : Nat} {w w1 : World} (_ : True) (h : RG ty Wg w w1) : ∃ st sm, GrpAt ty Wg w1 st sm := h
theorem goes_cal {ty : TypeId} {Wg : Nat} {End : Goroutine → Prop} {N : Nat} {s : CS} : ∀ {m : Nat} {T : Nat} {g : Goroutine} {w : World}, m + N ≤ T → Goes P true (RG ty Wg) Go.ConcR.DC0 (fun g _ => Cal P ty Wg End N s g) m g w → Cal P ty Wg End T s g
  | 0, T, g, w, hT, h => by
    obtain ⟨w1, h1⟩ := rg_some ty Wg w
    exact (h w1 h1).mono (by omega)
  | m + 1, T, g, w, hT, h => by
    rcases h with h | ⟨hr, h⟩
    · obtain ⟨w1, h1⟩ := rg_some ty Wg w
      exact (h w1 h1).mono (by omega)
    · obtain ⟨T', rfl⟩ : ∃ T', T = T' + 1 := ⟨T - 1, by omega⟩
      refine .inr ⟨hr, .inl fun w1 st sm hw => ?_⟩
      have := h w1 ⟨st, sm, hw⟩
      generalize hS : stepG P true g w1 = S at this ⊢
      cases S with
      | go g' w' es =>
        obtain ⟨⟨rfl, rfl⟩, h2⟩ := this
        exact ⟨g', rfl, goes_cal (by omega) h2⟩
      | _ => exact this.elim
theorem goes_chi {ty : TypeId} {Wg : Nat} {N : Nat} {s : KS} : ∀ {m : Nat} {T : Nat} {g : Goroutine} {w : World}, m + N ≤ T → Goes P false (RG ty Wg) Go.ConcR.DC0 (fun g _ => Chi P ty Wg N s g) m g w → Chi P ty Wg T s g
  | 0, T, g, w, hT, h => by
    obtain ⟨w1, h1⟩ := rg_some ty Wg w
    exact (h w1 h1).mono (by omega)
  | m + 1, T, g, w, hT, h => by
    rcases h with h | ⟨hr, h⟩
    · obtain ⟨w1, h1⟩ := rg_some ty Wg w
      exact (h w1 h1).mono (by omega)
    · obtain ⟨T', rfl⟩ : ∃ T', T = T' + 1 := ⟨T - 1, by omega⟩
      refine ⟨hr, .inl fun w1 st sm hw => ?_⟩
      have := h w1 ⟨st, sm, hw⟩
      generalize hS : stepG P false g w1 = S at this ⊢
      cases S with
      | go g' w' es =>
        obtain ⟨⟨rfl, rfl⟩, h2⟩ := this
        exact ⟨g', rfl, goes_chi (by omega) h2⟩
      | _ => exact this.elim
theorem rg_c0 {ty : TypeId} {Wg : Nat} {w w1 : World} (h : RG ty Wg w w1) : ∃ v, w1.cell? ⟨Wg, 0, none⟩ = some v := by
  obtain ⟨st, sm, h⟩ := h
  exact ⟨.int .u64 st, by unfold GrpAt at h; simp [World.cell?, h]⟩
theorem rg_c1 {ty : TypeId} {Wg : Nat} {w w1 : World} (h : RG ty Wg w w1) : ∃ v, w1.cell? ⟨Wg, 1, none⟩ = some v := by
  obtain ⟨st, sm, h⟩ := h
  exact ⟨.int .u32 sm, by unfold GrpAt at h; simp [World.cell?, h]⟩
/-- The operation at hand is a call. -/
theorem at_call {R : World → World → Prop} {D : World → World → Array Event → Prop} {Stop : Goroutine → World → Prop} {n : Nat} {main : Bool} {b : Frame} {a : Act} {ops : Array Oper} {i : Nat} {rest : List Nat} {k : List Item} {cs : List Frame} {w : World} {o : Oper} {f : FuncId} {xs : Array Operand} {ats : Array TypeId} (_ : ops[i]? = some o) (_ : o.op = .call { callee := .value (.func f), args := xs, argTypes := ats })
    (h : Goes P main R D Stop n (G (b.at a (.inRegion ops (i :: rest) :: k)) cs) w) : Goes P main R D Stop n (G (b.at a (.inRegion ops (i :: rest) :: k)) cs) w := h
section
variable {ty : TypeId} {Wg : Nat} {End : Goroutine → Prop} {n : Nat} {s : CS} {g g' g1 g2 : Goroutine}
theorem Cal.fin (hp : s.p = 3) (h : End g) : Cal P ty Wg End n s g := by
  cases n with
  | zero => exact ⟨hp, h⟩
  | succ n => exact .inl ⟨hp, h⟩
theorem Cal.disable (hr : g.status = .running) (hp : s.p = 0) (h : ∀ w, stepG P true g w = .go g' w #[mkE .disable]) (hC : Cal P ty Wg End n ⟨0, s.k, s.d + 1⟩ g') : Cal P ty Wg End (n + 1) s g := .inr ⟨hr, .inr (.inl ⟨hp, g', h, hC⟩)⟩
theorem Cal.load (hr : g.status = .running) (hp : s.p = 0) (h : ∀ w, GrpAt ty Wg w 0 0 → stepG P true g w = .go g2 w #[rdE (sA Wg)]) (hC : Cal P ty Wg End n ⟨2, true, s.d⟩ g2) (h' : s.k = false → (∀ w, GrpAt ty Wg w 4294967296 0 → stepG P true g w = .go g1 w #[rdE (sA Wg)]) ∧ Cal P ty Wg End n ⟨0, false, s.d⟩ g1) : Cal P ty Wg End (n + 1) s g := .inr ⟨hr, .inr (.inr (.inl ⟨hp, g1, g2, h, hC, h'⟩))⟩
theorem Cal.cas (hr : g.status = .running) (hp : s.p = 0) (h : ∀ w, GrpAt ty Wg w 0 0 → stepG P true g w = .go g2 w #[rdE (sA Wg)]) (hC : Cal P ty Wg End n ⟨0, true, s.d⟩ g2) (h' : s.k = false → (∀ w, GrpAt ty Wg w 4294967296 0 → stepG P true g w = .go g1 (w.setCell (sA Wg) (.int .u64 4294967297)) #[rdE (sA Wg), wrE (sA Wg)]) ∧ Cal P ty Wg End n ⟨1, true, s.d⟩ g1) : Cal P ty Wg End (n + 1) s g := .inr ⟨hr, .inr (.inr (.inr (.inl ⟨hp, g1, g2, h, hC, h'⟩)))⟩
theorem Cal.word (hr : g.status = .running) (hp : s.p = 1) (h : ∀ w, stepG P true g w = .go g' w #[mkE (.write (mA Wg))]) (hC : Cal P ty Wg End n s g') : Cal P ty Wg End (n + 1) s g := .inr ⟨hr, .inr (.inr (.inr (.inr (.inl ⟨hp, g', h, hC⟩))))⟩
theorem Cal.sem (hr : g.status = .running) (hp : s.p = 1) (ho : g.offers = none) (h0 : ∀ w st, GrpAt ty Wg w st 0 → stepG P true g w = .go { g with status := .blocked } w #[]) (h : ∀ w, GrpAt ty Wg w 0 1 → stepG P true g w = .go g' (w.setCell (mA Wg) (.int .u32 0)) (semEvents (mA Wg))) (hC : Cal P ty Wg End n ⟨2, true, s.d⟩ g') : Cal P ty Wg End (n + 1) s g := .inr ⟨hr, .inr (.inr (.inr (.inr (.inr (.inl ⟨hp, g', ho, h0, h, hC⟩)))))⟩
theorem Cal.again (hr : g.status = .running) (hp : s.p = 2) (h : ∀ w, GrpAt ty Wg w 0 0 → stepG P true g w = .go g' w #[rdE (sA Wg)]) (hC : Cal P ty Wg End n s g') : Cal P ty Wg End (n + 1) s g := .inr ⟨hr, .inr (.inr (.inr (.inr (.inr (.inr (.inl ⟨hp, g', h, hC⟩))))))⟩
theorem Cal.enable (hr : g.status = .running) (hp : s.p = 2) (h : ∀ w, stepG P true g w = .go g' w #[mkE .enable]) (hC : Cal P ty Wg End n ⟨2, true, s.d - 1⟩ g') : Cal P ty Wg End (n + 1) s g := .inr ⟨hr, .inr (.inr (.inr (.inr (.inr (.inr (.inr (.inl ⟨hp, g', h, hC⟩)))))))⟩
theorem Cal.acquire (hr : g.status = .running) (hp : s.p = 2) (hd : s.d = 0) (h : ∀ w, stepG P true g w = .go g' w #[mkE (.acquire (sA Wg))]) (hC : Cal P ty Wg End n ⟨3, true, 0⟩ g') : Cal P ty Wg End (n + 1) s g := .inr ⟨hr, .inr (.inr (.inr (.inr (.inr (.inr (.inr (.inr ⟨hp, hd, g', h, hC⟩)))))))⟩
end
section
variable {ty : TypeId} {Wg : Nat} {n : Nat} {s : KS} {g g' g1 g2 : Goroutine}
theorem Chi.rel (hr : g.status = .running) (hp : s.p = 0) (hd : s.d = 0) (h : ∀ w, stepG P false g w = .go g' w #[mkE (.releaseMerge (sA Wg))]) (hC : Chi P ty Wg n ⟨1, 0⟩ g') : Chi P ty Wg (n + 1) s g := ⟨hr, .inr (.inl ⟨hp, hd, g', h, hC⟩)⟩
theorem Chi.disable (hr : g.status = .running) (hp : s.p = 1) (h : ∀ w, stepG P false g w = .go g' w #[mkE .disable]) (hC : Chi P ty Wg n ⟨1, s.d + 1⟩ g') : Chi P ty Wg (n + 1) s g := ⟨hr, .inr (.inr (.inl ⟨hp, g', h, hC⟩))⟩
theorem Chi.add {q : Nat} (hr : g.status = .running) (hp : s.p = 1) (hd : 0 < s.d) (h1 : ∀ w, GrpAt ty Wg w 4294967296 0 → stepG P false g w = .go g1 (w.setCell (sA Wg) (.int .u64 0)) #[rdE (sA Wg), wrE (sA Wg)]) (h2 : ∀ w, GrpAt ty Wg w 4294967297 0 → stepG P false g w = .go g2 (w.setCell (sA Wg) (.int .u64 1)) #[rdE (sA Wg), wrE (sA Wg)]) (hq : QuitsD P q s.d g1) (hC : Chi P ty Wg n ⟨2, s.d⟩ g2) : Chi P ty Wg (n + 1) s g := ⟨hr, .inr (.inr (.inr (.inl ⟨hp, hd, g1, g2, h1, ⟨q, hq⟩, h2, hC⟩)))⟩
theorem Chi.load (hr : g.status = .running) (hp : s.p = 2) (hd : 0 < s.d) (h : ∀ w, GrpAt ty Wg w 1 0 → stepG P false g w = .go g' w #[rdE (sA Wg)]) (hC : Chi P ty Wg n s g') : Chi P ty Wg (n + 1) s g := ⟨hr, .inr (.inr (.inr (.inr (.inl ⟨hp, hd, g', h, hC⟩))))⟩
theorem Chi.store (hr : g.status = .running) (hp : s.p = 2) (hd : 0 < s.d) (h : ∀ w, GrpAt ty Wg w 1 0 → stepG P false g w = .go g' (w.setCell (sA Wg) (.int .u64 0)) #[wrE (sA Wg)]) (hC : Chi P ty Wg n ⟨3, s.d⟩ g') : Chi P ty Wg (n + 1) s g := ⟨hr, .inr (.inr (.inr (.inr (.inr (.inl ⟨hp, hd, g', h, hC⟩)))))⟩
theorem Chi.sem {q : Nat} (hr : g.status = .running) (hp : s.p = 3) (hd : 0 < s.d) (hm : mayWake P g = true) (h : ∀ w, GrpAt ty Wg w 0 0 → stepG P false g w = .go g' (w.setCell (mA Wg) (.int .u32 1)) (semEvents (mA Wg))) (hr' : g'.status = .running) (hq : QuitsD P q s.d g') : Chi P ty Wg (n + 1) s g := ⟨hr, .inr (.inr (.inr (.inr (.inr (.inr ⟨hp, hd, hm, g', h, hr', q, hq⟩)))))⟩
end
end Go.Proofs.YtfnbcpeipoobkaaGreat
