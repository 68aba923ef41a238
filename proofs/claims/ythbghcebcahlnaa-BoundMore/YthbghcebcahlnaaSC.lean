/- Goroutine 0 alone, ahead of the go statement: its trace. -/
import Derived.Test.YthbghcebcahlnaaRY
set_option linter.unusedSectionVars false
namespace Go.Proofs.Ythbghcebcahlnaa
open Go Go.Conc
variable {P : Program} {F : Array Func} [Inhabited Junk]

/-- The trace of goroutine 0 alone: it touches what lies below n, and says no word. -/
structure Lone0 (n : Nat) (t : Trace) : Prop where
  ops : ∀ op ∈ t, op.g = 0 ∧ ∃ e, op.act = MemAct.ofEvent e ∧ Fine (fun _ => False) e ∧ evB e ≤ n
  deaf : Deaf t 0 = 0
theorem lone0_nil (n : Nat) : Lone0 n #[] := ⟨by simp, by simp [Deaf, Trace.deaf]⟩
theorem Lone0.app {n m : Nat} {t : Trace} (h : Lone0 n t) (hnm : n ≤ m) {fn : FuncId} {pos : String} {es : Array Event} (hf : ∀ e ∈ es, Fine (fun _ => False) e) (hb : ∀ e ∈ es, evB e ≤ m) : Lone0 m (t ++ MemOp.ofEvents 0 fn pos es) := by
  refine ⟨fun op hop => ?_, by rw [Deaf_own, h.deaf, deaf_fine 0 hf]⟩
  rcases Array.mem_append.1 hop with ho | ho
  · obtain ⟨h1, e, h2, h3, h4⟩ := h.ops op ho
    exact ⟨h1, e, h2, h3, Nat.le_trans h4 hnm⟩
  · obtain ⟨e, he, rfl⟩ := Go.Conc.mem_ofEvents ho
    exact ⟨rfl, e, rfl, hf e he, hb e he⟩
/-- .. is quiet on whatever is made later. -/
theorem Lone0.quiet {n Wg : Nat} {t : Trace} (h : Lone0 n t) (hW : n ≤ Wg) : Quiet (Veil fun x => x = Wg) t := by
  intro i op x hi hx hs
  obtain ⟨_, e, h2, h3, h4⟩ := h.ops op (mem_of_getElem? hi)
  exfalso
  rw [h2] at hx
  obtain ⟨a, e1, hV⟩ := hs
  obtain ⟨loc, wr, sy⟩ := e
  cases loc with
  | cell a' =>
    have e2 : x.loc = .cell a' := by cases wr <;> cases sy <;> simp [MemAct.ofEvent, MemAct.touch?] at hx <;> rw [← hx]
    rw [e2] at e1
    cases e1
    have h4 : a.block + 1 ≤ n := h4
    omega
  | obj r =>
    have e2 : x.loc = .obj r := by cases wr <;> cases sy <;> simp [MemAct.ofEvent, MemAct.touch?] at hx <;> rw [← hx]
    rw [e2] at e1
    cases e1
  | mark m => cases m <;> first | exact h3.elim | simp [MemAct.ofEvent, MemAct.touch?] at hx
  | _ => exact h3.elim
theorem Lone0.norel {n Wg : Nat} {t : Trace} (h : Lone0 n t) : NoRelease (sA Wg) t := by
  intro i hi
  obtain ⟨op, ho, e'⟩ := Option.map_eq_some_iff.1 hi
  obtain ⟨_, e, h2, h3, _⟩ := h.ops op (mem_of_getElem? ho)
  have e' : op.act = .mark (.release (sA Wg)) := e'
  rw [h2] at e'
  obtain ⟨loc, wr, sy⟩ := e
  cases loc with
  | mark m => cases m <;> first | exact h3.elim | simp [MemAct.ofEvent] at e'
  | obj r => cases wr <;> cases sy <;> simp [MemAct.ofEvent] at e'
  | _ => simp [MemAct.ofEvent] at e'

/-- ████ GOROUTINE 0 ALONE GOES AS THE LONE MACHINE OVER THE BARRED PROGRAM. ████ -/
theorem solo_goesW (hF : FenceB P F) (hB : Bodies P F) {r : Nat} {E : Frame → List Frame → World → Prop} {cs : List Frame} {fr : Frame} {up : List Frame} {w : World} (hg : GoesW (bar P F) r E fr up w) :
    ∀ (v : World) (t : Trace), Sib P (fun _ => False) w v → okFrame P fr → (∀ f ∈ up, okFrame P f) → Lone0 v.heap.size t →
      ∃ N fr' up' w' v' t', runNT P N (solo (runG fr (up ++ cs)) v) t = (.next (solo (runG fr' (up' ++ cs)) v'), t') ∧ E fr' up' w' ∧ Sib P (fun _ => False) w' v' ∧ (okFrame P fr' ∧ ∀ f ∈ up', okFrame P f) ∧ Lone0 v'.heap.size t' ∧ v'.os = v.os ∧ v'.output = v.output ∧ v'.tape = v.tape := by
  induction hg using GoesW.ind with
  | @fin fr up w h =>
    intro v t hS hf hu hL
    exact ⟨0, fr, up, w, v, t, rfl, h, hS, ⟨hf, hu⟩, hL, rfl, rfl, rfl⟩
  | @step fr up w h1 h2 ih =>
    intro v t hS hf hu hL
    obtain ⟨fr', up', w', v', es, τ, d', e1, e2, s1, s2, s3, s4, s5, s6, s7, _, _, s9, s10⟩ := goes_from hF hB h1 hS hf hu cs true
    have hst := (stepT_solo (P := P) (a := runG fr (up ++ cs)) (w := v) rfl).trans (runT_solo_go e2)
    have hz : v.heap.size ≤ v'.heap.size := by rw [hS.size, s1.size]; exact s9
    obtain ⟨N, fr2, up2, w2, v2, t2, k1, k2, k3, k4, k5, k6, k7, k8⟩ := ih τ d' fr' up' w' es e1 v' _ s1 s2 s3 (hL.app hz (fn := (runG fr (up ++ cs)).frame.fn) (pos := (runG fr (up ++ cs)).frame.place) s4 (fun e he => by rw [s1.size]; exact s10 e he))
    exact ⟨N + 1, fr2, up2, w2, v2, t2, by simp only [runNT, hst]; exact k1, k2, k3, k4, k5, k6.trans s5, k7.trans s6, k8.trans s7⟩

/-- AT THE go STATEMENT: the machine of one becomes a machine of two. -/
theorem fork_mid {Wg : Nat} {a a' child : Goroutine} {v v' : World} {t : Trace} (h0 : ∀ op ∈ t, op.g = 0) (hq : Quiet (Veil fun x => x = Wg) t) (hn : NoRelease (sA Wg) t) (hd : Deaf t 0 = 0) (hr : a.status = .running) (hs : stepG P true a v = .spawn a' child v' #[]) :
    ∃ t', runNT P 1 (solo a v) t = (.next (duo a' child v' none), t') ∧ Mid Wg t' 0 0 := by
  have hst := (stepT_solo (P := P) (a := a) (w := v) hr).trans (runT_solo_spawn hs)
  obtain ⟨k1, k2, k3, k4⟩ := TI.init (V := fun x => x = Wg) (ad := sA Wg) (x := { g := 0, fn := a.frame.fn, pos := a.frame.place, act := .go 1 }) (y := { g := 1, fn := child.frame.fn, pos := a.frame.place, act := .start }) h0 hq hn hd ⟨rfl, rfl⟩ ⟨rfl, rfl⟩
  refine ⟨(t.push { g := 0, fn := a.frame.fn, pos := a.frame.place, act := .go 1 }).push { g := 1, fn := child.frame.fn, pos := a.frame.place, act := .start }, ?_, k1, k2, k3 1 (Nat.le_refl _), fun j hj => k3 j (by omega), k4⟩
  simp only [runNT, hst]
  simp [MemOp.ofEvents]
  apply Array.toList_inj.1
  simp
end Go.Proofs.Ythbghcebcahlnaa
