/- Goroutine 0 goes on well-founded beside leavers. -/
import Derived.Test.YthbghcebcahlnaaRR
import Derived.Conc.Beside
set_option linter.unusedSectionVars false
namespace Go.Proofs.Ythbghcebcahlnaa
open Go Go.Conc
open Go.ConcN (sumTo upd sumTo_upd upd_ne upd_same)
variable {P : Program} {F : Array Func} [Inhabited Junk]

/-- The places of the veiled rows. -/
def Veil (V : Nat → Prop) (l : Go.Loc) : Prop := ∃ a : Addr, l = .cell a ∧ V a.block

theorem evL_of_fine {V : Nat → Prop} {e : Event} (h : Fine V e) {B : Nat} (hB : evB e ≤ B) : EvL (Veil V) B e := by
  obtain ⟨loc, wr, sy⟩ := e
  cases loc with
  | cell a =>
    have h : ¬ V a.block := h
    have hB : a.block + 1 ≤ B := hB
    refine ⟨fun x hx hs => ?_, by simp, by simp, ?_⟩
    · obtain ⟨a', e1, h2⟩ := hs
      have e2 : x.loc = .cell a := by
        cases wr <;> cases sy <;> simp [MemAct.ofEvent, MemAct.touch?] at hx <;> rw [← hx]
      rw [e2] at e1
      cases e1
      exact absurd h2 h
    · show MemAct.low B (MemAct.ofEvent ⟨.cell a, wr, sy⟩)
      have : MemAct.ofEvent ⟨.cell a, wr, sy⟩ = .access ⟨.cell a, wr, sy⟩ := rfl
      rw [this]
      exact hB
  | obj r =>
    have h : ¬ V r := h
    have hB : r + 1 ≤ B := hB
    refine ⟨fun x hx hs => ?_, by simp, by simp, ?_⟩
    · obtain ⟨a', e1, h2⟩ := hs
      have e2 : x.loc = .obj r := by
        cases wr <;> cases sy <;> simp [MemAct.ofEvent, MemAct.touch?] at hx <;> rw [← hx]
      rw [e2] at e1
      cases e1
    · cases wr <;> cases sy <;> simp only [MemAct.ofEvent, MemAct.low, Go.Loc.low] <;> omega
  | mark m =>
    cases m with
    | extern f => exact ⟨fun x hx => by simp [MemAct.ofEvent, MemAct.touch?] at hx, by simp, by simp, by simp [MemAct.ofEvent, MemAct.low]⟩
    | noRoom => exact ⟨fun x hx => by simp [MemAct.ofEvent, MemAct.touch?] at hx, by simp, by simp, by simp [MemAct.ofEvent, MemAct.low]⟩
    | _ => exact h.elim
  | _ => exact h.elim
theorem bound_all (es : List Event) : ∃ B, ∀ e ∈ es, evB e ≤ B := by
  induction es with
  | nil => exact ⟨0, by simp⟩
  | cons e l ih =>
    obtain ⟨B, h⟩ := ih
    refine ⟨max B (evB e), fun x hx => ?_⟩
    rcases List.mem_cons.1 hx with rfl | hx
    · exact Nat.le_max_right _ _
    · exact Nat.le_trans (h x hx) (Nat.le_max_left _ _)
/-- The trace behind a step of good code. -/
theorem past_fine {V : Nat → Prop} {t : Trace} (h : ∃ B, Past (Veil V) B t) {fn : FuncId} {pos : String} {es : Array Event} (hes : ∀ e ∈ es, Fine V e) : ∃ B, Past (Veil V) B (t ++ MemOp.ofEvents 0 fn pos es) := by
  obtain ⟨B, h⟩ := h
  obtain ⟨B', hB⟩ := bound_all es.toList
  refine ⟨max B B', (h.mono (Nat.le_max_left B B')).own fun e he => evL_of_fine (hes e he) ?_⟩
  exact Nat.le_trans (hB e (by simpa using he)) (Nat.le_max_right _ _)

/-- goes_next, and whence it comes. -/
theorem goes_from (hF : FenceB P F) (hB : Bodies P F) {V : Nat → Prop} {r : Nat} {fr : Frame} {up : List Frame} {w v : World} (h1 : ∀ τ d, ∃ fr' up' w' es, stepG (bar P F) true (runG fr (up ++ [baseF r])) (re w τ d) = .go (runG fr' (up' ++ [baseF r])) w' es) (hs : Sib P V w v) (hf : okFrame P fr) (hu : ∀ f ∈ up, okFrame P f) (cs : List Frame) (m : Bool) :
    ∃ fr' up' w' v' es τ d, stepG (bar P F) true (runG fr (up ++ [baseF r])) (re w τ d) = .go (runG fr' (up' ++ [baseF r])) w' es ∧ stepG P m (runG fr (up ++ cs)) v = .go (runG fr' (up' ++ cs)) v' es ∧ Sib P V w' v' ∧ okFrame P fr' ∧ (∀ f ∈ up', okFrame P f) ∧ (∀ e ∈ es, Fine V e) ∧ v'.os = v.os ∧ v'.output = v.output ∧ v'.tape = v.tape ∧ v.drawn ≤ v'.drawn ∧ (∀ x, V x → v'.heap[x]? = v.heap[x]?) ∧ w.heap.size ≤ w'.heap.size ∧ (∀ e ∈ es, evB e ≤ w'.heap.size) := by
  obtain ⟨fr', up', w', es, h⟩ := h1 v.tape v.drawn
  have hs' : Sib P V (re w v.tape v.drawn) v := ⟨hs.size, hs.like, hs.veil, hs.kind, hs.env⟩
  have hm := step_sim (r := r) (cs := cs) hF hB hs' hf hu true m
  rw [h] at hm
  generalize hS : stepG P m (runG fr (up ++ cs)) v = S at hm
  generalize hg : runG fr' (up' ++ [baseF r]) = g at hm
  rcases hm with ⟨o, w1, es1, hx⟩ | ⟨fr2, w1, es1, h1, h2, h3, hx⟩ | ⟨fr2, up2, w1, es1, ht, hl, hf, hu, he, hz, hS', hx⟩
  · cases hx
  · injection hx with hx
    have := congrArg Goroutine.callers (hg.trans hx)
    simp [runG] at this
  · injection hx with hx hx1 hx2
    subst hx hx1 hx2
    have e1 : fr' = fr2 := congrArg Goroutine.frame hg
    have e2 : up' = up2 := List.append_cancel_right (congrArg Goroutine.callers hg)
    subst e1 e2
    obtain ⟨v', t1, t2, t3, t4, t5, t6, t7⟩ := hS' (fun _ _ _ => rfl)
    exact ⟨fr', up', w', v', es, v.tape, v.drawn, h, t1, t2, hf, hu, he, t3, t4, t5, by rw [t6]; omega, t7, hz⟩

/-- What stands where a well-founded going has arrived, beside leavers. -/
def Arrived (P : Program) (V : Nat → Prop) (E : Frame → List Frame → World → Prop) (cs : List Frame) (v : World) (n : Nat) (m : Machine) (t : Trace) : Prop :=
  ∃ (gs : Array Goroutine) (fr : Frame) (up : List Frame) (w v' : World) (sl : Option (Nat × Nat)) (q : Nat → Nat), m = crowd gs v' sl ∧ gs.size = n ∧ gs[0]? = some (runG fr (up ++ cs)) ∧ E fr up w ∧ Sib P V w v' ∧ (okFrame P fr ∧ ∀ f ∈ up, okFrame P f) ∧ Leavers P t gs q ∧ (∃ B, Past (Veil V) B t) ∧ v'.os = v.os ∧ v'.output = v.output ∧ v'.tape = v.tape

theorem sib_at {V : Nat → Prop} {w v : World} (h : Sib P V w v) (d : Nat) : Sib P V w (v.at d) := ⟨h.size, h.like, h.veil, h.kind, h.env⟩

/-- ████ A WELL-FOUNDED GOING BESIDE LEAVERS, ON WHATEVER TAPE. ████ -/
theorem beside_goesW (hF : FenceB P F) (hB : Bodies P F) {V : Nat → Prop} {r : Nat} {E : Frame → List Frame → World → Prop} {cs : List Frame} {fr : Frame} {up : List Frame} {w : World} (hg : GoesW (bar P F) r E fr up w) :
    ∀ (gs : Array Goroutine) (v : World) (sl : Option (Nat × Nat)) (t : Trace) (q : Nat → Nat), gs[0]? = some (runG fr (up ++ cs)) → Leavers P t gs q → (∃ B, Past (Veil V) B t) → Sib P V w v → okFrame P fr → (∀ f ∈ up, okFrame P f) →
      ∃ N m t', runNT P N (crowd gs v sl) t = (.next m, t') ∧ Arrived P V E cs v gs.size m t' := by
  induction hg using GoesW.ind with
  | fin h =>
    intro gs v sl t q h0 hL hP hS hf hu
    exact ⟨0, _, _, rfl, gs, _, _, _, v, sl, q, rfl, rfl, h0, h, hS, ⟨hf, hu⟩, hL, hP, rfl, rfl, rfl⟩
  | @step fr up w h1 h2 ih =>
    have key : ∀ (M : Nat) (gs : Array Goroutine) (v : World) (sl : Option (Nat × Nat)) (t : Trace) (q : Nat → Nat), sumTo gs.size q = M → gs[0]? = some (runG fr (up ++ cs)) → Leavers P t gs q → (∃ B, Past (Veil V) B t) → Sib P V w v → okFrame P fr → (∀ f ∈ up, okFrame P f) →
        ∃ N m t', runNT P N (crowd gs v sl) t = (.next m, t') ∧ Arrived P V E cs v gs.size m t' := by
      intro M
      induction M using Nat.strongRecOn with
      | ind M ihM =>
        intro gs v sl t q hM h0 hL hP hS hf hu
        have hrun : (runG fr (up ++ cs)).status = .running := rfl
        have haw : ∀ g ∈ gs, awake g := by
          intro g hg
          obtain ⟨i, hi, rfl⟩ := Array.mem_iff_getElem.1 hg
          rcases Nat.eq_zero_or_pos i with rfl | hpos
          · have : gs[0] = runG fr (up ++ cs) := by simpa [Array.getElem?_eq_getElem hi] using h0
            rw [this]; exact awake_of (.inl hrun)
          · exact awake_of ((hL.old i _ hpos (Array.getElem?_eq_getElem hi)).status.elim .inl fun x => .inr (.inr x))
        obtain ⟨i, g, d, sl', hi, hg, hst⟩ := crowd_pick (P := P) (w := v) (sl := sl) haw ⟨0, _, h0, hrun⟩
        rcases Nat.eq_zero_or_pos i with rfl | hpos
        · obtain rfl : g = runG fr (up ++ cs) := by rw [h0] at hi; exact (Option.some.inj hi).symm
          obtain ⟨fr', up', w', v', es, τ, d', e1, e2, s1, s2, s3, s4, s5, s6, s7, _⟩ := goes_from hF hB h1 (sib_at hS d) hf hu cs true
          have hrunT := runT_crowd_go (P := P) (sl := sl') (i := 0) hi (show stepG P (0 == 0) (runG fr (up ++ cs)) (v.at d) = _ from e2)
          have hsz : ((gs.map (woken P (runG fr (up ++ cs)) (runG fr' (up' ++ cs)) v')).setIfInBounds 0 (runG fr' (up' ++ cs))).size = gs.size := by simp
          have hlt : 0 < gs.size := (Array.getElem?_eq_some_iff.1 h0).1
          obtain ⟨N, m, t', hr, hA⟩ := ih τ d' fr' up' w' es e1 ((gs.map (woken P (runG fr (up ++ cs)) (runG fr' (up' ++ cs)) v')).setIfInBounds 0 (runG fr' (up' ++ cs))) v' sl' (t ++ MemOp.ofEvents 0 (runG fr (up ++ cs)).frame.fn (runG fr (up ++ cs)).frame.place es) q (by simp [hlt])
            ⟨fun j x hj hx => by
              have hne : 0 ≠ j := by omega
              rw [Array.getElem?_setIfInBounds_ne hne, Array.getElem?_map] at hx
              obtain ⟨y, hy, rfl⟩ := Option.map_eq_some_iff.1 hx
              have hq := hL.old j y hj hy
              rw [woken_quitsD hq, Deaf_other t (by omega) _ (fun op hop => by obtain ⟨e, _, rfl⟩ := Go.Conc.mem_ofEvents hop; rfl)]
              exact hq, fun j hj => by
              rw [Deaf_other t (g' := 0) (by simp at hj; omega) _ (fun op hop => by obtain ⟨e, _, rfl⟩ := Go.Conc.mem_ofEvents hop; rfl)]
              exact hL.above j (by simpa using hj)⟩
            (past_fine hP s4) s1 s2 s3
          rw [hsz] at hA
          obtain ⟨gs2, fr2, up2, w2, v2, sl2, q2, a1, a2, a3, a4, a5, a6, a7, a8, a9, a10, a11⟩ := hA
          exact ⟨N + 1, m, t', by simp only [runNT, hst, hrunT]; exact hr, gs2, fr2, up2, w2, v2, sl2, q2, a1, a2, a3, a4, a5, a6, a7, a8, a9.trans s5, a10.trans s6, a11.trans s7⟩
        · have hq := hL.old i g hpos hi
          have hi0 : (i == 0) = false := by simp; omega
          have hlt : i < gs.size := (Array.getElem?_eq_some_iff.1 hi).1
          cases hqi : q i with
          | zero => rw [hqi] at hq; rw [hq.1] at hg; cases hg
          | succ k =>
            rw [hqi] at hq
            rcases hq with ⟨hfi, _⟩ | ⟨_, g', es, hm, hstp, hq'⟩
            · rw [hfi] at hg; cases hg
            have hrunT := runT_crowd_go (P := P) (sl := sl') (i := i) hi (by rw [hi0]; exact hstp (v.at d))
            have hsz : ((gs.map (woken P g g' (v.at d))).setIfInBounds i g').size = gs.size := by simp
            have hsum : sumTo gs.size (upd q i k) + (k + 1) = sumTo gs.size q + k := by
              have := sumTo_upd q k id hlt
              simpa [hqi] using this
            obtain ⟨B, hP⟩ := hP
            obtain ⟨N, m, t', hr, hA⟩ := ihM (sumTo gs.size (upd q i k)) (by omega) ((gs.map (woken P g g' (v.at d))).setIfInBounds i g') (v.at d) sl' (t ++ MemOp.ofEvents i g.frame.fn g.frame.place es) (upd q i k) (by rw [hsz])
              (by
                have hne : i ≠ 0 := by omega
                rw [Array.getElem?_setIfInBounds_ne hne, Array.getElem?_map, h0]
                simp [woken_run hrun])
              ⟨fun j x hj hx => by
                by_cases hji : i = j
                · subst hji
                  rw [Array.getElem?_setIfInBounds_self_of_lt (by simpa using hlt)] at hx
                  obtain rfl := Option.some.inj hx
                  rw [upd_same, Deaf_own]
                  exact hq'
                · rw [Array.getElem?_setIfInBounds_ne hji, Array.getElem?_map] at hx
                  obtain ⟨y, hy, rfl⟩ := Option.map_eq_some_iff.1 hx
                  have hqj := hL.old j y hj hy
                  rw [woken_quitsD hqj, upd_ne q k (Ne.symm hji), Deaf_other t hji _ (fun op hop => by obtain ⟨e, _, rfl⟩ := Go.Conc.mem_ofEvents hop; rfl)]
                  exact hqj, fun j hj => by
                rw [Deaf_other t (g' := i) (by simp at hj; omega) _ (fun op hop => by obtain ⟨e, _, rfl⟩ := Go.Conc.mem_ofEvents hop; rfl)]
                exact hL.above j (by simpa using hj)⟩
              ⟨B, hP.mute (by omega) hm⟩ (sib_at hS d) hf hu
            rw [hsz] at hA
            obtain ⟨gs2, fr2, up2, w2, v2, sl2, q2, a1, a2, a3, a4, a5, a6, a7, a8, a9, a10, a11⟩ := hA
            exact ⟨N + 1, m, t', by simp only [runNT, hst, hrunT]; exact hr, gs2, fr2, up2, w2, v2, sl2, q2, a1, a2, a3, a4, a5, a6, a7, a8, a9, a10, a11⟩
    intro gs v sl t q
    exact key _ gs v sl t q rfl
end Go.Proofs.Ythbghcebcahlnaa
