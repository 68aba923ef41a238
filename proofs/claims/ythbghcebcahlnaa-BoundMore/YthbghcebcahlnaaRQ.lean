/- What a well-founded going of the lone machine says in company. -/
import Derived.Test.YthbghcebcahlnaaRP
set_option linter.unusedSectionVars false
namespace Go.Proofs.Ythbghcebcahlnaa
open Go
variable {P : Program} {F : Array Func} [Inhabited Junk]

theorem goesW_re {P0 : Program} {r : Nat} {E : Frame → List Frame → World → Prop} (hE : ∀ fr up w τ d, E fr up (re w τ d) ↔ E fr up w) {fr : Frame} {up : List Frame} {w : World} (h : GoesW P0 r E fr up w) (τ : Nat → Question → Nat) (d : Nat) : GoesW P0 r E fr up (re w τ d) := by
  rcases h.inv with h | ⟨h1, h2⟩
  · exact .fin ((hE _ _ _ _ _).mpr h)
  · exact .step (fun τ' d' => h1 τ' d') fun τ' d' => h2 τ' d'
/-- IN COMPANY: from any world that is the lone one but for the veil, the same step over the program itself. -/
theorem goes_next (hF : FenceB P F) (hB : Bodies P F) {V : Nat → Prop} {r : Nat} {E : Frame → List Frame → World → Prop} {fr : Frame} {up : List Frame} {w v : World} (hg : GoesW (bar P F) r E fr up w) (hs : Sib P V w v) (hf : okFrame P fr) (hu : ∀ f ∈ up, okFrame P f) (cs : List Frame) (m : Bool) :
    E fr up w ∨ ∃ fr' up' w' v' es, stepG P m (runG fr (up ++ cs)) v = .go (runG fr' (up' ++ cs)) v' es ∧ GoesW (bar P F) r E fr' up' w' ∧ Sib P V w' v' ∧ okFrame P fr' ∧ (∀ f ∈ up', okFrame P f) ∧ (∀ e ∈ es, Fine V e) ∧ v'.os = v.os ∧ v'.output = v.output ∧ v'.tape = v.tape ∧ v.drawn ≤ v'.drawn ∧ ∀ x, V x → v'.heap[x]? = v.heap[x]? := by
  rcases hg.inv with h | ⟨h1, h2⟩
  · exact .inl h
  · right
    obtain ⟨fr', up', w', es, h⟩ := h1 v.tape v.drawn
    have hs' : Sib P V (re w v.tape v.drawn) v := ⟨hs.size, hs.like, hs.veil, hs.kind, hs.env⟩
    have hm := step_sim (r := r) (cs := cs) hF hB hs' hf hu true m
    rw [h] at hm
    generalize hS : stepG P m (runG fr (up ++ cs)) v = S at hm
    generalize hg : runG fr' (up' ++ [baseF r]) = g at hm
    rcases hm with ⟨o, w1, es1, hx⟩ | ⟨fr2, w1, es1, k1, k2, k3, hx⟩ | ⟨fr2, up2, w1, es1, ht, hl, hf, hu, he, hz, hS', hx⟩
    · cases hx
    · injection hx with hx
      have := congrArg Goroutine.callers (hg.trans hx)
      simp [runG] at this
    · injection hx with hx hx1 hx2
      subst hx hx1 hx2
      have e1 : fr' = fr2 := congrArg Goroutine.frame hg
      have e2 : up' = up2 := List.append_cancel_right (congrArg Goroutine.callers hg)
      subst e1 e2
      obtain ⟨v', t1, t2, t3, t4, t5, t6, t7⟩ := hS' (fun _ _ _ => rfl)
      exact ⟨fr', up', w', v', es, t1, h2 _ _ _ _ _ _ h, t2, hf, hu, he, t3, t4, t5, by rw [t6]; omega, t7⟩

/-- Good code is the same over both programs. -/
theorem okCode_bar (c : Code) : okCode (bar P F) c = okCode P c := by
  have ho : ∀ o : Op, okOp (bar P F) o = okOp P o := by
    intro o
    cases o with
    | convert a b x => simp only [okOp, under_bar]
    | _ => rfl
  induction c with
  | region id ops draw => simp only [okCode, ho]
  | seq a b ha hb => simp only [okCode, ha, hb]
  | cond c a b ha hb => simp only [okCode, ha, hb]
  | rangeFunc f ps a b ha hb => simp only [okCode, ha, hb]
  | block id c h => simp only [okCode, h]
  | loop c h => simp only [okCode, h]
  | _ => rfl
theorem okObj_bar (o : Obj) (h : okObj P o) : okObj (bar P F) o := by
  cases o with
  | loop l => exact ⟨by rw [okCode_bar]; exact h.1, by rw [okCode_bar]; exact h.2.1, fun c e => by rw [okCode_bar]; exact h.2.2 c e⟩
  | deferred ds => cases ds <;> exact h
  | _ => exact h
end Go.Proofs.Ythbghcebcahlnaa
