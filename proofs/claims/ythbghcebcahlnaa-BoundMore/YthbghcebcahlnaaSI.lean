/- The child's first steps, ahead of its work. -/
import Derived.Test.YthbghcebcahlnaaRY
set_option linter.unusedSectionVars false
namespace Go.Proofs.Ythbghcebcahlnaa
open Go Go.Conc
variable {P : Program} {F : Array Func} [Inhabited Junk]

/-- A child that comes to T within so many steps that nobody sees. -/
def Idle (P : Program) (T : Goroutine) : Nat → Goroutine → Prop
  | 0, g => g = T
  | n + 1, g => g.status = .running ∧ ∃ g', (∀ w, stepG P false g w = .go g' w #[]) ∧ Idle P T n g'

/-- ████ FROM THE go STATEMENT ON: the child's first steps, its work, the join. ████ -/
theorem idle_run (hF : FenceB P F) (hB : Bodies P F) {ty : TypeId} {Wg : Nat} {End : Goroutine → Prop} {v0 : World} {r : Nat} {E : Frame → List Frame → World → Prop} {cs1 : List Frame} (hE : ∀ fr up w, E fr up w → ∃ n1, Chi P ty Wg n1 ⟨0, 0⟩ (runG fr (up ++ cs1)))
    {fr : Frame} {up : List Frame} {w : World} (hg : GoesW (bar P F) r E fr up w) (hf1 : okFrame P fr) (hu : ∀ f ∈ up, okFrame P f) : ∀ (k : Nat) (b : Goroutine), Idle P (runG fr (up ++ cs1)) k b → ∀ (n0 : Nat) (a : Goroutine) (v : World) (sl : Option (Nat × Nat)) (t : Trace) (c : CS) (st sm : Int), CM P ty Wg End n0 c a → Mid Wg t c.d 0 → GrpAt ty Wg v st sm → Fits1 ⟨0, 0⟩ c st sm → Sib P (fun x => x = Wg) w v → (v.os = v0.os ∧ v.output = v0.output ∧ v.tape = v0.tape) →
    ∃ N m t', runNT P N (duo a b v sl) t = (.next m, t') ∧ ∃ fr' up' w', E fr' up' w' ∧ Joined P ty Wg End w' v0 m t' := by
  intro k
  induction k with
  | zero =>
    intro b hb n0 a v sl t c st sm hC hMi hG hf hS ho
    obtain rfl : b = _ := hb
    exact work_run hF hB hE hg n0 a v sl t c st sm hC hMi hG hf hS hf1 hu ho
  | succ k ih =>
    intro b hb
    obtain ⟨hrb, b', hst', hb'⟩ := hb
    -- a step of the child's
    have child : ∀ (n0 : Nat) (a : Goroutine) (v : World) (sl : Option (Nat × Nat)) (t : Trace) (c : CS) (st sm : Int), CM P ty Wg End n0 c a → Mid Wg t c.d 0 → GrpAt ty Wg v st sm → Fits1 ⟨0, 0⟩ c st sm → Sib P (fun x => x = Wg) w v → (v.os = v0.os ∧ v.output = v0.output ∧ v.tape = v0.tape) →
        ∃ N m t' m1 ops, runT P (duo a b v sl) 1 = (.next m1, ops) ∧ runNT P N m1 (t ++ ops) = (.next m, t') ∧ ∃ fr' up' w', E fr' up' w' ∧ Joined P ty Wg End w' v0 m t' := by
      intro n0 a v sl t c st sm hC hMi hG hf hS ho
      have hrun := runT_duo1 (P := P) (a := a) (sl := sl) (hst' v)
      obtain ⟨N, m, t', hr, hJ⟩ := ih b' hb' n0 (woken P b b' v a) v sl t c st sm (cm_woken hC) hMi hG hf hS ho
      refine ⟨N, m, t', _, _, hrun, ?_, hJ⟩
      rw [of_none]
      exact hr
    intro n0
    induction n0 using Nat.strongRecOn with
    | ind n0 ih0 =>
      have blocked : ∀ (n : Nat) (a : Goroutine) (v : World) (sl : Option (Nat × Nat)) (t : Trace) (c : CS) (st sm : Int), Blk P ty Wg End n c a → Mid Wg t c.d 0 → GrpAt ty Wg v st sm → Fits1 ⟨0, 0⟩ c st sm → Sib P (fun x => x = Wg) w v → (v.os = v0.os ∧ v.output = v0.output ∧ v.tape = v0.tape) →
          ∃ N m t', runNT P N (duo a b v sl) t = (.next m, t') ∧ ∃ fr' up' w', E fr' up' w' ∧ Joined P ty Wg End w' v0 m t' := by
        intro n a v sl t c st sm hC hMi hG hf hS ho
        obtain ⟨d, sl', hmv⟩ := duo_pick (P := P) (w := v) (sl := sl) (cm_awake (.inr hC)) (awake_of (.inl hrb)) (.inr hrb)
        rcases hmv with ⟨hra, _⟩ | ⟨_, hst⟩
        · obtain ⟨g, rfl, _⟩ := hC
          cases hra
        · obtain ⟨N, m, t', m1, ops, e1, hr', hJ⟩ := child n a (v.at d) sl' t c st sm (.inr hC) hMi hG hf (sib_at hS d) ho
          refine ⟨N + 1, m, t', ?_, hJ⟩
          simp only [runNT, hst, e1]
          exact hr'
      intro a v sl t c st sm hC hMi hG hf hS ho
      rcases hC with ⟨hra, hC⟩ | hC
      · obtain ⟨d, sl', hmv⟩ := duo_pick (P := P) (w := v) (sl := sl) (awake_of (.inl hra)) (awake_of (.inl hrb)) (.inr hrb)
        rcases hmv with ⟨_, hst⟩ | ⟨_, hst⟩
        · obtain ⟨_, a', v', es, c', st', sm', hgo, hor, hG', hS', hN, ho', hd, hev, _⟩ := cal_step hC (fits1_not3 hf) (grp_at hG d) (fits1_0 hf) (sib_at hS d)
          have hrun := runT_duo0 (P := P) (b := b) (sl := sl') hgo
          rw [woken_run hrb] at hrun
          have ho2 : v'.os = v0.os ∧ v'.output = v0.output ∧ v'.tape = v0.tape := ⟨ho'.1.trans ho.1, ho'.2.1.trans ho.2.1, ho'.2.2.trans ho.2.2⟩
          have hf' := fits1_next hf hN
          have hMi' := hMi.own0 (fn := a.frame.fn) (pos := a.frame.place) hev hd
          rcases hor with ⟨hB, _⟩ | ⟨n', hn', hC'⟩
          · obtain ⟨N, m, t', hr', hJ⟩ := blocked n0 a' v' sl' _ c' st' sm' hB hMi' hG' hf' hS' ho2
            refine ⟨N + 1, m, t', ?_, hJ⟩
            simp only [runNT, hst, hrun]
            exact hr'
          · have hra' := (cal_step hC' (fits1_not3 hf') hG' (fits1_0 hf') hS').1
            obtain ⟨N, m, t', hr', hJ⟩ := ih0 n' hn' a' v' sl' _ c' st' sm' (.inl ⟨hra', hC'⟩) hMi' hG' hf' hS' ho2
            refine ⟨N + 1, m, t', ?_, hJ⟩
            simp only [runNT, hst, hrun]
            exact hr'
        · obtain ⟨N, m, t', m1, ops, e1, hr', hJ⟩ := child n0 a (v.at d) sl' t c st sm (.inl ⟨hra, hC⟩) hMi hG hf (sib_at hS d) ho
          refine ⟨N + 1, m, t', ?_, hJ⟩
          simp only [runNT, hst, e1]
          exact hr'
      · exact blocked n0 a v sl t c st sm hC hMi hG hf hS ho
end Go.Proofs.Ythbghcebcahlnaa
