/- The lone machine's way, piece by piece. -/
import Derived.Test.YthbghcebcahlnaaSN
import Derived.Calls
set_option linter.unusedSectionVars false
namespace Go.Proofs.Ythbghcebcahlnaa
open Go

theorem fen_refl : ∀ l : List Func, Fen l l
  | [] => trivial
  | _ :: l => ⟨.inl rfl, fen_refl l⟩
theorem fenceB : FenceB (barP Try.prog) (barF Try.prog) := by
  letI : Inhabited Junk := noJunk
  refine fence_of (l := (barL Try.prog)) (m := (barL Try.prog)) rfl rfl (fen_refl _) bar_num bar_ends fun fn h => ?_
  have := fence.ext
  obtain ⟨k, hk⟩ : ∃ k : Nat, (barF Try.prog)[k]? = some fn := by
    rcases h with rfl | rfl | rfl | rfl
    · exact ⟨42, rfl⟩
    · exact ⟨93, rfl⟩
    · exact ⟨94, rfl⟩
    · exact ⟨95, rfl⟩
  rcases h with rfl | rfl | rfl | rfl
  · refine ⟨next42, fun e he _ args => ?_⟩
    rw [find42] at he
    cases he
    exact sim_addInt64 args
  · refine ⟨next93, fun e he _ args => ?_⟩
    rw [find93] at he
    cases he
    exact sim_float64bits args
  · refine ⟨next94, fun e he _ args => ?_⟩
    rw [find94] at he
    cases he
    exact sim_float64frombits args
  · refine ⟨next95, fun e he _ args => ?_⟩
    rw [find95] at he
    cases he
    exact sim_toIntegral _ _ args
theorem bodiesB : Bodies (barP Try.prog) (barF Try.prog) := by
  letI : Inhabited Junk := noJunk
  intro f fn c h1 h2
  have := bodies f fn c h1 h2
  rw [← okCode_bar (P := Try.prog) (F := (barF Try.prog))] at this
  exact this
theorem goesW_mono {P : Program} {r : Nat} {E E' : Frame → List Frame → World → Prop} (hE : ∀ fr up w, E fr up w → E' fr up w) {fr : Frame} {up : List Frame} {w : World} (h : GoesW P r E fr up w) : GoesW P r E' fr up w := by
  letI : Inhabited Junk := noJunk
  induction h using GoesW.ind with
  | fin h => exact .fin (hE _ _ _ h)
  | step h1 _ ih => exact .step h1 ih
/-- The lone machine comes to such a one. -/
def To (T : Machine → Prop) (m : Machine) : Prop := ∃ m', T m' ∧ Steps (barP Try.prog) m m'
section
variable {T : Machine → Prop} {b : Frame} {a : Act} {k : List Item} {cs : List Frame} {w : World}
theorem to_step {m m' : Machine} (h : step (barP Try.prog) m = .next m') (ht : To T m') : To T m := let ⟨x, h1, h2⟩ := ht; ⟨x, h1, .head h h2⟩
theorem to_steps {m m' : Machine} (h : Steps (barP Try.prog) m m') (ht : To T m') : To T m := let ⟨x, h1, h2⟩ := ht; ⟨x, h1, h.trans h2⟩
theorem to_here {m : Machine} (h : T m) : To T m := ⟨m, h, Steps.refl _ _⟩
theorem to_seq {x y : Code} (h : To T (lone (b.at a (.code x :: .code y :: k)) cs w)) : To T (lone (b.at a (.code (.seq x y) :: k)) cs w) := to_step step_seq h
theorem to_region {id : Nat} {ops : Array Oper} (h : To T (lone (b.at a (.inRegion ops (List.range ops.size) :: k)) cs w)) : To T (lone (b.at a (.code (.region id ops false) :: k)) cs w) := to_step step_region h
theorem to_out {ops : Array Oper} (h : To T (lone (b.at a k) cs w)) : To T (lone (b.at a (.inRegion ops [] :: k)) cs w) := to_step step_region_end h
/-- A code that ends as it should. -/
theorem to_wp {x : Code} {K : Act → World → Prop} (h : x.wp (barP Try.prog) (fun e a w => e = .normal ∧ K a w) a w) (hk : ∀ a w, K a w → To T (lone (b.at a k) cs w)) : To T (lone (b.at a (.code x :: k)) cs w) := by
  obtain ⟨e, a', w', ⟨rfl, h1⟩, h2⟩ := h b k cs
  exact to_steps h2 (hk a' w' h1)
/-- A code that returns. -/
theorem to_ret {x : Code} {K : Act → World → Prop} (h : x.wp (barP Try.prog) (fun e a w => e = .ret ∧ K a w) a w) (hk : ∀ a w todo, K a w → To T (lone { b.at a todo with mode := .returning } cs w)) : To T (lone (b.at a (.code x :: k)) cs w) := by
  obtain ⟨e, a', w', ⟨rfl, h1⟩, todo, h2⟩ := h b k cs
  exact to_steps h2 (hk a' w' todo h1)
theorem to_value {ops : Array Oper} {i : Nat} {rest : List Nat} {o : Oper} {v : Value} {w' : World} (ho : ops[i]? = some o) (hw : Region.wanted o (yielded ops a.tmps) = true) (hk : b.kind ≠ .early) (hr : (execOp a.eval o).run (barP Try.prog) w = .ok (.value v) w') (ht : To T (lone (b.at (a.put o.dst v) (.inRegion ops rest :: k)) cs w')) : To T (lone (b.at a (.inRegion ops (i :: rest) :: k)) cs w) :=
  letI : Inhabited Junk := noJunk
  to_step (step_lone_of_go (Go.Conc.stepG_value ho hw hk hr)) ht
theorem to_enter {ops : Array Oper} {i : Nat} {rest : List Nat} {o : Oper} {f : FuncId} {args : Array Value} {w' : World} (ho : ops[i]? = some o) (hw : Region.wanted o (yielded ops a.tmps) = true) (hk : b.kind ≠ .early) (hr : (execOp a.eval o).run (barP Try.prog) w = .ok (.enter f args) w') (ht : To T (lone (Frame.enter (barP Try.prog) f args .normal) (b.at a (.inRegion ops (i :: rest) :: k) :: cs) w')) : To T (lone (b.at a (.inRegion ops (i :: rest) :: k)) cs w) :=
  letI : Inhabited Junk := noJunk
  to_step (step_lone_of_go (Go.Conc.stepG_enter ho hw hk hr)) ht
theorem to_leave {fr c : Frame} {v : Value} (h : fr.leaving (barP Try.prog) w (.returned v)) (ht : To T (lone (c.finish v) cs w)) : To T (lone fr (c :: cs) w) := to_step (step_leave_returned h) ht
end
end Go.Proofs.Ythbghcebcahlnaa
