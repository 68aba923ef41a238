/- The child of byWorkers: its first steps, and its way out. -/
import Derived.Test.YthbghcebcahlnaaSL
import Derived.Test.YthbghcebcahlnaaSB
set_option linter.unusedSectionVars false
namespace Go.Proofs.Ythbghcebcahlnaa
open Go Go.Conc Go.RowKit Go.Conc.Lib Go.ConcR.Gen
variable [Inhabited Junk]

def body28 (fn : Func) : Code := fn.body.getD .skip
/-- Its loop. -/
def rest28 (fn : Func) : Code := csnd (body28 fn)
def bot28 (P : Program) : Frame := { (default : Frame) with fn := P.funcs.size, defers := [], mode := .panicking [goexitEntry] }
def done28 (b : Nat) : Deferred := { target := .fn (.func 29) #[], args := #[.pointer (some ⟨b + 6, 0, none⟩)] }
def tmps28 (b : Nat) : Array Value := #[.pointer (some ⟨b + 6, 0, none⟩), .pointer (some ⟨b + 5, 0, none⟩), .pointer (some ⟨b + 1, 0, none⟩), .pointer (some ⟨b, 0, none⟩), .pointer (some ⟨b + 3, 0, none⟩), undef, undef, undef, undef, undef, undef, undef, undef, undef, undef, undef, undef, undef, undef, undef, undef, undef, undef]
/-- Where its work begins. -/
def fr28 (fn : Func) (b : Nat) : Frame := (baseD 28).at ⟨tmps28 b, [done28 b]⟩ [.code (rest28 fn)]
/-- Where it ends. -/
def out28 (b : Nat) (T : Array Value) : Frame := { (baseD 28).at ⟨T, [done28 b]⟩ [] with mode := .returning }

theorem born28 (b : Nat) (w : World) : stepG Try.prog false (born Try.prog (call28 b)) w = .go (G ((baseD 28).at ⟨tmps28 b, []⟩ [.code (body28 Try.f28)]) [(bot28 Try.prog)]) w #[] := by
  simp [born, call28, stepG, unwind, callDeferred, invoke, callFunc, Try.func28, Try.f28, seen, GStep.after, G, Frame.enter, Frame.at, baseD, bot28, body28, tmps28]
set_option maxRecDepth 100000 in
theorem idle28 (b : Nat) : Idle Try.prog (runG (fr28 Try.f28 b) [(bot28 Try.prog)]) 5 (born Try.prog (call28 b)) := by
  refine ⟨rfl, _, born28 b, ?_⟩
  simp only [body28, Try.f28, Option.getD_some]
  refine ⟨rfl, _, fun w => stepG_seq, ?_⟩
  refine ⟨rfl, _, fun w => stepG_region, ?_⟩
  refine ⟨rfl, _, fun w => stepG_defer rfl rfl (by decide) rfl, ?_⟩
  refine ⟨rfl, _, fun w => stepG_region_end, ?_⟩
  show G _ _ = runG (fr28 Try.f28 b) [(bot28 Try.prog)]
  have e : Array.map (Act.eval ⟨tmps28 b, []⟩) #[Operand.tmp 0] = #[.pointer (some ⟨b + 6, 0, none⟩)] := by simp [Act.eval, tmps28]
  rw [e]
  rfl
/-- The literal's own way out, once Done has left: it only leaves. -/
theorem quits28 (T : Array Value) : QuitsD Try.prog 2 0 (G { (baseD 28).at ⟨T, []⟩ [] with mode := .returning } [(bot28 Try.prog)]) := by
  refine QuitsD.ctl (g' := G (bot28 Try.prog) []) rfl (fun w => ?_) ?_
  · simp [G, stepG, unwind, doReturn, results, Frame.at, baseD, bot28, Try.func28, Try.f28, seen, GStep.after, goexitEntry]
  refine QuitsD.ctl (g' := { G (bot28 Try.prog) [] with status := .finished }) rfl (fun w => ?_) ⟨rfl, rfl⟩
  simp [G, stepG, unwind, bot28, goexitEntry, Frame.catches]
  rfl
/-- THE CHILD, ITS WORK DONE: Done. -/
theorem chi28 (b : Nat) (T : Array Value) : Chi Try.prog 77 (b + 6) 9001 ⟨0, 0⟩ (runG (out28 b T) [(bot28 Try.prog)]) := by
  refine ⟨rfl, .inl fun w st sm _ => ⟨_, ?_, chi_done wgLib (c := { (baseD 28).at ⟨T, []⟩ [] with mode := .returning }) (cs := [(bot28 Try.prog)]) w rfl (quits28 T)⟩⟩
  simp [out28, done28, runG, stepG, unwind, callDeferred, invoke, callFunc, Try.func29, Try.f29, seen, GStep.after, G, Frame.enter, Frame.at, baseD, body_done, doneFn]
end Go.Proofs.Ythbghcebcahlnaa
