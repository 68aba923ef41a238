/- What the barred program has in common with the program, for the walks. -/
import Derived.Test.YtfnbcpeipoobkaaGreatM2
import Derived.Laws.Sem
set_option linter.unusedSectionVars false
namespace Go.Proofs.YtfnbcpeipoobkaaGreat
open Go
variable {P : Program} {F : Array Func}

/-- A function that is barred: a call of it halts. -/
def stub (fn : Func) : Func := { fn with name := "barred", origin := "", body := none }
theorem main_bar : (bar P F).main = P.main := rfl
theorem inits_bar : (bar P F).inits = P.inits := rfl
theorem rt_bar : (bar P F).rt = { P.rt with panicNilError := P.types.size } := rfl
theorem typeInfo_bar (t : TypeId) (w : World) : (typeInfo t).run (bar P F) w = (typeInfo t).run P w := by
  have h := info_bar (P := P) (F := F) t
  simp only [typeInfo, Sem.run_bind, run_program, Result.andThen, h]
  cases P.info? t <;> rfl
theorem runUnderlying_bar (t : TypeId) (w : World) : (underlying t).run (bar P F) w = (underlying t).run P w := by
  have h := under_bar (P := P) (F := F) t
  simp only [underlying, Sem.run_bind, run_program, Result.andThen, h]
  cases P.underlying t <;> rfl
theorem sizeOf_bar (t : TypeId) (w : World) : (sizeOf t).run (bar P F) w = (sizeOf t).run P w := by
  simp only [sizeOf, Sem.run_bind, typeInfo_bar]
  cases (typeInfo t).run P w <;> simp [Result.andThen]
theorem isAgg_bar (t : TypeId) (w : World) : (isAgg t).run (bar P F) w = (isAgg t).run P w := by
  simp only [isAgg, Sem.run_bind, runUnderlying_bar]
  cases (underlying t).run P w with
  | halt h v => simp only [Result.andThen]
  | ok a v => cases a <;> simp [Result.andThen]
theorem zeroValue_bar (t : TypeId) (w : World) : (zeroValue t).run (bar P F) w = (zeroValue t).run P w := by
  simp only [zeroValue, Sem.run_bind, typeInfo_bar]
  cases (typeInfo t).run P w with
  | halt h v => simp only [Result.andThen]
  | ok a v =>
    cases h : a.zero <;> simp [Result.andThen, h]
theorem eqGuardType_bar : ∀ (d : Nat) (t : TypeId), (bar P F).eqGuardType d t = P.eqGuardType d t
  | 0, _ => rfl
  | d + 1, t => by
    have ih : (bar P F).eqGuardType d = P.eqGuardType d := funext (eqGuardType_bar d)
    unfold Program.eqGuardType
    rw [under_bar, ih]
end Go.Proofs.YtfnbcpeipoobkaaGreat
