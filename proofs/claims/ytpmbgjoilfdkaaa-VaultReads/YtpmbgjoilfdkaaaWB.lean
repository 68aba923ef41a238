/- What is given up by panic is caught. -/
import Derived.Test.YtpmbgjoilfdkaaaProg
import Derived.RowKit
import Derived.Tactics
import Derived.Tactics2
import Derived.Defers
import Derived.Recover
import Derived.Laws.Pointers
import Derived.WalkLawsBesides
namespace Go.Proofs.Ytpmbgjoilfdkaaa
open Go.RowKit

theorem is_torn (w : World) : (Instr.typeAssert (.iface 53 (.agg #[])) 20 53 true).run Try.prog w = .ok (.tuple #[.agg #[], .bool true]) w := by kernel_rfl
theorem torn_some (w : World) : (binOp .neq 20 (.iface 53 (.agg #[])) .nilIface).run Try.prog w = .ok (.bool true) w := by kernel_rfl
theorem torn_none (w : World) : (binOp .neq 20 .nilIface .nilIface).run Try.prog w = .ok (.bool false) w := by kernel_rfl

set_option maxRecDepth 100000 in
set_option maxHeartbeats 800000 in
theorem catch_torn (older : List PanicEntry) (w : World) :
    CallsD Try.prog 22 #[] (.panicking ({ v := .iface 53 (.agg #[]), recovered := false } :: older)) w fun e u' w' =>
      e = .returned (.tuple #[]) ∧ u' = .panicking ({ v := .iface 53 (.agg #[]), recovered := true } :: older) ∧ w' = w.alloc (.cells #[] 53) := by
  have k1 := is_torn
  have k2 := torn_some
  refine callsD_of_wpS Try.func22 rfl fun c₀ cs hu => ?_
  apply wpS_seq
  apply wpS_region
  simp [wpOpsS, go_sem, recoverD, hu, Try.ntmps22, Exit.thenS]
  refine wpS_of_wp ?_
  simp only [Array.replicate, List.replicate, List.setIfInBounds_toArray, List.set_cons_zero, List.set_cons_succ]
  go_wp2
  simp [bodyPostS, results, Try.results22]

set_option maxRecDepth 100000 in
set_option maxHeartbeats 800000 in
theorem catch_idle (w : World) :
    CallsD Try.prog 22 #[] .returning w fun e u' w' => e = .returned (.tuple #[]) ∧ u' = .returning ∧ w' = w := by
  have k2 := torn_none
  refine callsD_of_wpS Try.func22 rfl fun c₀ cs hu => ?_
  apply wpS_seq
  apply wpS_region
  simp [wpOpsS, go_sem, recoverD, hu, Try.ntmps22, Exit.thenS]
  refine wpS_of_wp ?_
  simp only [Array.replicate, List.replicate, List.setIfInBounds_toArray, List.set_cons_zero, List.set_cons_succ]
  go_wp2
  cases c₀
  simp_all [bodyPostS, results, Try.results22]
end Go.Proofs.Ytpmbgjoilfdkaaa
