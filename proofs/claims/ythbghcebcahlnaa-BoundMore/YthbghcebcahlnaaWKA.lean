/- The worker's counter. -/
import Derived.Test.YthbghcebcahlnaaYP
namespace Go.Proofs.Ythbghcebcahlnaa
open Go.RowKit

/-- The counter, one up. -/
theorem run_addInt64 (w : World) (g : Nat) (t d : Int) (hc : w.cell? ⟨g, 0, none⟩ = some (.int .i64 t)) (hf : w.frozen? ⟨g, 0, none⟩ = false) : (callFunc 42 #[.pointer (some ⟨g, 0, none⟩), .int .i64 d]).run (barP Try.prog) w = .ok (.value (.int .i64 (IntKind.i64.wrap (t + d)))) (w.setCell ⟨g, 0, none⟩ (.int .i64 (IntKind.i64.wrap (t + d)))) := by
  rw [run_callFunc_extern (e := Extern.Atomic.update (Op.intArith .add) .i64 true) Bar.func42 (by kernel_rfl) (by kernel_rfl) (by kernel_rfl) (by kernel_rfl)]
  have : (Extern.Atomic.update (Op.intArith .add) .i64 true #[.pointer (some ⟨g, 0, none⟩), .int .i64 d]).run (barP Try.prog) w = .ok (.int .i64 (IntKind.i64.wrap (t + d))) (w.setCell ⟨g, 0, none⟩ (.int .i64 (IntKind.i64.wrap (t + d)))) := by
    show (asAddr (.pointer (some ⟨g, 0, none⟩)) >>= fun a => Extern.Atomic.read (.int .i64) a >>= fun old => asInt old >>= fun x => asInt (.int .i64 d) >>= fun y => Op.intArith .add .i64 x y >>= fun new => store a new .atomic >>= fun _ => pure new).run (barP Try.prog) w = _
    simp [Extern.Atomic.read, asAddr, asInt, asIntOf, Op.intArith, go_sem, hc, hf]
  rw [this]
  rfl
theorem wrap_up (t : Nat) (ht : t ≤ 1000) : IntKind.i64.wrap ((t : Int) + 1) = (t : Int) + 1 := by rw [IntKind.wrap_i64]; omega
theorem wrap_dn (t : Nat) (ht : t ≤ 1000) : IntKind.i64.wrap ((t : Int) + 1 - 1) = (t : Int) := by rw [IntKind.wrap_i64]; omega
set_option maxRecDepth 100000 in
set_option maxHeartbeats 3200000 in
theorem intAdd (w : World) (g t : Nat) (ht : t ≤ 1000) (hc : w.cell? ⟨g, 0, none⟩ = some (.int .i64 (t : Int))) (hf : w.frozen? ⟨g, 0, none⟩ = false) : Calls (barP Try.prog) 26 #[.pointer (some ⟨g, 0, none⟩), .int .i64 1] w fun e w' => e = .returned (.int .i64 ((t : Int) + 1)) ∧ w' = w.setCell ⟨g, 0, none⟩ (.int .i64 ((t : Int) + 1)) := by
  have k := run_addInt64 w g t 1 hc hf
  rw [wrap_up t ht] at k
  go_enter Bar.func26, Bar.ntmps26
  go_wp2_with fail
  go_ret
  exact ⟨rfl, rfl⟩
set_option maxRecDepth 100000 in
set_option maxHeartbeats 3200000 in
/-- next(): the next direction that none has taken. -/
theorem nextOk (w : World) (g t : Nat) (ht : t ≤ 1000) (hc : w.cell? ⟨g, 0, none⟩ = some (.int .i64 (t : Int))) (hf : w.frozen? ⟨g, 0, none⟩ = false) : Calls (barP Try.prog) 25 #[.pointer (some ⟨g, 0, none⟩)] w fun e w' => e = .returned (.int .i64 (t : Int)) ∧ w' = w.setCell ⟨g, 0, none⟩ (.int .i64 ((t : Int) + 1)) := by
  have hd := wrap_dn t ht
  go_enter Bar.func25, Bar.ntmps25
  go_wp2_with fail
  refine (intAdd w g t ht hc hf).mono ?_
  rintro e w' ⟨rfl, rfl⟩
  go_wp2_with fail
  go_ret
  exact ⟨rfl, rfl⟩
end Go.Proofs.Ythbghcebcahlnaa
