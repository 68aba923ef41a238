/- BoundSound: behind ray.All, as a way. -/
import Derived.Test.YthbghcebcahlnaaLSC
set_option linter.unusedSimpArgs false
namespace Go.Proofs.Ythbghcebcahlnaa
open Go Go.RowKit Go.Shelf

def op3 (fn : Func) (i : Nat) : Oper := ((ops3 fn)[i]?).getD ⟨none, .move (.tmp 0), 0, "", #[], none⟩
theorem run_mv {ρ : Operand → Value} {o : Oper} {w : World} {v : Value} (x : Operand) (h : o.op = .move x) (hv : ρ x = v) : (execOp ρ o).run (barP Try.prog) w = .ok (.value v) w := by
  unfold execOp
  rw [h, ← hv]
  rfl
set_option maxRecDepth 100000 in
set_option maxHeartbeats 4000000 in
theorem law_upto {T : Machine → Prop} {cs : List Frame} {w4 : World} {lv dv sv gV : Value} {gb gq m : Nat} {n : Int}
    (h : To T (lone ((Go.Conc.base 3).at ⟨#[lv, dv, sv, undef, undef, undef, .bool false, .pointer (some ⟨gb, 0, none⟩), .pointer (some ⟨w4.heap.size, 0, none⟩), .int .i64 0, undef, undef, undef, undef, undef, undef, undef, undef, undef, .bool true, .bool false, lv, gV, .tuple #[.agg #[.int .i64 n, .slice (some ⟨gq, 0, none⟩) m m], .int .i64 0], gV, dv, .tuple #[.agg #[.int .i64 n, .slice (some ⟨gq, 0, none⟩) m m], .int .i64 0], .agg #[.int .i64 n, .slice (some ⟨gq, 0, none⟩) m m], .int .i64 0, undef, undef, undef, undef, undef, undef, undef, undef, undef, undef, undef, undef, undef, undef, undef, undef, undef, undef, undef, undef, undef, undef, undef, undef, undef, undef, undef, undef, undef, undef, undef, undef, undef, undef, undef, undef, undef, undef, undef, undef, undef, undef, undef, undef, undef, undef, undef, undef, undef, undef, undef, undef, undef, undef, undef, undef, undef, undef, undef, undef, undef, undef, undef, undef, undef, undef, undef, undef, undef, undef, undef, undef, undef, undef, undef, undef, undef, undef, undef, undef, undef, undef, undef, undef, undef, undef, undef, undef, undef, undef, undef, undef, undef, undef, undef, undef, undef, undef, undef, undef, undef, undef, undef, undef, undef, undef, undef, undef, undef, undef, undef, undef, undef], []⟩ [.code (rest3 Try.f3)]) cs (w4.alloc (.cells #[.int .i64 n, .slice (some ⟨gq, 0, none⟩) m m] 31)))) :
    To T (lone ((fr3 Try.f3 lv dv sv gV gb).finish (.tuple #[.agg #[.int .i64 n, .slice (some ⟨gq, 0, none⟩) m m], .int .i64 0])) cs w4) := by
  have d3 : (op3 Try.f3 3).dst = some 23 := by kernel_rfl
  have d4 : (op3 Try.f3 4).dst = some 27 := by kernel_rfl
  have d5 : (op3 Try.f3 5).dst = some 28 := by kernel_rfl
  have d6 : (op3 Try.f3 6).dst = some 8 := by kernel_rfl
  have d7 : (op3 Try.f3 7).dst = none := by kernel_rfl
  unfold fr3
  rw [Frame.finish_at, show ((ops3 Try.f3)[2]?).bind (·.dst) = some 26 from by kernel_rfl]
  refine to_value (o := op3 Try.f3 3) (by kernel_rfl) (aS_want (by kernel_rfl) _) (by simp [Go.Conc.base]) (v := .tuple #[.agg #[.int .i64 n, .slice (some ⟨gq, 0, none⟩) m m], .int .i64 0]) (w' := w4) (run_mv _ (show (op3 Try.f3 3).op = .move (.tmp 26) by kernel_rfl) rfl) ?_
  refine to_value (o := op3 Try.f3 4) (by kernel_rfl) (aS_want (by kernel_rfl) _) (by simp [Go.Conc.base]) (v := .agg #[.int .i64 n, .slice (some ⟨gq, 0, none⟩) m m]) (w' := w4) (by unfold execOp; rw [show (op3 Try.f3 4).op = .extract (.tmp 23) 0 by kernel_rfl]; simp [go_sem, Act.put, d3, d4, d5, d6, d7]) ?_
  refine to_value (o := op3 Try.f3 5) (by kernel_rfl) (aS_want (by kernel_rfl) _) (by simp [Go.Conc.base]) (v := .int .i64 0) (w' := w4) (by unfold execOp; rw [show (op3 Try.f3 5).op = .extract (.tmp 23) 1 by kernel_rfl]; simp [go_sem, Act.put, d3, d4, d5, d6, d7]) ?_
  refine to_value (o := op3 Try.f3 6) (by kernel_rfl) (aS_want (by kernel_rfl) _) (by simp [Go.Conc.base]) (v := .pointer (some ⟨w4.heap.size, 0, none⟩)) (w' := w4.alloc (.cells #[.int .i64 0, .slice none 0 0] 31)) (by unfold execOp; rw [show (op3 Try.f3 6).op = .alloc 31 by kernel_rfl]; simp [go_sem, Act.put, d3, d4, d5, d6, d7]) ?_
  refine to_none (o := op3 Try.f3 7) (by kernel_rfl) (aS_want (by kernel_rfl) _) (by simp [Go.Conc.base]) (w' := w4.alloc (.cells #[.int .i64 n, .slice (some ⟨gq, 0, none⟩) m m] 31)) (by unfold execOp; rw [show (op3 Try.f3 7).op = .store 31 (.tmp 8) (.tmp 27) by kernel_rfl]; simp [go_sem, Act.put, d3, d4, d5, d6, d7]) ?_
  refine to_value (o := op3 Try.f3 8) (by kernel_rfl) (aS_want (by kernel_rfl) _) (by simp [Go.Conc.base]) (v := .int .i64 0) (w' := w4.alloc (.cells #[.int .i64 n, .slice (some ⟨gq, 0, none⟩) m m] 31)) (by unfold execOp; rw [show (op3 Try.f3 8).op = .assign (.tmp 28) by kernel_rfl]; simp [go_sem, Act.put, d3, d4, d5, d6, d7]) ?_
  exact to_out h
end Go.Proofs.Ythbghcebcahlnaa
