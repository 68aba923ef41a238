/- The one form of a direction, the order of two, and the direction across are told as the document says, for all numbers; no condition. -/
import Derived.Test.YtkjjhllmedkfhaaDF
import Derived.Test.YtkjjhllmedkfhaaDO
import Derived.Test.YtkjjhllmedkfhaaRows
import Derived.ProofKit
namespace Go.Proofs.Ytkjjhllmedkfhaa
open Go.ChangeShapes Go.WideShapes Go.ChangeAt Go.RowKit

theorem own : ownKnob Try.prog.godebug = none := by kernel_rfl

set_option maxRecDepth 100000 in
theorem lifted (os : Os) (started : os.Started) (H : Type) (enc : TypeId × Value → H) :
    ReturnsInHanded {} Try.checked os 3 .any (Rows.dirFormsSpec.pre6 enc Try.prog Try.f3 Rows.dirFormsRow.domain false) (Rows.dirFormsSpec.post enc Try.prog Try.f3 false true false false) := by
  refine returnsInHanded_of_change (C := Try.checked) own started (by kernel_rfl) Try.func3
    (ChangeSpec.witness6 (enc := enc) (C := Try.checked) false ⟨#[], #[.agg #[.int .i64 0, .int .i64 0], .agg #[.int .i64 0, .int .i64 0]], []⟩ 8 (by kernel_rfl) (by kernel_rfl) (by kernel_rfl) (by kernel_rfl)) ?_
  intro W base args ds gs before hval0 hW hcnd _
  have hval : ∀ (j : Nat) t v, Try.f3.params[j]? = some t → args[j]? = some v → Value.okWide Try.prog W .any base t v := hval0
  have hW' := hW
  obtain ⟨p, q, hA0, hV, rfl, hfz, hnd⟩ := hW
  have hA : DataW.TrodAll enc Try.prog W 0 (fun _ => true) true Try.f3.params.toList args.toList ds p := hA0
  rw [Try.params3] at hA hval
  obtain ⟨v0, vs0, d0, ds0, p0, q0, hargs, rfl, rfl, h0, r0⟩ := trodAll_cons hA
  obtain ⟨v1, vs1, d1, ds1, p1, q1, rfl, rfl, rfl, h1, r1⟩ := trodAll_cons r0
  obtain ⟨rfl, rfl, rfl⟩ := trodAll_nil r1
  obtain rfl : args = #[v0, v1] := by cases args; simp_all
  obtain ⟨rfl, rfl⟩ := trodVars_none hV
  obtain ⟨a1, a2, rfl, rfl, rfl, wa1, wa2⟩ := open_pair Try.underlying23 Try.underlying3 Try.underlying3 cellsDir rfl rfl cellsInt cellsInt (hval 0 23 v0 rfl rfl) h0
  obtain ⟨b1, b2, rfl, rfl, rfl, wb1, wb2⟩ := open_pair Try.underlying23 Try.underlying3 Try.underlying3 cellsDir rfl rfl cellsInt cellsInt (hval 1 23 v1 rfl rfl) h1
  clear hA0 hval0
  simp only [List.append_nil] at hW'
  refine (formsWalk (a := (a1, a2)) (b := (b1, b2)) ⟨i64_bounds wa1, i64_bounds wa2⟩ ⟨i64_bounds wb1, i64_bounds wb2⟩ W).mono fun e W' ⟨he, bel⟩ => ?_
  subst he
  exact ⟨_, rfl, _, _, _, [], [], [], hW', trodAll_cons_mk (shut_bool Try.underlying4 _) trodAll_mk0,
    trodAll_cons_mk (shut_pair Try.underlying23 Try.underlying3 Try.underlying3 cellsDir rfl rfl cellsInt cellsInt wa1 wa2) (trodAll_cons_mk (shut_pair Try.underlying23 Try.underlying3 Try.underlying3 cellsDir rfl rfl cellsInt cellsInt wb1 wb2) trodAll_mk0), rfl, bel.frame _, fun h => by cases h⟩

theorem proved : Rows.DirFormsSaid :=
  OpenClaim.holds_of_wide 3 Try.f3 rfl rfl rfl rfl rfl rfl rfl ⟨rfl, rfl, rfl, rfl, rfl⟩ rfl rfl rfl rfl rfl (by kernel_rfl) Try.func3 (by kernel_rfl)
    (of_decide_eq_true (by kernel_rfl)) (by unfold Func.isWrapper; first | (rw [if_pos (by decide +kernel)]; kernel_rfl) | (rw [if_neg (by decide +kernel)]; exact ⟨rfl, rfl⟩))
    (fun os started H enc _ => lifted os started H enc)
end Go.Proofs.Ytkjjhllmedkfhaa
