/- Two unlike cells of a grid of prime side lie together on just one line; no condition. -/
import Derived.Test.YtkaggnlceboocaaQP
import Derived.Test.YtkaggnlceboocaaQO
import Derived.Test.YtkaggnlceboocaaRows
namespace Go.Proofs.Ytkaggnlceboocaa
open Go.ChangeShapes Go.WideShapes Go.ChangeAt Go.RowKit

theorem ownP : ownKnob Try.prog.godebug = none := by kernel_rfl
theorem cellsArr : Try.prog.cellsOf 30 = 2 := by kernel_rfl
theorem cellsU8 : Try.prog.cellsOf 5 = 1 := by kernel_rfl

set_option maxRecDepth 100000 in
theorem liftedPairs (hal : AliveOk) (hI : IsOk 8) (hl : LineOk 6) (os : Os) (started : os.Started) (H : Type) (enc : TypeId × Value → H) :
    ReturnsInHanded {} Try.checked os 4 .any (Rows.primePairsSpec.pre6 enc Try.prog Try.f4 Rows.primePairsRow.domain false) (Rows.primePairsSpec.post enc Try.prog Try.f4 false true false false) := by
  refine returnsInHanded_of_change (C := Try.checked) ownP started (by kernel_rfl) Try.func4
    (ChangeSpec.witness6 (enc := enc) (C := Try.checked) false ⟨#[], #[.int .i64 0, .agg #[.int .u8 0, .int .u8 0], .agg #[.int .u8 0, .int .u8 0]], []⟩ 8 (by kernel_rfl) (by kernel_rfl) (by kernel_rfl) (by kernel_rfl)) ?_
  intro W base args ds gs before hval0 hW hcnd _
  have hval : ∀ (j : Nat) t v, Try.f4.params[j]? = some t → args[j]? = some v → Value.okWide Try.prog W .any base t v := hval0
  have hW' := hW
  obtain ⟨p, q, hA0, hV, rfl, hfz, hnd⟩ := hW
  have hA : DataW.TrodAll enc Try.prog W 0 (fun _ => true) true Try.f4.params.toList args.toList ds p := hA0
  rw [Try.params4] at hA hval
  obtain ⟨v0, vs0, d0, ds0, p0, q0, hargs, rfl, rfl, h0, r0⟩ := trodAll_cons hA
  obtain ⟨v1, vs1, d1, ds1, p1, q1, rfl, rfl, rfl, h1, r1⟩ := trodAll_cons r0
  obtain ⟨v2, vs2, d2, ds2, p2, q2, rfl, rfl, rfl, h2, r2⟩ := trodAll_cons r1
  obtain ⟨rfl, rfl, rfl⟩ := trodAll_nil r2
  obtain rfl : args = #[v0, v1, v2] := by cases args; simp_all
  obtain ⟨rfl, rfl⟩ := trodVars_none hV
  obtain ⟨a, rfl, rfl, rfl, w0⟩ := open_int Try.underlying3 (hval 0 3 v0 rfl rfl) h0
  obtain ⟨a0, a1, rfl, rfl, rfl, wa0, wa1⟩ := open_arr2 Try.underlying30 Try.underlying5 cellsArr cellsU8 (hval 1 30 v1 rfl rfl) h1
  obtain ⟨b0, b1, rfl, rfl, rfl, wb0, wb1⟩ := open_arr2 Try.underlying30 Try.underlying5 cellsArr cellsU8 (hval 2 30 v2 rfl rfl) h2
  clear hA0 hval0
  simp only [List.append_nil] at hW'
  refine (pairsWalk hal hI hl (u8_bounds wa0) (u8_bounds wa1) (u8_bounds wb0) (u8_bounds wb1) W).mono fun e W' ⟨he, bel⟩ => ?_
  subst he
  exact ⟨_, rfl, _, _, _, [], [], [], hW', trodAll_cons_mk (shut_bool Try.underlying4 _) trodAll_mk0,
    trodAll_cons_mk (shut_int Try.underlying3 w0) (trodAll_cons_mk (shut_arr2 Try.underlying30 Try.underlying5 cellsArr cellsU8 wa0 wa1) (trodAll_cons_mk (shut_arr2 Try.underlying30 Try.underlying5 cellsArr cellsU8 wb0 wb1) trodAll_mk0)), rfl, bel.frame _, fun h => by cases h⟩

theorem provedPairs (hal : AliveOk) (hI : IsOk 8) (hl : LineOk 6) : Rows.PrimePairsSaid :=
  OpenClaim.holds_of_wide 4 Try.f4 rfl rfl rfl rfl rfl rfl rfl ⟨rfl, rfl, rfl, rfl, rfl⟩ rfl rfl rfl rfl rfl (by kernel_rfl) Try.func4 (by kernel_rfl)
    (of_decide_eq_true (by kernel_rfl)) (by unfold Func.isWrapper; first | (rw [if_pos (by decide +kernel)]; kernel_rfl) | (rw [if_neg (by decide +kernel)]; exact ⟨rfl, rfl⟩))
    (fun os started H enc _ => liftedPairs hal hI hl os started H enc)
end Go.Proofs.Ytkaggnlceboocaa
