/- The order of the directions changes nothing in their ghost; by the fixed fact. -/
import Derived.Test.YtfddchjonjklkaaGF
import Derived.Test.YtfddchjonjklkaaGB
import Derived.Test.YtfddchjonjklkaaGO
namespace Go.Proofs.Ytfddchjonjklkaa
open Go.ChangeShapes Go.WideShapes Go.ChangeAt Go.RowKit

set_option maxRecDepth 100000 in
theorem liftedGhostOrders (hAl : AliveOk) (os : Os) (started : os.Started) (H : Type) (enc : TypeId × Value → H) :
    ReturnsInHanded {} Try.checked os 5 .any (Rows.ghostOrdersSpec.pre6 enc Try.prog Try.f5 Rows.ghostOrdersRow.domain false) (Rows.ghostOrdersSpec.post enc Try.prog Try.f5 false true false false) := by
  refine returnsInHanded_of_change_sized (C := Try.checked) own started (by kernel_rfl) Try.func5
    (ChangeSpec.witness6 (enc := enc) (C := Try.checked) false ⟨#[], #[.slice none 0 0], []⟩ 8 (by kernel_rfl) (by kernel_rfl) (by kernel_rfl) (by kernel_rfl)) ?_
  intro W base args ds gs before hval0 hW hcnd hsz _
  have hval : ∀ (j : Nat) t v, Try.f5.params[j]? = some t → args[j]? = some v → Value.okWide Try.prog W .any base t v := hval0
  have hW' := hW
  obtain ⟨p, q, hA0, hV, rfl, hfz, hnd⟩ := hW
  have hA : DataW.TrodAll enc Try.prog W 0 (fun _ => true) true Try.f5.params.toList args.toList ds p := hA0
  rw [Try.params5] at hA hval
  obtain ⟨v0, vs0, d0, ds0, p0, q0, hargs, rfl, rfl, h0, r0⟩ := trodAll_cons hA
  obtain ⟨rfl, rfl, rfl⟩ := trodAll_nil r0
  obtain rfl : args = #[v0] := by cases args; simp_all
  obtain ⟨rfl, rfl⟩ := trodVars_none hV
  obtain ⟨a0, len, cap, rfl⟩ := okWide_slice Try.underlying22 (hval 0 22 v0 rfl rfl)
  have hk := h0
  obtain ⟨fuel, hf⟩ := h0
  obtain ⟨g, o, L, hlen, h64, hD, hnil, hel⟩ := open_dirs Try.underlying22 Try.underlying34 Try.underlying3 cellsDir cellsInt ⟨rfl, rfl⟩ ⟨rfl, rfl⟩ hf
  have hsmall : L.length * 16 ≤ 140737488351232 := by
    rcases hel with hn | ⟨els, sp, he, hel⟩
    · rcases Nat.eq_zero_or_pos L.length with hz | hz
      · omega
      · have := (hD.at_ hz).1
        rw [hn] at this
        cases this
    · obtain rfl : d0 = .slice els sp := he
      have h2 := sized_slice hsz (j := 0) (t := 22) (e := 34) rfl rfl Try.underlying22
      have hb : Try.checked.prog.bytesOf 34 = 16 := bytesDir
      rw [hb] at h2
      have hr : reachBytes = 140737488351232 := by decide
      rw [hr] at h2
      omega
  subst hlen
  clear hA0 hval0
  simp only [List.append_nil] at hW'
  have hlt : ∀ x ∈ p0, x.block < W.heap.size := fun x hx => by simpa using hW'.lt x (by simpa using hx)
  refine (ghostOrdersWalk (cap := cap) hAl hsmall h64 W hD).mono fun e W' ⟨he, past⟩ => ?_
  subst he
  obtain ⟨bel, alk⟩ := past.back
  have hend := trodAll_cons_mk (Below.trod laidOut (by kernel_rfl) (of_decide_eq_true (by kernel_rfl)) hk bel hlt) trodAll_mk0
  simp only [List.append_nil] at hend
  exact ⟨_, rfl, ChangeSpec.post_alike ⟨_, _, _, [], p0, [], hW', trodAll_cons_mk (shut_bool Try.underlying4 _) trodAll_mk0, hend, rfl, bel.frame _, fun h => by cases h⟩ alk⟩

theorem proved : Rows.GhostOrdersSaid :=
  OpenClaim.holds_of_wide 5 Try.f5 rfl rfl rfl rfl rfl rfl rfl ⟨rfl, rfl, rfl, rfl, rfl⟩ rfl rfl rfl rfl rfl (by kernel_rfl) Try.func5 (by kernel_rfl)
    (of_decide_eq_true (by kernel_rfl)) (by unfold Func.isWrapper; first | (rw [if_pos (by decide +kernel)]; kernel_rfl) | (rw [if_neg (by decide +kernel)]; exact ⟨rfl, rfl⟩))
    (fun os started H enc _ => liftedGhostOrders (alive_of blindOk) os started H enc)
end Go.Proofs.Ytfddchjonjklkaa
