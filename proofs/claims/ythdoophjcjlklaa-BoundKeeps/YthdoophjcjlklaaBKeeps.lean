/- BoundKeeps returns true for every input: no call changes the bounds it is given, and no two answers share memory; no condition. -/
import Derived.Test.YthdoophjcjlklaaCD
import Derived.Test.YthdoophjcjlklaaBTells
namespace Go.Proofs.Ythdoophjcjlklaa
open Go.ChangeShapes Go.WideShapes Go.ChangeAt Go.RowKit

set_option maxRecDepth 100000 in
theorem liftedKeeps (os : Os) (started : os.Started) (H : Type) (enc : TypeId × Value → H) :
    ReturnsInHanded {} Try.checked os 6 .any (Rows.boundKeepsSpec.pre6 enc Try.prog Try.f6 Rows.boundKeepsRow.domain false) (Rows.boundKeepsSpec.post enc Try.prog Try.f6 false true false false) := by
  refine returnsInHanded_of_change_sized (C := Try.checked) ownT started (by kernel_rfl) Try.func6
    (ChangeSpec.witness6 (enc := enc) (C := Try.checked) false ⟨#[], #[.int .i64 0, .agg #[.slice none 0 0, .slice none 0 0]], []⟩ 8 (by kernel_rfl) (by kernel_rfl) (by kernel_rfl) (by kernel_rfl)) ?_
  intro W base args ds gs before hval0 hW hcnd hsz0 _
  have hsz : (DataW.weightsEach Try.prog (Try.f6.params.toList ++ Rows.boundKeepsSpec.plain.varTypes Try.prog) (ds ++ gs)).all (· ≤ reachBytes) = true := hsz0
  have hval : ∀ (j : Nat) t v, Try.f6.params[j]? = some t → args[j]? = some v → Value.okWide Try.prog W .any base t v := hval0
  have hW' := hW
  obtain ⟨p, q, hA0, hV, rfl, hfz, hnd⟩ := hW
  have hA : DataW.TrodAll enc Try.prog W 0 (fun _ => true) true Try.f6.params.toList args.toList ds p := hA0
  rw [Try.params6] at hA hval
  obtain ⟨v0, vs0, d0, ds0, p0, q0, hargs, rfl, rfl, h0, r0⟩ := trodAll_cons hA
  obtain ⟨v1, vs1, d1, ds1, p1, q1, rfl, rfl, rfl, h1, r1⟩ := trodAll_cons r0
  obtain ⟨rfl, rfl, rfl⟩ := trodAll_nil r1
  obtain rfl : args = #[v0, v1] := by cases args; simp_all
  obtain ⟨rfl, rfl⟩ := trodVars_none hV
  obtain ⟨n, rfl, rfl, rfl, w1⟩ := open_int Try.underlying3 (hval 0 3 v0 rfl rfl) h0
  have hk := h1
  have hv := hval 1 24 v1 rfl rfl
  simp only [Value.okWide, Try.underlying24] at hv
  obtain ⟨cs, rfl, hcs, _⟩ := hv
  obtain ⟨u, v, rfl⟩ := ints_two (hcs.trans cellsBounds)
  obtain ⟨fuel, hf⟩ := h1
  obtain ⟨y0, y1, m, hx, _, g0, g1⟩ := trod_struct2 Try.underlying24 hf
  have g0 : DataW.trod enc Try.prog W 0 (fun _ => true) true m 22 [u] = some y0 := by
    have h := g0
    rw [cellsInts] at h
    simpa [Value.cells] using h
  have g1 : DataW.trod enc Try.prog W 0 (fun _ => true) true m 22 [v] = some y1 := by
    have h := g1
    rw [cellsInts] at h
    simpa [Value.cells] using h
  obtain ⟨A, hA1, eA⟩ := open_list Try.underlying22 Try.underlying3 cellsOne g0
  obtain ⟨B, hB1, eB⟩ := open_list Try.underlying22 Try.underlying3 cellsOne g1
  obtain rfl : d1 = .agg [y0.1, y1.1] := congrArg Prod.fst hx
  have hr : reachBytes = 140737488351232 := by decide
  have hin : ∀ (y : DataW H), (y = y0.1 ∨ y = y1.1) → ∀ els sp, y = .slice els sp → els.length * 8 ≤ 140737488351232 := by
    intro y hy els sp hys
    have hw := List.all_eq_true.1 hsz ((els.length + sp.length) * Try.prog.bytesOf 3) (DataW.weights_mem_each (j := 1) (t := 24) rfl rfl _ (by
      rcases hy with hy | hy
      · rw [← hy, hys]
        simp [DataW.weights, DataW.weightsEach, Try.underlying24, Try.underlying22]
      · rw [← hy, hys]
        simp [DataW.weights, DataW.weightsEach, Try.underlying24, Try.underlying22]))
    rw [bytesInt, hr] at hw
    have hw : (els.length + sp.length) * 8 ≤ 140737488351232 := by simpa using hw
    omega
  have lA : A.length * 8 ≤ 140737488351232 := by
    rcases eA with e | ⟨els, sp, e, el⟩
    · rw [e]; exact Nat.zero_le _
    · have := hin _ (Or.inl rfl) els sp e
      omega
  have lB : B.length * 8 ≤ 140737488351232 := by
    rcases eB with e | ⟨els, sp, e, el⟩
    · rw [e]; exact Nat.zero_le _
    · have := hin _ (Or.inr rfl) els sp e
      omega
  clear hA0 hval0
  simp only [List.append_nil] at hW'
  have hlt : ∀ x ∈ p1, x.block < W.heap.size := fun x hx => by simpa using hW'.lt x (by simpa using hx)
  refine (keepsWalk (n := n) lA lB W hA1 hB1).mono fun e W' ⟨he, bel⟩ => ?_
  subst he
  have hend := trodAll_cons_mk (shut_int Try.underlying3 w1) (trodAll_cons_mk (Below.trod laidOutT (by kernel_rfl) (of_decide_eq_true (by kernel_rfl)) hk bel hlt) trodAll_mk0)
  simp only [List.append_nil, List.nil_append] at hend
  exact ⟨_, rfl, _, _, _, [], p1, [], hW', trodAll_cons_mk (shut_bool Try.underlying4 _) trodAll_mk0, hend, rfl, bel.frame _, fun h => by cases h⟩

theorem proved : Rows.BoundKeepsSaid :=
  OpenClaim.holds_of_wide_leaving 6 Try.f6 rfl rfl rfl rfl rfl rfl rfl ⟨rfl, rfl, rfl, rfl, rfl⟩ rfl rfl rfl rfl rfl (by kernel_rfl) Try.func6 (by kernel_rfl)
    (of_decide_eq_true (by kernel_rfl)) (by unfold Func.isWrapper; first | (rw [if_pos (by decide +kernel)]; kernel_rfl) | (rw [if_neg (by decide +kernel)]; exact ⟨rfl, rfl⟩))
    (fun os started H enc _ => leaving_of_handed (liftedKeeps os started H enc))
end Go.Proofs.Ythdoophjcjlklaa
