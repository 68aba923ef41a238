/- Which cells are certain, and how wide bounds are, is told as the document says; no condition. -/
import Derived.Test.YthdoophjcjlklaaBD
import Derived.Test.YthdoophjcjlklaaRows
import Derived.Test.YthdoophjcjlklaaBLv
import Derived.ProofKit
import Derived.OpenShut
import Derived.ChangeOld
import Derived.ChangeSame
namespace Go.Proofs.Ythdoophjcjlklaa
open Go.ChangeShapes Go.WideShapes Go.ChangeAt Go.RowKit

theorem addr_plus (g o j : Nat) : (⟨g, o, none⟩ : Addr).add j = ⟨g, o + j, none⟩ := by unfold Addr.add; split <;> simp_all

section
variable {H : Type} {enc : TypeId × Value → H} {P : Program} {w : World} {base : Nat} {held : Bool}

theorem ints_two {cs : Array Value} (h : cs.size = 2) : ∃ x y, cs = #[x, y] := by
  obtain ⟨l⟩ := cs
  match l, h with
  | [x, y], _ => exact ⟨x, y, rfl⟩

/-- A list of ints that came in. -/
theorem open_list {t e : TypeId} {fuel : Nat} {v : Value} {x : DataW H × List MemPlace} (ht : P.underlying t = some (.slice e)) (he : P.underlying e = some (.int .i64)) (hc : P.cellsOf e = 1) (h : DataW.trod enc P w base (fun _ => true) held fuel t [v] = some x) :
    ∃ L : List Int, Ints w v L ∧ (L = [] ∨ ∃ els sp, x.1 = .slice els sp ∧ els.length = L.length) := by
  rcases open_ints ht he hc h with ⟨h1, _⟩ | ⟨a, len, cap, zs, h1, _, hl, _, hz, hx, hcell, _⟩
  · obtain rfl : v = .slice none 0 0 := by simpa using h1
    exact ⟨[], ints_none w, Or.inl rfl⟩
  · obtain rfl : v = .slice (some a) len cap := by simpa using h1
    simp only [if_true] at hz
    have hlen : (zs.take len).length = len := by rw [List.length_take]; omega
    refine ⟨zs.take len, ?_, Or.inr ⟨_, _, by rw [hx], by simp [lits]⟩⟩
    obtain ⟨b, off, spot⟩ := a
    have hspot : 0 < len → spot = none := fun c => by simpa [Addr.add] using World.cell?_spot (hcell 0 (by omega))
    refine ⟨some ⟨b, off, spot⟩, cap, b, off, by rw [hlen], ⟨fun hp => ?_, fun i c hi => ?_⟩⟩
    · rw [hlen] at hp
      obtain rfl := hspot hp
      have := hcell 0 (by omega)
      rw [addr_plus] at this
      exact ⟨rfl, World.block_lt_of_cell? w _ this⟩
    · have hlt : i < len := by
        have := (List.getElem?_eq_some_iff.1 hi).1
        omega
      obtain rfl := hspot (by omega)
      have := hcell i (by omega)
      rw [addr_plus] at this
      rw [this]
      rw [List.getElem?_take, if_pos hlt] at hi
      rw [List.getD_eq_getElem?_getD, hi]
      rfl
end

theorem ownT : ownKnob Try.prog.godebug = none := by kernel_rfl
theorem laidOutT : laidOutB Try.prog = true := by kernel_rfl
theorem bytesInt : Try.prog.bytesOf 3 = 8 := by kernel_rfl
theorem cellsBounds : Try.prog.cellsOf 24 = 2 := by kernel_rfl
theorem cellsInts : Try.prog.cellsOf 22 = 1 := by kernel_rfl
theorem cellsOne : Try.prog.cellsOf 3 = 1 := by kernel_rfl

set_option maxRecDepth 100000 in
theorem liftedTells (hal : AliveOk) (hWi : WideOk 8) (hCe : CertOk 10) (hWd : WidthOk 13) (os : Os) (started : os.Started) (H : Type) (enc : TypeId × Value → H) :
    ReturnsInHanded {} Try.checked os 3 .any (Rows.boundTellsSpec.pre6 enc Try.prog Try.f3 Rows.boundTellsRow.domain false) (Rows.boundTellsSpec.post enc Try.prog Try.f3 false true false false) := by
  refine returnsInHanded_of_change_sized (C := Try.checked) ownT started (by kernel_rfl) Try.func3
    (ChangeSpec.witness6 (enc := enc) (C := Try.checked) false ⟨#[], #[.agg #[.slice none 0 0, .slice none 0 0], .int .i64 0], []⟩ 8 (by kernel_rfl) (by kernel_rfl) (by kernel_rfl) (by kernel_rfl)) ?_
  intro W base args ds gs before hval0 hW hcnd hsz0 _
  have hsz : (DataW.weightsEach Try.prog (Try.f3.params.toList ++ Rows.boundTellsSpec.plain.varTypes Try.prog) (ds ++ gs)).all (· ≤ reachBytes) = true := hsz0
  have hval : ∀ (j : Nat) t v, Try.f3.params[j]? = some t → args[j]? = some v → Value.okWide Try.prog W .any base t v := hval0
  have hW' := hW
  obtain ⟨p, q, hA0, hV, rfl, hfz, hnd⟩ := hW
  have hA : DataW.TrodAll enc Try.prog W 0 (fun _ => true) true Try.f3.params.toList args.toList ds p := hA0
  rw [Try.params3] at hA hval
  obtain ⟨v0, vs0, d0, ds0, p0, q0, hargs, rfl, rfl, h0, r0⟩ := trodAll_cons hA
  obtain ⟨v1, vs1, d1, ds1, p1, q1, rfl, rfl, rfl, h1, r1⟩ := trodAll_cons r0
  obtain ⟨rfl, rfl, rfl⟩ := trodAll_nil r1
  obtain rfl : args = #[v0, v1] := by cases args; simp_all
  obtain ⟨rfl, rfl⟩ := trodVars_none hV
  obtain ⟨n, rfl, rfl, rfl, w1⟩ := open_int Try.underlying3 (hval 1 3 v1 rfl rfl) h1
  have hk := h0
  have hv := hval 0 24 v0 rfl rfl
  simp only [Value.okWide, Try.underlying24] at hv
  obtain ⟨cs, rfl, hcs, _⟩ := hv
  obtain ⟨u, v, rfl⟩ := ints_two (hcs.trans cellsBounds)
  obtain ⟨fuel, hf⟩ := h0
  obtain ⟨y0, y1, m, hx, _, g0, g1⟩ := trod_struct2 Try.underlying24 hf
  have g0 : DataW.trod enc Try.prog W 0 (fun _ => true) true m 22 [u] = some y0 := by
    have h := g0
    rw [cellsInts] at h
    simpa [Value.cells] using h
  have g1 : DataW.trod enc Try.prog W 0 (fun _ => true) true m 22 [v] = some y1 := by
    have h := g1
    rw [cellsInts] at h
    simpa [Value.cells] using h
  obtain ⟨A, hA1, eA⟩ := open_list Try.underlying22 Try.underlying3 cellsOne g0
  obtain ⟨B, hB1, eB⟩ := open_list Try.underlying22 Try.underlying3 cellsOne g1
  obtain rfl : d0 = .agg [y0.1, y1.1] := congrArg Prod.fst hx
  have hr : reachBytes = 140737488351232 := by decide
  have hin : ∀ (y : DataW H), (y = y0.1 ∨ y = y1.1) → ∀ els sp, y = .slice els sp → els.length * 8 ≤ 140737488351232 := by
    intro y hy els sp hys
    have hw := List.all_eq_true.1 hsz ((els.length + sp.length) * Try.prog.bytesOf 3) (DataW.weights_mem_each (j := 0) (t := 24) rfl rfl _ (by
      rcases hy with hy | hy
      · rw [← hy, hys]
        simp [DataW.weights, DataW.weightsEach, Try.underlying24, Try.underlying22]
      · rw [← hy, hys]
        simp [DataW.weights, DataW.weightsEach, Try.underlying24, Try.underlying22]))
    rw [bytesInt, hr] at hw
    have hw : (els.length + sp.length) * 8 ≤ 140737488351232 := by simpa using hw
    omega
  have lA : A.length ≤ 70368744177664 := by
    rcases eA with e | ⟨els, sp, e, el⟩
    · rw [e]; exact Nat.zero_le _
    · have := hin _ (Or.inl rfl) els sp e
      omega
  have lB : B.length ≤ 70368744177664 := by
    rcases eB with e | ⟨els, sp, e, el⟩
    · rw [e]; exact Nat.zero_le _
    · have := hin _ (Or.inr rfl) els sp e
      omega
  clear hA0 hval0
  simp only [List.append_nil] at hW'
  have hlt : ∀ x ∈ p0, x.block < W.heap.size := fun x hx => by simpa using hW'.lt x (by simpa using hx)
  refine (tellsWalk (n := n) hal hWi hCe hWd lA lB W hA1 hB1).mono fun e W' ⟨he, bel⟩ => ?_
  subst he
  have hend := trodAll_cons_mk (Below.trod laidOutT (by kernel_rfl) (of_decide_eq_true (by kernel_rfl)) hk bel hlt) (trodAll_cons_mk (shut_int Try.underlying3 w1) trodAll_mk0)
  simp only [List.append_nil] at hend
  exact ⟨_, rfl, _, _, _, [], p0, [], hW', trodAll_cons_mk (shut_bool Try.underlying4 _) trodAll_mk0, hend, rfl, bel.frame _, fun h => by cases h⟩

theorem provedTells (hal : AliveOk) (hWi : WideOk 8) (hCe : CertOk 10) (hWd : WidthOk 13) : Rows.BoundTellsSaid :=
  OpenClaim.holds_of_wide_leaving 3 Try.f3 rfl rfl rfl rfl rfl rfl rfl ⟨rfl, rfl, rfl, rfl, rfl⟩ rfl rfl rfl rfl rfl (by kernel_rfl) Try.func3 (by kernel_rfl)
    (of_decide_eq_true (by kernel_rfl)) (by unfold Func.isWrapper; first | (rw [if_pos (by decide +kernel)]; kernel_rfl) | (rw [if_neg (by decide +kernel)]; exact ⟨rfl, rfl⟩))
    (fun os started H enc _ => leaving_of_handed (liftedTells hal hWi hCe hWd os started H enc))
end Go.Proofs.Ythdoophjcjlklaa
