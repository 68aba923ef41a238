/- Any file is read as the document says: the frame (asks the fixed fact and the program's Slices, Get, Cut). -/
import Derived.Test.YtpmbgjoilfdkaaaVN
import Derived.Test.YtpmbgjoilfdkaaaKOP
import Derived.Test.YtpmbgjoilfdkaaaRows
import Derived.ProofKit
import Derived.OpenShut
namespace Go.Proofs.Ytpmbgjoilfdkaaa
open Go.ChangeShapes Go.WideShapes Go.ChangeAt Go.RowKit

def Alive22Ok : Prop := ∀ w : World, Calls Try.prog 4 #[] w fun e w' => e = .returned (.bool true) ∧ Below w.heap.size w w'

set_option maxRecDepth 100000 in
theorem liftedReads (hal : Alive22Ok) (hS : SlicesOk 5) (hG : GetOk 7) (hC : CutOk 9) (os : Os) (started : os.Started) (H : Type) (enc : TypeId × Value → H) :
    ReturnsInHanded {} Try.checked os 3 .any (Rows.vaultReadsSpec.pre6 enc Try.prog Try.f3 Rows.vaultReadsRow.domain false) (Rows.vaultReadsSpec.post enc Try.prog Try.f3 false true false false) := by
  refine returnsInHanded_of_change_sized (C := Try.checked) own started (by kernel_rfl) Try.func3
    (ChangeSpec.witness6 (enc := enc) (C := Try.checked) false ⟨#[], #[.slice none 0 0, .int .i64 0], []⟩ 8 (by kernel_rfl) (by kernel_rfl) (by kernel_rfl) (by kernel_rfl)) ?_
  intro W base args ds gs before hval0 hW hcnd hsz _
  have hval : ∀ (j : Nat) t v, Try.f3.params[j]? = some t → args[j]? = some v → Value.okWide Try.prog W .any base t v := hval0
  have hW' := hW
  obtain ⟨p, q, hA0, hV, rfl, hfz, hnd⟩ := hW
  have hA : DataW.TrodAll enc Try.prog W 0 (fun _ => true) true Try.f3.params.toList args.toList ds p := hA0
  rw [Try.params3] at hA hval
  obtain ⟨v1, vs1, d1, ds1, p1, q1, hargs, rfl, rfl, h1, r1⟩ := trodAll_cons hA
  obtain ⟨v2, vs2, d2, ds2, p2, q2, rfl, rfl, rfl, h2i, r2⟩ := trodAll_cons r1
  obtain ⟨rfl, rfl, rfl⟩ := trodAll_nil r2
  obtain rfl : args = #[v1, v2] := by cases args; simp_all
  obtain ⟨rfl, rfl⟩ := trodVars_none hV
  obtain ⟨n, rfl, rfl, rfl, wn⟩ := open_int Try.underlying3 (hval 1 3 v2 rfl rfl) h2i
  obtain ⟨a0, len, cap, rfl⟩ := okWide_slice Try.underlying22 (hval 0 22 v1 rfl rfl)
  have h1k := h1
  obtain ⟨fuel, hf⟩ := h1
  obtain ⟨g, o, L, hlen, hD, hnil, hcp, hel⟩ := open_bytesN Try.underlying22 Try.underlying5 cellsByte hf
  have hsmall : L.length ≤ 140737488351232 := by
    rcases hel with hn | ⟨els, sp, he, hel⟩
    · rcases Nat.eq_zero_or_pos L.length with hz | hz
      · omega
      · have := (hD.at_ hz).1
        rw [hn] at this
        cases this
    · obtain rfl : d1 = .slice els sp := he
      have h2 := sized_slice hsz (j := 0) (t := 22) (e := 5) rfl rfl Try.underlying22
      have hb : Try.checked.prog.bytesOf 5 = 1 := bytesByte
      rw [hb] at h2
      have hr : reachBytes = 140737488351232 := by decide
      rw [hr] at h2
      omega
  subst hlen
  clear hA0 hval0
  simp only [List.append_nil] at hW'
  have hlt : ∀ x ∈ p1, x.block < W.heap.size := fun x hx => by simpa using hW'.lt x (by simpa using hx)
  refine (readsWalk hS hG hC n (by omega) W hD hnil hcp (hal W)).mono fun e W' ⟨he, bel⟩ => ?_
  subst he
  have hend := trodAll_cons_mk (Below.trod laidOut (by kernel_rfl) (of_decide_eq_true (by kernel_rfl)) h1k bel hlt) (trodAll_cons_mk (shut_int Try.underlying3 wn) trodAll_mk0)
  simp only [List.append_nil] at hend
  exact ⟨_, rfl, _, _, _, [], p1, [], hW', trodAll_cons_mk (shut_bool Try.underlying4 _) trodAll_mk0, hend, rfl, bel.frame _, fun h => by cases h⟩

theorem provedReads (hal : Alive22Ok) (hS : SlicesOk 5) (hG : GetOk 7) (hC : CutOk 9) : Rows.VaultReadsSaid :=
  OpenClaim.holds_of_wide 3 Try.f3 rfl rfl rfl rfl rfl rfl rfl ⟨rfl, rfl, rfl, rfl, rfl⟩ rfl rfl rfl rfl rfl (by kernel_rfl) Try.func3 (by kernel_rfl)
    (of_decide_eq_true (by kernel_rfl)) (by unfold Func.isWrapper; first | (rw [if_pos (by decide +kernel)]; kernel_rfl) | (rw [if_neg (by decide +kernel)]; exact ⟨rfl, rfl⟩))
    (fun os started H enc _ => liftedReads hal hS hG hC os started H enc)
end Go.Proofs.Ytpmbgjoilfdkaaa
