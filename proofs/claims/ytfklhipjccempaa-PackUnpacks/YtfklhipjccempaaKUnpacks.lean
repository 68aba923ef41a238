/- Any bytes are read, or refused, as the document says: the frame (asks the fixed fact and the program's Unpack). -/
import Derived.Test.YtfklhipjccempaaKOP
import Derived.Test.YtfklhipjccempaaRows
import Derived.ProofKit
import Derived.Deep.Slices
import Derived.SizedLaws
namespace Go.Proofs.Ytfklhipjccempaa
open Go.ChangeShapes Go.WideShapes Go.ChangeAt Go.RowKit

def Alive21Ok : Prop := ∀ w : World, Calls Try.prog 4 #[] w fun e w' => e = .returned (.bool true) ∧ Below w.heap.size w w'

set_option maxRecDepth 100000 in
theorem lifted (hal : Alive21Ok) (hU : UnpOk 5) (os : Os) (started : os.Started) (H : Type) (enc : TypeId × Value → H) :
    ReturnsInHanded {} Try.checked os 3 .any (Rows.packUnpacksSpec.pre6 enc Try.prog Try.f3 Rows.packUnpacksRow.domain false) (Rows.packUnpacksSpec.post enc Try.prog Try.f3 false true false false) := by
  refine returnsInHanded_of_change_sized (C := Try.checked) own started (by kernel_rfl) Try.func3
    (ChangeSpec.witness6 (enc := enc) (C := Try.checked) false ⟨#[], #[.slice none 0 0], []⟩ 8 (by kernel_rfl) (by kernel_rfl) (by kernel_rfl) (by kernel_rfl)) ?_
  intro W base args ds gs before hval0 hW hcnd hsz _
  have hval : ∀ (j : Nat) t v, Try.f3.params[j]? = some t → args[j]? = some v → Value.okWide Try.prog W .any base t v := hval0
  have hW' := hW
  obtain ⟨p, q, hA0, hV, rfl, hfz, hnd⟩ := hW
  have hA : DataW.TrodAll enc Try.prog W 0 (fun _ => true) true Try.f3.params.toList args.toList ds p := hA0
  rw [Try.params3] at hA hval
  obtain ⟨v1, vs1, d1, ds1, p1, q1, hargs, rfl, rfl, h1, r1⟩ := trodAll_cons hA
  obtain ⟨rfl, rfl, rfl⟩ := trodAll_nil r1
  obtain rfl : args = #[v1] := by cases args; simp_all
  obtain ⟨rfl, rfl⟩ := trodVars_none hV
  obtain ⟨a0, len, cap, rfl⟩ := okWide_slice Try.underlying22 (hval 0 22 v1 rfl rfl)
  have h1k := h1
  obtain ⟨fuel, hf⟩ := h1
  obtain ⟨g, o, L, hlen, hD, hnil, hcap, hel⟩ := open_bytesN Try.underlying22 Try.underlying5 cellsByte hf
  have hsmall : L.length ≤ 140737488351232 := by
    rcases hel with hn | ⟨els, sp, he, hel⟩
    · rcases Nat.eq_zero_or_pos L.length with hz | hz
      · omega
      · have := (hD.at_ hz).1
        rw [hn] at this
        cases this
    · obtain rfl : d1 = .slice els sp := he
      have h2 := sized_slice hsz (j := 0) (t := 22) (e := 5) rfl rfl Try.underlying22
      have hb : Try.checked.prog.bytesOf 5 = 1 := bytesByte
      rw [hb] at h2
      have hr : reachBytes = 140737488351232 := by decide
      rw [hr] at h2
      omega
  subst hlen
  clear hA0 hval0
  simp only [List.append_nil] at hW'
  have hlt : ∀ x ∈ p1, x.block < W.heap.size := fun x hx => by simpa using hW'.lt x (by simpa using hx)
  refine (unpacksWalk hU (cap := cap) (by omega) W hD hnil hcap (hal W)).mono fun e W' ⟨he, bel⟩ => ?_
  subst he
  have hend := trodAll_mk1 (Below.trod laidOut (by kernel_rfl) (of_decide_eq_true (by kernel_rfl)) h1k bel hlt)
  exact ⟨_, rfl, _, _, _, [], p1, [], hW', trodAll_mk1 (shut_bool Try.underlying4 _), hend, rfl, bel.frame _, fun h => by cases h⟩

theorem provedUnpacks (hal : Alive21Ok) (hU : UnpOk 5) : Rows.PackUnpacksSaid :=
  OpenClaim.holds_of_wide 3 Try.f3 rfl rfl rfl rfl rfl rfl rfl ⟨rfl, rfl, rfl, rfl, rfl⟩ rfl rfl rfl rfl rfl (by kernel_rfl) Try.func3 (by kernel_rfl)
    (of_decide_eq_true (by kernel_rfl)) (by unfold Func.isWrapper; first | (rw [if_pos (by decide +kernel)]; kernel_rfl) | (rw [if_neg (by decide +kernel)]; exact ⟨rfl, rfl⟩))
    (fun os started H enc _ => lifted hal hU os started H enc)
end Go.Proofs.Ytfklhipjccempaa
