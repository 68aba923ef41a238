/- Where the directions determine every grid no cell stays open; by the fixed fact. -/
import Derived.Test.YtgbkfmjkemkajaaPF
namespace Go.Proofs.Ytgbkfmjkemkajaa
open Go.ChangeShapes Go.WideShapes Go.ChangeAt Go.RowKit

set_option maxRecDepth 100000 in
theorem liftedPeelKatz (hAl : AliveOk) (hLB : LeftBad 9) (hLG : LeftGood 9) (os : Os) (started : os.Started) (H : Type) (enc : TypeId × Value → H) :
    ReturnsInHanded {} Try.checked os 4 .any (Rows.peelKatzSpec.pre6 enc Try.prog Try.f4 Rows.peelKatzRow.domain false) (Rows.peelKatzSpec.post enc Try.prog Try.f4 false true false false) := by
  refine returnsInHanded_of_change_sized (C := Try.checked) own started (by kernel_rfl) Try.func4
    (ChangeSpec.witness6 (enc := enc) (C := Try.checked) false ⟨#[], #[.int .i64 0, .slice none 0 0], []⟩ 8 (by kernel_rfl) (by kernel_rfl) (by kernel_rfl) (by kernel_rfl)) ?_
  intro W base args ds gs before hval0 hW hcnd hsz _
  have hval : ∀ (j : Nat) t v, Try.f4.params[j]? = some t → args[j]? = some v → Value.okWide Try.prog W .any base t v := hval0
  have hW' := hW
  obtain ⟨p, q, hA0, hV, rfl, hfz, hnd⟩ := hW
  have hA : DataW.TrodAll enc Try.prog W 0 (fun _ => true) true Try.f4.params.toList args.toList ds p := hA0
  rw [Try.params4] at hA hval
  obtain ⟨v0, vs0, d0, ds0, p0, q0, hargs, rfl, rfl, h0, r0⟩ := trodAll_cons hA
  obtain ⟨v1, vs1, d1, ds1, p1, q1, rfl, rfl, rfl, h1, r1⟩ := trodAll_cons r0
  obtain ⟨rfl, rfl, rfl⟩ := trodAll_nil r1
  obtain rfl : args = #[v0, v1] := by cases args; simp_all
  obtain ⟨rfl, rfl⟩ := trodVars_none hV
  obtain ⟨n, rfl, rfl, rfl, w0⟩ := open_int Try.underlying3 (hval 0 3 v0 rfl rfl) h0
  obtain ⟨a0, len, cap, rfl⟩ := okWide_slice Try.underlying22 (hval 1 22 v1 rfl rfl)
  have hk := h1
  obtain ⟨fuel, hf⟩ := h1
  obtain ⟨g, o, L, hlen, h64, hD, hnil, hel⟩ := open_dirs Try.underlying22 Try.underlying35 Try.underlying3 cellsDir cellsInt ⟨rfl, rfl⟩ ⟨rfl, rfl⟩ hf
  have hsmall : L.length * 16 ≤ 140737488351232 := by
    rcases hel with hn | ⟨els, sp, he, hel⟩
    · rcases Nat.eq_zero_or_pos L.length with hz | hz
      · omega
      · have := (hD.at_ hz).1
        rw [hn] at this
        cases this
    · obtain rfl : d1 = .slice els sp := he
      have h2 := sized_slice hsz (j := 1) (t := 22) (e := 35) rfl rfl Try.underlying22
      have hb : Try.checked.prog.bytesOf 35 = 16 := bytesDir
      rw [hb] at h2
      have hr : reachBytes = 140737488351232 := by decide
      rw [hr] at h2
      omega
  subst hlen
  clear hA0 hval0
  simp only [List.append_nil, List.nil_append] at hW'
  have hlt : ∀ x ∈ p1, x.block < W.heap.size := fun x hx => by simpa using hW'.lt x (by simpa using hx)
  refine (peelKatzWalk (n := n) (cap := cap) hAl hLB hLG (by omega) h64 W hD).mono fun e W' ⟨he, bel⟩ => ?_
  subst he
  have hend := trodAll_cons_mk (shut_int Try.underlying3 w0) (trodAll_cons_mk (Below.trod laidOut (by kernel_rfl) (of_decide_eq_true (by kernel_rfl)) hk bel hlt) trodAll_mk0)
  simp only [List.append_nil, List.nil_append] at hend
  exact ⟨_, rfl, _, _, _, [], p1, [], hW', trodAll_cons_mk (shut_bool Try.underlying4 _) trodAll_mk0, hend, rfl, bel.frame _, fun h => by cases h⟩

theorem provedPeelKatz (hAl : AliveOk) (hLB : LeftBad 9) (hLG : LeftGood 9) : Rows.PeelKatzSaid :=
  OpenClaim.holds_of_wide 4 Try.f4 rfl rfl rfl rfl rfl rfl rfl ⟨rfl, rfl, rfl, rfl, rfl⟩ rfl rfl rfl rfl rfl (by kernel_rfl) Try.func4 (by kernel_rfl)
    (of_decide_eq_true (by kernel_rfl)) (by unfold Func.isWrapper; first | (rw [if_pos (by decide +kernel)]; kernel_rfl) | (rw [if_neg (by decide +kernel)]; exact ⟨rfl, rfl⟩))
    (fun os started H enc _ => liftedPeelKatz hAl hLB hLG os started H enc)
end Go.Proofs.Ytgbkfmjkemkajaa
