/- The flat filter gives whole bins back once rounded, and bins that are 0 stay 0: the law's row, its two listed tables of the library tied to the program's text; no condition besides. -/
import Derived.Test.YthiipodgfbnpeaaDoorFH
import Derived.Test.YthiipodgfbnpeaaDoorOP
import Derived.Test.YthiipodgfbnpeaaDoorTie
import Derived.Test.YthiipodgfbnpeaaDoorCards
import Derived.ProofKit
import Derived.LaidMore
import Derived.OpenShut
import Derived.ChangeOld
import Derived.Stop.Joined
import Derived.Stop.LaidErr
import Derived.Lib.LaidTab
import Derived.Deep.Slices
import Derived.SevenTiedAt
namespace Go.Proofs.YthiipodgfbnpeaaDoor
open Go.ChangeShapes Go.WideShapes Go.ChangeAt Go.RowKit

theorem own : ownKnob Tryd.prog.godebug = none := by kernel_rfl
theorem laidOut : laidOutB Tryd.prog = true := by kernel_rfl
theorem gTab : Tryd.prog.globalNamed "math/bits.deBruijn64tab" = some 2 := by kernel_rfl
theorem gTabType : (Tryd.prog.globals[2]?).map (·.type) = some 72 := by kernel_rfl
theorem cellsByte : Tryd.prog.cellsOf 5 = 1 := by kernel_rfl
theorem cellsTab : Tryd.prog.cellsOf 72 = 64 := by kernel_rfl
theorem cellsPair : Tryd.prog.cellsOf 34 = 2 := by kernel_rfl
theorem cellsI32 : Tryd.prog.cellsOf 21 = 1 := by kernel_rfl

def debTab : List Int := [0, 1, 56, 2, 57, 49, 28, 3, 61, 58, 42, 50, 38, 29, 17, 4, 62, 47, 59, 36, 45, 43, 51, 22, 53, 39, 33, 30, 24, 18, 12, 5, 63, 55, 48, 27, 60, 41, 37, 16, 46, 35, 44, 21, 52, 32, 23, 11, 54, 26, 40, 15, 34, 20, 31, 10, 25, 14, 19, 9, 13, 8, 7, 6]
theorem debTab_at : ∀ p : Nat, p < 13 → debAt p < debTab.length ∧ debTab.getD (debAt p) 0 = (p : Int) := by decide +kernel

def AliveOk : Prop := ∀ w : World, Deb w → Calls Tryd.prog 5 #[] w fun e w' => e = .returned (.bool true) ∧ Below w.heap.size w w'

theorem deb_of_laid {W : World} (h : laidMetH Tryd.prog Rows.filterFlatRow.laid W) : Deb W := by
  rw [MakeChecks.laidMetH_plain _ _ _ (by kernel_rfl)] at h
  have h2 : laidMet Tryd.prog [("math/bits.deBruijn64tab", Lib.tabData .u8 debTab)] W := laidMet.tail h
  have hT := Lib.tabIs_of_head gTab gTabType Tryd.underlying72 Tryd.underlying5 cellsByte cellsTab h2
  intro p hp
  obtain ⟨h3, h4⟩ := debTab_at p (by omega)
  have := hT.cell gTab (debAt p) h3
  rwa [h4] at this

theorem door_met (os : Os) (args : Array Value) : laidMetH Tryd.prog Rows.filterFlatRow.laid ((World.doorLaid Tryd.prog 19 os).forCall (fun _ _ => 0) ⟨#[], args, []⟩).memory :=
  laidMetH_of_parts3 (fuel := 8) (laidMet_of_run' 8 (by kernel_rfl) (by kernel_rfl)) (by kernel_rfl) (by kernel_rfl)

set_option maxRecDepth 100000 in
theorem lifted (hal : AliveOk) (hAN : ApplyNone 10) (hAK : ApplyKind 10) (hAF : ApplyFlat 10) (hAZ : ApplyZero 10) (os : Os) (started : os.Started) (H : Type) (enc : TypeId × Value → H) :
    ReturnsInHanded {} Tryd.checked os 4 .any (fun w args => (Rows.filterFlatSpec.pre enc Tryd.prog Tryd.f4 [] false w args ∧ laidMetH Tryd.prog Rows.filterFlatRow.laid w) ∧ sizedMet enc Tryd.prog Tryd.f4 (OpenSpec.ofChange Rows.filterFlatSpec) false w args)
      (Rows.filterFlatSpec.post enc Tryd.prog Tryd.f4 false true false false) := by
  refine returnsInHanded_of_change_and (C := Tryd.checked) (X := fun w _ => laidMetH Tryd.prog Rows.filterFlatRow.laid w) (fun _ _ _ hh h => h.of_heap hh) own started (by kernel_rfl) Tryd.func4
    (ChangeSpec.witness_shaped (enc := enc) (C := Tryd.checked) (os := os) (X := fun w _ => laidMetH Tryd.prog Rows.filterFlatRow.laid w) false (World.doorLaid Tryd.prog 19 os) #[.slice none 0 0, .int .i64 0] 8 rfl (World.shaped_of_RefB (by kernel_rfl) (by kernel_rfl)) (by kernel_rfl) (by kernel_rfl) (by kernel_rfl) (door_met os _)) ?_
  intro W base args ds gs before hval0 hW _ _ hL _
  have hval : ∀ (j : Nat) t v, Tryd.f4.params[j]? = some t → args[j]? = some v → Value.okWide Tryd.prog W .any base t v := hval0
  have hW' := hW
  obtain ⟨p, q, hA0, hV, rfl, hfz, hnd⟩ := hW
  have hA : DataW.TrodAll enc Tryd.prog W 0 (fun _ => true) true Tryd.f4.params.toList args.toList ds p := hA0
  rw [Tryd.params4] at hA hval
  obtain ⟨v0, v1, d0, d1, p0, p1, rfl, rfl, rfl, h0, h1⟩ := trodAll_two hA
  obtain ⟨rfl, rfl⟩ := trodVars_none hV
  obtain ⟨a0, len, cap, rfl⟩ := okWide_slice Tryd.underlying31 (hval 0 31 v0 rfl rfl)
  obtain ⟨kd, rfl, rfl, rfl, hwk⟩ := open_int Tryd.underlying3 (hval 1 3 v1 rfl rfl) h1
  have h0k := h0
  obtain ⟨fuel, hf⟩ := h0
  obtain ⟨g, o, r, hlen, ha, hp, hs⟩ := open_pairs Tryd.underlying31 Tryd.underlying34 Tryd.underlying21 cellsPair cellsI32 hf
  have hD := deb_of_laid hL
  clear hA0 hval0
  simp only [List.append_nil] at hW'
  have hlt : ∀ x ∈ p0, x.block < W.heap.size := fun x hx => by simpa using hW'.lt x (by simpa using hx)
  refine (flatWalk (cap := cap) (kind := kd) hAN hAK hAF hAZ hlen W hD a0 ha hp hs (hal W hD)).mono fun e W' ⟨he, bel⟩ => ?_
  subst he
  have hend := trodAll_mk2 (Below.trod laidOut (by kernel_rfl) (of_decide_eq_true (by kernel_rfl)) h0k bel hlt) (shut_int Tryd.underlying3 hwk)
  simp only [List.append_nil] at hend
  exact ⟨_, rfl, _, _, _, [], p0, [], hW', trodAll_mk1 (shut_bool Tryd.underlying4 _), hend, rfl, bel.frame _, fun h => by cases h⟩

theorem over (hal : AliveOk) (hAN : ApplyNone 10) (hAK : ApplyKind 10) (hAF : ApplyFlat 10) (hAZ : ApplyZero 10) : Rows.FilterFlatSaid :=
  OpenClaim.holds_of_wide 4 Tryd.f4 rfl rfl rfl rfl rfl rfl rfl ⟨rfl, rfl, rfl, rfl, rfl⟩ rfl rfl rfl rfl rfl (by kernel_rfl) Tryd.func4 (by kernel_rfl)
    (of_decide_eq_true (by kernel_rfl)) (by unfold Func.isWrapper; first | (rw [if_pos (by decide +kernel)]; kernel_rfl) | (rw [if_neg (by decide +kernel)]; exact ⟨rfl, rfl⟩))
    (fun os started H enc _ => lifted hal hAN hAK hAF hAZ os started H enc)

theorem provedFlat (hal : AliveOk) (hAN : ApplyNone 10) (hAK : ApplyKind 10) (hAF : ApplyFlat 10) (hAZ : ApplyZero 10) : Rows.FilterFlatCardSaid :=
  Claim7.holds_tied_plain_at .later [] [.data, .data] true (true, "bf4bfc1b07142600503217aa46394aac1664531f82e59f1b8d4d864103ef173a") false
    (over hal hAN hAK hAF hAZ) (fun _ h => by cases h) (by kernel_rfl) (fun _ h => by cases h) filterFlat_row_tie rfl ⟨rfl, rfl⟩ (by kernel_rfl) rfl
    (fun f fn hf hfn => by
      obtain rfl : f = 4 := Option.some.inj ((show Tryd.prog.funcNamed "penumbra/penumbralaw16.FilterFlat" = some 4 by kernel_rfl).symm.trans hf) |>.symm
      obtain rfl : fn = Tryd.f4 := (Option.some.inj (Tryd.func4.symm.trans hfn)).symm
      exact ⟨by kernel_rfl, fun j t ht => by
        rw [Tryd.params4] at ht
        have hm : t ∈ [31, 3] := by simpa using Array.mem_of_getElem? ht
        have hall : ([31, 3].all fun u => !Tryd.prog.wantsStandIn u) = true := by kernel_rfl
        exact (show Tryd.prog.wantsStandIn t = false by simpa using List.all_eq_true.1 hall t hm)⟩)
    (by kernel_rfl)
end Go.Proofs.YthiipodgfbnpeaaDoor
