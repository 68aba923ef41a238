/- The fixed fact of layer 19. -/
import Derived.Test.YthbghcebcahlnaaBW1
namespace Go.Proofs.Ythbghcebcahlnaa
open Go.RowKit Go.Shelf

theorem conv255 (W : World) : (convert 38 3 (.float .f64 4643176031446892544)).run (barP Try.prog) W = .ok (.int .i64 255) W := by kernel_rfl
theorem conv0 (W : World) : (convert 38 3 (.float .f64 0)).run (barP Try.prog) W = .ok (.int .i64 0) W := by kernel_rfl

set_option maxHeartbeats 400000 in
theorem sum255 (w : World) : Calls (barP Try.prog) 69 #[.complex .f64 4643176031446892544 0] w fun e w' => e = .returned (.bool false) ∧ Below w.heap.size w w' := by
  have k1 := hide (whole_any 4643176031446892544 0 255 0 4294967296 w (by decide) (iv_of 255 (by decide) (by decide +kernel)) (fun e => by omega) (by decide) (by decide) Fl.iv_zero (fun _ => rfl) (by decide) (by decide))
  go_enter Bar.func69, Bar.ntmps69
  go_wp2_with fail
  refine (unhide k1).mono ?_
  rintro e w1 ⟨rfl, rfl⟩
  go_wp2_with fail
  go_ret
  exact ⟨rfl, Below.refl _ _⟩
set_option maxHeartbeats 400000 in
theorem sum0 (w : World) : Calls (barP Try.prog) 69 #[.complex .f64 0 0] w fun e w' => e = .returned (.bool false) ∧ Below w.heap.size w w' := by
  have k1 := hide (whole_any 0 0 0 0 4294967296 w (by decide) Fl.iv_zero (fun _ => rfl) (by decide) (by decide) Fl.iv_zero (fun _ => rfl) (by decide) (by decide))
  go_enter Bar.func69, Bar.ntmps69
  go_wp2_with fail
  refine (unhide k1).mono ?_
  rintro e w1 ⟨rfl, rfl⟩
  go_wp2_with fail
  go_ret
  exact ⟨rfl, Below.refl _ _⟩

def zA (j : Nat) : Nat × Nat := if j = 0 then (4643176031446892544, 0) else (0, 0)
def zB (j : Nat) : Nat × Nat := if j = 0 then (0, 0) else (4643176031446892544, 0)
def iA (j : Nat) : Int := if j = 0 then 255 else 0
def iB (j : Nat) : Int := if j = 0 then 0 else 255
def pA (b0 : Nat) : List PD := [⟨(1, 0), b0, 2, 2, zA, iA⟩, ⟨(0, 1), b0 + 1, 2, 2, zB, iB⟩]
def xsA : List (List Nat × Int) := [([2, 3], 255), ([0, 1], 0), ([0, 2], 0), ([1, 3], 255)]

theorem lkA (b0 : Nat) : lk (2 : Nat) (pA b0) (pA b0).length 0 = xsA := by
  have e1 : placesS 2 (1, 0) 0 = [2, 3] := by decide +kernel
  have e2 : placesS 2 (1, 0) 1 = [0, 1] := by decide +kernel
  have e3 : placesS 2 (0, 1) 0 = [0, 2] := by decide +kernel
  have e4 : placesS 2 (0, 1) 1 = [1, 3] := by decide +kernel
  show (pairS 2 _ 0 :: pairS 2 _ 1 :: pairS 2 _ 0 :: pairS 2 _ 1 :: []) = _
  unfold pairS
  dsimp only
  rw [e1, e2, e3, e4]
  rfl

theorem soundA (b0 : Nat) : Sound 2 (pA b0) := by
  refine ⟨by decide, (by decide : 2 ≤ 64), fun i hi => ?_, fun i j hi hj => ?_, fun i j k hi hj hk => ?_, fun i j hi hj W => ?_⟩
  · rcases (by have : i < 2 := hi; omega : i = 0 ∨ i = 1) with rfl | rfl
    · exact ⟨(by decide : 2 ≤ 512), (⟨by unfold I64; decide, by unfold I64; decide⟩ : Dir64 (1, 0))⟩
    · exact ⟨(by decide : 2 ≤ 512), (⟨by unfold I64; decide, by unfold I64; decide⟩ : Dir64 (0, 1))⟩
  · rcases (by have : i < 2 := hi; omega : i = 0 ∨ i = 1) with rfl | rfl
    · rcases (by have : j < 2 := hj; omega : j = 0 ∨ j = 1) with rfl | rfl
      · exact (by decide +kernel : (cellsS 2 (1, 0) 0).length ≤ 256)
      · exact (by decide +kernel : (cellsS 2 (1, 0) 1).length ≤ 256)
    · rcases (by have : j < 2 := hj; omega : j = 0 ∨ j = 1) with rfl | rfl
      · exact (by decide +kernel : (cellsS 2 (0, 1) 0).length ≤ 256)
      · exact (by decide +kernel : (cellsS 2 (0, 1) 1).length ≤ 256)
  · have key : ∀ d : Int × Int, ∀ j : Nat, (∀ k, k < (cellsS 2 d j).length → wrap64 (wrap64 (((cellsS 2 d j).getD k (0, 0)).2 * (2 : Int)) + ((cellsS 2 d j).getD k (0, 0)).1) = (((placesS 2 d j).getD k 0 : Nat) : Int)) →
        k < (cellsS 2 d j).length → wrap64 (wrap64 (((cellsS 2 d j).getD k (0, 0)).2 * (2 : Int)) + ((cellsS 2 d j).getD k (0, 0)).1) = (((placesS 2 d j).getD k 0 : Nat) : Int) := fun d j h hk => h k hk
    rcases (by have : i < 2 := hi; omega : i = 0 ∨ i = 1) with rfl | rfl
    · rcases (by have : j < 2 := hj; omega : j = 0 ∨ j = 1) with rfl | rfl
      · exact key (1, 0) 0 (by decide +kernel) hk
      · exact key (1, 0) 1 (by decide +kernel) hk
    · rcases (by have : j < 2 := hj; omega : j = 0 ∨ j = 1) with rfl | rfl
      · exact key (0, 1) 0 (by decide +kernel) hk
      · exact key (0, 1) 1 (by decide +kernel) hk
  · rcases (by have : i < 2 := hi; omega : i = 0 ∨ i = 1) with rfl | rfl
    · rcases (by have : j < 2 := hj; omega : j = 0 ∨ j = 1) with rfl | rfl
      · exact conv255 W
      · exact conv0 W
    · rcases (by have : j < 2 := hj; omega : j = 0 ∨ j = 1) with rfl | rfl
      · exact conv0 W
      · exact conv255 W

def S0 : SS := ⟨true, fun i => (List.replicate 4 (0 : Int)).getD i 0, fun i => (List.replicate 4 (255 : Int)).getD i 0⟩
def nextS (s : SS) : SS := (swKp xsA ⟨false, s.lo, s.hi⟩ 4).getD S0
def StA : Nat → SS
  | 0 => S0
  | t + 1 => nextS (StA t)
theorem some_of {x : Option SS} (h : x.isSome = true) : x = some (x.getD S0) := by
  cases x with
  | none => cases h
  | some y => rfl
theorem statesA : States xsA 1 StA := by
  refine ⟨fun t ht => ?_, fun t ht => ?_, by decide +kernel⟩
  · rcases (by omega : t = 0 ∨ t = 1) with rfl | rfl
    · exact some_of (by decide +kernel)
    · exact some_of (by decide +kernel)
  · obtain rfl : t = 0 := by omega
    decide +kernel
theorem ends : (StA 2).lo 3 = 255 ∧ (StA 2).hi 0 = 0 ∧ (StA 2).hi 2 = 0 := by decide +kernel
end Go.Proofs.Ythbghcebcahlnaa
