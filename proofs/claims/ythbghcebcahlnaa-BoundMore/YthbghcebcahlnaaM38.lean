/- byWorkers: behind the join. All: directions that are none. The fixed fact of layer 19. The fixed fact of layer 19 holds of the landed package. -/
import Derived.Test.YthbghcebcahlnaaM37
import Derived.Test.YthbghcebcahlnaaM28
namespace Go.Proofs.Ythbghcebcahlnaa
open Go Go.RowKit

set_option maxRecDepth 100000 in
theorem bw_back {T : Machine → Prop} {cs : List Frame} {c : Frame} {w2 : World} {b : Nat} {n : Int} {cS : Value} {da : Option Addr} {m dc : Nat} (h3 : w2.heap[b + 3]? = some (.cells #[.slice (some ⟨b + 2, 0, none⟩) m m] 29))
    (h : To T (lone (c.finish (.slice (some ⟨b + 2, 0, none⟩) m m)) cs w2)) : To T (lone (fr15 Try.f15 b n cS da m dc) (c :: cs) w2) := by
  have c0 : w2.cell? ⟨b + 3, 0, none⟩ = some (.slice (some ⟨b + 2, 0, none⟩) m m) := by simp [World.cell?, h3]
  unfold fr15
  refine to_out (to_ret (K := fun a w3 => w3 = w2 ∧ a.defers = [] ∧ a.tmps[6]?.getD undef = .slice (some ⟨b + 2, 0, none⟩) m m) ?_ ?_)
  · simp only [rest15, body15, Try.f15, Option.getD_some, csnd]
    go_wp2_with fail
  · rintro a w3 todo ⟨rfl, hd, h6⟩
    obtain ⟨fn, hf, hr⟩ : ∃ fn, (barP Try.prog).funcs[15]? = some fn ∧ fn.results = #[.tmp 6] := ⟨_, rfl, rfl⟩
    refine to_leave ⟨rfl, hd, rfl, fn, hf, ?_⟩ h
    unfold results
    rw [hr]
    simp [go_sem, Frame.at, h6]
end Go.Proofs.Ythbghcebcahlnaa

namespace Go.Proofs.Ythbghcebcahlnaa
open Go Go.RowKit

set_option maxRecDepth 100000 in
set_option maxHeartbeats 4000000 in
theorem allBad {n g c mz gd od cap : Nat} {da : Option Addr} {L : List (Int × Int)} {f : Nat → Nat × Nat} {z : Nat → Int × Int} (w : World) (h1 : 1 ≤ n) (h2 : n ≤ 64) (hR : Row w g (n * n) f) (hz : ∀ j, j < n * n → Cell (f j) (z j) mz) (hm : mz ≤ 1048576)
    (hD : Dirs w da gd od L) (hl : L.length ≤ 9223372036854775807) (hI : ∀ i, i < L.length → I64 (L.getD i (0, 0)).1 ∧ I64 (L.getD i (0, 0)).2) (hcap : L.length ≤ cap) (hG : ¬ GoodDirs L) :
    Calls (barP Try.prog) 7 #[gridV n g c, .slice da L.length cap, .int .i64 1] w fun e w' => ∃ r, r ≠ 0 ∧ e = .returned (.tuple #[.agg #[.int .i64 0, .slice none 0 0], .int .i64 r]) ∧ Below w.heap.size w w' := by
  have hlt := row_lt hR
  have hi0 : In7 w ((w.alloc (.cells #[.int .i64 n, .slice (some ⟨g, 0, none⟩) (n * n : Nat) c] 27)).alloc (.cells #[.int .i64 0, .slice none 0 0] 31)) n (.slice (some ⟨g, 0, none⟩) (n * n : Nat) c) := by
    have := heap_alloc_new (w.alloc (.cells #[.int .i64 (n : Int), .slice (some ⟨g, 0, none⟩) (n * n : Nat) c] 27)) (.cells #[.int .i64 0, .slice none 0 0] 31)
    refine ⟨((Below.refl _ w).alloc (Nat.le_refl _) _).alloc (by simp) _, (alloc_old _ _ _ (by simp)).trans (heap_alloc_new w _), ?_⟩
    rwa [World.size_alloc] at this
  have kG := fun w1 (b : Below w.heap.size w w1) => gridCheck (c := c) w1 h1 h2 (row_below hR b hlt) hz hm
  have kL := fun w1 (b : Below w.heap.size w w1) => lookOk (cap := cap) hl hI w1 (dirs_below hD b) hcap
  clear hD hI hR hz hm hl
  replace kG := hide kG
  replace kL := hide kL
  replace hi0 := hide hi0
  replace hG := hide hG
  clear h1 h2 hlt hcap
  unfold gridV at *
  generalize L.length = ll at *
  generalize n * n = M at *
  go_enter Bar.func7, Bar.ntmps7
  go_wp2_with fail
  refine (unhide kG _ (unhide hi0).low).mono ?_
  rintro e w2 ⟨rfl, hb2⟩
  have hi2 := hide ((unhide hi0).up hb2)
  clear hb2 hi0
  go_wp2_with fail
  refine (unhide kL _ (unhide hi2).low).mono ?_
  rintro e w3 ⟨r, rfl, hr, hb3⟩
  have hr0 : r ≠ 0 := fun h => unhide hG (hr.1 h)
  have hi3 := (unhide hi2).up hb3
  clear hb3 hi2 hr kG kL
  have d0 : w3.cell? ⟨w.heap.size + 1, 0, none⟩ = some (.int .i64 0) := by simp [World.cell?, hi3.c1]
  have d1 : w3.cell? ⟨w.heap.size + 1, 1, none⟩ = some (.slice none 0 0) := by simp [World.cell?, hi3.c1]
  have d2 : w3.frozen? ⟨w.heap.size + 1, 0, none⟩ = false := thaw_of hi3.c1
  have d3 : w3.frozen? ⟨w.heap.size + 1, 1, none⟩ = false := thaw_of hi3.c1
  have hB : Below w.heap.size w ((w3.setCell ⟨w.heap.size + 1, 0, none⟩ (.int .i64 0)).setCell ⟨w.heap.size + 1, 1, none⟩ (.slice none 0 0)) := by
    refine hi3.low.trans ⟨rfl, rfl, rfl, by rw [World.size_setCell, World.size_setCell]; exact Nat.le_refl _, fun k hk => ?_⟩
    rw [heap_setCell_other _ _ _ _ (by show k ≠ w.heap.size + 1; omega), heap_setCell_other _ _ _ _ (by show k ≠ w.heap.size + 1; omega)]
  have hE : ((w3.setCell ⟨w.heap.size + 1, 0, none⟩ (.int .i64 0)).setCell ⟨w.heap.size + 1, 1, none⟩ (.slice none 0 0)).heap[w.heap.size + 1]? = some (.cells #[.int .i64 0, .slice none 0 0] 31) :=
    heap_setCell_same _ (w.heap.size + 1) 1 _ _ (.slice none 0 0) (heap_setCell_same _ (w.heap.size + 1) 0 _ _ (.int .i64 0) hi3.c1)
  have hi3 := hide hi3
  clear hi3
  replace hB := hide hB
  generalize w.heap.size + 1 = B at *
  have q : (r = 0) = False := by simpa using hr0
  go_wp2_with fail
  have y0 : ((w3.setCell ⟨B, 0, none⟩ (.int .i64 0)).setCell ⟨B, 1, none⟩ (.slice none 0 0)).cell? ⟨B, 0, none⟩ = some (.int .i64 0) := by simp [World.cell?, hE]
  have y1 : ((w3.setCell ⟨B, 0, none⟩ (.int .i64 0)).setCell ⟨B, 1, none⟩ (.slice none 0 0)).cell? ⟨B, 1, none⟩ = some (.slice none 0 0) := by simp [World.cell?, hE]
  refine ⟨rfl, .tuple #[.agg #[.int .i64 0, .slice none 0 0], .int .i64 r], ?_, r, hr0, rfl, unhide hB⟩
  unfold results
  simp only [Try.f7]
  simp [go_sem, y0, y1]
end Go.Proofs.Ythbghcebcahlnaa

namespace Go.Proofs.Ythbghcebcahlnaa
open Go.RowKit Go.Shelf

theorem conv255 (W : World) : (convert 38 3 (.float .f64 4643176031446892544)).run (barP Try.prog) W = .ok (.int .i64 255) W := by kernel_rfl
theorem conv0 (W : World) : (convert 38 3 (.float .f64 0)).run (barP Try.prog) W = .ok (.int .i64 0) W := by kernel_rfl

set_option maxHeartbeats 400000 in
theorem sum255 (w : World) : Calls (barP Try.prog) 69 #[.complex .f64 4643176031446892544 0] w fun e w' => e = .returned (.bool false) ∧ Below w.heap.size w w' := by
  have k1 := hide (whole_any 4643176031446892544 0 255 0 4294967296 w (by decide) (iv_of 255 (by decide) (by decide +kernel)) (fun e => by omega) (by decide) (by decide) Fl.iv_zero (fun _ => rfl) (by decide) (by decide))
  go_enter Bar.func69, Bar.ntmps69
  go_wp2_with fail
  refine (unhide k1).mono ?_
  rintro e w1 ⟨rfl, rfl⟩
  go_wp2_with fail
  go_ret
  exact ⟨rfl, Below.refl _ _⟩
set_option maxHeartbeats 400000 in
theorem sum0 (w : World) : Calls (barP Try.prog) 69 #[.complex .f64 0 0] w fun e w' => e = .returned (.bool false) ∧ Below w.heap.size w w' := by
  have k1 := hide (whole_any 0 0 0 0 4294967296 w (by decide) Fl.iv_zero (fun _ => rfl) (by decide) (by decide) Fl.iv_zero (fun _ => rfl) (by decide) (by decide))
  go_enter Bar.func69, Bar.ntmps69
  go_wp2_with fail
  refine (unhide k1).mono ?_
  rintro e w1 ⟨rfl, rfl⟩
  go_wp2_with fail
  go_ret
  exact ⟨rfl, Below.refl _ _⟩

def zA (j : Nat) : Nat × Nat := if j = 0 then (4643176031446892544, 0) else (0, 0)
def zB (j : Nat) : Nat × Nat := if j = 0 then (0, 0) else (4643176031446892544, 0)
def iA (j : Nat) : Int := if j = 0 then 255 else 0
def iB (j : Nat) : Int := if j = 0 then 0 else 255
def pA (b0 : Nat) : List PD := [⟨(1, 0), b0, 2, 2, zA, iA⟩, ⟨(0, 1), b0 + 1, 2, 2, zB, iB⟩]
def xsA : List (List Nat × Int) := [([2, 3], 255), ([0, 1], 0), ([0, 2], 0), ([1, 3], 255)]

theorem lkA (b0 : Nat) : lk (2 : Nat) (pA b0) (pA b0).length 0 = xsA := by
  have e1 : placesS 2 (1, 0) 0 = [2, 3] := by decide +kernel
  have e2 : placesS 2 (1, 0) 1 = [0, 1] := by decide +kernel
  have e3 : placesS 2 (0, 1) 0 = [0, 2] := by decide +kernel
  have e4 : placesS 2 (0, 1) 1 = [1, 3] := by decide +kernel
  show (pairS 2 _ 0 :: pairS 2 _ 1 :: pairS 2 _ 0 :: pairS 2 _ 1 :: []) = _
  unfold pairS
  dsimp only
  rw [e1, e2, e3, e4]
  rfl

theorem soundA (b0 : Nat) : Sound 2 (pA b0) := by
  refine ⟨by decide, (by decide : 2 ≤ 64), fun i hi => ?_, fun i j hi hj => ?_, fun i j k hi hj hk => ?_, fun i j hi hj W => ?_⟩
  · rcases (by have : i < 2 := hi; omega : i = 0 ∨ i = 1) with rfl | rfl
    · exact ⟨(by decide : 2 ≤ 512), (⟨by unfold I64; decide, by unfold I64; decide⟩ : Dir64 (1, 0))⟩
    · exact ⟨(by decide : 2 ≤ 512), (⟨by unfold I64; decide, by unfold I64; decide⟩ : Dir64 (0, 1))⟩
  · rcases (by have : i < 2 := hi; omega : i = 0 ∨ i = 1) with rfl | rfl
    · rcases (by have : j < 2 := hj; omega : j = 0 ∨ j = 1) with rfl | rfl
      · exact (by decide +kernel : (cellsS 2 (1, 0) 0).length ≤ 256)
      · exact (by decide +kernel : (cellsS 2 (1, 0) 1).length ≤ 256)
    · rcases (by have : j < 2 := hj; omega : j = 0 ∨ j = 1) with rfl | rfl
      · exact (by decide +kernel : (cellsS 2 (0, 1) 0).length ≤ 256)
      · exact (by decide +kernel : (cellsS 2 (0, 1) 1).length ≤ 256)
  · have key : ∀ d : Int × Int, ∀ j : Nat, (∀ k, k < (cellsS 2 d j).length → wrap64 (wrap64 (((cellsS 2 d j).getD k (0, 0)).2 * (2 : Int)) + ((cellsS 2 d j).getD k (0, 0)).1) = (((placesS 2 d j).getD k 0 : Nat) : Int)) →
        k < (cellsS 2 d j).length → wrap64 (wrap64 (((cellsS 2 d j).getD k (0, 0)).2 * (2 : Int)) + ((cellsS 2 d j).getD k (0, 0)).1) = (((placesS 2 d j).getD k 0 : Nat) : Int) := fun d j h hk => h k hk
    rcases (by have : i < 2 := hi; omega : i = 0 ∨ i = 1) with rfl | rfl
    · rcases (by have : j < 2 := hj; omega : j = 0 ∨ j = 1) with rfl | rfl
      · exact key (1, 0) 0 (by decide +kernel) hk
      · exact key (1, 0) 1 (by decide +kernel) hk
    · rcases (by have : j < 2 := hj; omega : j = 0 ∨ j = 1) with rfl | rfl
      · exact key (0, 1) 0 (by decide +kernel) hk
      · exact key (0, 1) 1 (by decide +kernel) hk
  · rcases (by have : i < 2 := hi; omega : i = 0 ∨ i = 1) with rfl | rfl
    · rcases (by have : j < 2 := hj; omega : j = 0 ∨ j = 1) with rfl | rfl
      · exact conv255 W
      · exact conv0 W
    · rcases (by have : j < 2 := hj; omega : j = 0 ∨ j = 1) with rfl | rfl
      · exact conv0 W
      · exact conv255 W

def S0 : SS := ⟨true, fun i => (List.replicate 4 (0 : Int)).getD i 0, fun i => (List.replicate 4 (255 : Int)).getD i 0⟩
def nextS (s : SS) : SS := (swKp xsA ⟨false, s.lo, s.hi⟩ 4).getD S0
def StA : Nat → SS
  | 0 => S0
  | t + 1 => nextS (StA t)
theorem some_of {x : Option SS} (h : x.isSome = true) : x = some (x.getD S0) := by
  cases x with
  | none => cases h
  | some y => rfl
theorem statesA : States xsA 1 StA := by
  refine ⟨fun t ht => ?_, fun t ht => ?_, by decide +kernel⟩
  · rcases (by omega : t = 0 ∨ t = 1) with rfl | rfl
    · exact some_of (by decide +kernel)
    · exact some_of (by decide +kernel)
  · obtain rfl : t = 0 := by omega
    decide +kernel
theorem ends : (StA 2).lo 3 = 255 ∧ (StA 2).hi 0 = 0 ∧ (StA 2).hi 2 = 0 := by decide +kernel
end Go.Proofs.Ythbghcebcahlnaa

namespace Go.Proofs.Ythbghcebcahlnaa
open Go.RowKit Go.Shelf

/-- The two projections as the law lays them. -/
def l3 (w : World) : World := ((w.alloc (.cells #[.complex .f64 4643176031446892544 0, .complex .f64 0 0] 39)).alloc (.cells #[.complex .f64 0 0, .complex .f64 4643176031446892544 0] 39)).alloc
  (.cells #[.int .i64 1, .int .i64 0, .slice (some ⟨w.heap.size, 0, none⟩) 2 2, .int .i64 0, .int .i64 1, .slice (some ⟨w.heap.size + 1, 0, none⟩) 2 2] 49)
theorem l3_size (w : World) : (l3 w).heap.size = w.heap.size + 3 := by unfold l3; rw [World.size_alloc, World.size_alloc, World.size_alloc]
theorem l3_below (w : World) : Below w.heap.size w (l3 w) := by
  unfold l3
  exact (((Below.refl w.heap.size w).alloc (Nat.le_refl _) _).alloc (by rw [World.size_alloc]; omega) _).alloc (by rw [World.size_alloc, World.size_alloc]; omega) _
theorem l3_projs (w : World) : ProjsAt (l3 w) (w.heap.size + 2) (pA w.heap.size) := by
  have r2 : (l3 w).heap[w.heap.size + 2]? = some (.cells #[.int .i64 1, .int .i64 0, .slice (some ⟨w.heap.size, 0, none⟩) 2 2, .int .i64 0, .int .i64 1, .slice (some ⟨w.heap.size + 1, 0, none⟩) 2 2] 49 (0, 0)) := by
    have h := heap_alloc_new ((w.alloc (.cells #[.complex .f64 4643176031446892544 0, .complex .f64 0 0] 39)).alloc (.cells #[.complex .f64 0 0, .complex .f64 4643176031446892544 0] 39)) (.cells #[.int .i64 1, .int .i64 0, .slice (some ⟨w.heap.size, 0, none⟩) 2 2, .int .i64 0, .int .i64 1, .slice (some ⟨w.heap.size + 1, 0, none⟩) 2 2] 49)
    rw [World.size_alloc, World.size_alloc] at h
    exact h
  have r0 : (l3 w).heap[w.heap.size]? = some (.cells #[.complex .f64 4643176031446892544 0, .complex .f64 0 0] 39 (0, 0)) := by
    unfold l3
    rw [Below.heap_alloc _ _ _ (by rw [World.size_alloc, World.size_alloc]; omega), Below.heap_alloc _ _ _ (by rw [World.size_alloc]; omega)]
    exact heap_alloc_new w _
  have r1 : (l3 w).heap[w.heap.size + 1]? = some (.cells #[.complex .f64 0 0, .complex .f64 4643176031446892544 0] 39 (0, 0)) := by
    unfold l3
    rw [Below.heap_alloc _ _ _ (by rw [World.size_alloc, World.size_alloc]; omega)]
    have h := heap_alloc_new (w.alloc (.cells #[.complex .f64 4643176031446892544 0, .complex .f64 0 0] 39)) (.cells #[.complex .f64 0 0, .complex .f64 4643176031446892544 0] 39)
    rw [World.size_alloc] at h
    exact h
  refine ⟨by rw [l3_size]; omega, fun i hi => ?_, fun i hi => ?_⟩
  · rcases (by have : i < 2 := hi; omega : i = 0 ∨ i = 1) with rfl | rfl
    · exact ⟨cell_of_row _ _ 0 _ _ (0, 0) r2, cell_of_row _ _ 1 _ _ (0, 0) r2, cell_of_row _ _ 2 _ _ (0, 0) r2⟩
    · exact ⟨cell_of_row _ _ 3 _ _ (0, 0) r2, cell_of_row _ _ 4 _ _ (0, 0) r2, cell_of_row _ _ 5 _ _ (0, 0) r2⟩
  · rcases (by have : i < 2 := hi; omega : i = 0 ∨ i = 1) with rfl | rfl
    · refine ⟨_, r0, Nat.le_refl _, fun j hj => ?_⟩
      rcases (by have : j < 2 := hj; omega : j = 0 ∨ j = 1) with rfl | rfl <;> rfl
    · refine ⟨_, r1, Nat.le_refl _, fun j hj => ?_⟩
      rcases (by have : j < 2 := hj; omega : j = 0 ∨ j = 1) with rfl | rfl <;> rfl

theorem fitA : ∀ x, x ∈ xsA → Fit 4 x := by
  intro x hx
  unfold xsA at hx
  simp only [List.mem_cons, List.not_mem_nil, or_false] at hx
  rcases hx with rfl | rfl | rfl | rfl <;> exact ⟨by decide, by decide, by decide⟩

theorem runA {u v : Value} (w : World) (hu : Ints (l3 w) u (List.replicate 4 0)) (hv : Ints (l3 w) v (List.replicate 4 255)) :
    Calls (barP Try.prog) 9 #[.int .i64 2, .slice (some ⟨w.heap.size + 2, 0, none⟩) 2 2, u, v] (l3 w) fun e w' => ∃ gl cl gh ch, e = .returned (.tuple #[.slice (some ⟨gl, 0, none⟩) 4 cl, .slice (some ⟨gh, 0, none⟩) 4 ch, .int .i64 0]) ∧
      IRow w' gl 4 (StA 2).lo ∧ IRow w' gh 4 (StA 2).hi ∧ Below (l3 w).heap.size (l3 w) w' := by
  refine runOk (n := 2) (T := 1) (cq := 2) (ps := pA w.heap.size) (A := List.replicate 4 0) (B := List.replicate 4 255) (St := StA) (by decide) (by decide) (by decide +kernel) (by decide : 2 ≤ 64) (fun i hi => ?_) (fun i j hi hj W => ?_) (soundA _) ?_ ?_ ?_ (by decide) ?_ rfl rfl ?_ (l3 w) hu hv (l3_projs w)
  · rcases (by have : i < 2 := hi; omega : i = 0 ∨ i = 1) with rfl | rfl
    · exact ⟨(⟨by unfold I64; decide, by unfold I64; decide⟩ : Dir64 (1, 0)), (by decide +kernel : binsS 2 (1, 0) = (2, 0)), (by decide : 2 ≤ 2017)⟩
    · exact ⟨(⟨by unfold I64; decide, by unfold I64; decide⟩ : Dir64 (0, 1)), (by decide +kernel : binsS 2 (0, 1) = (2, 0)), (by decide : 2 ≤ 2017)⟩
  · rcases (by have : i < 2 := hi; omega : i = 0 ∨ i = 1) with rfl | rfl
    · rcases (by have : j < 2 := hj; omega : j = 0 ∨ j = 1) with rfl | rfl
      · exact sum255 W
      · exact sum0 W
    · rcases (by have : j < 2 := hj; omega : j = 0 ∨ j = 1) with rfl | rfl
      · exact sum0 W
      · exact sum255 W
  · rw [lkA]; decide
  · rw [lkA]; decide
  · rw [lkA]; exact fitA
  · rw [lkA]; exact statesA
  · intro i hi
    rcases (by have : i < 4 := hi; omega : i = 0 ∨ i = 1 ∨ i = 2 ∨ i = 3) with rfl | rfl | rfl | rfl <;> decide +kernel

set_option maxRecDepth 100000 in
set_option maxHeartbeats 3200000 in
theorem aliveOk : AliveOk := by
  intro w
  have kW := hide (boundWideNew 2 w (by decide) (by decide))
  obtain ⟨z1, z2, z3⟩ := ends
  go_enter Bar.func5, Bar.ntmps5
  go_wp2_with fail
  refine (unhide kW).mono ?_
  rintro e w1 ⟨g, h, rfl, r1, r2, _, hb1⟩
  have i1 : Ints w1 (.slice (some ⟨g, 0, none⟩) 4 4) (List.replicate 4 0) := vrow_ints r1
  have i2 : Ints w1 (.slice (some ⟨h, 0, none⟩) 4 4) (List.replicate 4 255) := vrow_ints r2
  have kR := hide (runA w1 (ints_below i1 (l3_below w1)) (ints_below i2 (l3_below w1)))
  have B1 := hide (hb1.trans ((l3_below w1).mono hb1.size))
  clear kW r1 r2 hb1 i1 i2
  unfold l3 at kR B1
  go_wp2_with fail
  refine (unhide kR).mono ?_
  rintro e w2 ⟨gl, cl, gh, ch, rfl, r3, r4, hb2⟩
  have c1 := vrow_at r3 (i := 3) (by decide)
  have c2 := vrow_at r4 (i := 0) (by decide)
  have c3 := vrow_at r4 (i := 2) (by decide)
  rw [z1] at c1
  rw [z2] at c2
  rw [z3] at c3
  have B2 := hide ((unhide B1).trans (hb2.mono (unhide B1).size))
  clear kR r3 r4 hb2 B1 z1 z2 z3
  go_wp2_with fail
  go_ret
  exact ⟨rfl, unhide B2⟩
end Go.Proofs.Ythbghcebcahlnaa
