/- The fixed fact of WholeAngles. -/
import Derived.Test.YtgbkfmjkemkajabPVE
import Derived.Test.YtgbkfmjkemkajabPU
namespace Go.Proofs.Ytgbkfmjkemkajab
open Go.RowKit Go.Shelf

def val7 (_ : Nat) : Nat := 7
def dirs1 : List (Int × Int) := [(1, 0)]
set_option maxRecDepth 100000 in
theorem rest7 : restZ val7 1 dirs1 (fun _ => true) 0 0 = 7 := by decide +kernel
theorem bits7 : nb 7 = (4619567317775286272, 0) := by decide +kernel
theorem binN1 : binN 1 (dk dirs1 0) = 1 := by decide +kernel
theorem sino1 {w : World} {g0 gp : Nat} (h0 : w.heap[g0]? = some (.cells #[.complex .f64 4619567317775286272 0] 32 (0, 0)))
    (hp : w.heap[gp]? = some (.cells #[.int .i64 1, .int .i64 0, .slice (some ⟨g0, 0, none⟩) 1 1] 35 (0, 0))) :
    SinoAt w 1 dirs1 gp (fun _ => g0) (fun k j => nb (restZ val7 1 dirs1 (fun _ => true) k j)) := by
  refine ⟨(Array.getElem?_eq_some_iff.1 hp).1, fun k hk => ?_, fun k hk => ?_⟩
  · have hk : k < 1 := hk
    obtain rfl : k = 0 := by omega
    rw [binN1]
    exact ⟨cell_of_row w gp 0 _ _ (0, 0) hp, cell_of_row w gp 1 _ _ (0, 0) hp, cell_of_row w gp 2 _ _ (0, 0) hp⟩
  · have hk : k < 1 := hk
    obtain rfl : k = 0 := by omega
    rw [binN1]
    refine ⟨_, h0, Nat.le_refl _, fun i hi => ?_⟩
    obtain rfl : i = 0 := by omega
    dsimp only
    rw [rest7, bits7]
    rfl

theorem eq_cx7 (w : World) : (binOp .eql 32 (.complex .f64 4619567317775286272 0) (.complex .f64 4619567317775286272 0)).run Try.prog w = .ok (.bool true) w := by kernel_rfl
set_option maxRecDepth 100000 in
set_option maxHeartbeats 3200000 in
theorem alive14Ok : Alive14Ok := by
  intro w
  obtain ⟨W0, hW0⟩ : ∃ W0, ((w.alloc (.cells #[.complex .f64 4619567317775286272 0] 32)).alloc (.cells #[.int .i64 1, .int .i64 0, .slice (some ⟨w.heap.size, 0, none⟩) 1 1] 35)).alloc (.cells #[.int .i64 1, .slice (some ⟨w.heap.size + 1, 0, none⟩) 1 1] 38) = W0 := ⟨_, rfl⟩
  have y0 : Below w.heap.size w W0 := by
    rw [← hW0]
    exact (((Below.refl _ w).alloc (Nat.le_refl _) _).alloc (by rw [World.size_alloc]; omega) _).alloc (by rw [World.size_alloc, World.size_alloc]; omega) _
  have hS : SinoAt W0 1 dirs1 (w.heap.size + 1) (fun _ => w.heap.size) (fun k j => nb (restZ val7 1 dirs1 (fun _ => true) k j)) := by
    have e1 := heap_alloc_new w (.cells #[.complex .f64 4619567317775286272 0] 32)
    have e2 := heap_alloc_new (w.alloc (.cells #[.complex .f64 4619567317775286272 0] 32)) (.cells #[.int .i64 1, .int .i64 0, .slice (some ⟨w.heap.size, 0, none⟩) 1 1] 35)
    rw [World.size_alloc] at e2
    rw [← hW0]
    refine sino1 ?_ ?_
    · exact (Below.heap_alloc _ _ _ (by rw [World.size_alloc, World.size_alloc]; omega)).trans ((Below.heap_alloc _ _ _ (by rw [World.size_alloc]; omega)).trans e1)
    · exact (Below.heap_alloc _ _ _ (by rw [World.size_alloc, World.size_alloc]; omega)).trans e2
  have k1 : Hid (Calls Try.prog 7 #[.agg #[.int .i64 1, .slice (some ⟨w.heap.size + 1, 0, none⟩) 1 1]] W0 fun e w' => ∃ g' c, e = .returned (.tuple #[.agg #[.int .i64 1, .slice (some ⟨g', 0, none⟩) 1 c], .int .i64 0]) ∧ W0.heap.size ≤ g' ∧ VRow w' 32 g' 1 (fun i => .complex .f64 (nb (val7 i)).1 (nb (val7 i)).2) ∧ Below W0.heap.size W0 w') :=
    solveOk (n := 1) (L := dirs1) (val := val7) (cap := 1) (by decide) (by decide) (by decide) (by decide) (by decide) (by decide) (by decide) (by decide) W0 hS
  replace y0 := hide y0
  replace hW0 := hide hW0
  clear hS
  go_enter Try.func4, Try.ntmps4
  go_wp2_with fail
  rw [unhide hW0]
  refine (unhide k1).mono ?_
  rintro e W1 ⟨g', c, rfl, hg, hR, hb1⟩
  have lR := vrow_lt hR
  have x1 := vrow_at hR (i := 0) (by decide)
  have n7 : nb (val7 0) = (4619567317775286272, 0) := bits7
  rw [n7] at x1
  dsimp only at x1
  have q7 := eq_cx7
  have B1 := hide ((((unhide y0).trans (hb1.mono (unhide y0).size))).alloc (by have h1 := (unhide y0).size; have h2 := hb1.size; omega) (.cells #[.int .i64 1, .slice (some ⟨g', 0, none⟩) 1 c] 40))
  clear hR hb1 hg k1 hW0 n7
  go_wp2_with fail
  go_ret
  exact ⟨rfl, unhide B1⟩
end Go.Proofs.Ytgbkfmjkemkajab
