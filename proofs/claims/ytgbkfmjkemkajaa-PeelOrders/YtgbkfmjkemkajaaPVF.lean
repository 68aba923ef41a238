/- The fixed fact of layer 14. -/
import Derived.Test.YtgbkfmjkemkajaaPVE
import Derived.Test.YtgbkfmjkemkajaaPM9
namespace Go.Proofs.Ytgbkfmjkemkajaa
open Go.RowKit Go.Shelf

def val2 (i : Nat) : Nat := i + 1
def dirs2 : List (Int × Int) := [(1, 0), (1, 1)]
set_option maxRecDepth 100000 in
theorem rest2 : (restZ val2 2 dirs2 (fun _ => true) 0 0 = 7 ∧ restZ val2 2 dirs2 (fun _ => true) 0 1 = 3) ∧ restZ val2 2 dirs2 (fun _ => true) 1 0 = 3 ∧ restZ val2 2 dirs2 (fun _ => true) 1 1 = 5 ∧ restZ val2 2 dirs2 (fun _ => true) 1 2 = 2 := by decide +kernel
theorem bits2 : (nb 7 = (4619567317775286272, 0) ∧ nb 3 = (4613937818241073152, 0)) ∧ nb 5 = (4617315517961601024, 0) ∧ nb 2 = (4611686018427387904, 0) := by decide +kernel
theorem binN2 : binN 2 (dk dirs2 0) = 2 ∧ binN 2 (dk dirs2 1) = 3 := by decide +kernel
def gb2 (g0 g1 k : Nat) : Nat := if k = 0 then g0 else g1
theorem sino2 {w : World} {g0 g1 gp : Nat} (h0 : w.heap[g0]? = some (.cells #[.complex .f64 4619567317775286272 0, .complex .f64 4613937818241073152 0] 38 (0, 0))) (h1 : w.heap[g1]? = some (.cells #[.complex .f64 4613937818241073152 0, .complex .f64 4617315517961601024 0, .complex .f64 4611686018427387904 0] 38 (0, 0)))
    (hp : w.heap[gp]? = some (.cells #[.int .i64 1, .int .i64 0, .slice (some ⟨g0, 0, none⟩) 2 2, .int .i64 1, .int .i64 1, .slice (some ⟨g1, 0, none⟩) 3 3] 41 (0, 0))) :
    SinoAt w 2 dirs2 gp (gb2 g0 g1) (fun k j => nb (restZ val2 2 dirs2 (fun _ => true) k j)) := by
  obtain ⟨⟨r1, r2⟩, r3, r4, r5⟩ := rest2
  obtain ⟨⟨n7, n3⟩, n5, n2⟩ := bits2
  obtain ⟨m0, m1⟩ := binN2
  refine ⟨(Array.getElem?_eq_some_iff.1 hp).1, fun k hk => ?_, fun k hk => ?_⟩
  · have hk : k < 2 := hk
    rcases (show k = 0 ∨ k = 1 by omega) with rfl | rfl
    · rw [m0]
      exact ⟨cell_of_row w gp 0 _ _ (0, 0) hp, cell_of_row w gp 1 _ _ (0, 0) hp, cell_of_row w gp 2 _ _ (0, 0) hp⟩
    · rw [m1]
      exact ⟨cell_of_row w gp 3 _ _ (0, 0) hp, cell_of_row w gp 4 _ _ (0, 0) hp, cell_of_row w gp 5 _ _ (0, 0) hp⟩
  · have hk : k < 2 := hk
    rcases (show k = 0 ∨ k = 1 by omega) with rfl | rfl
    · rw [m0]
      refine ⟨_, h0, Nat.le_refl _, fun i hi => ?_⟩
      rcases (show i = 0 ∨ i = 1 by omega) with rfl | rfl
      · dsimp only; rw [r1, n7]; rfl
      · dsimp only; rw [r2, n3]; rfl
    · rw [m1]
      refine ⟨_, h1, Nat.le_refl _, fun i hi => ?_⟩
      rcases (show i = 0 ∨ i = 1 ∨ i = 2 by omega) with rfl | rfl | rfl
      · dsimp only; rw [r3, n3]; rfl
      · dsimp only; rw [r4, n5]; rfl
      · dsimp only; rw [r5, n2]; rfl

def dirsL : List (Int × Int) := [(1, 0), (0, 1)]
set_option maxRecDepth 100000 in
theorem stabL : StabB 2 dirsL (fun _ => True) := by
  have key : ∀ d, d ∈ dirsL → ∀ i : Fin 4, ∃ j : Fin 4, j ≠ i ∧ lnO 2 d j.1 = lnO 2 d i.1 := by decide +kernel
  intro d hd i hi _
  obtain ⟨j, h1, h2⟩ := key d hd ⟨i, hi⟩
  exact ⟨j.1, j.2, trivial, fun e => h1 (Fin.ext e), h2⟩
theorem leftL {b : Nat → Bool} (h : Final 2 dirsL b) : cntB b (2 * 2) = 4 := by
  have e : cntB b (2 * 2) = cntB (fun _ => true) (2 * 2) := cnt_same fun i hi => h.most _ stabL i hi trivial
  rw [e]
  decide
theorem errL : openErr (2 : Nat) dirsL = 0 := by decide +kernel
theorem allL : All64 dirsL := by
  intro i d hd
  have hd : d ∈ dirsL := List.mem_of_getElem? hd
  have hd : d = (1, 0) ∨ d = (0, 1) := by simpa [dirsL] using hd
  rcases hd with rfl | rfl <;> constructor <;> (unfold I64; decide)

theorem eq_cx2 (w : World) : (binOp .eql 38 (.complex .f64 4611686018427387904 0) (.complex .f64 4611686018427387904 0)).run Try.prog w = .ok (.bool true) w := by kernel_rfl
theorem eq_cx3 (w : World) : (binOp .eql 38 (.complex .f64 4613937818241073152 0) (.complex .f64 4613937818241073152 0)).run Try.prog w = .ok (.bool true) w := by kernel_rfl
set_option maxRecDepth 100000 in
set_option maxHeartbeats 3200000 in
theorem aliveOk : AliveOk := by
  intro w
  obtain ⟨W0, hW0⟩ : ∃ W0, (((w.alloc (.cells #[.complex .f64 4619567317775286272 0, .complex .f64 4613937818241073152 0] 38)).alloc (.cells #[.complex .f64 4613937818241073152 0, .complex .f64 4617315517961601024 0, .complex .f64 4611686018427387904 0] 38)).alloc
    (.cells #[.int .i64 1, .int .i64 0, .slice (some ⟨w.heap.size, 0, none⟩) 2 2, .int .i64 1, .int .i64 1, .slice (some ⟨w.heap.size + 1, 0, none⟩) 3 3] 41)).alloc (.cells #[.int .i64 2, .slice (some ⟨w.heap.size + 1 + 1, 0, none⟩) 2 2] 44) = W0 := ⟨_, rfl⟩
  have y0 : Below w.heap.size w W0 := by
    rw [← hW0]
    exact (((((Below.refl _ w).alloc (Nat.le_refl _) _).alloc (by rw [World.size_alloc]; omega) _).alloc (by rw [World.size_alloc, World.size_alloc]; omega) _).alloc (by rw [World.size_alloc, World.size_alloc, World.size_alloc]; omega) _)
  have hS : SinoAt W0 2 dirs2 (w.heap.size + 1 + 1) (gb2 w.heap.size (w.heap.size + 1)) (fun k j => nb (restZ val2 2 dirs2 (fun _ => true) k j)) := by
    have e1 := heap_alloc_new w (.cells #[.complex .f64 4619567317775286272 0, .complex .f64 4613937818241073152 0] 38)
    have e2 := heap_alloc_new (w.alloc (.cells #[.complex .f64 4619567317775286272 0, .complex .f64 4613937818241073152 0] 38)) (.cells #[.complex .f64 4613937818241073152 0, .complex .f64 4617315517961601024 0, .complex .f64 4611686018427387904 0] 38)
    have e3 := heap_alloc_new ((w.alloc (.cells #[.complex .f64 4619567317775286272 0, .complex .f64 4613937818241073152 0] 38)).alloc (.cells #[.complex .f64 4613937818241073152 0, .complex .f64 4617315517961601024 0, .complex .f64 4611686018427387904 0] 38)) (.cells #[.int .i64 1, .int .i64 0, .slice (some ⟨w.heap.size, 0, none⟩) 2 2, .int .i64 1, .int .i64 1, .slice (some ⟨w.heap.size + 1, 0, none⟩) 3 3] 41)
    rw [World.size_alloc] at e2
    rw [World.size_alloc, World.size_alloc] at e3
    rw [← hW0]
    refine sino2 ?_ ?_ ?_
    · exact (Below.heap_alloc _ _ _ (by rw [World.size_alloc, World.size_alloc, World.size_alloc]; omega)).trans ((Below.heap_alloc _ _ _ (by rw [World.size_alloc, World.size_alloc]; omega)).trans ((Below.heap_alloc _ _ _ (by rw [World.size_alloc]; omega)).trans e1))
    · exact (Below.heap_alloc _ _ _ (by rw [World.size_alloc, World.size_alloc, World.size_alloc]; omega)).trans ((Below.heap_alloc _ _ _ (by rw [World.size_alloc, World.size_alloc]; omega)).trans e2)
    · exact (Below.heap_alloc _ _ _ (by rw [World.size_alloc, World.size_alloc, World.size_alloc]; omega)).trans e3
  have k1 : Hid (Calls Try.prog 13 #[.agg #[.int .i64 2, .slice (some ⟨w.heap.size + 1 + 1, 0, none⟩) 2 2]] W0 fun e w' => ∃ g' c, e = .returned (.tuple #[.agg #[.int .i64 2, .slice (some ⟨g', 0, none⟩) 4 c], .int .i64 0]) ∧ W0.heap.size ≤ g' ∧ VRow w' 38 g' 4 (fun i => .complex .f64 (nb (val2 i)).1 (nb (val2 i)).2) ∧ Below W0.heap.size W0 w') :=
    solveOk (n := 2) (L := dirs2) (val := val2) (cap := 2) (by decide) (by decide) (by decide) (by decide) (by decide) (by decide) (by decide) (by decide) W0 hS
  replace y0 := hide y0
  replace hW0 := hide hW0
  clear hS
  go_enter Try.func6, Try.ntmps6
  go_wp2_with fail
  rw [unhide hW0]
  refine (unhide k1).mono ?_
  rintro e W1 ⟨g', c, rfl, hg, hR, hb1⟩
  have R1 := hide hR
  have B1 := hide ((unhide y0).trans (hb1.mono (unhide y0).size))
  clear hR hb1 hg k1 hW0
  obtain ⟨W2, hW2⟩ : ∃ W2, (W1.alloc (.cells #[.int .i64 2, .slice (some ⟨g', 0, none⟩) 4 c] 46)).alloc (.cells #[.int .i64 1, .int .i64 0, .int .i64 0, .int .i64 1] 35) = W2 := ⟨_, rfl⟩
  have y2 : Below W1.heap.size W1 W2 := by
    rw [← hW2]
    exact ((Below.refl _ W1).alloc (Nat.le_refl _) _).alloc (by rw [World.size_alloc]; omega) _
  have d2 : W2.heap[W1.heap.size + 1]? = some (.cells #[.int .i64 1, .int .i64 0, .int .i64 0, .int .i64 1] 35 (0, 0)) := by
    have := heap_alloc_new (W1.alloc (.cells #[.int .i64 2, .slice (some ⟨g', 0, none⟩) 4 c] 46)) (.cells #[.int .i64 1, .int .i64 0, .int .i64 0, .int .i64 1] 35)
    rw [World.size_alloc] at this
    rw [← hW2]
    exact this
  have b2 : W2.heap[W1.heap.size]? = some (.cells #[.int .i64 2, .slice (some ⟨g', 0, none⟩) 4 c] 46 (0, 0)) := by
    rw [← hW2]
    exact (Below.heap_alloc _ _ _ (by rw [World.size_alloc]; omega)).trans (heap_alloc_new W1 _)
  have D2 : Dirs W2 (some ⟨W1.heap.size + 1, 0, none⟩) (W1.heap.size + 1) 0 dirsL := by
    refine ⟨fun _ => ⟨rfl, (Array.getElem?_eq_some_iff.1 d2).1⟩, fun i d hi => ?_⟩
    have hl : i < 2 := (List.getElem?_eq_some_iff.1 hi).1
    rcases (show i = 0 ∨ i = 1 by omega) with rfl | rfl
    · have e : d = (1, 0) := (Option.some.inj hi).symm
      subst e
      exact ⟨cell_of_row W2 _ 0 _ _ (0, 0) d2, cell_of_row W2 _ 1 _ _ (0, 0) d2⟩
    · have e : d = (0, 1) := (Option.some.inj hi).symm
      subst e
      exact ⟨cell_of_row W2 _ 2 _ _ (0, 0) d2, cell_of_row W2 _ 3 _ _ (0, 0) d2⟩
  have k2 : Hid (Calls Try.prog 9 #[.int .i64 2, .slice (some ⟨W1.heap.size + 1, 0, none⟩) 2 2] W2 fun e w' => ∃ b, e = .returned (.tuple #[.int .i64 (cntB b (2 * 2) : Nat), .int .i64 0]) ∧ Final 2 dirsL b ∧ Below W2.heap.size W2 w') :=
    leftGood 2 dirsL (some ⟨W1.heap.size + 1, 0, none⟩) 2 (W1.heap.size + 1) 0 W2 allL D2 errL
  have B2 := hide ((unhide B1).trans (y2.mono (unhide B1).size))
  have R2 := hide (vrow_keep (unhide R1) (y2.block _ (vrow_lt (unhide R1))))
  have hsz := (Array.getElem?_eq_some_iff.1 b2).1
  replace b2 := hide b2
  replace hW2 := hide hW2
  clear y2 d2 D2 B1 R1 y0
  go_wp2_with fail
  rw [unhide hW2]
  refine (unhide k2).mono ?_
  rintro e W3 ⟨b, rfl, hF, hb3⟩
  rw [leftL hF]
  have b3 := (hb3.block _ hsz).trans (unhide b2)
  have x0 : W3.cell? ⟨W1.heap.size, 0, none⟩ = some (.int .i64 2) := cell_of_row W3 _ 0 _ _ (0, 0) b3
  have x1 : W3.cell? ⟨W1.heap.size, 1, none⟩ = some (.slice (some ⟨g', 0, none⟩) 4 c) := cell_of_row W3 _ 1 _ _ (0, 0) b3
  have R3 := vrow_keep (unhide R2) (hb3.block _ (vrow_lt (unhide R2)))
  have x2 := vrow_at R3 (i := 1) (by decide)
  have x3 := vrow_at R3 (i := 2) (by decide)
  have B3 := hide ((unhide B2).trans (hb3.mono (unhide B2).size))
  have n2 : nb (val2 1) = (4611686018427387904, 0) := bits2.2.2
  have n3 : nb (val2 2) = (4613937818241073152, 0) := bits2.1.2
  rw [n2] at x2
  rw [n3] at x3
  dsimp only at x2 x3
  have q2 := eq_cx2
  have q3 := eq_cx3
  clear R3 b3 hb3 R2 B2 hF n2 n3 k2 hW2 b2 hsz
  go_wp2_with fail
  go_ret
  exact ⟨rfl, unhide B3⟩
end Go.Proofs.Ytgbkfmjkemkajaa
