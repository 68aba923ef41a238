/- The landed step of a ghost's making. -/
import Derived.Test.YtfddchjonjklkaaGS0
import Derived.Test.YtfddchjonjklkaaYQ
namespace Go.Proofs.Ytfddchjonjklkaa
open Go.RowKit Fl
attribute [local go_sem] store_complex

set_option maxHeartbeats 400000 in
theorem subAny {a b r : Nat × Nat} (h : SubTo a b r) (w : World) :
    Calls Try.prog 27 #[.complex .f64 a.1 a.2, .complex .f64 b.1 b.2] w fun e w' => e = .returned (.complex .f64 r.1 r.2) ∧ w' = w := by
  obtain ⟨a1, a2⟩ := a
  obtain ⟨b1, b2⟩ := b
  obtain ⟨r1, r2⟩ := r
  have k1 := fun (w : World) t => run_float_arith (P := Try.prog) w .sub t .f64 a1 b1 r1 h.one
  have k2 := fun (w : World) t => run_float_arith (P := Try.prog) w .sub t .f64 a2 b2 r2 h.two
  clear h
  go_enter Try.func27, Try.ntmps27
  go_wp2
  go_ret
  exact ⟨rfl, rfl⟩

theorem mixed : Try.prog.follows .mixedOrders = true := by kernel_rfl

theorem DInv.drewN {w W : World} {g gt M0 c W0 H0 W1 H1 M1 : Nat} {P Q : Int} {Z0 Z1 : Nat → Int} (h : DInv w g gt M0 c W0 H0 W1 H1 M1 P Q Z0 Z1 W) (n : Nat) : DInv w g gt M0 c W0 H0 W1 H1 M1 P Q Z0 Z1 (W.drewN n) :=
  ⟨h.src, h.dst, h.cap, h.bh, h.bd, h.br, h.bo, ⟨h.below.os, h.below.tape, h.below.output, h.below.size, h.below.block⟩⟩

theorem four (w : World) (A B C D : Obj) : ((((w.alloc A).alloc B).alloc C).alloc D).heap.size = w.heap.size + 4 ∧ ((((w.alloc A).alloc B).alloc C).alloc D).heap[w.heap.size]? = some A ∧ ((((w.alloc A).alloc B).alloc C).alloc D).heap[w.heap.size + 1]? = some B ∧
    ((((w.alloc A).alloc B).alloc C).alloc D).heap[w.heap.size + 2]? = some C ∧ ((((w.alloc A).alloc B).alloc C).alloc D).heap[w.heap.size + 3]? = some D := by
  have s1 : (w.alloc A).heap.size = w.heap.size + 1 := World.size_alloc _ _
  have s2 : ((w.alloc A).alloc B).heap.size = w.heap.size + 2 := by rw [World.size_alloc, s1]
  have s3 : (((w.alloc A).alloc B).alloc C).heap.size = w.heap.size + 3 := by rw [World.size_alloc, s2]
  refine ⟨by rw [World.size_alloc, s3], ?_, ?_, ?_, ?_⟩
  · rw [Below.heap_alloc _ _ _ (by omega), Below.heap_alloc _ _ _ (by omega), Below.heap_alloc _ _ _ (by omega)]
    exact heap_alloc_new _ _
  · rw [Below.heap_alloc _ _ _ (by omega), Below.heap_alloc _ _ _ (by omega), ← s1]
    exact heap_alloc_new _ _
  · rw [Below.heap_alloc _ _ _ (by omega), ← s2]
    exact heap_alloc_new _ _
  · rw [← s3]
    exact heap_alloc_new _ _

/-- What the walk finds ahead of the store of the new cells' slice, and what holds behind it. -/
theorem dstart {w w4 : World} {g c M0 W0 H0 W1 H1 M1 : Nat} {P Q : Int} {G : Nat → Nat → Int} (hg : g < w.heap.size) (hR : Row w g M0 (fun j => fb (G (j % W0) (j / W0))))
    (hg4 : ((((w.alloc (.cells #[.int .i64 W0, .int .i64 H0, .slice (some ⟨g, 0, none⟩) M0 c] 26)).alloc (.cells #[.int .i64 P, .int .i64 Q] 34)).alloc (.cells #[.int .i64 0, .int .i64 0, .slice none 0 0] 26)).alloc (.cells #[.int .i64 W1, .int .i64 H1, .slice none 0 0] 26)).grownBy w4 none)
    (hown : w4.ownsRow w.heap.size 38 1 (.slice (some ⟨w.heap.size + 1 + 1 + 1 + 1, 0, none⟩) M1 M1) M1 (madeCells #[Value.complex .f64 0 0] M1).toList) :
    w4.cell? ⟨w.heap.size + 3, 2, none⟩ = some (.slice none 0 0) ∧ w4.frozen? ⟨w.heap.size + 3, 2, none⟩ = false ∧
    DInv w g (w.heap.size + 4) M0 c W0 H0 W1 H1 M1 P Q (fun j => G (j % W0) (j / W0)) (tw W0 W1 0 G (P, Q)) (w4.setCell ⟨w.heap.size + 3, 2, none⟩ (.slice (some ⟨w.heap.size + 4, 0, none⟩) M1 M1)) := by
  have hb0 := ((((Below.refl _ w).alloc (Nat.le_refl _) (.cells #[.int .i64 W0, .int .i64 H0, .slice (some ⟨g, 0, none⟩) M0 c] 26)).alloc (by simp) (.cells #[.int .i64 P, .int .i64 Q] 34)).alloc (by simp; omega) (.cells #[.int .i64 0, .int .i64 0, .slice none 0 0] 26)).alloc (by simp; omega) (.cells #[.int .i64 W1, .int .i64 H1, .slice none 0 0] 26)
  obtain ⟨f0, f1, f2, f3, f4⟩ := four w (.cells #[.int .i64 W0, .int .i64 H0, .slice (some ⟨g, 0, none⟩) M0 c] 26) (.cells #[.int .i64 P, .int .i64 Q] 34) (.cells #[.int .i64 0, .int .i64 0, .slice none 0 0] 26) (.cells #[.int .i64 W1, .int .i64 H1, .slice none 0 0] 26)
  have hb4 := grown_below hg4
  have hB := hb0.trans (hb4.mono (by omega))
  have R4 := row_made hown (fun _ => (0, 0)) (fun i hi => zeros_get M1 i hi) (fun _ _ => rfl)
  have C4 := cap_made hown
  rw [f0] at hb4
  have x1 := (hb4.block _ (by omega)).trans f1
  have x2 := (hb4.block _ (by omega)).trans f2
  have x3 := (hb4.block _ (by omega)).trans f3
  have x4 := (hb4.block _ (by omega)).trans f4
  have x5 := heap_setCell_same w4 (w.heap.size + 3) 2 _ _ (.slice (some ⟨w.heap.size + 4, 0, none⟩) M1 M1) x4
  refine ⟨by rw [block_cell x4]; rfl, block_frozen x4 2, ?_⟩
  refine ⟨row_keep (row_below hR hB hg) (Below.heap_setCell _ _ _ _ (by show g ≠ w.heap.size + 3; omega)), ?_, cap_keep C4 (Below.heap_setCell _ _ _ _ (by show w.heap.size + 4 ≠ w.heap.size + 3; omega)),
    (Below.heap_setCell _ _ _ _ (by show w.heap.size ≠ w.heap.size + 3; omega)).trans x1, (Below.heap_setCell _ _ _ _ (by show w.heap.size + 1 ≠ w.heap.size + 3; omega)).trans x2,
    (Below.heap_setCell _ _ _ _ (by show w.heap.size + 2 ≠ w.heap.size + 3; omega)).trans x3, x5, hB.setCell (by show w.heap.size ≤ w.heap.size + 3; omega) _⟩
  refine row_ext (row_keep R4 (Below.heap_setCell _ _ _ _ (by show w.heap.size + 4 ≠ w.heap.size + 3; omega))) fun j _ => ?_
  rw [tw_none]
  decide +kernel

/-- The answer laid into its cell. -/
theorem dlay {w W : World} {g M0 c W0 H0 W1 H1 M1 : Nat} {P Q : Int} {Z0 Z1 : Nat → Int} (h : DInv w g (w.heap.size + 4) M0 c W0 H0 W1 H1 M1 P Q Z0 Z1 W) (a b d : Value) :
    (((W.setCell ⟨w.heap.size + 2, 0, none⟩ a).setCell ⟨w.heap.size + 2, 1, none⟩ b).setCell ⟨w.heap.size + 2, 2, none⟩ d).cell? ⟨w.heap.size + 2, 0, none⟩ = some a ∧
    (((W.setCell ⟨w.heap.size + 2, 0, none⟩ a).setCell ⟨w.heap.size + 2, 1, none⟩ b).setCell ⟨w.heap.size + 2, 2, none⟩ d).cell? ⟨w.heap.size + 2, 1, none⟩ = some b ∧
    (((W.setCell ⟨w.heap.size + 2, 0, none⟩ a).setCell ⟨w.heap.size + 2, 1, none⟩ b).setCell ⟨w.heap.size + 2, 2, none⟩ d).cell? ⟨w.heap.size + 2, 2, none⟩ = some d ∧
    Row (((W.setCell ⟨w.heap.size + 2, 0, none⟩ a).setCell ⟨w.heap.size + 2, 1, none⟩ b).setCell ⟨w.heap.size + 2, 2, none⟩ d) (w.heap.size + 4) M1 (fun j => fb (Z1 j)) ∧
    CapOk (((W.setCell ⟨w.heap.size + 2, 0, none⟩ a).setCell ⟨w.heap.size + 2, 1, none⟩ b).setCell ⟨w.heap.size + 2, 2, none⟩ d) (w.heap.size + 4) M1 M1 ∧
    Below w.heap.size w (((W.setCell ⟨w.heap.size + 2, 0, none⟩ a).setCell ⟨w.heap.size + 2, 1, none⟩ b).setCell ⟨w.heap.size + 2, 2, none⟩ d) := by
  have e1 := heap_setCell_same W (w.heap.size + 2) 0 _ _ a h.br
  have e2 := heap_setCell_same _ (w.heap.size + 2) 1 _ _ b e1
  have e3 := heap_setCell_same _ (w.heap.size + 2) 2 _ _ d e2
  have e : (((W.setCell ⟨w.heap.size + 2, 0, none⟩ a).setCell ⟨w.heap.size + 2, 1, none⟩ b).setCell ⟨w.heap.size + 2, 2, none⟩ d).heap[w.heap.size + 4]? = W.heap[w.heap.size + 4]? := by
    rw [Below.heap_setCell _ _ _ _ (by show w.heap.size + 4 ≠ w.heap.size + 2; omega), Below.heap_setCell _ _ _ _ (by show w.heap.size + 4 ≠ w.heap.size + 2; omega), Below.heap_setCell _ _ _ _ (by show w.heap.size + 4 ≠ w.heap.size + 2; omega)]
  refine ⟨?_, ?_, ?_, row_keep h.dst e, cap_keep h.cap e, ?_⟩
  · rw [block_cell e3]; rfl
  · rw [block_cell e3]; rfl
  · rw [block_cell e3]; rfl
  · exact ((h.below.setCell (p := ⟨w.heap.size + 2, 0, none⟩) (by show w.heap.size ≤ w.heap.size + 2; omega) a).setCell (p := ⟨w.heap.size + 2, 1, none⟩) (by show w.heap.size ≤ w.heap.size + 2; omega) b).setCell (p := ⟨w.heap.size + 2, 2, none⟩) (by show w.heap.size ≤ w.heap.size + 2; omega) d

set_option maxRecDepth 100000 in
set_option maxHeartbeats 4000000 in
theorem doubledNeg {W0 H0 g c : Nat} {P Q : Int} {G : Nat → Nat → Int} (hP' : P < 0) (h1 : 1 ≤ W0) (h2 : 1 ≤ H0) (hP : Int.natAbs P ≤ 16) (hQ0 : 0 ≤ Q) (hQ : Q ≤ 16) (hW : W0 + Int.natAbs P ≤ 64) (hH : H0 + Q.toNat ≤ 64)
    (hG : ∀ x y, (G x y).natAbs ≤ 256) (hS : ∀ x y, G x y ≠ 0 → x < W0 ∧ y < H0) (w : World) (hR : Row w g (W0 * H0) (fun j => fb (G (j % W0) (j / W0)))) :
    Calls Try.prog 15 #[.agg #[.int .i64 W0, .int .i64 H0, .slice (some ⟨g, 0, none⟩) (W0 * H0 : Nat) c], .agg #[.int .i64 P, .int .i64 Q]] w fun e w' => ∃ g',
      e = .returned (.agg #[.int .i64 (W0 + Int.natAbs P : Nat), .int .i64 (H0 + Q.toNat : Nat), .slice (some ⟨g', 0, none⟩) ((W0 + Int.natAbs P) * (H0 + Q.toNat) : Nat) ((W0 + Int.natAbs P) * (H0 + Q.toNat) : Nat)]) ∧ w.heap.size ≤ g' ∧
      (Row w' g' ((W0 + Int.natAbs P) * (H0 + Q.toNat)) (fun j => fb (gstep G (P, Q) (j % (W0 + Int.natAbs P)) (j / (W0 + Int.natAbs P)))) ∧ CapOk w' g' ((W0 + Int.natAbs P) * (H0 + Q.toNat)) ((W0 + Int.natAbs P) * (H0 + Q.toNat))) ∧ Below w.heap.size w w' := by
  obtain ⟨i0, hi0, hz0, hz1, hz2⟩ := info_parts infoC
  obtain ⟨W1, hW1⟩ : ∃ n, W0 + Int.natAbs P = n := ⟨_, rfl⟩
  obtain ⟨H1, hH1⟩ : ∃ n, H0 + Q.toNat = n := ⟨_, rfl⟩
  obtain ⟨M1, hM1⟩ : ∃ n, W1 * H1 = n := ⟨_, rfl⟩
  obtain ⟨M0, hM0⟩ : ∃ n, W0 * H0 = n := ⟨_, rfl⟩
  have l1 : M1 ≤ 4096 := by rw [← hM1]; exact Nat.mul_le_mul (show W1 ≤ 64 by omega) (show H1 ≤ 64 by omega)
  have l0 : M0 ≤ 4096 := by rw [← hM0]; exact Nat.mul_le_mul (show W0 ≤ 64 by omega) (show H0 ≤ 64 by omega)
  rw [hW1, hH1, hM1]
  rw [hM0] at hR ⊢
  have hglt := row_lt hR
  have e3 : (W0 : Int) + -P = (W1 : Int) := by omega
  have e1 : (W1 : Int) * (H1 : Int) = (M1 : Int) := by rw [← hM1, Int.natCast_mul]
  have e2 : IntKind.i64.wrap (M1 : Int) = M1 := by rw [IntKind.wrap_i64]; omega
  have e4 : (H0 : Int) + Q = (H1 : Int) := by omega
  have e5 : IntKind.i64.wrap (W1 : Int) = W1 := by rw [IntKind.wrap_i64]; omega
  have e6 : IntKind.i64.wrap (H1 : Int) = H1 := by rw [IntKind.wrap_i64]; omega
  have hM1' := hide hM1
  have hM0' := hide hM0
  have hR' := hide hR
  have hGh := hide hG
  have hSh := hide hS
  clear hM1 hM0 hR hG hS
  obtain ⟨K, hK⟩ : ∃ n : Nat, Q.toNat * W1 = n := ⟨_, rfl⟩
  have k1 : Q * (W1 : Int) = (K : Int) := by rw [← hK, Int.natCast_mul, Int.toNat_of_nonneg hQ0]
  have lK : K ≤ 16 * 64 := by rw [← hK]; exact Nat.mul_le_mul (show Q.toNat ≤ 16 by omega) (show W1 ≤ 64 by omega)
  have k2 : IntKind.i64.wrap (K : Int) = K := by rw [IntKind.wrap_i64]; omega
  have hK' := hide hK
  clear hK
  have g0 : (P < -P) = True := by simp; omega
  have g1 : (-P < P) = False := by simp; omega
  have g2 : (P < 0) = True := by simp; omega
  have g3 : (0 < P) = False := by simp; omega
  have g4 : (P ≤ 0) = True := by simp; omega
  have g5 : (0 ≤ P) = False := by simp; omega
  go_enter Try.func15, Try.ntmps15
  go_wp2_with (first
    | (at_make; refine wpList_make_full _ rfl (.tmp 30) (.tmp 30) 24 rfl w.heap.size 38 i0 (.complex .f64 0 0) 1 Try.underlying24 hi0 hz0 hz1 .i64 .i64 M1 M1 M1 rfl rfl rfl rfl ?c1 ?c2 ?c3 ?_))
  case c1 => rw [hz2]; omega
  case c2 => unfold maxLen; omega
  case c3 => simp; omega
  intro w4 hown4 hg4
  obtain ⟨d1, d2, I0⟩ := dstart hglt (unhide hR') hg4 hown4
  have o0 := block_cell I0.bo 0
  have o1 := block_cell I0.bo 1
  have p0 := block_cell I0.bd 0
  have p1 := block_cell I0.bd 1
  have q2 := block_cell I0.bh 2
  simp only [List.getElem?_toArray, List.getElem?_cons_zero, List.getElem?_cons_succ] at o0 o1 p0 p1 q2
  have I00 := hide I0
  clear hown4 hg4 I0
  go_wp2_with fail
  go_loopw [49] (fun iv wr => ∃ k : Nat, k ≤ M0 ∧ iv = .int .i64 k ∧ Hid (DInv w g (w.heap.size + 4) M0 c W0 H0 W1 H1 M1 P Q (fun j => G (j % W0) (j / W0)) (tw W0 W1 k G (P, Q)) wr)) (fun iv _ => M0 - (intOf iv).toNat)
  case atStart => exact ⟨0, Nat.zero_le _, rfl, I00⟩
  case round =>
    clear I00 o0 o1 p0 p1 q2 d1 d2
    clear w4
    obtain ⟨k, hk, rfl, I1⟩ := hrel
    by_cases hkM : k < M0
    · have qk : ((k : Int) < (M0 : Int)) = True := by simp; omega
      obtain ⟨x, hx⟩ : ∃ n, k % W0 = n := ⟨_, rfl⟩
      obtain ⟨y, hy⟩ : ∃ n, k / W0 = n := ⟨_, rfl⟩
      have hxW : x < W0 := by rw [← hx]; exact Nat.mod_lt _ (by omega)
      have hyH : y < H0 := by rw [← hy]; exact (Nat.div_lt_iff_lt_mul (by omega)).2 (by rw [Nat.mul_comm, unhide hM0']; exact hkM)
      have hkk : k = y * W0 + x := by
        have := Nat.div_add_mod k W0
        rw [hx, hy, Nat.mul_comm] at this
        exact this.symm
      have f1 : (k : Int) / (W0 : Int) = (y : Int) := by rw [← hy]; rfl
      have f2 : (k : Int) % (W0 : Int) = (x : Int) := by rw [← hx]; rfl
      have f3 : (k : Int).tmod (W0 : Int) = (x : Int) := by rw [Int.tmod_eq_emod_of_nonneg (by omega)]; exact f2
      have f4 : (k : Int).tdiv (W0 : Int) = (y : Int) := by rw [Int.tdiv_eq_ediv_of_nonneg (by omega)]; exact f1
      have f5 : IntKind.i64.wrap (y : Int) = y := by rw [IntKind.wrap_i64]; omega
      have f6 : IntKind.i64.wrap (x : Int) = x := by rw [IntKind.wrap_i64]; omega
      have z0 : ((W0 : Int) == 0) = false := by simp; omega
      have z1 : ¬ (W0 : Int) = 0 := by omega
      have z2 : (W0 = 0) = False := by simp; omega
      obtain ⟨AA, s1⟩ := at_ok (W := W1) (x := x) (y := y) (by omega) (by omega) (by omega)
      obtain ⟨s3, s4, s5, s6⟩ := s1
      have ha : x + gax (P, Q) < W1 := by unfold gax; dsimp only; omega
      have hb : x + gbx (P, Q) < W1 := by unfold gbx; dsimp only; omega
      have hc : y + gby (P, Q) < H1 := by unfold gby; dsimp only; omega
      obtain ⟨A, hA⟩ : ∃ n, n = y * W1 + (x + gax (P, Q)) := ⟨_, rfl⟩
      obtain ⟨B, hB⟩ : ∃ n, n = (y + gby (P, Q)) * W1 + (x + gbx (P, Q)) := ⟨_, rfl⟩
      have hAM : A < M1 := by
        have : (y + 1) * W1 ≤ H1 * W1 := Nat.mul_le_mul_right _ (by omega)
        rw [Nat.add_mul, Nat.mul_comm H1 W1, unhide hM1'] at this
        omega
      have hBM : B < M1 := by
        have : (y + gby (P, Q) + 1) * W1 ≤ H1 * W1 := Nat.mul_le_mul_right _ (by omega)
        rw [Nat.add_mul, Nat.mul_comm H1 W1, unhide hM1'] at this
        omega
      have hAt : y * W1 + x + gax (P, Q) = A := by omega
      have hBt : y * W1 + x + K + gbx (P, Q) = B := by
        have e : gby (P, Q) * W1 = K := unhide hK'
        rw [hB, Nat.add_mul, e]
        omega
      have wA : IntKind.i64.wrap (A : Int) = A := by rw [IntKind.wrap_i64]; omega
      have wB : IntKind.i64.wrap (B : Int) = B := by rw [IntKind.wrap_i64]; omega
      have hv := row_at (unhide I1).src hkM
      rw [hx, hy] at hv
      have hvl := unhide hGh x y
      have J0 := unhide I1
      have hZ := tw_le (w := W0) (w1 := W1) (unhide hGh) k (P, Q)
      have hz2' := hide (fun j => tw_two (j := j) hxW ha hb hA hB _ (show tw W0 W1 k G (P, Q) = tw W0 W1 (y * W0 + x) G (P, Q) by rw [hkk]))
      rw [← hkk] at hz2'
      generalize tw W0 W1 k G (P, Q) = Z at *
      generalize G x y = v at *
      have zA := hZ A
      have zB := hZ B
      have kA := hide fun w => addAny (fb_add (a := Z A) (b := v) (by omega) (by omega)) w
      have kS := hide fun w => subAny (fb_sub (a := if B = A then Z A + v else Z B) (b := v) (by split <;> omega) (by omega)) w
      have b0 := block_cell J0.bh 0
      have o0 := block_cell J0.bo 0
      have J1 := hide fun (W : World) (J : DInv w g (w.heap.size + 4) M0 c W0 H0 W1 H1 M1 P Q (fun j => G (j % W0) (j / W0)) Z W) (n : Nat) => (J.drewN n).set hglt (by omega) A (Z A + v)
      have E1 := hide fun (W : World) (J : DInv w g (w.heap.size + 4) M0 c W0 H0 W1 H1 M1 P Q (fun j => G (j % W0) (j / W0)) Z W) => row_at J.dst hAM
      have J2 : Hid (∀ (W : World), DInv w g (w.heap.size + 4) M0 c W0 H0 W1 H1 M1 P Q (fun j => G (j % W0) (j / W0)) (fun j => if j = A then Z A + v else Z j) W → ∀ n : Nat,
          DInv w g (w.heap.size + 4) M0 c W0 H0 W1 H1 M1 P Q (fun j => G (j % W0) (j / W0)) (tw W0 W1 (k + 1) G (P, Q)) ((W.drewN n).setCell ⟨w.heap.size + 4, B, none⟩ (cv (fb ((if B = A then Z A + v else Z B) - v))))) :=
        fun W J n => ((J.drewN n).set hglt (by omega) B ((if B = A then Z A + v else Z B) - v)).ext fun j _ => unhide hz2' j
      have E2 := hide fun (W : World) (J : DInv w g (w.heap.size + 4) M0 c W0 H0 W1 H1 M1 P Q (fun j => G (j % W0) (j / W0)) (fun j => if j = A then Z A + v else Z j) W) => row_at J.dst hBM
      simp only [List.getElem?_toArray, List.getElem?_cons_zero] at b0 o0
      have J0 := hide J0
      clear I1 hZ hz2' hvl zA zB hx hy hkk hA hB hc
      generalize (fun j => if j = A then Z A + v else Z j) = Z' at *
      generalize fb (Z A + v) = fa at *
      generalize fb ((if B = A then Z A + v else Z B) - v) = fs at *
      generalize fb (if B = A then Z A + v else Z B) = pB at *
      generalize fb (Z A) = pA at *
      generalize fb v = fv at *
      obtain ⟨v1, v2⟩ := fv
      obtain ⟨x1, x2⟩ := pA
      obtain ⟨x3, x4⟩ := fa
      obtain ⟨x5, x6⟩ := pB
      obtain ⟨x7, x8⟩ := fs
      unfold cv at hv J1 J2 E1 E2
      dsimp only at hv J1 J2 E1 E2 kA kS
      generalize y * W1 + x = at_ at *
      have a1 : (at_ : Int) + -P = (A : Int) := by unfold gax at hAt; dsimp only at hAt; omega
      have b1 : (at_ : Int) + (K : Int) = (B : Int) := by unfold gbx at hBt; dsimp only at hBt; omega
      clear hAt hBt ha hb
      have hfn : ∀ f, Fence.wide.fn f = True := fun _ => rfl
      go_wp2_with fail
      go_big_region
      go_wp2_with fail
      have J5 := hide (unhide J0).drew
      clear J0 b0 o0 hv
      generalize wr.drew = w5 at *
      have o2 := block_cell (unhide J5).bo 2
      simp only [List.getElem?_toArray, List.getElem?_cons_zero, List.getElem?_cons_succ] at o2
      have c1 := unhide E1 w5 (unhide J5)
      have c2 := row_frozen (unhide J5).dst A
      refine (wpIn_wide (n := 0)).1 ?_
      refine region_quiet 15 mixed (by kernel_rfl) ?_
      simp only [List.take_succ_cons, List.take_zero, List.drop_succ_cons, List.drop_zero]
      repeat (gi_big_quiet_step ((refine ⟨rfl, CallsIn.quiet_of_same (callsIn_wide.2 (unhide kA _))⟩)))
      refine wpQuietIn_nil ?_
      intro _ hw'
      obtain ⟨nq, rfl⟩ := hw'
      gi_wp2
      have J6 := hide (unhide J1 w5 (unhide J5) nq)
      clear J5 J1 E1 kA o2 c1 c2
      generalize (w5.drewN nq).setCell ⟨w.heap.size + 4, A, none⟩ (.complex .f64 x3 x4) = w6 at *
      have o2 := block_cell (unhide J6).bo 2
      simp only [List.getElem?_toArray, List.getElem?_cons_zero, List.getElem?_cons_succ] at o2
      have c1 := unhide E2 w6 (unhide J6)
      have c2 := row_frozen (unhide J6).dst B
      refine (wpIn_wide (n := 0)).1 ?_
      refine region_quiet 15 mixed (by kernel_rfl) ?_
      simp only [List.take_succ_cons, List.take_zero, List.drop_succ_cons, List.drop_zero]
      repeat (gi_big_quiet_step ((refine ⟨rfl, CallsIn.quiet_of_same (callsIn_wide.2 (unhide kS _))⟩)))
      refine wpQuietIn_nil ?_
      intro _ hw'
      obtain ⟨nq2, rfl⟩ := hw'
      gi_wp2
      have J7 := hide (unhide J2 w6 (unhide J6) nq2)
      clear J6 J2 E2 kS o2 c1 c2
      generalize (w6.drewN nq2).setCell ⟨w.heap.size + 4, B, none⟩ (.complex .f64 x7 x8) = w7 at *
      go_wp2_with fail
      exact ⟨⟨k + 1, hkM, by go_num, J7⟩, by simp [intOf]; omega⟩
    · have qk : ((k : Int) < (M0 : Int)) = False := by simp; omega
      have e : k = M0 := by omega
      have I2 := unhide I1
      have o0 := block_cell I2.bo 0
      have o1 := block_cell I2.bo 1
      have o2 := block_cell I2.bo 2
      have r0 := block_cell I2.br 0
      have r1 := block_cell I2.br 1
      have r2 := block_cell I2.br 2
      have s0 := block_frozen I2.br 0
      have s1 := block_frozen I2.br 1
      have s3 := block_frozen I2.br 2
      simp only [List.getElem?_toArray, List.getElem?_cons_zero, List.getElem?_cons_succ] at o0 o1 o2 r0 r1 r2
      have hall : Hid (∀ j, tw W0 W1 k G (P, Q) j = gstep G (P, Q) (j % W1) (j / W1)) := fun j => by
        rw [e, ← unhide hM0', Nat.mul_comm W0 H0]
        exact tw_all (unhide hSh) j
      have fin := hide (dlay I2 (.int .i64 (W1 : Nat)) (.int .i64 (H1 : Nat)) (.slice (some ⟨w.heap.size + 4, 0, none⟩) M1 M1))
      have e := hide e
      clear I1 I2
      clear hM0' hR' hGh hSh
      go_wp2_with fail
      obtain ⟨t0, t1, t2, t3, t4, t5⟩ := unhide fin
      refine bodyPost_ret (results_three (P := Try.prog) rfl _ _ (w.heap.size + 2) (.int .i64 (W1 : Nat)) (.int .i64 (H1 : Nat)) (.slice (some ⟨w.heap.size + 4, 0, none⟩) M1 M1) _ rfl t0 t1 t2 Try.underlying26 rfl (by kernel_rfl)) rfl ?_
      exact ⟨w.heap.size + 4, rfl, by omega, ⟨row_ext t3 fun j _ => by rw [unhide hall j], t4⟩, t5⟩

set_option maxRecDepth 100000 in
set_option maxHeartbeats 4000000 in
theorem doubledNone {W0 H0 g c : Nat} {Q : Int} {G : Nat → Nat → Int} (h1 : 1 ≤ W0) (h2 : 1 ≤ H0) (hQ0 : 0 ≤ Q) (hQ : Q ≤ 16) (hW : W0 + Int.natAbs 0 ≤ 64) (hH : H0 + Q.toNat ≤ 64)
    (hG : ∀ x y, (G x y).natAbs ≤ 256) (hS : ∀ x y, G x y ≠ 0 → x < W0 ∧ y < H0) (w : World) (hR : Row w g (W0 * H0) (fun j => fb (G (j % W0) (j / W0)))) :
    Calls Try.prog 15 #[.agg #[.int .i64 W0, .int .i64 H0, .slice (some ⟨g, 0, none⟩) (W0 * H0 : Nat) c], .agg #[.int .i64 0, .int .i64 Q]] w fun e w' => ∃ g',
      e = .returned (.agg #[.int .i64 (W0 + Int.natAbs 0 : Nat), .int .i64 (H0 + Q.toNat : Nat), .slice (some ⟨g', 0, none⟩) ((W0 + Int.natAbs 0) * (H0 + Q.toNat) : Nat) ((W0 + Int.natAbs 0) * (H0 + Q.toNat) : Nat)]) ∧ w.heap.size ≤ g' ∧
      (Row w' g' ((W0 + Int.natAbs 0) * (H0 + Q.toNat)) (fun j => fb (gstep G (0, Q) (j % (W0 + Int.natAbs 0)) (j / (W0 + Int.natAbs 0)))) ∧ CapOk w' g' ((W0 + Int.natAbs 0) * (H0 + Q.toNat)) ((W0 + Int.natAbs 0) * (H0 + Q.toNat))) ∧ Below w.heap.size w w' := by
  obtain ⟨i0, hi0, hz0, hz1, hz2⟩ := info_parts infoC
  obtain ⟨W1, hW1⟩ : ∃ n, W0 + Int.natAbs 0 = n := ⟨_, rfl⟩
  obtain ⟨H1, hH1⟩ : ∃ n, H0 + Q.toNat = n := ⟨_, rfl⟩
  obtain ⟨M1, hM1⟩ : ∃ n, W1 * H1 = n := ⟨_, rfl⟩
  obtain ⟨M0, hM0⟩ : ∃ n, W0 * H0 = n := ⟨_, rfl⟩
  have l1 : M1 ≤ 4096 := by rw [← hM1]; exact Nat.mul_le_mul (show W1 ≤ 64 by omega) (show H1 ≤ 64 by omega)
  have l0 : M0 ≤ 4096 := by rw [← hM0]; exact Nat.mul_le_mul (show W0 ≤ 64 by omega) (show H0 ≤ 64 by omega)
  rw [hW1, hH1, hM1]
  rw [hM0] at hR ⊢
  have hglt := row_lt hR
  obtain rfl : W0 = W1 := by simpa using hW1
  have e1 : (W0 : Int) * (H1 : Int) = (M1 : Int) := by rw [← hM1, Int.natCast_mul]
  have e2 : IntKind.i64.wrap (M1 : Int) = M1 := by rw [IntKind.wrap_i64]; omega
  have e4 : (H0 : Int) + Q = (H1 : Int) := by omega
  have e5 : IntKind.i64.wrap (W0 : Int) = W0 := by rw [IntKind.wrap_i64]; omega
  have e6 : IntKind.i64.wrap (H1 : Int) = H1 := by rw [IntKind.wrap_i64]; omega
  have hM1' := hide hM1
  have hM0' := hide hM0
  have hR' := hide hR
  have hGh := hide hG
  have hSh := hide hS
  clear hM1 hM0 hR hG hS
  obtain ⟨K, hK⟩ : ∃ n : Nat, Q.toNat * W0 = n := ⟨_, rfl⟩
  have k1 : Q * (W0 : Int) = (K : Int) := by rw [← hK, Int.natCast_mul, Int.toNat_of_nonneg hQ0]
  have lK : K ≤ 16 * 64 := by rw [← hK]; exact Nat.mul_le_mul (show Q.toNat ≤ 16 by omega) (show W0 ≤ 64 by omega)
  have k2 : IntKind.i64.wrap (K : Int) = K := by rw [IntKind.wrap_i64]; omega
  have hK' := hide hK
  clear hK

  go_enter Try.func15, Try.ntmps15
  go_wp2_with (first
    | (at_make; refine wpList_make_full _ rfl (.tmp 30) (.tmp 30) 24 rfl w.heap.size 38 i0 (.complex .f64 0 0) 1 Try.underlying24 hi0 hz0 hz1 .i64 .i64 M1 M1 M1 rfl rfl rfl rfl ?c1 ?c2 ?c3 ?_))
  case c1 => rw [hz2]; omega
  case c2 => unfold maxLen; omega
  case c3 => simp; omega
  intro w4 hown4 hg4
  obtain ⟨d1, d2, I0⟩ := dstart hglt (unhide hR') hg4 hown4
  have o0 := block_cell I0.bo 0
  have o1 := block_cell I0.bo 1
  have p0 := block_cell I0.bd 0
  have p1 := block_cell I0.bd 1
  have q2 := block_cell I0.bh 2
  simp only [List.getElem?_toArray, List.getElem?_cons_zero, List.getElem?_cons_succ] at o0 o1 p0 p1 q2
  have I00 := hide I0
  clear hown4 hg4 I0
  go_wp2_with fail
  go_loopw [49] (fun iv wr => ∃ k : Nat, k ≤ M0 ∧ iv = .int .i64 k ∧ Hid (DInv w g (w.heap.size + 4) M0 c W0 H0 W0 H1 M1 0 Q (fun j => G (j % W0) (j / W0)) (tw W0 W0 k G (0, Q)) wr)) (fun iv _ => M0 - (intOf iv).toNat)
  case atStart => exact ⟨0, Nat.zero_le _, rfl, I00⟩
  case round =>
    clear I00 o0 o1 p0 p1 q2 d1 d2
    clear w4
    obtain ⟨k, hk, rfl, I1⟩ := hrel
    by_cases hkM : k < M0
    · have qk : ((k : Int) < (M0 : Int)) = True := by simp; omega
      obtain ⟨x, hx⟩ : ∃ n, k % W0 = n := ⟨_, rfl⟩
      obtain ⟨y, hy⟩ : ∃ n, k / W0 = n := ⟨_, rfl⟩
      have hxW : x < W0 := by rw [← hx]; exact Nat.mod_lt _ (by omega)
      have hyH : y < H0 := by rw [← hy]; exact (Nat.div_lt_iff_lt_mul (by omega)).2 (by rw [Nat.mul_comm, unhide hM0']; exact hkM)
      have hkk : k = y * W0 + x := by
        have := Nat.div_add_mod k W0
        rw [hx, hy, Nat.mul_comm] at this
        exact this.symm
      have f1 : (k : Int) / (W0 : Int) = (y : Int) := by rw [← hy]; rfl
      have f2 : (k : Int) % (W0 : Int) = (x : Int) := by rw [← hx]; rfl
      have f3 : (k : Int).tmod (W0 : Int) = (x : Int) := by rw [Int.tmod_eq_emod_of_nonneg (by omega)]; exact f2
      have f4 : (k : Int).tdiv (W0 : Int) = (y : Int) := by rw [Int.tdiv_eq_ediv_of_nonneg (by omega)]; exact f1
      have f5 : IntKind.i64.wrap (y : Int) = y := by rw [IntKind.wrap_i64]; omega
      have f6 : IntKind.i64.wrap (x : Int) = x := by rw [IntKind.wrap_i64]; omega
      have z0 : ((W0 : Int) == 0) = false := by simp; omega
      have z1 : ¬ (W0 : Int) = 0 := by omega
      have z2 : (W0 = 0) = False := by simp; omega
      obtain ⟨AA, s1⟩ := at_ok (W := W0) (x := x) (y := y) (by omega) (by omega) (by omega)
      obtain ⟨s3, s4, s5, s6⟩ := s1
      have ha : x + gax (0, Q) < W0 := by unfold gax; dsimp only; omega
      have hb : x + gbx (0, Q) < W0 := by unfold gbx; dsimp only; omega
      have hc : y + gby (0, Q) < H1 := by unfold gby; dsimp only; omega
      obtain ⟨A, hA⟩ : ∃ n, n = y * W0 + (x + gax (0, Q)) := ⟨_, rfl⟩
      obtain ⟨B, hB⟩ : ∃ n, n = (y + gby (0, Q)) * W0 + (x + gbx (0, Q)) := ⟨_, rfl⟩
      have hAM : A < M1 := by
        have : (y + 1) * W0 ≤ H1 * W0 := Nat.mul_le_mul_right _ (by omega)
        rw [Nat.add_mul, Nat.mul_comm H1 W0, unhide hM1'] at this
        omega
      have hBM : B < M1 := by
        have : (y + gby (0, Q) + 1) * W0 ≤ H1 * W0 := Nat.mul_le_mul_right _ (by omega)
        rw [Nat.add_mul, Nat.mul_comm H1 W0, unhide hM1'] at this
        omega
      have hAt : y * W0 + x + gax (0, Q) = A := by omega
      have hBt : y * W0 + x + K + gbx (0, Q) = B := by
        have e : gby (0, Q) * W0 = K := unhide hK'
        rw [hB, Nat.add_mul, e]
        omega
      have wA : IntKind.i64.wrap (A : Int) = A := by rw [IntKind.wrap_i64]; omega
      have wB : IntKind.i64.wrap (B : Int) = B := by rw [IntKind.wrap_i64]; omega
      have hv := row_at (unhide I1).src hkM
      rw [hx, hy] at hv
      have hvl := unhide hGh x y
      have J0 := unhide I1
      have hZ := tw_le (w := W0) (w1 := W0) (unhide hGh) k (0, Q)
      have hz2' := hide (fun j => tw_two (j := j) hxW ha hb hA hB _ (show tw W0 W0 k G (0, Q) = tw W0 W0 (y * W0 + x) G (0, Q) by rw [hkk]))
      rw [← hkk] at hz2'
      generalize tw W0 W0 k G (0, Q) = Z at *
      generalize G x y = v at *
      have zA := hZ A
      have zB := hZ B
      have kA := hide fun w => addAny (fb_add (a := Z A) (b := v) (by omega) (by omega)) w
      have kS := hide fun w => subAny (fb_sub (a := if B = A then Z A + v else Z B) (b := v) (by split <;> omega) (by omega)) w
      have b0 := block_cell J0.bh 0
      have o0 := block_cell J0.bo 0
      have J1 := hide fun (W : World) (J : DInv w g (w.heap.size + 4) M0 c W0 H0 W0 H1 M1 0 Q (fun j => G (j % W0) (j / W0)) Z W) (n : Nat) => (J.drewN n).set hglt (by omega) A (Z A + v)
      have E1 := hide fun (W : World) (J : DInv w g (w.heap.size + 4) M0 c W0 H0 W0 H1 M1 0 Q (fun j => G (j % W0) (j / W0)) Z W) => row_at J.dst hAM
      have J2 : Hid (∀ (W : World), DInv w g (w.heap.size + 4) M0 c W0 H0 W0 H1 M1 0 Q (fun j => G (j % W0) (j / W0)) (fun j => if j = A then Z A + v else Z j) W → ∀ n : Nat,
          DInv w g (w.heap.size + 4) M0 c W0 H0 W0 H1 M1 0 Q (fun j => G (j % W0) (j / W0)) (tw W0 W0 (k + 1) G (0, Q)) ((W.drewN n).setCell ⟨w.heap.size + 4, B, none⟩ (cv (fb ((if B = A then Z A + v else Z B) - v))))) :=
        fun W J n => ((J.drewN n).set hglt (by omega) B ((if B = A then Z A + v else Z B) - v)).ext fun j _ => unhide hz2' j
      have E2 := hide fun (W : World) (J : DInv w g (w.heap.size + 4) M0 c W0 H0 W0 H1 M1 0 Q (fun j => G (j % W0) (j / W0)) (fun j => if j = A then Z A + v else Z j) W) => row_at J.dst hBM
      simp only [List.getElem?_toArray, List.getElem?_cons_zero] at b0 o0
      have J0 := hide J0
      clear I1 hZ hz2' hvl zA zB hx hy hkk hA hB hc
      generalize (fun j => if j = A then Z A + v else Z j) = Z' at *
      generalize fb (Z A + v) = fa at *
      generalize fb ((if B = A then Z A + v else Z B) - v) = fs at *
      generalize fb (if B = A then Z A + v else Z B) = pB at *
      generalize fb (Z A) = pA at *
      generalize fb v = fv at *
      obtain ⟨v1, v2⟩ := fv
      obtain ⟨x1, x2⟩ := pA
      obtain ⟨x3, x4⟩ := fa
      obtain ⟨x5, x6⟩ := pB
      obtain ⟨x7, x8⟩ := fs
      unfold cv at hv J1 J2 E1 E2
      dsimp only at hv J1 J2 E1 E2 kA kS
      generalize y * W0 + x = at_ at *
      obtain rfl : at_ = A := by unfold gax at hAt; dsimp only at hAt; omega
      have b1 : (at_ : Int) + (K : Int) = (B : Int) := by unfold gbx at hBt; dsimp only at hBt; omega
      clear hAt hBt ha hb
      have hfn : ∀ f, Fence.wide.fn f = True := fun _ => rfl
      go_wp2_with fail
      go_big_region
      go_wp2_with fail
      have J5 := hide (unhide J0).drew
      clear J0 b0 o0 hv
      generalize wr.drew = w5 at *
      have o2 := block_cell (unhide J5).bo 2
      simp only [List.getElem?_toArray, List.getElem?_cons_zero, List.getElem?_cons_succ] at o2
      have c1 := unhide E1 w5 (unhide J5)
      have c2 := row_frozen (unhide J5).dst at_
      refine (wpIn_wide (n := 0)).1 ?_
      refine region_quiet 15 mixed (by kernel_rfl) ?_
      simp only [List.take_succ_cons, List.take_zero, List.drop_succ_cons, List.drop_zero]
      repeat (gi_big_quiet_step ((refine ⟨rfl, CallsIn.quiet_of_same (callsIn_wide.2 (unhide kA _))⟩)))
      refine wpQuietIn_nil ?_
      intro _ hw'
      obtain ⟨nq, rfl⟩ := hw'
      gi_wp2
      have J6 := hide (unhide J1 w5 (unhide J5) nq)
      clear J5 J1 E1 kA o2 c1 c2
      generalize (w5.drewN nq).setCell ⟨w.heap.size + 4, at_, none⟩ (.complex .f64 x3 x4) = w6 at *
      have o2 := block_cell (unhide J6).bo 2
      simp only [List.getElem?_toArray, List.getElem?_cons_zero, List.getElem?_cons_succ] at o2
      have c1 := unhide E2 w6 (unhide J6)
      have c2 := row_frozen (unhide J6).dst B
      refine (wpIn_wide (n := 0)).1 ?_
      refine region_quiet 15 mixed (by kernel_rfl) ?_
      simp only [List.take_succ_cons, List.take_zero, List.drop_succ_cons, List.drop_zero]
      repeat (gi_big_quiet_step ((refine ⟨rfl, CallsIn.quiet_of_same (callsIn_wide.2 (unhide kS _))⟩)))
      refine wpQuietIn_nil ?_
      intro _ hw'
      obtain ⟨nq2, rfl⟩ := hw'
      gi_wp2
      have J7 := hide (unhide J2 w6 (unhide J6) nq2)
      clear J6 J2 E2 kS o2 c1 c2
      generalize (w6.drewN nq2).setCell ⟨w.heap.size + 4, B, none⟩ (.complex .f64 x7 x8) = w7 at *
      go_wp2_with fail
      exact ⟨⟨k + 1, hkM, by go_num, J7⟩, by simp [intOf]; omega⟩
    · have qk : ((k : Int) < (M0 : Int)) = False := by simp; omega
      have e : k = M0 := by omega
      have I2 := unhide I1
      have o0 := block_cell I2.bo 0
      have o1 := block_cell I2.bo 1
      have o2 := block_cell I2.bo 2
      have r0 := block_cell I2.br 0
      have r1 := block_cell I2.br 1
      have r2 := block_cell I2.br 2
      have s0 := block_frozen I2.br 0
      have s1 := block_frozen I2.br 1
      have s3 := block_frozen I2.br 2
      simp only [List.getElem?_toArray, List.getElem?_cons_zero, List.getElem?_cons_succ] at o0 o1 o2 r0 r1 r2
      have hall : Hid (∀ j, tw W0 W0 k G (0, Q) j = gstep G (0, Q) (j % W0) (j / W0)) := fun j => by
        rw [e, ← unhide hM0', Nat.mul_comm W0 H0]
        exact tw_all (unhide hSh) j
      have fin := hide (dlay I2 (.int .i64 (W0 : Nat)) (.int .i64 (H1 : Nat)) (.slice (some ⟨w.heap.size + 4, 0, none⟩) M1 M1))
      have e := hide e
      clear I1 I2
      clear hM0' hR' hGh hSh
      go_wp2_with fail
      obtain ⟨t0, t1, t2, t3, t4, t5⟩ := unhide fin
      refine bodyPost_ret (results_three (P := Try.prog) rfl _ _ (w.heap.size + 2) (.int .i64 (W0 : Nat)) (.int .i64 (H1 : Nat)) (.slice (some ⟨w.heap.size + 4, 0, none⟩) M1 M1) _ rfl t0 t1 t2 Try.underlying26 rfl (by kernel_rfl)) rfl ?_
      exact ⟨w.heap.size + 4, rfl, by omega, ⟨row_ext t3 fun j _ => by rw [unhide hall j], t4⟩, t5⟩

set_option maxRecDepth 100000 in
set_option maxHeartbeats 4000000 in
theorem doubledPos {W0 H0 g c : Nat} {P Q : Int} {G : Nat → Nat → Int} (hP' : 0 < P) (h1 : 1 ≤ W0) (h2 : 1 ≤ H0) (hP : Int.natAbs P ≤ 16) (hQ0 : 0 ≤ Q) (hQ : Q ≤ 16) (hW : W0 + Int.natAbs P ≤ 64) (hH : H0 + Q.toNat ≤ 64)
    (hG : ∀ x y, (G x y).natAbs ≤ 256) (hS : ∀ x y, G x y ≠ 0 → x < W0 ∧ y < H0) (w : World) (hR : Row w g (W0 * H0) (fun j => fb (G (j % W0) (j / W0)))) :
    Calls Try.prog 15 #[.agg #[.int .i64 W0, .int .i64 H0, .slice (some ⟨g, 0, none⟩) (W0 * H0 : Nat) c], .agg #[.int .i64 P, .int .i64 Q]] w fun e w' => ∃ g',
      e = .returned (.agg #[.int .i64 (W0 + Int.natAbs P : Nat), .int .i64 (H0 + Q.toNat : Nat), .slice (some ⟨g', 0, none⟩) ((W0 + Int.natAbs P) * (H0 + Q.toNat) : Nat) ((W0 + Int.natAbs P) * (H0 + Q.toNat) : Nat)]) ∧ w.heap.size ≤ g' ∧
      (Row w' g' ((W0 + Int.natAbs P) * (H0 + Q.toNat)) (fun j => fb (gstep G (P, Q) (j % (W0 + Int.natAbs P)) (j / (W0 + Int.natAbs P)))) ∧ CapOk w' g' ((W0 + Int.natAbs P) * (H0 + Q.toNat)) ((W0 + Int.natAbs P) * (H0 + Q.toNat))) ∧ Below w.heap.size w w' := by
  obtain ⟨i0, hi0, hz0, hz1, hz2⟩ := info_parts infoC
  obtain ⟨W1, hW1⟩ : ∃ n, W0 + Int.natAbs P = n := ⟨_, rfl⟩
  obtain ⟨H1, hH1⟩ : ∃ n, H0 + Q.toNat = n := ⟨_, rfl⟩
  obtain ⟨M1, hM1⟩ : ∃ n, W1 * H1 = n := ⟨_, rfl⟩
  obtain ⟨M0, hM0⟩ : ∃ n, W0 * H0 = n := ⟨_, rfl⟩
  have l1 : M1 ≤ 4096 := by rw [← hM1]; exact Nat.mul_le_mul (show W1 ≤ 64 by omega) (show H1 ≤ 64 by omega)
  have l0 : M0 ≤ 4096 := by rw [← hM0]; exact Nat.mul_le_mul (show W0 ≤ 64 by omega) (show H0 ≤ 64 by omega)
  rw [hW1, hH1, hM1]
  rw [hM0] at hR ⊢
  have hglt := row_lt hR
  have e3 : (W0 : Int) + P = (W1 : Int) := by omega
  have e1 : (W1 : Int) * (H1 : Int) = (M1 : Int) := by rw [← hM1, Int.natCast_mul]
  have e2 : IntKind.i64.wrap (M1 : Int) = M1 := by rw [IntKind.wrap_i64]; omega
  have e4 : (H0 : Int) + Q = (H1 : Int) := by omega
  have e5 : IntKind.i64.wrap (W1 : Int) = W1 := by rw [IntKind.wrap_i64]; omega
  have e6 : IntKind.i64.wrap (H1 : Int) = H1 := by rw [IntKind.wrap_i64]; omega
  have hM1' := hide hM1
  have hM0' := hide hM0
  have hR' := hide hR
  have hGh := hide hG
  have hSh := hide hS
  clear hM1 hM0 hR hG hS
  obtain ⟨K, hK⟩ : ∃ n : Nat, Q.toNat * W1 = n := ⟨_, rfl⟩
  have k1 : Q * (W1 : Int) = (K : Int) := by rw [← hK, Int.natCast_mul, Int.toNat_of_nonneg hQ0]
  have lK : K ≤ 16 * 64 := by rw [← hK]; exact Nat.mul_le_mul (show Q.toNat ≤ 16 by omega) (show W1 ≤ 64 by omega)
  have k2 : IntKind.i64.wrap (K : Int) = K := by rw [IntKind.wrap_i64]; omega
  have hK' := hide hK
  clear hK
  have g0 : (P < -P) = False := by simp; omega
  have g1 : (-P < P) = True := by simp; omega
  have g2 : (-P ≤ P) = True := by simp; omega
  have g3 : (P < 0) = False := by simp; omega
  have g4 : (0 < P) = True := by simp; omega
  have g5 : (P ≤ 0) = False := by simp; omega
  have g6 : (0 ≤ P) = True := by simp; omega
  obtain ⟨s, hs⟩ : ∃ n : Nat, (K : Int) + P = (n : Int) := ⟨(K + P).toNat, by omega⟩
  have ls : s ≤ 2000 := by omega
  have s2 : IntKind.i64.wrap (s : Int) = s := by rw [IntKind.wrap_i64]; omega
  go_enter Try.func15, Try.ntmps15
  go_wp2_with (first
    | (at_make; refine wpList_make_full _ rfl (.tmp 30) (.tmp 30) 24 rfl w.heap.size 38 i0 (.complex .f64 0 0) 1 Try.underlying24 hi0 hz0 hz1 .i64 .i64 M1 M1 M1 rfl rfl rfl rfl ?c1 ?c2 ?c3 ?_))
  case c1 => rw [hz2]; omega
  case c2 => unfold maxLen; omega
  case c3 => simp; omega
  intro w4 hown4 hg4
  obtain ⟨d1, d2, I0⟩ := dstart hglt (unhide hR') hg4 hown4
  have o0 := block_cell I0.bo 0
  have o1 := block_cell I0.bo 1
  have p0 := block_cell I0.bd 0
  have p1 := block_cell I0.bd 1
  have q2 := block_cell I0.bh 2
  simp only [List.getElem?_toArray, List.getElem?_cons_zero, List.getElem?_cons_succ] at o0 o1 p0 p1 q2
  have I00 := hide I0
  clear hown4 hg4 I0
  go_wp2_with fail
  go_loopw [49] (fun iv wr => ∃ k : Nat, k ≤ M0 ∧ iv = .int .i64 k ∧ Hid (DInv w g (w.heap.size + 4) M0 c W0 H0 W1 H1 M1 P Q (fun j => G (j % W0) (j / W0)) (tw W0 W1 k G (P, Q)) wr)) (fun iv _ => M0 - (intOf iv).toNat)
  case atStart => exact ⟨0, Nat.zero_le _, rfl, I00⟩
  case round =>
    clear I00 o0 o1 p0 p1 q2 d1 d2
    clear w4
    obtain ⟨k, hk, rfl, I1⟩ := hrel
    by_cases hkM : k < M0
    · have qk : ((k : Int) < (M0 : Int)) = True := by simp; omega
      obtain ⟨x, hx⟩ : ∃ n, k % W0 = n := ⟨_, rfl⟩
      obtain ⟨y, hy⟩ : ∃ n, k / W0 = n := ⟨_, rfl⟩
      have hxW : x < W0 := by rw [← hx]; exact Nat.mod_lt _ (by omega)
      have hyH : y < H0 := by rw [← hy]; exact (Nat.div_lt_iff_lt_mul (by omega)).2 (by rw [Nat.mul_comm, unhide hM0']; exact hkM)
      have hkk : k = y * W0 + x := by
        have := Nat.div_add_mod k W0
        rw [hx, hy, Nat.mul_comm] at this
        exact this.symm
      have f1 : (k : Int) / (W0 : Int) = (y : Int) := by rw [← hy]; rfl
      have f2 : (k : Int) % (W0 : Int) = (x : Int) := by rw [← hx]; rfl
      have f3 : (k : Int).tmod (W0 : Int) = (x : Int) := by rw [Int.tmod_eq_emod_of_nonneg (by omega)]; exact f2
      have f4 : (k : Int).tdiv (W0 : Int) = (y : Int) := by rw [Int.tdiv_eq_ediv_of_nonneg (by omega)]; exact f1
      have f5 : IntKind.i64.wrap (y : Int) = y := by rw [IntKind.wrap_i64]; omega
      have f6 : IntKind.i64.wrap (x : Int) = x := by rw [IntKind.wrap_i64]; omega
      have z0 : ((W0 : Int) == 0) = false := by simp; omega
      have z1 : ¬ (W0 : Int) = 0 := by omega
      have z2 : (W0 = 0) = False := by simp; omega
      obtain ⟨AA, s1⟩ := at_ok (W := W1) (x := x) (y := y) (by omega) (by omega) (by omega)
      obtain ⟨s3, s4, s5, s6⟩ := s1
      have ha : x + gax (P, Q) < W1 := by unfold gax; dsimp only; omega
      have hb : x + gbx (P, Q) < W1 := by unfold gbx; dsimp only; omega
      have hc : y + gby (P, Q) < H1 := by unfold gby; dsimp only; omega
      obtain ⟨A, hA⟩ : ∃ n, n = y * W1 + (x + gax (P, Q)) := ⟨_, rfl⟩
      obtain ⟨B, hB⟩ : ∃ n, n = (y + gby (P, Q)) * W1 + (x + gbx (P, Q)) := ⟨_, rfl⟩
      have hAM : A < M1 := by
        have : (y + 1) * W1 ≤ H1 * W1 := Nat.mul_le_mul_right _ (by omega)
        rw [Nat.add_mul, Nat.mul_comm H1 W1, unhide hM1'] at this
        omega
      have hBM : B < M1 := by
        have : (y + gby (P, Q) + 1) * W1 ≤ H1 * W1 := Nat.mul_le_mul_right _ (by omega)
        rw [Nat.add_mul, Nat.mul_comm H1 W1, unhide hM1'] at this
        omega
      have hAt : y * W1 + x + gax (P, Q) = A := by omega
      have hBt : y * W1 + x + K + gbx (P, Q) = B := by
        have e : gby (P, Q) * W1 = K := unhide hK'
        rw [hB, Nat.add_mul, e]
        omega
      have wA : IntKind.i64.wrap (A : Int) = A := by rw [IntKind.wrap_i64]; omega
      have wB : IntKind.i64.wrap (B : Int) = B := by rw [IntKind.wrap_i64]; omega
      have hv := row_at (unhide I1).src hkM
      rw [hx, hy] at hv
      have hvl := unhide hGh x y
      have J0 := unhide I1
      have hZ := tw_le (w := W0) (w1 := W1) (unhide hGh) k (P, Q)
      have hz2' := hide (fun j => tw_two (j := j) hxW ha hb hA hB _ (show tw W0 W1 k G (P, Q) = tw W0 W1 (y * W0 + x) G (P, Q) by rw [hkk]))
      rw [← hkk] at hz2'
      generalize tw W0 W1 k G (P, Q) = Z at *
      generalize G x y = v at *
      have zA := hZ A
      have zB := hZ B
      have kA := hide fun w => addAny (fb_add (a := Z A) (b := v) (by omega) (by omega)) w
      have kS := hide fun w => subAny (fb_sub (a := if B = A then Z A + v else Z B) (b := v) (by split <;> omega) (by omega)) w
      have b0 := block_cell J0.bh 0
      have o0 := block_cell J0.bo 0
      have J1 := hide fun (W : World) (J : DInv w g (w.heap.size + 4) M0 c W0 H0 W1 H1 M1 P Q (fun j => G (j % W0) (j / W0)) Z W) (n : Nat) => (J.drewN n).set hglt (by omega) A (Z A + v)
      have E1 := hide fun (W : World) (J : DInv w g (w.heap.size + 4) M0 c W0 H0 W1 H1 M1 P Q (fun j => G (j % W0) (j / W0)) Z W) => row_at J.dst hAM
      have J2 : Hid (∀ (W : World), DInv w g (w.heap.size + 4) M0 c W0 H0 W1 H1 M1 P Q (fun j => G (j % W0) (j / W0)) (fun j => if j = A then Z A + v else Z j) W → ∀ n : Nat,
          DInv w g (w.heap.size + 4) M0 c W0 H0 W1 H1 M1 P Q (fun j => G (j % W0) (j / W0)) (tw W0 W1 (k + 1) G (P, Q)) ((W.drewN n).setCell ⟨w.heap.size + 4, B, none⟩ (cv (fb ((if B = A then Z A + v else Z B) - v))))) :=
        fun W J n => ((J.drewN n).set hglt (by omega) B ((if B = A then Z A + v else Z B) - v)).ext fun j _ => unhide hz2' j
      have E2 := hide fun (W : World) (J : DInv w g (w.heap.size + 4) M0 c W0 H0 W1 H1 M1 P Q (fun j => G (j % W0) (j / W0)) (fun j => if j = A then Z A + v else Z j) W) => row_at J.dst hBM
      simp only [List.getElem?_toArray, List.getElem?_cons_zero] at b0 o0
      have J0 := hide J0
      clear I1 hZ hz2' hvl zA zB hx hy hkk hA hB hc
      generalize (fun j => if j = A then Z A + v else Z j) = Z' at *
      generalize fb (Z A + v) = fa at *
      generalize fb ((if B = A then Z A + v else Z B) - v) = fs at *
      generalize fb (if B = A then Z A + v else Z B) = pB at *
      generalize fb (Z A) = pA at *
      generalize fb v = fv at *
      obtain ⟨v1, v2⟩ := fv
      obtain ⟨x1, x2⟩ := pA
      obtain ⟨x3, x4⟩ := fa
      obtain ⟨x5, x6⟩ := pB
      obtain ⟨x7, x8⟩ := fs
      unfold cv at hv J1 J2 E1 E2
      dsimp only at hv J1 J2 E1 E2 kA kS
      generalize y * W1 + x = at_ at *
      obtain rfl : at_ = A := by unfold gax at hAt; dsimp only at hAt; omega
      have b1 : (at_ : Int) + (s : Int) = (B : Int) := by unfold gbx at hBt; dsimp only at hBt; omega
      clear hAt hBt ha hb
      have hfn : ∀ f, Fence.wide.fn f = True := fun _ => rfl
      go_wp2_with fail
      go_big_region
      go_wp2_with fail
      have J5 := hide (unhide J0).drew
      clear J0 b0 o0 hv
      generalize wr.drew = w5 at *
      have o2 := block_cell (unhide J5).bo 2
      simp only [List.getElem?_toArray, List.getElem?_cons_zero, List.getElem?_cons_succ] at o2
      have c1 := unhide E1 w5 (unhide J5)
      have c2 := row_frozen (unhide J5).dst at_
      refine (wpIn_wide (n := 0)).1 ?_
      refine region_quiet 15 mixed (by kernel_rfl) ?_
      simp only [List.take_succ_cons, List.take_zero, List.drop_succ_cons, List.drop_zero]
      repeat (gi_big_quiet_step ((refine ⟨rfl, CallsIn.quiet_of_same (callsIn_wide.2 (unhide kA _))⟩)))
      refine wpQuietIn_nil ?_
      intro _ hw'
      obtain ⟨nq, rfl⟩ := hw'
      gi_wp2
      have J6 := hide (unhide J1 w5 (unhide J5) nq)
      clear J5 J1 E1 kA o2 c1 c2
      generalize (w5.drewN nq).setCell ⟨w.heap.size + 4, at_, none⟩ (.complex .f64 x3 x4) = w6 at *
      have o2 := block_cell (unhide J6).bo 2
      simp only [List.getElem?_toArray, List.getElem?_cons_zero, List.getElem?_cons_succ] at o2
      have c1 := unhide E2 w6 (unhide J6)
      have c2 := row_frozen (unhide J6).dst B
      refine (wpIn_wide (n := 0)).1 ?_
      refine region_quiet 15 mixed (by kernel_rfl) ?_
      simp only [List.take_succ_cons, List.take_zero, List.drop_succ_cons, List.drop_zero]
      repeat (gi_big_quiet_step ((refine ⟨rfl, CallsIn.quiet_of_same (callsIn_wide.2 (unhide kS _))⟩)))
      refine wpQuietIn_nil ?_
      intro _ hw'
      obtain ⟨nq2, rfl⟩ := hw'
      gi_wp2
      have J7 := hide (unhide J2 w6 (unhide J6) nq2)
      clear J6 J2 E2 kS o2 c1 c2
      generalize (w6.drewN nq2).setCell ⟨w.heap.size + 4, B, none⟩ (.complex .f64 x7 x8) = w7 at *
      go_wp2_with fail
      exact ⟨⟨k + 1, hkM, by go_num, J7⟩, by simp [intOf]; omega⟩
    · have qk : ((k : Int) < (M0 : Int)) = False := by simp; omega
      have e : k = M0 := by omega
      have I2 := unhide I1
      have o0 := block_cell I2.bo 0
      have o1 := block_cell I2.bo 1
      have o2 := block_cell I2.bo 2
      have r0 := block_cell I2.br 0
      have r1 := block_cell I2.br 1
      have r2 := block_cell I2.br 2
      have s0 := block_frozen I2.br 0
      have s1 := block_frozen I2.br 1
      have s3 := block_frozen I2.br 2
      simp only [List.getElem?_toArray, List.getElem?_cons_zero, List.getElem?_cons_succ] at o0 o1 o2 r0 r1 r2
      have hall : Hid (∀ j, tw W0 W1 k G (P, Q) j = gstep G (P, Q) (j % W1) (j / W1)) := fun j => by
        rw [e, ← unhide hM0', Nat.mul_comm W0 H0]
        exact tw_all (unhide hSh) j
      have fin := hide (dlay I2 (.int .i64 (W1 : Nat)) (.int .i64 (H1 : Nat)) (.slice (some ⟨w.heap.size + 4, 0, none⟩) M1 M1))
      have e := hide e
      clear I1 I2
      clear hM0' hR' hGh hSh
      go_wp2_with fail
      obtain ⟨t0, t1, t2, t3, t4, t5⟩ := unhide fin
      refine bodyPost_ret (results_three (P := Try.prog) rfl _ _ (w.heap.size + 2) (.int .i64 (W1 : Nat)) (.int .i64 (H1 : Nat)) (.slice (some ⟨w.heap.size + 4, 0, none⟩) M1 M1) _ rfl t0 t1 t2 Try.underlying26 rfl (by kernel_rfl)) rfl ?_
      exact ⟨w.heap.size + 4, rfl, by omega, ⟨row_ext t3 fun j _ => by rw [unhide hall j], t4⟩, t5⟩

theorem doubledAny {W0 H0 g c : Nat} {P Q : Int} {G : Nat → Nat → Int} (h1 : 1 ≤ W0) (h2 : 1 ≤ H0) (hP : Int.natAbs P ≤ 16) (hQ0 : 0 ≤ Q) (hQ : Q ≤ 16) (hW : W0 + Int.natAbs P ≤ 64) (hH : H0 + Q.toNat ≤ 64)
    (hG : ∀ x y, (G x y).natAbs ≤ 256) (hS : ∀ x y, G x y ≠ 0 → x < W0 ∧ y < H0) (w : World) (hR : Row w g (W0 * H0) (fun j => fb (G (j % W0) (j / W0)))) :
    Calls Try.prog 15 #[.agg #[.int .i64 W0, .int .i64 H0, .slice (some ⟨g, 0, none⟩) (W0 * H0 : Nat) c], .agg #[.int .i64 P, .int .i64 Q]] w fun e w' => ∃ g',
      e = .returned (.agg #[.int .i64 (W0 + Int.natAbs P : Nat), .int .i64 (H0 + Q.toNat : Nat), .slice (some ⟨g', 0, none⟩) ((W0 + Int.natAbs P) * (H0 + Q.toNat) : Nat) ((W0 + Int.natAbs P) * (H0 + Q.toNat) : Nat)]) ∧ w.heap.size ≤ g' ∧
      (Row w' g' ((W0 + Int.natAbs P) * (H0 + Q.toNat)) (fun j => fb (gstep G (P, Q) (j % (W0 + Int.natAbs P)) (j / (W0 + Int.natAbs P)))) ∧ CapOk w' g' ((W0 + Int.natAbs P) * (H0 + Q.toNat)) ((W0 + Int.natAbs P) * (H0 + Q.toNat))) ∧ Below w.heap.size w w' := by
  rcases (by omega : P < 0 ∨ P = 0 ∨ 0 < P) with hP' | rfl | hP'
  · exact doubledNeg hP' h1 h2 hP hQ0 hQ hW hH hG hS w hR
  · exact doubledNone h1 h2 hQ0 hQ hW hH hG hS w hR
  · exact doubledPos hP' h1 h2 hP hQ0 hQ hW hH hG hS w hR
end Go.Proofs.Ytfddchjonjklkaa
