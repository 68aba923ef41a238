/- A projection against any bins is the grid against the bins spread back: the statement's own walk. -/
import Derived.Test.YtjmdlgekheehgaaYA
import Derived.Test.YtjmdlgekheehgaaYD
namespace Go.Proofs.Ytjmdlgekheehgaa
open Go.RowKit Fl

theorem bytes_keep {w w' : World} {a : Option Addr} {g o B : Nat} {L : List Int} (h : Bytes w a g o L) (hb : Below B w w') (hB : w.heap.size ≤ B) : Bytes w' a g o L := bytes_below h (hb.mono hB)

set_option maxRecDepth 100000 in
set_option maxHeartbeats 4000000 in
theorem adjointWalk {L1 L2 : List Int} {a1 a2 : Option Addr} {g1 o1 c1 g2 o2 c2 : Nat} {d : Int × Int} (hd : Dir64 d) (w : World) (h1 : Bytes w a1 g1 o1 L1) (h2 : Bytes w a2 g2 o2 L2) :
    Calls Try.prog 3 #[.slice a1 L1.length c1, .slice a2 L2.length c2, dirV d] w fun e w' => e = .returned (.bool true) ∧ Below w.heap.size w w' := by
  have H1 := hide h1
  have H2 := hide h2
  clear h1 h2
  obtain ⟨N1, hN1⟩ : ∃ N, L1.length = N := ⟨_, rfl⟩
  obtain ⟨N2, hN2⟩ : ∃ N, L2.length = N := ⟨_, rfl⟩
  have kS1 := hide (fun (W : World) n (hn : 1 ≤ n) (hn2 : n ≤ 4096) (h : Below w.heap.size w W) => smallAny (cap := c1) hn hn2 W (bytes_below (unhide H1) h))
  have kS2 := hide (fun (W : World) n (hn : 1 ≤ n) (hn2 : n ≤ 4096) (h : Below w.heap.size w W) => smallAny (cap := c2) hn hn2 W (bytes_below (unhide H2) h))
  rw [hN1] at kS1 ⊢
  rw [hN2] at kS2 ⊢
  clear hN1 hN2 H1 H2
  obtain ⟨P, Q⟩ := d
  have kP := hide (fun (W : World) n g c f z m (q1 : 1 ≤ n) (q2 : n ≤ 64) (ho : okD P Q = true) hR hz hm => projectAny (n := n) (g := g) (c := c) (f := f) (z := z) (m := m) (a := (P, Q)) W q1 q2 hd ho hR hz hm)
  have kN := hide (fun (W : World) n g c f z m (q1 : 1 ≤ n) (q2 : n ≤ 64) (ho : okD P Q = false) hR hz hm => projectBad (n := n) (g := g) (c := c) (f := f) (z := z) (m := m) (a := (P, Q)) W q1 q2 hd ho hR hz hm)
  have kV := hide (fun (W : World) n gl cl B fl (q1 : 1 ≤ n) (q2 : n ≤ 64) (ho : okD P Q = true) hB hR => spreadAny (n := n) (gl := gl) (cl := cl) (B := B) (fl := fl) (a := (P, Q)) W q1 q2 hd ho hB hR)
  unfold dirV gridV at *
  dsimp only at *
  clear hd
  go_enter Try.func3, Try.ntmps3
  go_wp2_with fail
  have e0 := World.alloc_heap_new w (.cells #[.int .i64 P, .int .i64 Q] 24)
  have hb0 := (Below.refl _ w).alloc (Nat.le_refl _) (.cells #[.int .i64 P, .int .i64 Q] 24)
  have hs0 : w.heap.size + 1 ≤ (w.alloc (.cells #[.int .i64 P, .int .i64 Q] 24)).heap.size := by rw [World.size_alloc]; exact Nat.le_refl _
  generalize w.alloc (.cells #[.int .i64 P, .int .i64 Q] 24) = w0 at *
  refine (aliveAny w0).mono ?_
  rintro e w1 ⟨rfl, hb1⟩
  have D1 := hide ((hb1.block _ (by omega)).trans e0)
  have B1 := hide (hb0.trans (hb1.mono (by omega)))
  have hs1 := Nat.le_trans hs0 hb1.size
  clear e0 hb0 hb1 hs0
  go_wp2_with fail
  go_loopw [7] (fun nv wr => ∃ n : Nat, 1 ≤ n ∧ n ≤ 20 ∧ nv = .int .i64 n ∧ w1 = wr) (fun nv _ => 20 - (intOf nv).toNat)
  case atStart => exact ⟨1, by decide, by decide, rfl, rfl⟩
  case round =>
    obtain ⟨n, hn1, hn2, rfl, rfl⟩ := hrel
    obtain ⟨M, hM⟩ : ∃ M, n * n = M := ⟨_, rfl⟩
    have hM1 : 1 ≤ M := by rw [← hM]; exact Nat.mul_le_mul hn1 hn1
    have hM2 : M ≤ 400 := by rw [← hM]; exact Nat.mul_le_mul hn2 hn2
    have e1 : 2 * (n : Int) * (n : Int) = ((2 * M : Nat) : Int) := by
      rw [Int.mul_assoc, ← Int.natCast_mul, hM]
      rfl
    have e2 : (n : Int) * (n : Int) = (M : Int) := by rw [← hM, Int.natCast_mul]
    have e3 : IntKind.i64.wrap (M : Int) = M := by rw [IntKind.wrap_i64]; omega
    have e4 : IntKind.i64.wrap ((2 * M : Nat) : Int) = ((2 * M : Nat) : Int) := by rw [IntKind.wrap_i64]; omega
    have hMM := hide hM
    clear hM
    by_cases hA : 2 * M ≤ N1 ∧ n < 20
    · have q1 : (((2 * M : Nat) : Int) ≤ (N1 : Int)) = True := by simp; omega
      have q2 : ((n : Int) < 20) = True := by simp; omega
      go_wp2_with fail
      go_roundw
      case rel => exact ⟨n + 1, by omega, by omega, by simp, trivial⟩
      case measure => simp [intOf]; omega
    · rcases (by omega : ¬ 2 * M ≤ N1 ∨ (2 * M ≤ N1 ∧ ¬ n < 20)) with hC | hC
      case' inl =>
        have q1 : (((2 * M : Nat) : Int) ≤ (N1 : Int)) = False := by simp; omega
        go_wp2_with fail
      case' inr =>
        have q1 : (((2 * M : Nat) : Int) ≤ (N1 : Int)) = True := by simp; omega
        have q2 : ((n : Int) < 20) = False := by simp; omega
        go_wp2_with fail
      all_goals
        refine (unhide kS1 w1 M hM1 (by omega) (unhide B1)).mono ?_
        rintro e w2 ⟨g3, rfl, hg3, R3, hb2⟩
        have B2 := hide ((unhide B1).trans (hb2.mono (unhide B1).size))
        have hs2 := Nat.le_trans hs1 hb2.size
        have hb2' := (Below.refl _ w2).alloc (Nat.le_refl _) (.cells #[.int .i64 n, .slice (some ⟨g3, 0, none⟩) M M] 29)
        have D2 := (hb2'.block _ (by omega)).trans ((hb2.block _ (by omega)).trans (unhide D1))
        have G2 := World.alloc_heap_new w2 (.cells #[.int .i64 n, .slice (some ⟨g3, 0, none⟩) M M] 29)
        have R3' := row_below R3 hb2' (row_lt R3)
        have B2' := (unhide B2).alloc (unhide B2).size (.cells #[.int .i64 n, .slice (some ⟨g3, 0, none⟩) M M] 29)
        have hs2' : w2.heap.size + 1 ≤ (w2.alloc (.cells #[.int .i64 n, .slice (some ⟨g3, 0, none⟩) M M] 29)).heap.size := by rw [World.size_alloc]; exact Nat.le_refl _
        have d0 := block_cell D2 0
        have d1 := block_cell D2 1
        simp only [List.getElem?_toArray, List.getElem?_cons_zero, List.getElem?_cons_succ] at d0 d1
        have D2 := hide D2
        have G2 := hide G2
        have R3' := hide R3'
        have B2' := hide B2'
        have hg3' := row_lt R3
        clear hb2 hb2' R3 D1 B1 B2
        go_wp2_with fail
        generalize w2.alloc (.cells #[.int .i64 n, .slice (some ⟨g3, 0, none⟩) M M] 29) = w3 at *
        cases ho : okD P Q
        · have kn := unhide kN w3 n g3 M (smallB L1) (smallZ L1) 128 hn1 (by omega) ho (by rw [unhide hMM]; exact unhide R3') (fun j _ => small_cell L1 j) (by decide)
          rw [unhide hMM] at kn
          refine kn.mono ?_
          rintro e w4 ⟨rfl, hb4⟩
          have B4 := hide ((unhide B2').trans (hb4.mono (unhide B2').size))
          clear hb4 kn kN kP kV kS1 kS2 R3' d0 d1
          go_wp2_with fail
          go_ret
          exact ⟨rfl, (unhide B4).alloc (unhide B4).size _⟩
        · have kp := unhide kP w3 n g3 M (smallB L1) (smallZ L1) 128 hn1 (by omega) ho (by rw [unhide hMM]; exact unhide R3') (fun j _ => small_cell L1 j) (by decide)
          rw [unhide hMM] at kp
          refine kp.mono ?_
          rintro e w4 ⟨g4, B, f4, rfl, hB, hg4, R4, I4, hb4⟩
          obtain ⟨B', hB', hB1, hB2⟩ := bins_le (n := n) (a := (P, Q)) hn1 (by omega) ho
          obtain rfl : B' = B := by
            rw [hB] at hB'
            have := congrArg Prod.fst hB'
            dsimp only at this
            omega
          have hix := hide (fun k (hk : k < n * n) => ix_bounds (a := (P, Q)) hn1 (by omega) ho hk)
          rw [hB, unhide hMM] at hix
          have kv := hide (unhide kV · n · · B' · hn1 (by omega) ho hB ·)
          have B4 := hide ((unhide B2').trans (hb4.mono (unhide B2').size))
          have hs4 := hb4.size
          have hg4' := row_lt R4
          have hb4' := (Below.refl _ w4).alloc (Nat.le_refl _) (.cells #[.int .i64 P, .int .i64 Q, .slice (some ⟨g4, 0, none⟩) B' B'] 31)
          have D4 := (hb4'.block _ (by omega)).trans ((hb4.block _ (by omega)).trans (unhide D2))
          have G4 := (hb4'.block _ (by omega)).trans ((hb4.block _ (by omega)).trans (unhide G2))
          have P4 := World.alloc_heap_new w4 (.cells #[.int .i64 P, .int .i64 Q, .slice (some ⟨g4, 0, none⟩) B' B'] 31)
          have R3' := row_below (row_below (unhide R3') hb4 (row_lt (unhide R3'))) hb4' (by omega)
          have R4' := row_below R4 hb4' hg4'
          have B4' := (unhide B4).alloc (unhide B4).size (.cells #[.int .i64 P, .int .i64 Q, .slice (some ⟨g4, 0, none⟩) B' B'] 31)
          have hs4' : w4.heap.size + 1 ≤ (w4.alloc (.cells #[.int .i64 P, .int .i64 Q, .slice (some ⟨g4, 0, none⟩) B' B'] 31)).heap.size := by rw [World.size_alloc]; exact Nat.le_refl _
          have D4 := hide D4
          have G4 := hide G4
          have P4 := hide P4
          have R3' := hide R3'
          have R4' := hide R4'
          have B4' := hide B4'
          have I4 := hide I4
          clear hb4 hb4' R4 D2 G2 B2' B4 kP kN kV kp hB hB' d0 d1
          go_wp2_with fail
          generalize w4.alloc (.cells #[.int .i64 P, .int .i64 Q, .slice (some ⟨g4, 0, none⟩) B' B'] 31) = w5 at *
          refine (unhide kS2 w5 B' hB1 (by omega) (unhide B4')).mono ?_
          rintro e w6 ⟨g6, rfl, hg6, R6, hb6⟩
          have B6 := hide ((unhide B4').trans (hb6.mono (unhide B4').size))
          have hs6 := hb6.size
          have D6 := (hb6.block _ (by omega)).trans (unhide D4)
          have G6 := hide ((hb6.block _ (by omega)).trans (unhide G4))
          have P6 := hide ((hb6.block _ (by omega)).trans (unhide P4))
          have S3 := hide (row_below (unhide R3') hb6 (by omega))
          have S4 := hide (row_below (unhide R4') hb6 (by omega))
          have kv' := hide (unhide kv w6 g6 B' (smallB L2) R6)
          have R6 := hide R6
          have hg6' := row_lt (unhide R6)
          have d0 := block_cell D6 0
          have d1 := block_cell D6 1
          simp only [List.getElem?_toArray, List.getElem?_cons_zero, List.getElem?_cons_succ] at d0 d1
          clear hb6 R3' R4' D4 G4 P4 B4' kv kS1 kS2 D6
          go_wp2_with fail
          rw [unhide hMM] at kv'
          refine (unhide kv').mono ?_
          rintro e w7 ⟨g7, c7, rfl, hg7, R7, hb7⟩
          have B7 := hide ((unhide B6).trans (hb7.mono (unhide B6).size))
          have hs7 := hb7.size
          have hg7' := row_lt R7
          have hb8 := (Below.refl _ w7).alloc (Nat.le_refl _) (.cells #[.int .i64 n, .slice (some ⟨g7, 0, none⟩) M c7] 29)
          have G8 := (hb8.block _ (by omega)).trans ((hb7.block _ (by omega)).trans (unhide G6))
          have P8 := (hb8.block _ (by omega)).trans ((hb7.block _ (by omega)).trans (unhide P6))
          have F8 := World.alloc_heap_new w7 (.cells #[.int .i64 n, .slice (some ⟨g7, 0, none⟩) M c7] 29)
          have T3 := row_below (row_below (unhide S3) hb7 (by omega)) hb8 (by omega)
          have T4 := row_below (row_below (unhide S4) hb7 (by omega)) hb8 (by omega)
          have T6 := row_below (row_below (unhide R6) hb7 (by omega)) hb8 (by omega)
          have T7 := row_below R7 hb8 hg7'
          have B8 := (unhide B7).alloc (unhide B7).size (.cells #[.int .i64 n, .slice (some ⟨g7, 0, none⟩) M c7] 29)
          have hs8 : w7.heap.size + 1 ≤ (w7.alloc (.cells #[.int .i64 n, .slice (some ⟨g7, 0, none⟩) M c7] 29)).heap.size := by rw [World.size_alloc]; exact Nat.le_refl _
          have p2 := block_cell P8 2
          simp only [List.getElem?_toArray, List.getElem?_cons_zero, List.getElem?_cons_succ] at p2
          have G8 := hide G8
          have F8 := hide F8
          have T3 := hide T3
          have T4 := hide T4
          have T6 := hide T6
          have T7 := hide T7
          have B8 := hide B8
          clear hb7 hb8 S3 S4 R6 R7 B6 B7 G6 P6 P8 kv' d0 d1
          go_wp2_with fail
          generalize w7.alloc (.cells #[.int .i64 n, .slice (some ⟨g7, 0, none⟩) M c7] 29) = w8 at *
          have hixN : ∀ j, j < M → ixN n (P, Q) j < B' := fun j hj => by
            have := unhide hix j hj
            unfold ixN
            omega
          have hadj := adjoint (ix := ixN n (P, Q)) (v := smallZ L1) (l := smallZ L2) (m := B') M hixN
          have hle4 : ∀ j, (accZ (ixN n (P, Q)) (smallZ L1) M j).1.natAbs ≤ 51200 ∧ (accZ (ixN n (P, Q)) (smallZ L1) M j).2.natAbs ≤ 51200 := fun j => by
            have := acc_le (ix := ixN n (P, Q)) (v := smallZ L1) (M := 128) (k := M) (fun j _ => smallZ_le L1 j) j
            omega
          refine (dotAny (A := 51200) (B := 128) (za := accZ (ixN n (P, Q)) (smallZ L1) M) (zb := smallZ L2) w8 (unhide T4) (unhide T6) (unhide I4) (fun j _ => (small_cell L2 j).ic) (fun j _ => hle4 j) (fun j _ => smallZ_le L2 j) (by decide) (by omega)).mono ?_
          rintro e w9 ⟨⟨r1, s1, rfl, i1⟩, hb9⟩
          have B9 := hide ((unhide B8).trans (hb9.mono (unhide B8).size))
          have hs9 := hb9.size
          have g9 := block_cell ((hb9.block _ (by omega)).trans (unhide G8)) 1
          have f9 := block_cell ((hb9.block _ (by omega)).trans (unhide F8)) 1
          simp only [List.getElem?_toArray, List.getElem?_cons_zero, List.getElem?_cons_succ] at g9 f9
          have kd := hide (dotAny (ca := M) (cb := c7) (A := 128) (B := 128) (za := smallZ L1) (zb := fun k => smallZ L2 (ixN n (P, Q) k)) w9 (row_below (unhide T3) hb9 (by omega)) (row_below (unhide T7) hb9 (by omega)) (fun j _ => (small_cell L1 j).ic) (fun j _ => (small_cell L2 _).ic) (fun j _ => smallZ_le L1 j) (fun j _ => smallZ_le L2 _) (by decide) (by omega))
          rw [hadj] at i1
          have i1 := hide i1
          clear hb9 T3 T4 T6 T7 G8 F8 B8 I4 hix hixN hle4 hadj p2
          go_wp2_with fail
          refine (unhide kd).mono ?_
          rintro e w10 ⟨⟨r2, s2, rfl, i2⟩, hb10⟩
          have B10 := hide ((unhide B9).trans (hb10.mono (unhide B9).size))
          have o1 := iv_same (unhide i1).one i2.one
          have o2 := iv_same (unhide i1).two i2.two
          clear hb10 kd i1 i2 g9 f9
          dsimp only at o1 o2
          go_wp2_with fail
          go_ret
          exact ⟨rfl, unhide B10⟩
end Go.Proofs.Ytjmdlgekheehgaa
