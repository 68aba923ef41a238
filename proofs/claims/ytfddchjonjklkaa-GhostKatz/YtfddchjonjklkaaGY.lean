/- The ghost of directions: the document's own Make, where it answers one. -/
import Derived.Test.YtfddchjonjklkaaGX
import Derived.Test.YtfddchjonjklkaaY3
namespace Go.Proofs.Ytfddchjonjklkaa
open Go.RowKit Fl
attribute [local go_sem] store_complex

set_option maxRecDepth 100000 in
set_option maxHeartbeats 4000000 in
theorem makeGood {L : List (Int × Int)} {a : Option Addr} {cap g o : Nat} (hE : makeErr L = 0) (hA : All64 L) (w : World) (h : Dirs w a g o L) :
    Calls Try.prog 8 #[.slice a L.length cap] w fun e w' => ∃ g' c, e = .returned (.tuple #[.agg #[.int .i64 (gW L), .int .i64 (gH L), .slice (some ⟨g', 0, none⟩) (gW L * gH L : Nat) c], .int .i64 0]) ∧ w.heap.size ≤ g' ∧
      (Row w' g' (gW L * gH L) (ghB L (gW L)) ∧ CapOk w' g' (gW L * gH L) c) ∧ Below w.heap.size w w' := by
  have R := right_of hE
  obtain ⟨i0, hi0, hz0, hz1, hz2⟩ := info_parts infoC
  have kT := hide (fun (W : World) (hb : Below w.heap.size w W) => twiceAny (cap := cap) (by have := R.len; omega) hA W (dirs_below h hb).at_ (dirs_below h hb).cell)
  have kM := hide (fun (W : World) (hb : Below w.heap.size w W) => measuresAny (cap := cap) R.twice W (dirs_below h hb))
  rw [R.twice] at kT
  rw [R.w, R.h] at kM
  have hlen := R.len
  have hw1 := R.w1
  have hh1 := R.h1
  have hw64 := R.w64
  have hh64 := R.h64
  have hrm := hide (fun i d (hd : L[i]? = some d) x y => room R hd (x := x) (y := y))
  have hle := hide (fun i x y => gh_le8 R i x y)
  have htz := hide (fun i d (hd : L[i]? = some d) j => tz_all R hd j)
  have hok := hide (fun i d (hd : L[i]? = some d) => okD_bounds (R.ok d (List.mem_of_getElem? hd)))
  have hat := hide (fun i (hi : i < L.length) => pairs2_get (L := L) hi)
  have hall : Hid (L.take L.length = L) := List.take_length
  have hD := hide h
  clear R hE h hA
  generalize hWW : gW L = W at *
  generalize hHH : gH L = H at *
  obtain ⟨M, hM⟩ : ∃ M, W * H = M := ⟨_, rfl⟩
  have hM1 : 1 ≤ M := by rw [← hM]; exact Nat.mul_le_mul hw1 hh1
  have hM2 : M ≤ 4096 := by rw [← hM]; exact Nat.mul_le_mul hw64 hh64
  have e1 : (W : Int) * (H : Int) = (M : Int) := by rw [← hM, Int.natCast_mul]
  have e2 : IntKind.i64.wrap (M : Int) = M := by rw [IntKind.wrap_i64]; omega
  have q1 : (64 < (W : Int)) = False := by simp; omega
  have q2 : (64 < (H : Int)) = False := by simp; omega
  have hMH := hide hM
  clear hM hWW hHH
  generalize hNN : L.length = N at *
  have q0 : (8 < (N : Int)) = False := by simp; omega
  have hNN := hide hNN
  go_enter Try.func8, Try.ntmps8
  go_wp2_with fail
  have b0 := heap_alloc_new w (.cells #[.int .i64 0, .int .i64 0, .slice none 0 0] 26)
  have hb0 := (Below.refl _ w).alloc (Nat.le_refl _) (.cells #[.int .i64 0, .int .i64 0, .slice none 0 0] 26)
  have hs0 : w.heap.size + 1 ≤ (w.alloc (.cells #[.int .i64 0, .int .i64 0, .slice none 0 0] 26)).heap.size := by rw [World.size_alloc]; exact Nat.le_refl _
  generalize w.alloc (.cells #[.int .i64 0, .int .i64 0, .slice none 0 0] 26) = w0 at *
  have b0 := hide b0
  have hb0 := hide hb0
  refine (unhide kT w0 (unhide hb0)).mono ?_
  rintro e w1 ⟨rfl, hb1⟩
  have B1 := hide hb1
  clear hb1 kT
  go_wp2_with fail
  refine (unhide kM w1 ((unhide hb0).trans ((unhide B1).mono (by omega)))).mono ?_
  rintro e w2 ⟨rfl, hb2⟩
  have B2 := hide ((unhide B1).trans (hb2.mono (unhide B1).size))
  clear hb2 kM B1
  go_wp2_with (first
    | (at_make; refine wpList_make_full _ rfl (.tmp 41) (.tmp 41) 24 rfl w2.heap.size 38 i0 (.complex .f64 0 0) 1 Try.underlying24 hi0 hz0 hz1 .i64 .i64 M M M rfl rfl rfl rfl ?c1 ?c2 ?c3 ?_))
  case c1 => rw [hz2]; omega
  case c2 => unfold maxLen; omega
  case c3 => exact Nat.le_refl _
  intro w3 hown3 hg3
  have R3 := row_made hown3 (fun _ => (0, 0)) (fun i hi => zeros_get M i hi) (fun _ _ => rfl)
  have hb3 := grown_below hg3
  have B3 := (unhide B2).trans (hb3.mono (unhide B2).size)
  have hs2 := (unhide B2).size
  have c0 := row_at R3 (i := 0) (by omega)
  have f0 := row_frozen R3 0
  unfold cv at c0
  have G3 : Hid (GRow (w3.setCell ⟨w2.heap.size, 0, none⟩ (.complex .f64 4607182418800017408 0)) w2.heap.size M (fun j => gh (L.take 0) (j % W) (j / W))) :=
    grow_ext (grow_set (grow_zero R3 (cap_made hown3)) 0 (4607182418800017408, 0) 1 one_ic (by decide) (by decide)) fun j _ => by rw [List.take_zero, gh_none W j hw1]
  have B3' : Hid (Below w0.heap.size w0 (w3.setCell ⟨w2.heap.size, 0, none⟩ (.complex .f64 4607182418800017408 0))) := B3.setCell (p := ⟨w2.heap.size, 0, none⟩) hs2 _
  clear hown3 hg3 hb3 R3 B3 B2
  go_wp2_with fail
  go_loopw [7, 8] (fun lv iv wr => ∃ i gl : Nat, i ≤ N ∧ iv = .int .i64 i ∧ lv = .slice (some ⟨gl, 0, none⟩) M M ∧ w0.heap.size ≤ gl ∧ Hid (GRow wr gl M (fun j => gh (L.take i) (j % W) (j / W))) ∧ Hid (Below w0.heap.size w0 wr)) (fun _ iv _ => N - (intOf iv).toNat)
  case atStart => exact ⟨0, _, Nat.zero_le _, rfl, rfl, hs2, G3, B3'⟩
  case round =>
    clear G3 B3' c0 f0
    obtain ⟨i, gl, hi, rfl, rfl, hgl, Gr, Br⟩ := hrel
    by_cases hiN : i < N
    · have qi : ((i : Int) < (N : Int)) = True := by simp; omega
      obtain ⟨P, Q, hd⟩ := unhide hat i hiN
      have hDr := dirs_below (unhide hD) ((unhide hb0).trans ((unhide Br).mono (by omega)))
      obtain ⟨haa, hgb⟩ := hDr.at_ (by rw [unhide hNN]; omega)
      obtain ⟨p1, p2⟩ := hDr.cell i _ hd
      dsimp only at p1 p2
      obtain ⟨o1, o2, o3⟩ := unhide hok i _ hd
      dsimp only at o1 o2 o3
      have hrm1 := hide (unhide hrm i _ hd)
      have htz1 := hide (unhide htz i _ hd)
      have hle1 := hide (unhide hle i)
      have hl1 := grow_lt (unhide Gr)
      have hsr := (unhide Br).size
      rw [haa]
      clear hd hDr
      go_wp2_with (first
        | (at_make; refine wpList_make_full _ rfl (.tmp 57) (.tmp 57) 24 rfl wr.heap.size 38 i0 (.complex .f64 0 0) 1 Try.underlying24 hi0 hz0 hz1 .i64 .i64 M M M rfl rfl rfl rfl ?c1 ?c2 ?c3 ?_))
      case c1 => rw [hz2]; omega
      case c2 => unfold maxLen; omega
      case c3 => simp
      intro w4 hown4 hg4
      have hba := (Below.refl _ wr).alloc (Nat.le_refl _) (.cells #[.int .i64 P, .int .i64 Q] 34)
      have hb4 := grown_below hg4
      rw [World.size_alloc] at hb4
      have hb4' := hba.trans (hb4.mono (by omega))
      have I0 : Hid (MInv w0 gl (wr.heap.size + 1) wr.heap.size M P Q (fun j => gh (L.take i) (j % W) (j / W)) (tz W (0 * W) (gh (L.take i)) (P, Q)) w4) :=
        ⟨grow_below (unhide Gr) hb4' hl1, grow_ext (grow_zero (row_made hown4 (fun _ => (0, 0)) (fun i hi => zeros_get M i hi) (fun _ _ => rfl)) (cap_made hown4)) (fun j _ => by rw [Nat.zero_mul]; unfold tz; rw [msk_none]),
          (hb4.block _ (by omega)).trans (heap_alloc_new wr _), (unhide Br).trans (hb4'.mono hsr)⟩
      have hgt : wr.heap.size + 1 < w4.heap.size := grow_lt (unhide I0).t
      clear hown4 hg4 hb4 hb4' hba Gr Br p1 p2
      have n1 : gl ≠ wr.heap.size + 1 := by omega
      have n2 : wr.heap.size ≠ wr.heap.size + 1 := by omega
      have n3 : w0.heap.size ≤ wr.heap.size + 1 := by omega
      generalize wr.heap.size + 1 = gt at *
      generalize wr.heap.size = bd at *
      generalize gh (L.take i) = G at *
      go_wp2_with fail
      go_loopw [11] (fun yv wr => ∃ y : Nat, y ≤ H ∧ yv = .int .i64 y ∧ Hid (MInv w0 gl gt bd M P Q (fun j => G (j % W) (j / W)) (tz W (y * W) G (P, Q)) wr)) (fun yv _ => H - (intOf yv).toNat)
      case atStart => exact ⟨0, Nat.zero_le _, rfl, I0⟩
      case round =>
        clear I0
        obtain ⟨y, hy, rfl, I1⟩ := hrel
        by_cases hyH : y < H
        · have qy : ((y : Int) < (H : Int)) = True := by simp; omega
          go_wp2_with fail
          go_loopw [12] (fun xv wr => ∃ x : Nat, x ≤ W ∧ xv = .int .i64 x ∧ Hid (MInv w0 gl gt bd M P Q (fun j => G (j % W) (j / W)) (tz W (y * W + x) G (P, Q)) wr)) (fun xv _ => W - (intOf xv).toNat)
          case atStart => exact ⟨0, Nat.zero_le _, rfl, I1⟩
          case round =>
            clear I1
            obtain ⟨x, hx, rfl, I2⟩ := hrel
            by_cases hxW : x < W
            · have qx : ((x : Int) < (W : Int)) = True := by simp; omega
              obtain ⟨A1, s⟩ := at_ok (W := W) (x := x) (y := y) hw64 (by omega) (by omega)
              have hk : y * W + x < M := by
                have : (y + 1) * W ≤ H * W := Nat.mul_le_mul_right _ hyH
                rw [Nat.add_mul, Nat.mul_comm H W, unhide hMH] at this
                omega
              have hpl := place_div (n := W) (y := y) hxW
              obtain ⟨⟨fl, Rl, Il⟩, _⟩ := (unhide I2).l
              have c1 := row_at Rl hk
              obtain ⟨ic1, _, _⟩ := Il _ hk
              dsimp only at ic1
              rw [hpl.2, hpl.1] at ic1
              by_cases hv : G x y = 0
              · rw [hv] at ic1
                have z1 := iv_same ic1.one iv_zero
                have z2 := iv_same ic1.two iv_zero
                have I3 : Hid (MInv w0 gl gt bd M P Q (fun j => G (j % W) (j / W)) (tz W (y * W + (x + 1)) G (P, Q)) wr) := (unhide I2).ext fun j _ => by rw [← Nat.add_assoc, tz_skip hxW hv]
                clear I2 Rl Il ic1
                generalize fl (y * W + x) = p at *
                obtain ⟨v1, v2⟩ := p
                unfold cv at c1
                dsimp only at c1 z1 z2
                obtain ⟨s1, s2, s3, s4⟩ := s
                generalize y * W + x = k at *
                go_wp2_with fail
                go_roundw
                case rel => exact ⟨x + 1, by omega, by simp, I3⟩
                case measure => simp [intOf]; omega
              · obtain ⟨m1, m2, m3⟩ := unhide hrm1 x y hv
                have hA : y * W + (x + gax (P, Q)) < M := by
                  have : (y + 1) * W ≤ H * W := Nat.mul_le_mul_right _ hyH
                  rw [Nat.add_mul, Nat.mul_comm H W, unhide hMH] at this
                  omega
                have hB : (y + gby (P, Q)) * W + (x + gbx (P, Q)) < M := by
                  have : (y + gby (P, Q) + 1) * W ≤ H * W := Nat.mul_le_mul_right _ m3
                  rw [Nat.add_mul, Nat.mul_comm H W, unhide hMH] at this
                  omega
                obtain ⟨v, pA, r1, pB, r2, T⟩ := two_of (unhide hle1) hxW hk (unhide I2) n1 n2 n3 hv m1 m2 hA hB
                obtain ⟨A2, s'⟩ := at_ok (W := W) (x := x) (y := y + gby (P, Q)) hw64 (by omega) (by omega)
                have bx0 := block_cell (unhide I2).box 0
                have bx1 := block_cell (unhide I2).box 1
                simp only [List.getElem?_toArray, List.getElem?_cons_zero, List.getElem?_cons_succ] at bx0 bx1
                obtain ⟨t1, t2, t3, t4, t5, t6, t7, t8, t9⟩ := T
                have kA := hide fun w => radd t5 w
                have kS := hide fun w => rsub t8 w
                have I3 := hide t9
                clear I2 Rl Il ic1 c1 t5 t8 t9 hrm1 htz1 hle1 hv
                obtain ⟨s1, s2, s3, s4⟩ := s
                obtain ⟨u1, u2, u3, u4⟩ := s'
                have y1 : (y : Int) + Q = ((y + gby (P, Q) : Nat) : Int) := by unfold gby; dsimp only; omega
                have y2 : IntKind.i64.wrap ((y + gby (P, Q) : Nat) : Int) = ((y + gby (P, Q) : Nat) : Int) := by rw [IntKind.wrap_i64]; omega
                have a2 : IntKind.i64.wrap ((y * W + (x + gax (P, Q)) : Nat) : Int) = ((y * W + (x + gax (P, Q)) : Nat) : Int) := by rw [IntKind.wrap_i64]; omega
                have b2 : IntKind.i64.wrap (((y + gby (P, Q)) * W + (x + gbx (P, Q)) : Nat) : Int) = (((y + gby (P, Q)) * W + (x + gbx (P, Q)) : Nat) : Int) := by rw [IntKind.wrap_i64]; omega
                have hyW : y * W + x + gax (P, Q) = y * W + (x + gax (P, Q)) := by omega
                have hyW2 : (y + gby (P, Q)) * W + x + gbx (P, Q) = (y + gby (P, Q)) * W + (x + gbx (P, Q)) := by omega
                generalize y * W + (x + gax (P, Q)) = A at *
                generalize (y + gby (P, Q)) * W + (x + gbx (P, Q)) = B at *
                generalize (y + gby (P, Q)) * W + x = k2 at *
                generalize hkk : y * W + x = k at *
                generalize y + gby (P, Q) = y' at *
                have hkk := hide hkk
                obtain ⟨v1, v2⟩ := v
                obtain ⟨x1, x2⟩ := pA
                obtain ⟨x3, x4⟩ := r1
                obtain ⟨x5, x6⟩ := pB
                obtain ⟨x7, x8⟩ := r2
                unfold cv at t1 t3 t6 t7 I3
                dsimp only at t1 t2 t3 t6 t7 I3 kA kS
                unfold gax at m1 hyW
                unfold gbx at m2 hyW2
                dsimp only at m1 m2 hyW hyW2
                rcases (by omega : P < 0 ∨ P = 0 ∨ 0 < P) with hP | hP | hP
                case' inl =>
                  have g1 : (P < 0) = True := by simp; omega
                  have g2 : (0 < P) = False := by simp; omega
                  have g3 : (P ≤ 0) = True := by simp; omega
                  have g4 : (0 ≤ P) = False := by simp; omega
                  have a1 : (k : Int) + -P = (A : Int) := by omega
                  obtain rfl : k2 = B := by omega
                case' inr.inl =>
                  subst hP
                  obtain rfl : k = A := by omega
                  obtain rfl : k2 = B := by omega
                case' inr.inr =>
                  have g1 : (P < 0) = False := by simp; omega
                  have g2 : (0 < P) = True := by simp; omega
                  have g3 : (P ≤ 0) = False := by simp; omega
                  have g4 : (0 ≤ P) = True := by simp; omega
                  have b1 : (k2 : Int) + P = (B : Int) := by omega
                  obtain rfl : k = A := by omega
                all_goals
                  clear hyW hyW2 m1 m2 o1
                  go_wp2_with (first
                    | (go_at_call 18; refine (unhide kA _).mono ?_; rintro e w' ⟨rfl, rfl⟩)
                    | (go_at_call 19; refine (unhide kS _).mono ?_; rintro e w' ⟨rfl, rfl⟩))
                  go_roundw
                  case rel => exact ⟨x + 1, by omega, by simp, I3⟩
                  case measure => simp [intOf]; omega
            · have e : x = W := by omega
              subst e
              have qx : ((x : Int) < (x : Int)) = False := by simp
              go_wp2_with fail
              go_roundw
              case rel => exact ⟨y + 1, by omega, by simp, by rw [Nat.add_mul, Nat.one_mul]; exact I2⟩
              case measure => simp [intOf]; omega
        · have e : y = H := by omega
          subst e
          have qy : ((y : Int) < (y : Int)) = False := by simp
          have G5 : Hid (GRow wr gt M (fun j => gh (L.take (i + 1)) (j % W) (j / W))) := grow_ext (unhide I1).t fun j _ => unhide htz1 j
          go_wp2_with fail
          go_roundw
          case rel => exact ⟨i + 1, gt, by omega, by simp, rfl, n3, G5, (unhide I1).below⟩
          case measure => simp [intOf]; omega
    · have e : i = N := by omega
      subst e
      have qi : ((i : Int) < (i : Int)) = False := by simp
      have P0 : Hid (PRow wr gl M (fun j => gh L (j % W) (j / W)) 0) := by
        have := unhide Gr
        rw [unhide hall] at this
        exact prow_start this
      clear Gr
      go_wp2_with fail
      go_loopw [16] (fun kv wr => ∃ k : Nat, k ≤ M ∧ kv = .int .i64 k ∧ Hid (PRow wr gl M (fun j => gh L (j % W) (j / W)) k) ∧ Hid (Below w0.heap.size w0 wr)) (fun kv _ => M - (intOf kv).toNat)
      case atStart => exact ⟨0, Nat.zero_le _, rfl, P0, Br⟩
      case round =>
        clear P0 Br
        obtain ⟨k, hk, rfl, Pr, Br⟩ := hrel
        by_cases hkM : k < M
        · have qk : ((k : Int) < (M : Int)) = True := by simp; omega
          obtain ⟨p, c1, f1, Pn⟩ := prow_step (unhide Pr) hkM (fun j => by
            have := unhide hle i (j % W) (j / W)
            rw [unhide hall] at this
            exact this)
          have Bn := hide ((unhide Br).setCell (p := ⟨gl, k, none⟩) hgl (cv (plainB p.1, plainB p.2)))
          have Pn := hide Pn
          obtain ⟨p1, p2⟩ := p
          unfold cv at c1 Bn Pn
          dsimp only at c1 Bn Pn
          clear Pr Br
          go_wp2_with (first | (go_at_call 20; refine (rplain _ _ _).mono ?_; rintro e w' ⟨rfl, rfl⟩))
          go_roundw
          case rel => exact ⟨k + 1, by omega, by simp, Pn, Bn⟩
          case measure => simp [intOf]; omega
        · have e : k = M := by omega
          subst e
          have qk : ((k : Int) < (k : Int)) = False := by simp
          have rb := ((unhide Br).block w.heap.size (by omega)).trans (unhide b0)
          have x0 := block_cell rb 0
          have x1 := block_cell rb 1
          have x2 := block_cell rb 2
          have y0 := block_frozen rb 0
          have y1 := block_frozen rb 1
          have y2 := block_frozen rb 2
          simp only [List.getElem?_toArray, List.getElem?_cons_zero, List.getElem?_cons_succ] at x0 x1 x2
          have fin := hide (lay3 (a := .int .i64 W) (b := .int .i64 H) (c := .slice (some ⟨gl, 0, none⟩) k k) rb ((unhide hb0).trans ((unhide Br).mono (by omega))) (prow_end (unhide Pr)) (by omega : w.heap.size < gl))
          clear rb Pr Br
          go_wp2_with fail
          obtain ⟨z1, z2, z3, z4, z5⟩ := unhide fin
          refine bodyPost_ret (results_three_tmp (P := Try.prog) rfl _ _ w.heap.size (.int .i64 W) (.int .i64 H) (.slice (some ⟨gl, 0, none⟩) k k) (.int .i64 0) _ rfl rfl z1 z2 z3 Try.underlying26 rfl (by kernel_rfl)) rfl ?_
          exact ⟨gl, k, by rw [unhide hMH], by omega, by rw [unhide hMH]; exact z4, z5⟩
end Go.Proofs.Ytfddchjonjklkaa
