/- The landed peeling: each bin of a cell. -/
import Derived.Test.YtgbkfmjkemkajabPM2
namespace Go.Proofs.Ytgbkfmjkemkajab
open Go.RowKit

set_option maxRecDepth 100000 in
set_option maxHeartbeats 3200000 in
theorem eachBin {S : Nat → Prop} {n : Nat} {L : List (Int × Int)} {a : Option Addr} {cap g o : Nat} {V : PV} {St : Nat → World → Prop} {Fn : FuncId} {lb : Array Value} {c : Nat} (hn : 1 ≤ n) (h64 : n ≤ 64) (hL : L.length ≤ 64) (ho : ∀ d, d ∈ L → okD d.1 d.2 = true) (hc : c < n * n)
    (eg : ∀ args w, (callFunc Fn args).run Try.prog w = .ok (.enter Fn args) w)
    (hR : ∀ k W, St k W → ∃ bo bk v m f, Peel S W n L a cap g o V bo bk v m f)
    (hb : ∀ k W W', St k W → Below W.heap.size W W' → St k W')
    (hdo : ∀ k j W, k < L.length → j < binN n (dk L k) → lnI n (dk L k) c = (j : Int) → St k W → Calls Try.prog Fn (#[.agg #[.int .i64 k, .int .i64 j]] ++ lb) W fun e W' => (∃ u, e = .returned u) ∧ St (k + 1) W')
    (w : World) (h : St 0 w) :
    Calls Try.prog 19 #[.pointer (some ⟨V.B, 0, none⟩), .int .i64 c, .func (.func Fn) #[] lb] w fun e w' => (∃ u, e = .returned u) ∧ St L.length w' := by
  obtain ⟨bo0, bk0, v0, m0, f0, P0⟩ := hR 0 w h
  obtain ⟨x, hxe⟩ : ∃ x, c % n = x := ⟨_, rfl⟩
  obtain ⟨y, hye⟩ : ∃ y, c / n = y := ⟨_, rfl⟩
  have hx : x < n := by rw [← hxe]; exact Nat.mod_lt _ (by omega)
  have hy : y < n := by rw [← hye]; exact (Nat.div_lt_iff_lt_mul (by omega)).2 hc
  have e1 : (c : Int) % (n : Int) = (x : Int) := by rw [← hxe]; rfl
  have e4 : ((c : Int)).tmod (n : Int) = (x : Int) := by rw [Int.tmod_eq_emod_of_nonneg (by omega)]; exact e1
  have e3 : (c : Int) / (n : Int) = (y : Int) := by rw [← hye]; rfl
  have e2 : IntKind.i64.wrap ((c : Int) / (n : Int)) = (y : Int) := by rw [e3, IntKind.wrap_i64]; omega
  have z0 : ((n : Int) == 0) = false := by simp; omega
  have z1 : ¬ (n : Int) = 0 := by omega
  have z2 : (n = 0) = False := by simp; omega
  have c0 := P0.c0
  have c1 := P0.c1
  have c1' := hide c1
  have hR := hide hR
  have hb := hide hb
  have hdo := hide hdo
  have h0 := hide h
  have hHx := hide hxe
  have hHy := hide hye
  have hO := hide ho
  have hcc := hide hc
  clear P0 h hxe hye e3 ho hc
  go_enter Try.func19, Try.ntmps19
  go_wp2_with fail
  go_quiet (fail)
  have h1 := hide (unhide hb 0 w (w.drewN nq) (unhide h0) (belowN _ w nq))
  have d1 : (w.drewN nq).cell? ⟨V.B, 1, none⟩ = some (.slice a L.length cap) := c1
  clear c0 c1 h0 e4 e1 z0 z1 z2
  generalize w.drewN nq = w1 at *
  go_wp2_with fail
  clear d1
  go_loopw [27] (fun kv wr => ∃ k : Nat, k ≤ L.length ∧ kv = .int .i64 k ∧ Hid (St k wr)) (fun kv _ => L.length - (intOf kv).toNat)
  case atStart => exact ⟨0, Nat.zero_le _, rfl, h1⟩
  case round =>
    clear h1
    obtain ⟨k, hk, rfl, hS⟩ := hrel
    by_cases hkL : k < L.length
    · have q1 : ((k : Int) < (L.length : Int)) = True := by simp; omega
      obtain ⟨bo, bk, v, m, f, hP⟩ := unhide hR k wr (unhide hS)
      obtain ⟨haa, hgb⟩ := hP.dirs.at_ (by omega)
      subst haa
      have hok := unhide hO _ (dk_mem hkL)
      obtain ⟨b1, b2, b3⟩ := okD_bounds hok
      obtain ⟨j, hj, hl⟩ := line_bounds (d := dk L k) hn h64 hok (unhide hcc)
      have kD := hide (fun W (hW : St k W) => unhide hdo k j W hkL hj hl hW)
      obtain ⟨p1, p2⟩ := hP.dirs.cell k _ (dk_at hkL)
      have y1 := hide (heap_alloc_new wr (.cells #[.int .i64 (dk L k).1, .int .i64 (dk L k).2] 31))
      have y2 := hide ((Below.refl wr.heap.size wr).alloc (Nat.le_refl _) (.cells #[.int .i64 (dk L k).1, .int .i64 (dk L k).2] 31))
      have hP2 := hP.below (unhide y2)
      have S2 := hide (unhide hb k _ _ (unhide hS) (unhide y2))
      have eF := hP.atF (by omega)
      have x2 := hP2.c2
      rw [eF] at x2
      have x3 := hP2.first hkL
      have x4 : (wr.alloc (.cells #[.int .i64 (dk L k).1, .int .i64 (dk L k).2] 31)).cell? ⟨wr.heap.size, 0, none⟩ = some (.int .i64 (dk L k).1) := cell_of_row _ wr.heap.size 0 _ _ (0, 0) (unhide y1)
      have x5 : (wr.alloc (.cells #[.int .i64 (dk L k).1, .int .i64 (dk L k).2] 31)).cell? ⟨wr.heap.size, 1, none⟩ = some (.int .i64 (dk L k).2) := cell_of_row _ wr.heap.size 1 _ _ (0, 0) (unhide y1)
      have m1 := cell_small (q := (dk L k).2) hx h64 (by omega)
      have m2 := cell_small (q := (dk L k).1) hy h64 b1
      have hs := start_small (P := (dk L k).1) (Q := (dk L k).2) (n := (n : Int)) (by omega) (by omega) b1
      unfold lnI lnO at hl
      rw [unhide hHx, unhide hHy] at hl
      have ep : ((dk L k).1, (dk L k).2) = dk L k := rfl
      rw [ep] at hs
      clear hP hP2 hgb eF hS y1 y2 hok ep
      generalize dk L k = d at *
      obtain ⟨P, Q⟩ := d
      dsimp only at *
      generalize startS (n : Int) (P, Q) = st at *
      generalize hX : Q * (x : Int) = X at *
      generalize hY : P * (y : Int) = Y at *
      have n1 : IntKind.i64.wrap X = X := by rw [IntKind.wrap_i64]; omega
      have n2 : IntKind.i64.wrap Y = Y := by rw [IntKind.wrap_i64]; omega
      have n3 : IntKind.i64.wrap (st + X) = st + X := by rw [IntKind.wrap_i64]; omega
      have n4 : IntKind.i64.wrap (st + X - Y) = (j : Int) := by rw [IntKind.wrap_i64]; omega
      have hl := hide hl
      clear m1 m2 hs b1 b2 b3
      go_wp2_with fail
      clear p1 p2
      generalize wr.alloc (.cells #[.int .i64 P, .int .i64 Q] 31) = w2 at *
      generalize wr.heap.size = p at *
      have hfn : ∀ f, Fence.wide.fn f = True := fun _ => rfl
      refine (wpIn_wide (n := 0)).1 ?_
      refine region_far 20 mixed (by kernel_rfl) ?_
      simp only [List.take_succ_cons, List.take_zero, List.drop_succ_cons, List.drop_zero]
      repeat (gi_big_quiet_step (fail))
      refine wpQuietIn_nil ?_
      intro _ hw'
      obtain ⟨nq2, rfl⟩ := hw'
      have S3 := hide (unhide hb k _ _ (unhide S2) (belowN _ w2 nq2))
      clear S2 x2 x3 x4 x5
      generalize w2.drewN nq2 = w3 at *
      gi_wp2_with fail
      refine ⟨rfl, ?_⟩
      refine (callsIn_wide.2 (unhide kD w3 (unhide S3))).mono ?_
      rintro e w4 ⟨⟨_, rfl⟩, hS4⟩
      have S4 := hide hS4
      clear hS4 S3 kD
      gi_wp2_with fail
      go_wp2_with fail
      exact ⟨⟨k + 1, by omega, by go_num, S4⟩, by simp [intOf]; omega⟩
    · have e : k = L.length := by omega
      subst e
      have q1 : ((L.length : Int) < (L.length : Int)) = False := by simp
      go_wp2_with fail
      go_end0
      exact ⟨⟨_, rfl⟩, unhide hS⟩
end Go.Proofs.Ytgbkfmjkemkajab
