/- Filtered flat, of noughts, of four; the fixed fact. -/
import Derived.Test.YthiipodgfbnpeaaDoorFQ0
import Derived.Test.YthiipodgfbnpeaaDoorN3
namespace Go.Proofs.YthiipodgfbnpeaaDoor
open Go.RowKit Fl Ieee

theorem applyFlat {f : Nat} (hG : ApplyGen f) : ApplyFlat f := by
  intro m c g xs v w hm1 hm2 hc hD hI hR
  have hl := lenE_le m
  have hbig := lenE_big hm2
  have hpad : Ints (2 ^ lenE m) (padX m xs) (padV m v) := ints_pad hI
  obtain ⟨hN, sc, hsc⟩ := back_list hl hpad 1074 1063 rfl rfl
  refine (hG m c g 1 xs (fft (lenE m) 4095 (padX m xs)) sc 1095 (1095 + lenE m + 1) w hm1 hm2 hc (Nat.le_refl 1) (by decide) (by decide) (by decide) (by omega) (by omega) (nums_ints hpad 1095 rfl)
    (fun k hk => by
      have hw : wT 1 (k * 2 ^ (12 - lenE m)) = oneB := rfl
      rw [hw]
      exact flat_same hl hpad hk) hN (fun k hk => (hsc k hk).1) hD hR).mono ?_
  rintro r w' ⟨g', c', rfl, hR', hb⟩
  refine ⟨g', c', sc, rfl, hR', fun q t hq ht i hi => ?_, hb⟩
  obtain ⟨R, h1, h2, h3⟩ := (hsc i (by omega)).2
  have e : padV m v i = v i := by unfold padV; rw [if_pos hi]
  rw [e] at h2 h3
  subst hq ht
  exact ⟨R, h1, h2, h3⟩

theorem nought_cv : CV (0, 0) (0, 0) := ⟨⟨false, 0, 0, rfl, rfl⟩, ⟨false, 0, 0, rfl, rfl⟩⟩
theorem n2_nought (b : Nat) : N2 (0, 0) (2 ^ b) := by
  unfold N2
  have := sq_nonneg ((2 ^ b : Nat) : Int)
  show (0 : Int) * 0 + 0 * 0 ≤ _
  omega

theorem applyZero {f : Nat} (hG : ApplyGen f) : ApplyZero f := by
  intro m c g kind w hm1 hm2 hc hk1 hk3 hD hR
  have hl := lenE_le m
  have hms := ord_mul (ord_pow hl)
  have hpad : ∀ j, CV (padX m (fun _ => (0, 0)) j) (0, 0) := fun j => by
    unfold padX
    split <;> exact nought_cv
  have hF := fft_nought 4095 (lenE m) _ hpad
  have key : ∀ k, ∃ p : Nat × Nat, CV p (0, 0) ∧ (k < 2 ^ lenE m → floatBits .mul .f64 (fft (lenE m) 4095 (padX m (fun _ => (0, 0))) k).1 (wT kind (k * 2 ^ (12 - lenE m))) = some p.1 ∧ floatBits .mul .f64 (fft (lenE m) 4095 (padX m (fun _ => (0, 0))) k).2 (wT kind (k * 2 ^ (12 - lenE m))) = some p.2) := fun k => by
    by_cases hk : k < 2 ^ lenE m
    · have hK : k * 2 ^ (12 - lenE m) < 4096 := by
        rw [← hms]
        exact Nat.mul_lt_mul_of_pos_right hk (Nat.two_pow_pos _)
      obtain ⟨r1, e1, f1⟩ := w_nought (kind := kind) hK (hF k).one
      obtain ⟨r2, e2, f2⟩ := w_nought (kind := kind) hK (hF k).two
      exact ⟨(r1, r2), ⟨f1, f2⟩, fun _ => ⟨e1, e2⟩⟩
    · exact ⟨(0, 0), nought_cv, fun h => absurd h hk⟩
  obtain ⟨P, hP⟩ := Classical.axiomOfChoice key
  have hB := fft_nought 1 (lenE m) P (fun k => (hP k).1)
  refine (hG m c g kind (fun _ => (0, 0)) P (fft (lenE m) 1 P) 60 60 w hm1 hm2 hc hk1 hk3 (by decide) (by decide) (by decide) (by decide) ⟨fun _ => (0, 0), fun j _ => hpad j, fun _ _ => n2_nought 60⟩ (fun k hk => (hP k).2 hk)
    ⟨fun _ => (0, 0), fun j _ => (hP j).1, fun _ _ => n2_nought 60⟩ (fun k _ => ⟨ld_nought (hB k).one, ld_nought (hB k).two⟩) hD hR).mono ?_
  rintro r w' ⟨g', c', rfl, hR', hb⟩
  exact ⟨g', c', _, rfl, hR', fun i _ => ⟨order_nought (hB i).one, order_nought (hB i).two⟩, hb⟩


/-- Four, filtered by the ramp. -/
def x4p : Nat → Nat × Nat := padX 1 (fun _ => (4616189618054758400, 0))
def P4 (k : Nat) : Nat × Nat := if k = 0 then (0, 0) else (4611686018427387904, 0)
theorem f4p : fft 1 4095 x4p 0 = (4616189618054758400, 0) ∧ fft 1 4095 x4p 1 = (4616189618054758400, 0) := by decide +kernel
theorem b4p : fft 1 1 P4 0 = (4611686018427387904, 0) ∧ fft 1 1 P4 1 = (13835058055282163712, 0) := by decide +kernel
theorem w4p : wT 2 0 = 0 ∧ wT 2 2048 = 4602678819172646912 ∧ wT 2 1024 = 4598175219545276416 := by decide +kernel
theorem m4p : floatBits .mul .f64 4616189618054758400 0 = some 0 ∧ floatBits .mul .f64 0 0 = some 0 ∧ floatBits .mul .f64 4616189618054758400 4602678819172646912 = some 4611686018427387904 ∧ floatBits .mul .f64 0 4602678819172646912 = some 0 := by decide +kernel
theorem iv4 : IV 4616189618054758400 4 := iv_of 4 (by decide) (by decide +kernel)
theorem iv2 : IV 4611686018427387904 2 := iv_of 2 (by decide) (by decide +kernel)
theorem ivm2 : IV 13835058055282163712 (-2) := iv_of (-2) (by decide) (by decide +kernel)
theorem nought_fv : FV 0 0 := ⟨false, 0, 0, rfl, rfl⟩

theorem ints4p : Ints (2 ^ 1) x4p (padV 1 (fun _ => (4, 0))) := ints_pad ⟨fun _ _ => ⟨iv4, iv_zero⟩, fun _ _ => ⟨by decide, by decide⟩, fun _ _ => ⟨by decide, by decide⟩⟩
theorem intsP4 : Ints (2 ^ 1) P4 (fun k => if k = 0 then (0, 0) else (2, 0)) := by
  refine ⟨fun j _ => ?_, fun j _ => ?_, fun j _ => ?_⟩
  · unfold P4
    by_cases c : j = 0
    · rw [if_pos c, if_pos c]; exact ⟨iv_zero, iv_zero⟩
    · rw [if_neg c, if_neg c]; exact ⟨iv2, iv_zero⟩
  · split <;> exact ⟨by decide, by decide⟩
  · unfold P4
    split <;> exact ⟨by decide, by decide⟩

/-- Half of two is one. -/
theorem ld_two : ∃ t, LdTo 1 4611686018427387904 t ∧ FloatKind.f64.format.order t oneB = some .eq := by
  obtain ⟨q, hq, hf⟩ := iv2
  have hp : (2 : Int) * 2 ^ q = ((2 * 2 ^ q : Nat) : Int) := by push_cast; rfl
  have hsm : ((2 : Int) * 2 ^ q).natAbs < 2 ^ 2000 := by
    rw [hp, Int.natAbs_natCast]
    subst hq
    decide +kernel
  obtain ⟨t, R, h1, h2, h3, h4⟩ := ld_any (p := 1) (by decide) (by decide) hf hsm
  have hR : R = 1 * 2 ^ q := by
    unfold Near1 at h4
    have e : ((2 ^ 1 : Nat) : Int) = 2 := rfl
    rw [e] at h4
    generalize (2 : Int) ^ q = z at *
    omega
  refine ⟨t, h1, ?_⟩
  rw [hR] at h3
  have h5 := one_fv q hq
  refine (show double.order t oneB = _ from fv_order h3 h5).trans ?_
  congr 1
  show compareOfLessAndEq _ _ = _
  unfold compareOfLessAndEq
  rw [if_neg (Int.lt_irrefl _), if_pos rfl]
theorem ld_mtwo : ∃ t, LdTo 1 13835058055282163712 t := by
  obtain ⟨q, hq, hf⟩ := ivm2
  have hp : (-2 : Int) * 2 ^ q = -((2 * 2 ^ q : Nat) : Int) := by push_cast; rw [Int.neg_mul]
  have hsm : ((-2 : Int) * 2 ^ q).natAbs < 2 ^ 2000 := by
    rw [hp, Int.natAbs_neg, Int.natAbs_natCast]
    subst hq
    decide +kernel
  obtain ⟨t, _, h1, _⟩ := ld_any (p := 1) (by decide) (by decide) hf hsm
  exact ⟨t, h1⟩

/-- Four of the ramp is one. -/
theorem apply_four {f : Nat} (hG : ApplyGen f) (g c : Nat) (hc : 1 ≤ c) (w : World) (hD : Deb w) (hR : Row w g 1 (fun _ => (4616189618054758400, 0))) :
    Calls Tryd.prog f #[.slice (some ⟨g, 0, none⟩) 1 c, .int .i64 2] w fun r w' => ∃ g' c' x y, r = .returned (.tuple #[.slice (some ⟨g', 0, none⟩) 1 c', .int .i64 0]) ∧ w'.cell? ⟨g', 0, none⟩ = some (.complex .f64 x y) ∧ FloatKind.f64.format.order x oneB = some .eq ∧ FloatKind.f64.format.order y 0 = some .eq ∧ Below w.heap.size w w' := by
  obtain ⟨t, ht, ho⟩ := ld_two
  obtain ⟨t', ht'⟩ := ld_mtwo
  have hl : lenE 1 = 1 := rfl
  have h2 : ∀ k, k < 2 ^ lenE 1 → k = 0 ∨ k = 1 := fun k hk => by rw [hl] at hk; omega
  refine (hG 1 c g 2 (fun _ => (4616189618054758400, 0)) P4 (fun k => if k = 0 then (t, 0) else (t', 0)) 1095 1095 w (by decide) (by decide) hc (by decide) (by decide) (by decide) (by decide) (by decide) (by decide) ?_ ?_ ?_ ?_ hD hR).mono ?_
  · rw [hl]
    exact nums_ints ints4p 1095 rfl
  · intro k hk
    rcases h2 k hk with rfl | rfl
    · show floatBits .mul .f64 (fft 1 4095 x4p 0).1 (wT 2 (0 * 2 ^ 11)) = some 0 ∧ floatBits .mul .f64 (fft 1 4095 x4p 0).2 (wT 2 (0 * 2 ^ 11)) = some 0
      rw [f4p.1, Nat.zero_mul, w4p.1]
      exact ⟨m4p.1, m4p.2.1⟩
    · show floatBits .mul .f64 (fft 1 4095 x4p 1).1 (wT 2 (1 * 2 ^ 11)) = some 4611686018427387904 ∧ floatBits .mul .f64 (fft 1 4095 x4p 1).2 (wT 2 (1 * 2 ^ 11)) = some 0
      rw [f4p.2, show 1 * 2 ^ 11 = 2048 by decide, w4p.2.1]
      exact ⟨m4p.2.2.1, m4p.2.2.2⟩
  · rw [hl]
    exact nums_ints intsP4 1095 rfl
  · intro k hk
    rw [hl]
    rcases h2 k hk with rfl | rfl
    · rw [b4p.1]
      exact ⟨ht, ld_nought nought_fv⟩
    · rw [b4p.2]
      exact ⟨ht', ld_nought nought_fv⟩
  · rintro r w' ⟨g', c', rfl, hR', hb⟩
    exact ⟨g', c', t, 0, rfl, row_at hR' (by decide), ho, order_nought nought_fv, hb⟩

set_option maxHeartbeats 3200000 in
theorem aliveAny (hWG : WeightsGood 6) (hG : ApplyGen 10) (w : World) (hD : Deb w) : Calls Tryd.prog 5 #[] w fun e w' => e = .returned (.bool true) ∧ Below w.heap.size w w' := by
  have kW := hide (fun W => hWG 4 1024 2 W ⟨2, by decide, rfl, rfl⟩ (by decide) (by decide))
  have HD := hide hD
  have gl := deb_lt hD
  have kA := hide (fun (W : World) g (hd : Deb W) (h : Row W g 1 (fun _ => (4616189618054758400, 0))) => apply_four hG g 1 (by decide) W hd h)
  clear hWG hG hD
  go_enter Tryd.func5, Tryd.ntmps5
  go_wp2_with fail
  refine (unhide kW _).mono ?_
  rintro e w1 ⟨g1, c1, rfl, hg1, R1, hb1⟩
  have B1 := hide hb1
  have RW := hide R1
  clear hb1 R1 hg1 kW
  go_wp2_with fail
  have hrow : Row (w1.alloc (.cells #[.complex .f64 4616189618054758400 0] 33)) w1.heap.size 1 (fun _ => (4616189618054758400, 0)) := ⟨_, heap_alloc_new w1 _, Nat.le_refl _, fun i hi => by
    obtain rfl : i = 0 := by omega
    rfl⟩
  have Ba : Below w.heap.size w (w1.alloc (.cells #[.complex .f64 4616189618054758400 0] 33)) := (unhide B1).alloc (unhide B1).size _
  refine (unhide kA _ _ (deb_below (unhide HD) Ba gl) hrow).mono ?_
  rintro e w2 ⟨g2, c2, x, y, rfl, cz, o1, o2, hb2⟩
  have B2 := hide (Ba.trans (hb2.mono Ba.size))
  have cw := (hb2.cell (p := ⟨g1, 1, none⟩) (by rw [World.size_alloc]; have := wrow_lt (unhide RW); show g1 < _; omega)).trans ((World.cell?_of_block (Below.heap_alloc w1 _ g1 (wrow_lt (unhide RW)))).trans (wrow_at (unhide RW) (i := 1) (by decide)))
  unfold wV at cw
  rw [show 1 * 1024 = 1024 by decide, w4p.2.2] at cw
  have o3 : FloatKind.f64.format.order 4598175219545276416 4598175219545276416 = some .eq := by decide +kernel
  unfold oneB at o1
  clear hb2 Ba hrow kA
  go_wp2_with fail
  go_ret
  exact ⟨rfl, unhide B2⟩
end Go.Proofs.YthiipodgfbnpeaaDoor
