/- The first statement's walk: there and back, the sum, the definition. -/
import Derived.Test.YtnmcdlechmaggaaDoorRB
import Derived.Test.YtnmcdlechmaggaaDoorN3
import Derived.Test.YtnmcdlechmaggaaDoorD1
namespace Go.Proofs.YtnmcdlechmaggaaDoor
open Go.RowKit Fl

/-- What comes back is near, and rounds to what went out. -/
theorem back_far {l : Nat} {xs sc : Nat → Nat × Nat} {v : Nat → Int × Int} (h : Ints (2 ^ l) xs v) {k : Nat} (hk : k < 2 ^ l) {q t : Nat} (hq : q = 1074) (ht : t = 1063) {R : Int × Int} (hR : CV (sc k) R)
    (h1 : ((v k).1 * 2 ^ q - R.1).natAbs ≤ 5 * 2 ^ t) (h2 : ((v k).2 * 2 ^ q - R.2).natAbs ≤ 5 * 2 ^ t) :
    Far8 (xs k) (sc k) ∧ FloatKind.f64.format.order (plainB (roundB (sc k).1)) (xs k).1 = some .eq ∧ FloatKind.f64.format.order (plainB (roundB (sc k).2)) (xs k).2 = some .eq := by
  have hle := h.le k hk
  have hp : 2 ^ q = 2048 * 2 ^ t := by rw [show q = 11 + t by omega, Nat.pow_add]
  refine ⟨far8_of t ht (cv_ic (h.ic k hk) q hq) hR (by show ((v k).1 * 2 ^ q - R.1).natAbs ≤ _; omega) (by show ((v k).2 * 2 ^ q - R.2).natAbs ≤ _; omega), ?_, ?_⟩
  · refine iv_same (plain_iv (round_iv hR.one q hq (v := (v k).1) ?_ (by omega))) (h.ic k hk).one
    rw [hp]
    omega
  · refine iv_same (plain_iv (round_iv hR.two q hq (v := (v k).2) ?_ (by omega))) (h.ic k hk).two
    rw [hp]
    omega

theorem dir_far {l : Nat} (hl : l ≤ 8) {xs : Nat → Nat × Nat} {v : Nat → Int × Int} (h : Ints (2 ^ l) xs v) {k : Nat} (hk : k < 2 ^ l) : Far8 (fft l 4095 xs k) (dirS xs (wt l (2 ^ l) k) (2 ^ l)) := by
  obtain ⟨b, hb⟩ : ∃ b, b = 1095 := ⟨_, rfl⟩
  obtain ⟨t, ht⟩ : ∃ t, t = 1063 := ⟨_, rfl⟩
  obtain ⟨X, h1, h2⟩ := nums_ints h b hb
  obtain ⟨Y, D, cY, cD, hN⟩ := fft_dir hl (b := b) (by omega) (by omega) xs X h1 h2 k hk (wt l (2 ^ l) k) (fun j _ => rfl)
  obtain ⟨p1, p2⟩ := n2_fst hN
  have hp : 2 ^ (b - 33) ≤ 2 ^ t := Nat.pow_le_pow_right (by decide) (by omega)
  exact far8_of t ht cY cD (by show (Y.1 - D.1).natAbs ≤ _; have := p1; simp only [cs] at this; omega) (by show (Y.2 - D.2).natAbs ≤ _; have := p2; simp only [cs] at this; omega)

set_option maxHeartbeats 6400000 in
theorem thereWalk {N g o cap : Nat} {p : Nat → Int × Int} (hN : N ≤ 9223372036854775807) (w : World) (hD : Deb w) (a : Option Addr) (ha : 0 < N → a = some ⟨g, o, none⟩) (hp : Pairs w g o N p) (hs : Small32 N p) :
    Calls Tryd.prog 3 #[.slice a N cap] w fun e w' => e = .returned (.bool true) ∧ Below w.heap.size w w' := by
  have hD := hide hD
  have hwh := hide (fun (M most : Nat) (h1 : most ≤ 2 ^ M) (h2 : M ≤ 12) (w' : World) (hb : Below w.heap.size w w') =>
    wholesAny (cap := cap) hN h1 h2 w' a ha ⟨fun i hi => (hb.cell (hp.lt (by omega))).trans (hp.one i hi), fun i hi => (hb.cell (hp.lt (by omega))).trans (hp.two i hi), fun h => Nat.lt_of_lt_of_le (hp.lt h) hb.size⟩ hs)
  have hIn := hide (fun n => ints_wx (n := n) hs)
  generalize hxs : wx N p = xs at hwh hIn
  generalize hvs : wv N p = v at hIn
  clear hs hp ha hxs hvs
  go_enter Tryd.func3, Tryd.ntmps3
  go_wp2_with fail
  refine (aliveAny _ (unhide hD)).mono ?_
  rintro e w1 ⟨rfl, hb1⟩
  have hB1 := hide hb1
  have hW := hide (unhide hwh 12 4096 (by decide) (by decide) w1 hb1)
  clear hb1
  go_wp2_with fail
  refine (unhide hW).mono ?_
  rintro e w2 ⟨L, g2, hL, he, hg2, hR2, hb2⟩
  have hB2 : Hid (Below w.heap.size w w2) := (unhide hB1).trans (hb2.mono (unhide hB1).size)
  have hI := hide (unhide hIn (2 ^ L))
  have hn4 : 2 ^ L ≤ 4096 := Nat.pow_le_pow_right (n := 2) (j := 12) (by decide) hL
  have hn1 : 1 ≤ 2 ^ L := Nat.one_le_two_pow
  obtain ⟨n, hnL⟩ : ∃ n, n = 2 ^ L := ⟨_, rfl⟩
  rw [← hnL] at hn4 hn1 hR2 hI he
  subst he
  have HnL := hide hnL
  clear hnL
  have hC2 := hide (copiedAny (cap := n) hn1 hn4 w2 hR2)
  have hR2 := hide hR2
  clear hW hb2 hg2 hB1
  go_wp2_with fail
  refine (unhide hC2).mono ?_
  rintro e w3 ⟨g3, cap3, rfl, hc3, hg3, hR3, hb3⟩
  have hF := hide (forwardAny (b := 1095) (by decide) (by decide) hL (unhide HnL) (nums_ints (unhide hI) 1095 rfl) hc3 w3 hR3)
  have hB3 : Hid (Below w.heap.size w w3) := (unhide hB2).trans (hb3.mono (unhide hB2).size)
  have hX3 := hide (row_below (unhide hR2) hb3 (row_lt (unhide hR2)))
  clear hR3 hb3 hg3 hC2 hR2 hB2
  go_wp2_with fail
  refine (unhide hF).mono ?_
  rintro e w4 ⟨g4, rfl, hg4, hR4, hb4⟩
  have hB4 : Hid (Below w.heap.size w w4) := (unhide hB3).trans (hb4.mono (unhide hB3).size)
  have hX4 := hide (row_below (unhide hX3) hb4 (row_lt (unhide hX3)))
  have hC4 := hide (copiedAny (cap := n) hn1 hn4 w4 hR4)
  have hR4 := hide hR4
  clear hb4 hg4 hF hX3 hB3
  go_wp2_with fail
  refine (unhide hC4).mono ?_
  rintro e w5 ⟨g5, cap5, rfl, hc5, hg5, hR5, hb5⟩
  have hB5 : Hid (Below w.heap.size w w5) := (unhide hB4).trans (hb5.mono (unhide hB4).size)
  have hX5 := hide (row_below (unhide hX4) hb5 (row_lt (unhide hX4)))
  have hY5 := hide (row_below (unhide hR4) hb5 (row_lt (unhide hR4)))
  have hI2 : Hid (Ints (2 ^ L) xs v) := by rw [← unhide HnL]; exact hI
  obtain ⟨hNu, sc, hsc⟩ := back_list hL (unhide hI2) 1074 1063 rfl rfl
  rw [← unhide HnL] at hNu hsc
  have hG := hide (backAny (b := 1095 + L + 1) (sc := sc) (by omega) (by omega) hL (unhide HnL) hNu hc5 (fun k hk => (hsc k hk).1) w5 (deb_below (unhide hD) (unhide hB5) (deb_lt (unhide hD))) hR5)
  have hbk : Hid (∀ k, k < n → Far8 (xs k) (sc k) ∧ FloatKind.f64.format.order (plainB (roundB (sc k).1)) (xs k).1 = some .eq ∧ FloatKind.f64.format.order (plainB (roundB (sc k).2)) (xs k).2 = some .eq) := by
    intro k hk
    obtain ⟨_, R, r1, r2, r3⟩ := hsc k hk
    exact back_far (unhide hI2) (by rw [← unhide HnL]; exact hk) rfl rfl r1 r2 r3
  have hcv : Hid (∀ k, k < n → ∃ Z, CV (sc k) Z) := by
    intro k hk
    obtain ⟨_, R, r1, _⟩ := hsc k hk
    exact ⟨R, r1⟩
  clear hsc hNu hb5 hR5 hg5 hC4 hX4 hR4 hB4
  go_wp2_with fail
  refine (unhide hG).mono ?_
  rintro e w6 ⟨g6, rfl, hg6, hR6, hb6⟩
  have hB6 : Hid (Below w.heap.size w w6) := (unhide hB5).trans (hb6.mono (unhide hB5).size)
  have hX6 := hide (row_below (unhide hX5) hb6 (row_lt (unhide hX5)))
  have hY6 := hide (row_below (unhide hY5) hb6 (row_lt (unhide hY5)))
  have hNr := hide (nearAny (ca := n) (cb := n) (fun i hi => (unhide hbk i hi).1) w6 (unhide hX6) hR6 hn4)
  have hR6 := hide hR6
  clear hb6 hg6 hG hX5 hY5 hB5
  go_wp2_with fail
  refine (unhide hNr).mono ?_
  rintro e w7 ⟨rfl, hh7, hb7⟩
  have hB7 : Hid (Below w.heap.size w w7) := (unhide hB6).trans (hb7.mono (unhide hB6).size)
  have hX7 := hide (row_below (unhide hX6) hb7 (row_lt (unhide hX6)))
  have hY7 := hide (row_below (unhide hY6) hb7 (row_lt (unhide hY6)))
  have hWh := hide (wholeAny (cap := n) (unhide hcv) hn4 w7 (row_below (unhide hR6) hb7 (row_lt (unhide hR6))))
  clear hb7 hNr hX6 hY6 hB6 hR6 hh7
  go_wp2_with fail
  refine (unhide hWh).mono ?_
  rintro e w8 ⟨g8, rfl, hg8, hR8, hb8⟩
  have hB8 : Hid (Below w.heap.size w w8) := (unhide hB7).trans (hb8.mono (unhide hB7).size)
  have hX8 := hide (row_below (unhide hX7) hb8 (row_lt (unhide hX7)))
  have hY8 := hide (row_below (unhide hY7) hb8 (row_lt (unhide hY7)))
  have hAl := hide (alikeAny (ca := n) (cb := n) (fun i hi => (unhide hbk i hi).2) w8 hR8 (unhide hX8) hn4)
  clear hb8 hR8 hg8 hWh hX7 hY7 hB7
  go_wp2_with fail
  refine (unhide hAl).mono ?_
  rintro e w9 ⟨rfl, hh9, hb9⟩
  have hB9 : Hid (Below w.heap.size w w9) := (unhide hB8).trans (hb9.mono (unhide hB8).size)
  have hX9 := row_below (unhide hX8) hb9 (row_lt (unhide hX8))
  have hY9 := row_below (unhide hY8) hb9 (row_lt (unhide hY8))
  have cX := hide (fun i (hi : i < n) => row_at hX9 hi)
  have cY0 := row_at hY9 (i := 0) (by omega)
  have hsu := hide (sum_ic hn4 (unhide hI))
  have ho0 := fft_sum 4095 L hL xs v (unhide hI2).ic (unhide hI2).le
  rw [← unhide HnL] at ho0
  have oy1 := iv_same ho0.one (unhide hsu n (Nat.le_refl _)).1.one
  have oy2 := iv_same ho0.two (unhide hsu n (Nat.le_refl _)).1.two
  unfold cv at cY0
  generalize (fft L 4095 xs 0).1 = y1 at cY0 oy1
  generalize (fft L 4095 xs 0).2 = y2 at cY0 oy2
  clear hb9 hAl hX8 hY8 hB8 hX9 hY9 ho0 hh9 hbk hcv
  go_wp2_with fail
  go_loopw [8, 9] (fun sv ix wr => ∃ i : Nat, i ≤ n ∧ ix = .int .i64 i ∧ sv = .complex .f64 (sumS xs i).1 (sumS xs i).2 ∧ w9 = wr) (fun _ ix _ => n - (intOf ix).toNat)
  case atStart => exact ⟨0, Nat.zero_le _, rfl, rfl, rfl⟩
  case round =>
    obtain ⟨i, hi, rfl, rfl, rfl⟩ := hrel
    by_cases hin : i < n
    · have hq1 : ((i : Int) < (n : Int)) = True := by simp; omega
      have c1 := unhide cX i hin
      have hA := hide (refAddAny ((unhide hsu i hi).2 hin))
      have hS : Hid (sumS xs (i + 1) = addC (sumS xs i) (xs i)) := rfl
      unfold cv at c1
      generalize addC (sumS xs i) (xs i) = r at hA hS
      generalize xs i = x at c1 hA
      generalize sumS xs i = s at hA ⊢
      go_wp2_with (first | (go_at_call 12; refine (unhide hA _).mono ?_; rintro e w' ⟨rfl, rfl⟩))
      exact ⟨⟨i + 1, hin, by go_num, by rw [unhide hS], trivial⟩, by simp [intOf]; omega⟩
    · have hq1 : ((i : Int) < (n : Int)) = False := by simp; omega
      have hin' : i = n := by omega
      rw [hin']
      generalize (sumS xs n).1 = s1 at oy1 ⊢
      generalize (sumS xs n).2 = s2 at oy2 ⊢
      have hW2 := hide (unhide hwh 8 256 (by decide) (by decide) w9 (unhide hB9))
      clear hwh hsu cX hI hI2 HnL hin hin' hq1 hi
      have hq2 : ((n : Int) < (n : Int)) = False := by simp
      go_wp2_with fail
      refine (unhide hW2).mono ?_
      rintro e wa ⟨M, ga, hM, he, hga, hRa, hba⟩
      have hBa : Hid (Below w.heap.size w wa) := (unhide hB9).trans (hba.mono (unhide hB9).size)
      have hJ := hide (unhide hIn (2 ^ M))
      have hm4 : 2 ^ M ≤ 256 := Nat.pow_le_pow_right (n := 2) (j := 8) (by decide) hM
      have hm1 : 1 ≤ 2 ^ M := Nat.one_le_two_pow
      have hfar : Hid (∀ k, k < 2 ^ M → Far8 (fft M 4095 xs k) (dirS xs (wt M (2 ^ M) k) (2 ^ M))) := fun k hk => dir_far hM (unhide hJ) hk
      obtain ⟨m, hmM⟩ : ∃ m, m = 2 ^ M := ⟨_, rfl⟩
      rw [← hmM] at hm4 hm1 hRa hJ he hfar
      subst he
      have HmM := hide hmM
      clear hmM
      have hCa := hide (copiedAny (cap := m) hm1 (by omega) wa hRa)
      have hRa := hide hRa
      clear hW2 hba hga hB9 cY0 oy1 oy2
      go_wp2_with fail
      refine (unhide hCa).mono ?_
      rintro e wb ⟨gb, capb, rfl, hcb, hgb, hRb, hbb⟩
      have hF := hide (forwardAny (b := 1095) (by decide) (by decide) (show M ≤ 12 by omega) (unhide HmM) (nums_ints (unhide hJ) 1095 rfl) hcb wb hRb)
      have hBb : Hid (Below w.heap.size w wb) := (unhide hBa).trans (hbb.mono (unhide hBa).size)
      have hXb := hide (row_below (unhide hRa) hbb (row_lt (unhide hRa)))
      clear hRb hbb hgb hCa hRa hBa
      go_wp2_with fail
      refine (unhide hF).mono ?_
      rintro e wd ⟨gd, rfl, hgd, hRd, hbd⟩
      have hBd : Hid (Below w.heap.size w wd) := (unhide hBb).trans (hbd.mono (unhide hBb).size)
      have hXd := hide (row_below (unhide hXb) hbd (row_lt (unhide hXb)))
      have hRd := hide hRd
      have hCd := hide (copiedAny (cap := m) hm1 (by omega) wd (unhide hXd))
      clear hbd hgd hF hXb hBb
      go_wp2_with fail
      refine (unhide hCd).mono ?_
      rintro e wf ⟨gf, capf, rfl, hcf, hgf, hRf, hbf⟩
      have hBf : Hid (Below w.heap.size w wf) := (unhide hBd).trans (hbf.mono (unhide hBd).size)
      have hYf := hide (row_below (unhide hRd) hbf (row_lt (unhide hRd)))
      have hDr := hide (directAny (b := 1095) (cx := capf) (by decide) (by decide) hM (unhide HmM) (nums_ints (unhide hJ) 1095 rfl) wf hRf)
      clear hRf hbf hgf hCd hXd hRd hBd
      go_wp2_with fail
      refine (unhide hDr).mono ?_
      rintro e wg ⟨gg, rfl, hgg, hRg, hbg⟩
      have hBg : Hid (Below w.heap.size w wg) := (unhide hBf).trans (hbg.mono (unhide hBf).size)
      have hNr := hide (nearAny (ca := m) (cb := m) (unhide hfar) wg (row_below (unhide hYf) hbg (row_lt (unhide hYf))) hRg (by omega))
      clear hbg hRg hgg hDr hYf hBf hfar
      go_wp2_with fail
      refine (unhide hNr).mono ?_
      rintro e wh ⟨rfl, hhh, hbh⟩
      have hBh : Hid (Below w.heap.size w wh) := (unhide hBg).trans (hbh.mono (unhide hBg).size)
      clear hbh hNr hBg hhh
      go_wp2_with fail
      go_ret
      exact ⟨rfl, unhide hBh⟩
end Go.Proofs.YtnmcdlechmaggaaDoor
