/- The second statement's walk: a list that is 0 but at its first place. -/
import Derived.Test.YtnmcdlechmaggabDoorZA
namespace Go.Proofs.YtnmcdlechmaggabDoor
open Go.RowKit Fl

/-- 0 but at its first place. -/
def lone (a : Nat × Nat) : Nat → Nat × Nat := fun i => if i = 0 then a else (0, 0)

theorem lone_padded {a : Nat × Nat} {n : Nat} (hn : 1 ≤ n) (i : Nat) : padded (lone a) n i = lone a i := by
  unfold padded lone
  by_cases c : i < n
  · rw [if_pos c]
  · rw [if_neg c, if_neg (by omega)]

theorem rowC_ext {w : World} {g n cap : Nat} {f f' : Nat → Nat × Nat} (h : RowC w g n cap f) (he : ∀ i, i < n → f i = f' i) : RowC w g n cap f' := by
  obtain ⟨cur, h1, h2, h3, h4⟩ := h
  exact ⟨cur, h1, h2, h3, fun i hi => by rw [← he i hi]; exact h4 i hi⟩

theorem ints_lone {a : Nat × Nat} {v : Int × Int} (h : IC a v) (h1 : v.1.natAbs ≤ 1048576) (h2 : v.2.natAbs ≤ 1048576) (hw : W2 a) (n : Nat) : Ints n (lone a) (fun j => if j = 0 then v else (0, 0)) := by
  refine ⟨fun j _ => ?_, fun j _ => ?_, fun j _ => ?_⟩
  · unfold lone
    by_cases c : j = 0
    · rw [if_pos c]; show IC a (if j = 0 then v else (0, 0)); rw [if_pos c]; exact h
    · rw [if_neg c]; show IC (0, 0) (if j = 0 then v else (0, 0)); rw [if_neg c]; exact ⟨iv_zero, iv_zero⟩
  · by_cases c : j = 0
    · rw [if_pos c]; exact ⟨h1, h2⟩
    · rw [if_neg c]; exact ⟨by decide, by decide⟩
  · unfold lone
    by_cases c : j = 0
    · rw [if_pos c]; exact hw
    · rw [if_neg c]; exact ⟨by decide, by decide⟩

theorem first_at {a : Nat × Nat} {v : Int × Int} (h : IC a v) (h1 : v.1.natAbs ≤ 1048576) (h2 : v.2.natAbs ≤ 1048576) {l k : Nat} (hk : k < 2 ^ l) : IC (fft l 4095 (lone a) k) v :=
  fft_first 4095 v (by omega) (by omega) l (lone a) (by unfold lone; rw [if_pos rfl]; exact h) (fun j hj _ => by unfold lone; rw [if_neg (by omega)]; exact ⟨iv_zero, iv_zero⟩) k hk

set_option maxHeartbeats 3200000 in
theorem firstWalk (a0 a1 n : Int) (ha0 : -2147483648 ≤ a0 ∧ a0 ≤ 2147483647) (ha1 : -2147483648 ≤ a1 ∧ a1 ≤ 2147483647) (w : World) (hD : Deb w) :
    Calls Tryd.prog 3 #[.agg #[.int .i32 a0, .int .i32 a1], .int .i64 n] w fun e w' => e = .returned (.bool true) ∧ Below w.heap.size w w' := by
  obtain ⟨i0, hi0, hz0, hz1, hz2⟩ := info_parts infoC
  obtain ⟨m, hm⟩ : ∃ m : Nat, bits .and .i64 n 7 = (m : Int) := ⟨(n % 8).toNat, by rw [and_low n 3 7 (by decide) (by decide)]; omega⟩
  have hm7 : m ≤ 7 := by
    rw [and_low n 3 7 (by decide) (by decide)] at hm
    omega
  have hD := hide hD
  go_enter Tryd.func3, Tryd.ntmps3
  go_wp2_with fail
  refine (aliveAny _ (deb_below (unhide hD) ((Below.refl _ _).alloc (Nat.le_refl _) _) (deb_lt (unhide hD)))).mono ?_
  rintro e w1 ⟨rfl, hb1⟩
  have q0 : w1.cell? ⟨w.heap.size, 0, none⟩ = some (.int .i32 a0) := by rw [hb1.cell (by simp)]; simp [go_sem]
  have q1 : w1.cell? ⟨w.heap.size, 1, none⟩ = some (.int .i32 a1) := by rw [hb1.cell (by simp)]; simp [go_sem]
  have hB1 : Hid (Below w.heap.size w w1) := ((Below.refl _ _).alloc (Nat.le_refl _) _).trans (hb1.mono (by simp))
  clear hb1
  have hP : Pairs (w1.alloc (.cells #[.int .i32 a0, .int .i32 a1] 22)) w1.heap.size 0 1 (fun _ => (a0, a1)) := by
    refine ⟨fun i hi => ?_, fun i hi => ?_, fun _ => by simp⟩
    · obtain rfl : i = 0 := by omega
      simp [go_sem]
    · obtain rfl : i = 0 := by omega
      simp [go_sem]
  have hW := hide (wholesAny (N := 1) (most := 1) (M := 0) (cap := 1) (by decide) (Nat.le_refl _) (by decide) _ (some ⟨w1.heap.size, 0, none⟩) (fun _ => rfl) hP ⟨fun _ _ => ha0, fun _ _ => ha1⟩)
  clear hP
  go_wp2_with fail
  refine (unhide hW).mono ?_
  rintro e w2 ⟨L, g, hL, he, hg, hR, hb2⟩
  obtain rfl : L = 0 := by omega
  rw [Nat.pow_zero] at he hR
  subst he
  have hI := ints_wx (n := 1) (p := fun _ => (a0, a1)) (N := 1) ⟨fun _ _ => ha0, fun _ _ => ha1⟩
  have hc := hI.ic 0 (by decide)
  have hle := hI.le 0 (by decide)
  have hw2 := hI.w2 0 (by decide)
  have hR0 : RowC w2 g 1 1 (lone (wx 1 (fun _ => (a0, a1)) 0)) := rowC_ext (rowC_of hR) fun i hi => by
    obtain rfl : i = 0 := by omega
    unfold lone
    rw [if_pos rfl]
  generalize wx 1 (fun _ => (a0, a1)) 0 = a at hR0 hc hw2
  generalize wv 1 (fun _ => (a0, a1)) 0 = v at hc hle
  have hB2 : Hid (Below w.heap.size w w2) := ((unhide hB1).alloc (unhide hB1).size _).trans (hb2.mono (by
    have := (unhide hB1).size
    simp
    omega))
  have hgB : Hid (w.heap.size ≤ g) := by
    have h1 := (unhide hB1).size
    have h2 : w1.heap.size + 1 ≤ g := by simpa using hg
    show w.heap.size ≤ g
    omega
  have hR0 := hide hR0
  have hc := hide hc
  have hle := hide hle
  have hw2 := hide hw2
  clear hI hR hb2 hW hg q0 q1 hB1
  go_wp2_with fail
  go_loopw [5, 6] (fun xv ix wr => ∃ i P g cap : Nat, i ≤ m ∧ P ≤ 128 ∧ 1 ≤ P ∧ Hid (P = 2 ^ i) ∧ xv = .slice (some ⟨g, 0, none⟩) P cap ∧ ix = .int .i64 i ∧ Hid (RowC wr g P cap (lone a)) ∧ Hid (w.heap.size ≤ g) ∧ Hid (Below w.heap.size w wr)) (fun _ ix _ => m - (intOf ix).toNat)
  case atStart => exact ⟨0, 1, g, 1, Nat.zero_le _, by decide, by decide, rfl, rfl, rfl, hR0, hgB, hB2⟩
  case round =>
    obtain ⟨i, P, g, cap, hi, hP, hP1, hPi, rfl, rfl, hRr, hgr, hBr⟩ := hrel
    by_cases him : i < m
    · have hI : ((i : Int) < (m : Int)) = True := by simp; omega
      obtain ⟨g', cap', w', hr, hR', hg', hb'⟩ := append_zeros (m := P) i0 hi0 hz0 hz1 hz2 (unhide hRr) (by omega) (by omega) (unhide hgr) (unhide hBr).size
      have hr := hide hr
      have hRn : Hid (RowC w' g' (P + P) cap' (lone a)) := rowC_ext hR' fun j _ => lone_padded (by omega) j
      have hBn : Hid (Below w.heap.size w w') := (unhide hBr).grown hg' (unhide hBr).size (fun k hk => by cases hk; exact unhide hgr)
      have hgn := hide hb'
      have hPn : Hid (P + P = 2 ^ (i + 1)) := by
        show P + P = 2 ^ (i + 1)
        rw [Nat.pow_succ, ← unhide hPi]
        omega
      have hP8 : P + P ≤ 128 := by
        rw [unhide hPn]
        exact Nat.pow_le_pow_right (n := 2) (j := 7) (by decide) (by omega)
      clear hR' hg' hRr hBr hgr
      go_wp2_with (first | (at_builtin; refine Lib.wpList_append_run _ rfl (.tmp 21) (.tmp 23) 24 3 rfl _ _ rfl rfl _ _ (unhide hr) ?_))
      first
        | (go_roundw
           case rel => exact ⟨i + 1, P + P, g', cap', him, hP8, by omega, hPn, rfl, by go_num, hRn, hgn, hBn⟩
           case measure => simp [intOf]; omega)
    · have hI : ((i : Int) < (m : Int)) = False := by simp; omega
      obtain rfl : i = m := by omega
      have hL12 : i ≤ 12 := by omega
      have hCp := hide (copiedAny (cap := cap) hP1 (by omega) wr (row_ofC (unhide hRr)))
      have hIn := hide (ints_lone (unhide hc) (unhide hle).1 (unhide hle).2 (unhide hw2) P)
      go_wp2_with fail
      refine (unhide hCp).mono ?_
      rintro e w3 ⟨g3, cap3, rfl, hc3, hg3, hR3, hb3⟩
      have hFw := hide (forwardAny (b := 1095) (by decide) (by decide) hL12 (unhide hPi) (nums_ints (unhide hIn) 1095 rfl) hc3 w3 hR3)
      have hB3 : Hid (Below w.heap.size w w3) := (unhide hBr).trans (hb3.mono (unhide hBr).size)
      have hRx := hide (row_below (row_ofC (unhide hRr)) hb3 (row_lt (row_ofC (unhide hRr))))
      clear hR3 hb3 hg3 hCp hIn hRr hBr hR0 hB2 hgB
      go_wp2_with fail
      refine (unhide hFw).mono ?_
      rintro e w4 ⟨g4, rfl, hg4, hR4, hb4⟩
      have hB4 : Hid (Below w.heap.size w w4) := (unhide hB3).trans (hb4.mono (unhide hB3).size)
      have hRx4 := row_below (unhide hRx) hb4 (row_lt (unhide hRx))
      have cx := row_at hRx4 (i := 0) (by omega)
      have hl0 : lone a 0 = a := by unfold lone; rw [if_pos rfl]
      rw [hl0] at cx
      unfold cv at cx
      have hcy := hide (fun k (hk : k < P) => row_at hR4 hk)
      have hoy := hide (fun k (hk : k < P) => first_at (unhide hc) (unhide hle).1 (unhide hle).2 (l := i) (k := k) (by rw [← unhide hPi]; exact hk))
      have hgr4 := hide (unhide hc)
      clear hR4 hb4 hg4 hFw hRx hRx4 hB3 hl0
      go_wp2_with fail
      go_loopw [9] (fun ix wr => ∃ k : Nat, k ≤ P ∧ ix = .int .i64 k ∧ Hid (wr.heap = w4.heap) ∧ Hid (Below w.heap.size w wr)) (fun ix _ => P - (intOf ix).toNat)
      case atStart => exact ⟨0, Nat.zero_le _, rfl, rfl, hB4⟩
      case round =>
        obtain ⟨k, hk, rfl, hh, hbr⟩ := hrel
        by_cases hkP : k < P
        · have hI2 : ((k : Int) < (P : Int)) = True := by simp; omega
          have c1 : wr.cell? ⟨g4, k, none⟩ = some (.complex .f64 (fft i 4095 (lone a) k).1 (fft i 4095 (lone a) k).2) := (cell_heap (unhide hh) _).trans (unhide hcy k hkP)
          have c2 : wr.cell? ⟨g, 0, none⟩ = some (.complex .f64 a.1 a.2) := (cell_heap (unhide hh) _).trans cx
          have o1 := iv_same (unhide hoy k hkP).one (unhide hc).one
          have o2 := iv_same (unhide hoy k hkP).two (unhide hc).two
          generalize (fft i 4095 (lone a) k).1 = y1 at c1 o1
          generalize (fft i 4095 (lone a) k).2 = y2 at c1 o2
          clear cx
          go_wp2_with fail
          go_quiet (fail)
          go_wp2_with fail
          go_roundw
          case rel => exact ⟨k + 1, hkP, by go_num, unhide hh, below_drewN (unhide hbr) _⟩
          case measure => simp [intOf]; omega
        · have hI2 : ((k : Int) < (P : Int)) = False := by simp; omega
          clear cx
          go_wp2_with fail
          go_ret
          exact ⟨rfl, unhide hbr⟩
end Go.Proofs.YtnmcdlechmaggabDoor
