/- The fixed fact, by what Blind says of one ghost; whether a ghost fits where directions do not determine every grid: the statement's own walk. -/
import Derived.Test.YtfddchjonjklkaaGS2
namespace Go.Proofs.Ytfddchjonjklkaa
open Go.RowKit Fl

/-- All that a call leaves as it was but for the tape (a map gone through asks it). -/
structure Past (w W : World) : Prop where
  os : W.os = w.os
  output : W.output = w.output
  size : w.heap.size ≤ W.heap.size
  block : ∀ k, k < w.heap.size → W.heap[k]? = w.heap[k]?

theorem Past.split {w W : World} (h : Past w W) : ∃ v : World, v.Alike w ∧ Below v.heap.size v W := ⟨{ w with tape := W.tape }, ⟨rfl, rfl, rfl⟩, h.os, rfl, h.output, h.size, h.block⟩
theorem past_of {w v W : World} (hv : v.Alike w) (h : Below v.heap.size v W) : Past w W :=
  ⟨h.os.trans hv.2.1, h.output.trans hv.2.2, by rw [← hv.1]; exact h.size, fun k hk => by rw [← hv.1] at hk ⊢; exact h.block k hk⟩
theorem Past.after {w v W : World} (h : Below w.heap.size w v) (k : Past v W) : Past w W :=
  ⟨k.os.trans h.os, k.output.trans h.output, Nat.le_trans h.size k.size, fun i hi => (k.block i (Nat.lt_of_lt_of_le hi h.size)).trans (h.block i hi)⟩
/-- The world behind, with the tape as it was. -/
theorem Past.back {w W : World} (h : Past w W) : Below w.heap.size w { W with tape := w.tape } ∧ W.Alike { W with tape := w.tape } := ⟨⟨h.os, rfl, h.output, h.size, h.block⟩, rfl, rfl, rfl⟩
theorem dirs_alike {w v : World} {a : Option Addr} {g o : Nat} {L : List (Int × Int)} (hv : v.Alike w) (h : Dirs w a g o L) : Dirs v a g o L :=
  ⟨fun hl => ⟨(h.at_ hl).1, by rw [hv.1]; exact (h.at_ hl).2⟩, fun i c hc => ⟨(World.cell?_of_block (w := w) (by rw [hv.1])).trans (h.cell i c hc).1, (World.cell?_of_block (w := w) (by rw [hv.1])).trans (h.cell i c hc).2⟩⟩

def AliveOk : Prop := ∀ w : World, Calls Try.prog 6 #[] w fun e w' => e = .returned (.bool true) ∧ Past w w'
def L1 : List (Int × Int) := [(-1, 1)]
def BlindOk : Prop := ∀ (w : World) (g c : Nat), Row w g 4 (ghB L1 2) → Calls Try.prog 14 #[.agg #[.int .i64 2, .int .i64 2, .slice (some ⟨g, 0, none⟩) 4 c], .agg #[.int .i64 (-1), .int .i64 1]] w fun e w' => e = .returned (.tuple #[.bool true, .int .i64 0]) ∧ Past w w'

theorem err1 : makeErr L1 = 0 := by decide +kernel
theorem gW1 : gW L1 = 2 := by decide +kernel
theorem gH1 : gH L1 = 2 := by decide +kernel
theorem b1 : ghB L1 2 1 = (4607182418800017408, 0) ∧ ghB L1 2 2 = (13830554455654793216, 0) := by decide +kernel
theorem all1 : All64 L1 := by
  intro i d hd
  cases i with
  | zero =>
    have : d = (-1, 1) := by simpa [L1] using hd.symm
    rw [this]
    exact ⟨by unfold I64; decide, by unfold I64; decide⟩
  | succ i => simp [L1] at hd
theorem dirs1 (w : World) : Dirs (w.alloc (.cells #[.int .i64 (-1), .int .i64 1] 34)) (some ⟨w.heap.size, 0, none⟩) w.heap.size 0 L1 := by
  refine ⟨fun _ => ⟨rfl, by simp⟩, fun i c hc => ?_⟩
  cases i with
  | zero =>
    have : c = (-1, 1) := by simpa [L1] using hc.symm
    rw [this]
    exact ⟨by simp [go_sem], by simp [go_sem]⟩
  | succ i => simp [L1] at hc

set_option maxHeartbeats 1600000 in
theorem alive_of (hBl : BlindOk) : AliveOk := by
  intro w
  have k := hide (gMake (cap := 1) err1 all1 _ (dirs1 w))
  unfold ghostV at k
  rw [gW1, gH1] at k
  have hBl := hide hBl
  go_enter Try.func6, Try.ntmps6
  go_wp2_with fail
  refine (unhide k).mono ?_
  rintro e w1 ⟨g, c, rfl, hg, ⟨hR, _⟩, hb1⟩
  have hB1 := ((Below.refl _ w).alloc (Nat.le_refl _) (.cells #[.int .i64 (-1), .int .i64 1] 34)).trans (hb1.mono (by simp))
  have hb2 := (Below.refl _ w1).alloc (Nat.le_refl _) (.cells #[.int .i64 2, .int .i64 2, .slice (some ⟨g, 0, none⟩) 4 c] 26)
  have hR2 := row_below hR hb2 (row_lt hR)
  have e2 := heap_alloc_new w1 (.cells #[.int .i64 2, .int .i64 2, .slice (some ⟨g, 0, none⟩) 4 c] 26)
  have hB2 := hide (hB1.trans (hb2.mono hB1.size))
  have kb := hide (unhide hBl _ g c hR2)
  have hs2 : w1.heap.size + 1 ≤ (w1.alloc (.cells #[.int .i64 2, .int .i64 2, .slice (some ⟨g, 0, none⟩) 4 c] 26)).heap.size := by rw [World.size_alloc]; exact Nat.le_refl _
  have hlt := row_lt hR
  have hR2 := hide hR2
  have e2 := hide e2
  clear hR hb1 hb2 hB1 k hBl
  go_wp2_with fail
  generalize w1.alloc (.cells #[.int .i64 2, .int .i64 2, .slice (some ⟨g, 0, none⟩) 4 c] 26) = w2 at *
  refine (unhide kb).mono ?_
  rintro e w3 ⟨rfl, hp3⟩
  have e3 := (hp3.block _ (by omega)).trans (unhide e2)
  have x0 := block_cell e3 0
  have x1 := block_cell e3 1
  have x2 := block_cell e3 2
  simp only [List.getElem?_toArray, List.getElem?_cons_zero, List.getElem?_cons_succ] at x0 x1 x2
  have hR3 := row_keep (unhide hR2) (hp3.block g (by omega))
  have c1 := row_at hR3 (i := 1) (by decide)
  have c2 := row_at hR3 (i := 2) (by decide)
  rw [b1.1] at c1
  rw [b1.2] at c2
  unfold cv at c1 c2
  dsimp only at c1 c2
  have o1 : FloatKind.f64.format.order 4607182418800017408 4607182418800017408 = some .eq := by decide +kernel
  have o2 : FloatKind.f64.format.order 13830554455654793216 13830554455654793216 = some .eq := by decide +kernel
  have o3 : FloatKind.f64.format.order 0 0 = some .eq := by decide +kernel
  have hB3 := hide (Past.after (unhide hB2) hp3)
  clear hp3 hR3 e3 kb hR2 e2
  go_wp2_with fail
  go_ret
  exact ⟨rfl, unhide hB3⟩

set_option maxRecDepth 100000 in
set_option maxHeartbeats 3200000 in
theorem ghostKatzWalk (hAl : AliveOk) {n : Int} {L : List (Int × Int)} {a : Option Addr} {cap g o : Nat} (hN : L.length ≤ 9223372036854775807) (hA : All64 L) (w : World) (h : Dirs w a g o L) :
    Calls Try.prog 4 #[.int .i64 n, .slice a L.length cap] w fun e w' => e = .returned (.bool true) ∧ Past w w' := by
  have kA := hide hAl
  have kF := hide (fun (v : World) (hv : v.Alike w) (W : World) (hb : Below v.heap.size v W) => gFits (n := n) (cap := cap) hN hA W (dirs_below (dirs_alike hv h) hb))
  have kK := hide (fun (v : World) (hv : v.Alike w) (W : World) (hb : Below v.heap.size v W) => dirKatz (n := n) (cap := cap) hN hA W (dirs_below (dirs_alike hv h) hb))
  have kM := hide (fun (hE : makeErr L = 0) (v : World) (hv : v.Alike w) (W : World) (hb : Below v.heap.size v W) => gMake (cap := cap) hE hA W (dirs_below (dirs_alike hv h) hb))
  have kB := hide (fun (hE : makeErr L ≠ 0) (v : World) (hv : v.Alike w) (W : World) (hb : Below v.heap.size v W) => gMakeBad (cap := cap) hN hE hA W (dirs_below (dirs_alike hv h) hb))
  clear h hA hAl
  have hrel : ((fitsS n L).2 ≠ 0 ∧ (katzS n L).2 = (fitsS n L).2 ∧ (fitsS n L).1 = false ∧ (katzS n L).1 = false) ∨ ((fitsS n L).2 = 0 ∧ (katzS n L).2 = 0 ∧ twiceS L = 0 ∧ 1 ≤ n ∧ n ≤ 64 ∧ (fitsS n L).1 = decide (sumP L + 1 ≤ n ∧ sumQ L + 1 ≤ n) ∧ (katzS n L).1 = !(fitsS n L).1) := by
    unfold fitsS katzS
    by_cases c1 : n < 1 ∨ 64 < n
    · rw [if_pos c1, if_pos c1]
      exact Or.inl ⟨by decide, rfl, rfl, rfl⟩
    · rw [if_neg c1, if_neg c1]
      by_cases c2 : twiceS L = 0
      · rw [if_neg (by omega), if_neg (by omega)]
        refine Or.inr ⟨rfl, rfl, c2, by omega, by omega, rfl, ?_⟩
        dsimp only
        rw [← decide_not, decide_eq_decide]
        omega
      · rw [if_pos c2, if_pos c2]
        exact Or.inl ⟨c2, rfl, rfl, rfl⟩
  generalize L.length = N at *
  generalize hf : fitsS n L = r at *
  generalize hk : katzS n L = s at *
  clear hf hk
  obtain ⟨ra, re⟩ := r
  obtain ⟨sa, se⟩ := s
  dsimp only at hrel kF kK
  rcases hrel with ⟨h1, rfl, rfl, rfl⟩ | ⟨rfl, rfl, ht, hn1, hn2, h5, h6⟩
  · have q1 : (se != 0) = true := by simp; exact h1
    clear kM kB
    go_enter Try.func4, Try.ntmps4
    go_wp2_with fail
    refine (unhide kA w).mono ?_
    rintro e w1 ⟨rfl, hp1⟩
    obtain ⟨v, hv, hb1⟩ := hp1.split
    have kF' := hide (unhide kF v hv)
    have kK' := hide (unhide kK v hv)
    clear kF kK
    have hvh := hide hv
    clear hv hp1
    have B1 := hide hb1
    clear hb1
    go_wp2_with fail
    refine (unhide kF' w1 (unhide B1)).mono ?_
    rintro e w2 ⟨rfl, hb2⟩
    have B2 := hide ((unhide B1).trans (hb2.mono (unhide B1).size))
    clear hb2
    go_wp2_with fail
    refine (unhide kK' w2 (unhide B2)).mono ?_
    rintro e w3 ⟨rfl, hb3⟩
    have B3 := hide ((unhide B2).trans (hb3.mono (unhide B2).size))
    clear hb3
    go_wp2_with fail
    go_ret
    exact ⟨rfl, past_of (unhide hvh) (unhide B3)⟩
  · subst h6
    by_cases hE : makeErr L = 0
    · have R := right_of hE
      have kM := hide (unhide kM hE)
      unfold ghostV at kM
      have hw := R.w
      have hh := R.h
      have hab : (ra = false ∧ ((gW L : Int) ≤ n) = False) ∨ (ra = false ∧ ((gW L : Int) ≤ n) = True ∧ ((gH L : Int) ≤ n) = False) ∨ (ra = true ∧ ((gW L : Int) ≤ n) = True ∧ ((gH L : Int) ≤ n) = True) := by
        rw [hw, hh] at h5
        by_cases c1 : (gW L : Int) ≤ n
        · by_cases c2 : (gH L : Int) ≤ n
          · exact Or.inr (Or.inr ⟨by rw [h5]; exact decide_eq_true ⟨c1, c2⟩, by simp; exact c1, by simp; exact c2⟩)
          · exact Or.inr (Or.inl ⟨by rw [h5]; exact decide_eq_false (fun h => c2 h.2), by simp; exact c1, by simp; omega⟩)
        · exact Or.inl ⟨by rw [h5]; exact decide_eq_false (fun h => c1 h.1), by simp; omega⟩
      clear kB R hw hh h5
      generalize gW L * gH L = M at *
      generalize gW L = Wd at *
      generalize gH L = Hd at *
      rcases hab with ⟨rfl, q1⟩ | ⟨rfl, q1, q2⟩ | ⟨rfl, q1, q2⟩
      all_goals
        go_enter Try.func4, Try.ntmps4
        go_wp2_with fail
        refine (unhide kA w).mono ?_
        rintro e w1 ⟨rfl, hp1⟩
        obtain ⟨v, hv, hb1⟩ := hp1.split
        have kF' := hide (unhide kF v hv)
        have kK' := hide (unhide kK v hv)
        have kM' := hide (unhide kM v hv)
        clear kF kK kM
        have hvh := hide hv
        clear hv hp1
        have B1 := hide hb1
        clear hb1
        go_wp2_with fail
        refine (unhide kF' w1 (unhide B1)).mono ?_
        rintro e w2 ⟨rfl, hb2⟩
        have B2 := hide ((unhide B1).trans (hb2.mono (unhide B1).size))
        clear hb2
        go_wp2_with fail
        refine (unhide kK' w2 (unhide B2)).mono ?_
        rintro e w3 ⟨rfl, hb3⟩
        have B3 := hide ((unhide B2).trans (hb3.mono (unhide B2).size))
        clear hb3
        go_wp2_with fail
        refine (unhide kM' w3 (unhide B3)).mono ?_
        rintro e w4 ⟨g', c, rfl, _, _, hb4⟩
        have B4 := hide ((unhide B3).trans (hb4.mono (unhide B3).size))
        clear hb4
        go_wp2_with fail
        go_ret
        exact ⟨rfl, past_of (unhide hvh) ((unhide B4).alloc (unhide B4).size _)⟩
    · have kB := hide (unhide kB hE)
      generalize makeErr L = er at *
      have q1 : (er != 0) = true := by simp; exact hE
      have hab : ra = false ∨ ra = true := by cases ra <;> simp
      clear kM h5
      rcases hab with rfl | rfl
      all_goals
        go_enter Try.func4, Try.ntmps4
        go_wp2_with fail
        refine (unhide kA w).mono ?_
        rintro e w1 ⟨rfl, hp1⟩
        obtain ⟨v, hv, hb1⟩ := hp1.split
        have kF' := hide (unhide kF v hv)
        have kK' := hide (unhide kK v hv)
        have kB' := hide (unhide kB v hv)
        clear kF kK kB
        have hvh := hide hv
        clear hv hp1
        have B1 := hide hb1
        clear hb1
        go_wp2_with fail
        refine (unhide kF' w1 (unhide B1)).mono ?_
        rintro e w2 ⟨rfl, hb2⟩
        have B2 := hide ((unhide B1).trans (hb2.mono (unhide B1).size))
        clear hb2
        go_wp2_with fail
        refine (unhide kK' w2 (unhide B2)).mono ?_
        rintro e w3 ⟨rfl, hb3⟩
        have B3 := hide ((unhide B2).trans (hb3.mono (unhide B2).size))
        clear hb3
        go_wp2_with fail
        refine (unhide kB' w3 (unhide B3)).mono ?_
        rintro e w4 ⟨rfl, hb4⟩
        have B4 := hide ((unhide B3).trans (hb4.mono (unhide B3).size))
        clear hb4
        go_wp2_with fail
        go_ret
        exact ⟨rfl, past_of (unhide hvh) ((unhide B4).alloc (unhide B4).size _)⟩
end Go.Proofs.Ytfddchjonjklkaa
