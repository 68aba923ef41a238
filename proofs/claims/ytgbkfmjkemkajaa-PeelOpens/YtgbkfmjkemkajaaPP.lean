/- Which cells stay open, and how many, is told as the document says: the statement's own walk. -/
import Derived.Test.YtgbkfmjkemkajaaPP0
namespace Go.Proofs.Ytgbkfmjkemkajaa
open Go.RowKit

set_option maxHeartbeats 1600000 in
theorem sameNone (w : World) : Calls Try.prog 11 #[.slice none 0 0, .slice none 0 0] w fun e w' => e = .returned (.bool true) ∧ Below w.heap.size w w' := by
  go_enter Try.func11, Try.ntmps11
  go_wp2_with fail
  go_loopw [5] (fun iv wr => iv = .int .i64 0 ∧ w = wr) (fun _ _ => 0)
  case atStart => exact ⟨rfl, rfl⟩
  case round =>
    obtain ⟨rfl, rfl⟩ := hrel
    go_wp2_with fail
    go_ret
    exact ⟨rfl, Below.refl _ _⟩

set_option maxRecDepth 100000 in
set_option maxHeartbeats 6400000 in
theorem peelOpensBad (hAl : AliveOk) (hOB : OpenBad 7) (hLB : LeftBad 9) (rOB : OpenBad 8) (rLB : LeftBad 10) {n : Int} {L : List (Int × Int)} {a : Option Addr} {cap g o : Nat} (hN : L.length * 16 ≤ 140737488351232) (hA : All64 L) (w : World) (h : Dirs w a g o L) (hE : ¬ openErr n L = 0) :
    Calls Try.prog 3 #[.int .i64 n, .slice a L.length cap] w fun e w' => e = .returned (.bool true) ∧ Below w.heap.size w w' := by
  have H := hide h
  have kO := hide (fun (b : Option Addr) (c g' o' : Nat) (w' : World) (hw : Dirs w' b g' o' L) => hOB n L b c g' o' w' (by omega) hA hw hE)
  have kL := hide (fun (b : Option Addr) (c g' o' : Nat) (w' : World) (hw : Dirs w' b g' o' L) => hLB n L b c g' o' w' (by omega) hA hw hE)
  have kP := hide (fun (b : Option Addr) (c g' o' : Nat) (w' : World) (hw : Dirs w' b g' o' L) => rOB n L b c g' o' w' (by omega) hA hw hE)
  have kM := hide (fun (b : Option Addr) (c g' o' : Nat) (w' : World) (hw : Dirs w' b g' o' L) => rLB n L b c g' o' w' (by omega) hA hw hE)
  generalize openErr n L = er at *
  clear hE hA hOB hLB rOB rLB h
  go_enter Try.func3, Try.ntmps3
  go_wp2_with fail
  refine (hAl _).mono ?_
  rintro e w1 ⟨rfl, hb1⟩
  have hs1 := hb1.size
  have D := hide (dirs_below (unhide H) hb1)
  have B := hide hb1
  clear hb1
  go_wp2_with (first | (at_builtin; refine wpList_copy_dirs rfl (.tmp 20) (.tmp 21) w1 rfl rfl rfl (unhide D) hN ?_))
  intro b2 cb2 gb2 w2 hDb2 hbw2
  have hsw2 := hbw2.size
  have D_1 := hide (dirs_below (unhide D) hbw2)
  have B_1 := hide (on (unhide B) hbw2)
  clear D B
  have Db2 := hide hDb2
  clear hbw2 hDb2
  go_wp2_with fail
  refine (unhide kO b2 cb2 gb2 0 w2 (unhide Db2)).mono ?_
  rintro e w3 ⟨rfl, hbw3⟩
  have hsw3 := hbw3.size
  have D_2 := hide (dirs_below (unhide D_1) hbw3)
  have B_2 := hide (on (unhide B_1) hbw3)
  clear D_1 B_1
  clear hbw3 Db2
  go_wp2_with fail
  refine (unhide kP a cap g o w3 (unhide D_2)).mono ?_
  rintro e w4 ⟨rfl, hbw4⟩
  have hsw4 := hbw4.size
  have D_3 := hide (dirs_below (unhide D_2) hbw4)
  have B_3 := hide (on (unhide B_2) hbw4)
  clear D_2 B_2
  clear hbw4
  go_wp2_with (first | (at_builtin; refine wpList_copy_dirs rfl (.tmp 34) (.tmp 35) w4 rfl rfl rfl (unhide D_3) hN ?_))
  intro b5 cb5 gb5 w5 hDb5 hbw5
  have hsw5 := hbw5.size
  have D_4 := hide (dirs_below (unhide D_3) hbw5)
  have B_4 := hide (on (unhide B_3) hbw5)
  clear D_3 B_3
  have Db5 := hide hDb5
  clear hbw5 hDb5
  go_wp2_with fail
  refine (unhide kL b5 cb5 gb5 0 w5 (unhide Db5)).mono ?_
  rintro e w6 ⟨rfl, hbw6⟩
  have hsw6 := hbw6.size
  have D_5 := hide (dirs_below (unhide D_4) hbw6)
  have B_5 := hide (on (unhide B_4) hbw6)
  clear D_4 B_4
  clear hbw6 Db5
  go_wp2_with fail
  refine (unhide kM a cap g o w6 (unhide D_5)).mono ?_
  rintro e w7 ⟨rfl, hbw7⟩
  have hsw7 := hbw7.size
  have D_6 := hide (dirs_below (unhide D_5) hbw7)
  have B_6 := hide (on (unhide B_5) hbw7)
  clear D_5 B_5
  clear hbw7
  have qe : (er != er) = false := by simp
  go_wp2_with fail
  refine (sameNone w7).mono ?_
  rintro e w8 ⟨rfl, hbw8⟩
  have hsw8 := hbw8.size
  have D_7 := hide (dirs_below (unhide D_6) hbw8)
  have B_7 := hide (on (unhide B_6) hbw8)
  clear D_6 B_6
  clear hbw8
  go_wp2_with fail
  go_loopw [13] (fun iv wr => iv = .int .i64 0 ∧ w8 = wr) (fun _ _ => 0)
  case atStart => exact ⟨rfl, rfl⟩
  case round =>
    obtain ⟨rfl, rfl⟩ := hrel
    go_wp2_with fail
    refine (unhide kO a cap g o w8 (unhide D_7)).mono ?_
    rintro e w9 ⟨rfl, hbw9⟩
    have hsw9 := hbw9.size
    have D_8 := hide (dirs_below (unhide D_7) hbw9)
    have B_8 := hide (on (unhide B_7) hbw9)
    clear D_7 B_7
    clear hbw9
    go_wp2_with fail
    refine (sameNone w9).mono ?_
    rintro e wz ⟨rfl, hbwz⟩
    have Bz := hide (on (unhide B_8) hbwz)
    clear hbwz
    go_wp2_with fail
    go_ret
    exact ⟨rfl, unhide Bz⟩

set_option maxRecDepth 100000 in
set_option maxHeartbeats 6400000 in
theorem peelOpensGood (hAl : AliveOk) (hOG : OpenGood 7) (hLG : LeftGood 9) (rOG : OpenGood 8) (rLG : LeftGood 10) {m : Nat} {L : List (Int × Int)} {a : Option Addr} {cap g o : Nat} (hN : L.length * 16 ≤ 140737488351232) (hA : All64 L) (w : World) (h : Dirs w a g o L) (hE : openErr m L = 0) (S : Sound m L) :
    Calls Try.prog 3 #[.int .i64 m, .slice a L.length cap] w fun e w' => e = .returned (.bool true) ∧ Below w.heap.size w w' := by
  have H := hide h
  have kO := hide (fun (b : Option Addr) (c g' o' : Nat) (w' : World) (hw : Dirs w' b g' o' L) => hOG m L b c g' o' w' hA hw hE)
  have kL := hide (fun (b : Option Addr) (c g' o' : Nat) (w' : World) (hw : Dirs w' b g' o' L) => hLG m L b c g' o' w' hA hw hE)
  have kP := hide (fun (b : Option Addr) (c g' o' : Nat) (w' : World) (hw : Dirs w' b g' o' L) => rOG m L b c g' o' w' hA hw hE)
  have kM := hide (fun (b : Option Addr) (c g' o' : Nat) (w' : World) (hw : Dirs w' b g' o' L) => rLG m L b c g' o' w' hA hw hE)
  have hsame := hide (fun b b' (hb : Final m L b) (hb' : Final m L b') => final_same hb hb' (fun d => Iff.rfl))
  have hcnt := hide (fun b b' (hb : Final m L b) (hb' : Final m L b') => cnt_same (final_same hb hb' (fun d => Iff.rfl)))
  have hM : m * m ≤ 4096 := Nat.mul_le_mul S.n64 S.n64
  generalize m * m = M at *
  clear hE hA hOG hLG rOG rLG h S
  go_enter Try.func3, Try.ntmps3
  go_wp2_with fail
  refine (hAl _).mono ?_
  rintro e w1 ⟨rfl, hb1⟩
  have hs1 := hb1.size
  have D := hide (dirs_below (unhide H) hb1)
  have B := hide hb1
  clear hb1
  go_wp2_with (first | (at_builtin; refine wpList_copy_dirs rfl (.tmp 20) (.tmp 21) w1 rfl rfl rfl (unhide D) hN ?_))
  intro b2 cb2 gb2 w2 hDb2 hbw2
  have hsw2 := hbw2.size
  have D_1 := hide (dirs_below (unhide D) hbw2)
  have B_1 := hide (on (unhide B) hbw2)
  clear D B
  have Db2 := hide hDb2
  clear hbw2 hDb2
  go_wp2_with fail
  refine (unhide kO b2 cb2 gb2 0 w2 (unhide Db2)).mono ?_
  rintro e w3 ⟨gA, cA, bA, rfl, hgA, RA, fA, hbw3⟩
  have hsw3 := hbw3.size
  have hlA := brow_lt RA
  have D_2 := hide (dirs_below (unhide D_1) hbw3)
  have B_2 := hide (on (unhide B_1) hbw3)
  clear D_1 B_1
  have RA := hide RA
  have fA := hide fA
  clear hbw3 Db2
  go_wp2_with fail
  refine (unhide kP a cap g o w3 (unhide D_2)).mono ?_
  rintro e w4 ⟨gB, cB, bB, rfl, hgB, RB, fB, hbw4⟩
  have hsw4 := hbw4.size
  have hlB := brow_lt RB
  have D_3 := hide (dirs_below (unhide D_2) hbw4)
  have B_3 := hide (on (unhide B_2) hbw4)
  have RA_3 := hide (brow_below (unhide RA) hbw4 (by omega))
  clear D_2 B_2 RA
  have RB := hide RB
  have fB := hide fB
  clear hbw4
  go_wp2_with (first | (at_builtin; refine wpList_copy_dirs rfl (.tmp 34) (.tmp 35) w4 rfl rfl rfl (unhide D_3) hN ?_))
  intro b5 cb5 gb5 w5 hDb5 hbw5
  have hsw5 := hbw5.size
  have D_4 := hide (dirs_below (unhide D_3) hbw5)
  have B_4 := hide (on (unhide B_3) hbw5)
  have RA_4 := hide (brow_below (unhide RA_3) hbw5 (by omega))
  have RB_4 := hide (brow_below (unhide RB) hbw5 (by omega))
  clear D_3 B_3 RA_3 RB
  have Db5 := hide hDb5
  clear hbw5 hDb5
  go_wp2_with fail
  refine (unhide kL b5 cb5 gb5 0 w5 (unhide Db5)).mono ?_
  rintro e w6 ⟨bC, rfl, fC, hbw6⟩
  have hsw6 := hbw6.size
  have D_5 := hide (dirs_below (unhide D_4) hbw6)
  have B_5 := hide (on (unhide B_4) hbw6)
  have RA_5 := hide (brow_below (unhide RA_4) hbw6 (by omega))
  have RB_5 := hide (brow_below (unhide RB_4) hbw6 (by omega))
  clear D_4 B_4 RA_4 RB_4
  have fC := hide fC
  clear hbw6 Db5
  go_wp2_with fail
  refine (unhide kM a cap g o w6 (unhide D_5)).mono ?_
  rintro e w7 ⟨bD, rfl, fD, hbw7⟩
  have hsw7 := hbw7.size
  have D_6 := hide (dirs_below (unhide D_5) hbw7)
  have B_6 := hide (on (unhide B_5) hbw7)
  have RA_6 := hide (brow_below (unhide RA_5) hbw7 (by omega))
  have RB_6 := hide (brow_below (unhide RB_5) hbw7 (by omega))
  clear D_5 B_5 RA_5 RB_5
  rw [← unhide hcnt bC bD (unhide fC) fD]
  have he := hide (unhide hsame bA bB (unhide fA) (unhide fB))
  clear hbw7 fC fD hcnt
  generalize hK : ((cntB bC M : Nat) : Int) = K
  have qe : (K != K) = false := by simp
  have kS := hide (sameOpenAny (ca := cA) (cb := cB) w7 (unhide RA_6) (unhide RB_6) (unhide he) hM)
  clear hK he
  go_wp2_with fail
  refine (unhide kS).mono ?_
  rintro e w8 ⟨rfl, hbw8⟩
  have hsw8 := hbw8.size
  have D_7 := hide (dirs_below (unhide D_6) hbw8)
  have B_7 := hide (on (unhide B_6) hbw8)
  have RA_7 := hide (brow_below (unhide RA_6) hbw8 (by omega))
  have RB_7 := hide (brow_below (unhide RB_6) hbw8 (by omega))
  clear D_6 B_6 RA_6 RB_6
  clear hbw8 kS
  go_wp2_with fail
  go_loopw [13] (fun iv wr => ∃ (i : Nat) (v : Nat → Bool), i ≤ M ∧ iv = .int .i64 i ∧ Hid (BRow wr gA M v) ∧ Hid (BRow wr gB M bB) ∧ Hid (Below w.heap.size w wr)) (fun iv _ => M - (intOf iv).toNat)
  case atStart => exact ⟨0, bA, Nat.zero_le _, rfl, RA_7, RB_7, B_7⟩
  case round =>
    clear D_7 RA_7 RB_7 B_7
    obtain ⟨i, v, hi, rfl, hR, hQ, hB⟩ := hrel
    by_cases hc : i < M
    · have q1 : ((i : Int) < (M : Int)) = True := by simp; omega
      have c1 := brow_at (unhide hR) hc
      have c2 := brow_frozen (unhide hR) i
      have hR2 := hide (brow_set (unhide hR) i (!(v i)))
      have hQ2 := hide (brow_keep (unhide hQ) (Below.heap_setCell wr ⟨gA, i, none⟩ (.bool (!(v i))) gB (by show gB ≠ gA; omega)))
      have hB2 := hide ((unhide hB).setCell (p := ⟨gA, i, none⟩) (show _ ≤ gA by omega) (.bool (!(v i))))
      clear hR hQ hB
      go_wp2_with fail
      exact ⟨⟨i + 1, _, by omega, by go_num, hR2, hQ2, hB2⟩, by simp [intOf]; omega⟩
    · have e : i = M := by omega
      subst e
      have q1 : ((i : Int) < (i : Int)) = False := by simp
      have hl := brow_lt (unhide hQ)
      go_wp2_with fail
      refine (unhide kO a cap g o wr (dirs_below (unhide H) (unhide hB))).mono ?_
      rintro e w9 ⟨gC, cC, bE, rfl, hgC, RC, fE, hbw9⟩
      have B9 := hide (on (unhide hB) hbw9)
      have kS := hide (sameOpenAny (ca := cC) (cb := cB) w9 RC (brow_below (unhide hQ) hbw9 hl) (unhide hsame bE bB fE (unhide fB)) hM)
      clear hbw9 RC fE hB hQ hR
      go_wp2_with fail
      refine (unhide kS).mono ?_
      rintro e wz ⟨rfl, hbwz⟩
      have Bz := hide (on (unhide B9) hbwz)
      clear hbwz
      go_wp2_with fail
      go_ret
      exact ⟨rfl, unhide Bz⟩

theorem peelOpensWalk (hAl : AliveOk) (hOB : OpenBad 7) (hOG : OpenGood 7) (hLB : LeftBad 9) (hLG : LeftGood 9) (rOB : OpenBad 8) (rOG : OpenGood 8) (rLB : LeftBad 10) (rLG : LeftGood 10)
    {n : Int} {L : List (Int × Int)} {a : Option Addr} {cap g o : Nat} (hN : L.length * 16 ≤ 140737488351232) (hA : All64 L) (w : World) (h : Dirs w a g o L) :
    Calls Try.prog 3 #[.int .i64 n, .slice a L.length cap] w fun e w' => e = .returned (.bool true) ∧ Below w.heap.size w w' := by
  by_cases hE : openErr n L = 0
  · obtain ⟨m, rfl, S⟩ := sound_of hE
    exact peelOpensGood hAl hOG hLG rOG rLG hN hA w h hE S
  · exact peelOpensBad hAl hOB hLB rOB rLB hN hA w h hE
end Go.Proofs.Ytgbkfmjkemkajaa
