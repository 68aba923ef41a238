/- Which cells stay open hangs not on the order of the directions, and with more of them no more do: the statement's own walk. -/
import Derived.Test.YtgbkfmjkemkajaaPO0
namespace Go.Proofs.Ytgbkfmjkemkajaa
open Go.RowKit

theorem rem_small (k : Int) {N : Nat} (hN : 1 ≤ N) : ∃ r : Nat, r < N ∧ (IntKind.u64.wrap k).tmod (N : Int) = (r : Int) := by
  have h0 : 0 ≤ IntKind.u64.wrap k := by rw [IntKind.wrap_u64]; omega
  rw [Int.tmod_eq_emod_of_nonneg h0]
  have h1 : 0 ≤ IntKind.u64.wrap k % (N : Int) := Int.emod_nonneg _ (by omega)
  have h2 : IntKind.u64.wrap k % (N : Int) < (N : Int) := Int.emod_lt_of_pos _ (by omega)
  exact ⟨(IntKind.u64.wrap k % (N : Int)).toNat, by omega, by omega⟩

theorem len_none {n : Nat} (h : n = 0) : ((n : Int) == 0) = true := by subst h; rfl
theorem len_some {n : Nat} (h : ¬ n = 0) : ((n : Int) == 0) = false := by simp; omega
theorem wrap_small {r N : Nat} (h : r < N) (hN : N * 16 ≤ 140737488351232) : wrap64 (r : Int) = (r : Int) := by unfold wrap64; omega

set_option maxRecDepth 100000 in
set_option maxHeartbeats 6400000 in
theorem peelOrdersWalk (hAl : AliveOk) (hOB : OpenBad 7) (hOG : OpenGood 7) {n k : Int} {L : List (Int × Int)} {a : Option Addr} {cap g o : Nat} (hN : L.length * 16 ≤ 140737488351232) (hA : All64 L) (w : World) (h : Dirs w a g o L) :
    Calls Try.prog 5 #[.int .i64 n, .slice a L.length cap, .int .i64 k] w fun e w' => e = .returned (.bool true) ∧ Below w.heap.size w w' := by
  obtain ⟨i0, hi0, hz0, hz1, hz2⟩ := info_parts infoDir
  have H := hide h
  by_cases hE : openErr n L = 0
  · obtain ⟨m, rfl, S⟩ := sound_of hE
    have hat := hide (fun i (hi : i < L.length) => pairs2_get (L := L) hi)
    have hst := hide (fun k (hk : k < L.length) d => rev_step (L := L) hk (d := d))
    have hrl : Hid (L.reverse.take L.length = L.reverse) := by
      show _ = _
      rw [List.take_of_length_le (by rw [List.length_reverse]; exact Nat.le_refl _)]
    have hlr : Hid (L.reverse.length = L.length) := List.length_reverse
    have kG := hide (fun (w' : World) (hw : Dirs w' a g o L) => hOG m L a cap g o w' hA hw hE)
    have kR := hide (fun (b : Option Addr) (cb g' o' : Nat) (w' : World) (hw : Dirs w' b g' o' L.reverse) => hOG m L.reverse b cb g' o' w' (all_reverse hA) hw (err_reverse S))
    have kP := hide (fun (r : Nat) (b : Option Addr) (cb g' o' : Nat) (w' : World) (hw : Dirs w' b g' o' L.reverse) => hOG m (L.reverse.take r) b cb g' o' w' (all_part (all_reverse hA) r) (dirs_part hw r) (err_part S r))
    have hsame := hide (fun b b' (hb : Final m L b) (hb' : Final m L.reverse b') => final_same hb hb' (fun d => List.mem_reverse.symm))
    have hless := hide (fun r b b' (hb : Final m L b) (hb' : Final m (L.reverse.take r) b') => final_less hb hb' (fun d hd => List.mem_reverse.1 (List.mem_of_mem_take hd)))
    have hM : m * m ≤ 4096 := Nat.mul_le_mul S.n64 S.n64
    have hlen := S.len
    rw [unhide hlr] at kR
    generalize m * m = M at *
    clear hE hA hOB hOG h S
    go_enter Try.func5, Try.ntmps5
    go_wp2_with fail
    refine (hAl _).mono ?_
    rintro e w1 ⟨rfl, hb1⟩
    have hsw1 := hb1.size
    have D := hide (dirs_below (unhide H) hb1)
    have B := hide hb1
    clear hb1
    go_wp2_with fail
    refine (unhide kG w1 (unhide D)).mono ?_
    rintro e w2 ⟨gA, cA, bA, rfl, hgA, RA, fA, hb2⟩
    have hlA := brow_lt RA
    have D_1 := hide (dirs_below (unhide D) hb2)
    have B_1 := hide (on (unhide B) hb2)
    clear D B
    have RA := hide RA
    have fA := hide fA
    clear hb2
    go_wp2_with fail
    go_loopw [9, 10] (fun lv iv wr => ∃ (k : Nat) (m : Int) (v : Value), k ≤ L.length ∧ v = lv ∧ iv = .int .i64 m ∧ m = (L.length : Int) - 1 - k ∧ Hid (wr.ownsRow w2.heap.size 35 2 v k (flat2 (L.reverse.take k))) ∧ Hid (Below w2.heap.size w2 wr)) (fun _ iv _ => ((intOf iv) + 1).toNat)
    case atStart => exact ⟨0, (L.length : Int) - 1, _, Nat.zero_le _, rfl, rfl, by omega, by rw [List.take_zero]; exact World.ownsRow_nil _ _ _ _, Below.refl _ _⟩
    case round =>
      obtain ⟨k', mm, v, hk, rfl, rfl, hm, hO, hBr⟩ := hrel
      by_cases hkN : k' < L.length
      · obtain ⟨j, rfl⟩ : ∃ j : Nat, mm = (j : Int) := ⟨mm.toNat, by omega⟩
        have hjk : L.length - 1 - k' = j := by omega
        have qj : (0 ≤ (j : Int)) = True := by simp
        obtain ⟨x, y, hd⟩ := unhide hat j (by omega)
        have hs := hide (unhide hst k' hkN (x, y) (by rw [hjk]; exact hd))
        obtain ⟨e1, l1⟩ := (unhide D_1).at_ (by omega)
        have c1 := ((unhide hBr).cell (p := ⟨g, o + j * 2, none⟩) l1).trans ((unhide D_1).cell j _ hd).1
        have c2 := ((unhide hBr).cell (p := ⟨g, o + j * 2 + 1, none⟩) l1).trans ((unhide D_1).cell j _ hd).2
        dsimp only at c1 c2
        have hjN : j < L.length := by omega
        have hbs : w2.heap.size ≤ wr.heap.size := (unhide hBr).size
        have hwj : IntKind.i64.wrap ((j : Int) - 1) = (j : Int) - 1 := by rw [IntKind.wrap_i64]; omega
        rw [e1]
        have hmH := hide hm
        clear hd hjk hm
        go_wp2_with (first
          | (at_builtin; refine wpList_append_own _ rfl (.tmp 35) (.tmp 40) 22 rfl w2.heap.size 35 i0 (.agg #[.int .i64 0, .int .i64 0]) 2 16 Try.underlying22 hi0 hz0 hz1 hz2 rfl (by decide) _ _ _ rfl ((unhide hO).alloc _) ⟨wr.heap.size, 0, none⟩ 1 1 [.int .i64 x, .int .i64 y] rfl rfl (news_two _ _ _ _) ?c2 ?c3 ?c4 ?c5 ?_))
        case c2 => intro u hu; simp at hu; rcases hu with rfl | rfl <;> rfl
        case c3 => unfold maxLen; omega
        case c4 => omega
        case c5 => simp; omega
        intro v' w4 hown' hgrow _
        have hB4 : Hid (Below w2.heap.size w2 w4) := ((unhide hBr).alloc hbs _).grown hgrow (by simp; omega) (fun k hk => ((unhide hO).lt k hk).1)
        have hO4 : Hid (w4.ownsRow w2.heap.size 35 2 v' (k' + 1) (flat2 (L.reverse.take (k' + 1)))) := by
          rw [unhide hs, flat2_snoc]
          exact hown'
        clear hown' hgrow hO hBr hs c1 c2
        go_wp2_with fail
        go_roundw
        case rel => exact ⟨k' + 1, (j : Int) - 1, _, by omega, rfl, rfl, by have := unhide hmH; omega, hO4, hB4⟩
        case measure => simp [intOf]
      · have e : k' = L.length := by omega
        subst e
        obtain rfl : mm = -1 := by omega
        have hO := unhide hO
        rw [unhide hrl] at hO
        have hO' : wr.ownsRow w2.heap.size 35 2 v L.reverse.length (flat2 L.reverse) := by rw [unhide hlr]; exact hO
        obtain ⟨b, cb, g', rfl, hD, hcb, hsome⟩ := dirs_cap hO'
        rw [unhide hlr] at hcb hsome ⊢
        have hBr := unhide hBr
        have hs4 := hBr.size
        have DL := hide hD
        clear hO hO' hat hst hrl hm hkN hk hD
        have D_2 := hide (dirs_below (unhide D_1) hBr)
        have B_2 := hide (on (unhide B_1) hBr)
        have RA_2 := hide (brow_below (unhide RA) hBr (by omega))
        clear D_1 B_1 RA
        go_wp2_with fail
        refine (unhide kR b cb g' 0 wr (unhide DL)).mono ?_
        rintro e w5 ⟨gB, cB, bB, rfl, hgB, RB, fB, hb5⟩
        have hlB := brow_lt RB
        have hs5 := hb5.size
        have D_3 := hide (dirs_below (unhide D_2) hb5)
        have B_3 := hide (on (unhide B_2) hb5)
        have RA_3 := hide (brow_below (unhide RA_2) hb5 (by omega))
        have DL_3 := hide (dirs_below (unhide DL) hb5)
        clear D_2 B_2 RA_2 DL
        have RB := hide RB
        have he := hide (unhide hsame bA bB (unhide fA) fB)
        clear hb5 hBr fB hsame kG kR
        have kS := hide (fun (W : World) (h1 : BRow W gA M bA) (h2 : BRow W gB M bB) => sameOpenAny (ca := cA) (cb := cB) W h1 h2 (unhide he) hM)
        by_cases hz : L.length = 0
        · have qz : ((L.length : Int) == 0) = true := len_none hz
          clear hz hsome hcb hlen hN
          go_wp2_with fail
          refine (unhide kS w5 (unhide RA_3) (unhide RB)).mono ?_
          rintro e w6 ⟨rfl, hb6⟩
          have hs6 := hb6.size
          have RA6 := hide (brow_below (unhide RA_3) hb6 (by omega))
          have RB6 := hide (brow_below (unhide RB) hb6 (by omega))
          have B6 := hide (on (unhide B_3) hb6)
          clear hb6
          go_wp2_with fail
          refine (unhide kS w6 (unhide RA6) (unhide RB6)).mono ?_
          rintro e w7 ⟨rfl, hb7⟩
          have B7 := hide (on (unhide B6) hb7)
          clear hb7
          go_wp2_with fail
          go_ret
          exact ⟨rfl, unhide B7⟩
        · have qz : ((L.length : Int) == 0) = false := len_some hz
          obtain rfl := hsome (by omega)
          have uN : IntKind.u64.wrap (L.length : Int) = (L.length : Int) := by rw [IntKind.wrap_u64]; omega
          have hN0 : ¬ (L.length : Int) = 0 := by omega
          have hN1 : 1 ≤ L.length := by omega
          obtain ⟨r, hr, hrk0⟩ := rem_small k hN1
          have hrk := hide hrk0
          clear hrk0
          have qr : (r : Int) ≤ (cb : Int) := by omega
          have iR : wrap64 (r : Int) = (r : Int) := wrap_small hr hN
          have qr0 : (0 ≤ (r : Int)) = True := by simp
          have hrl' : Hid ((L.reverse.take r).length = r) := by
            show _ = _
            rw [List.length_take, unhide hlr]
            exact Nat.min_eq_left (Nat.le_of_lt hr)
          have kP := hide (unhide kP r)
          rw [unhide hrl'] at kP
          go_wp2_with fail
          refine (unhide kS w5 (unhide RA_3) (unhide RB)).mono ?_
          rintro e w6 ⟨rfl, hb6⟩
          have hs6 := hb6.size
          have RA6 := hide (brow_below (unhide RA_3) hb6 (by omega))
          have DL6 := hide (dirs_below (unhide DL_3) hb6)
          have B6 := hide (on (unhide B_3) hb6)
          clear hb6 kS he
          have hrk := unhide hrk
          go_wp2_with fail
          clear hrk
          refine (unhide kP (some ⟨g', 0, none⟩) cb g' 0 w6 (unhide DL6)).mono ?_
          rintro e w7 ⟨gC, cC, bC, rfl, hgC, RC, fC, hb7⟩
          have RA7 := hide (brow_below (unhide RA6) hb7 (by omega))
          have B7 := hide (on (unhide B6) hb7)
          have hle := hide (unhide hless r bA bC (unhide fA) fC)
          have RC := hide RC
          have qM : ((M : Int) == (M : Int)) = true := beq_self_eq_true _
          clear hb7 fC hless fA kP DL6 RA6 B6 hgC
          go_wp2_with fail
          go_loopw [14] (fun iv wr => ∃ i : Nat, i ≤ M ∧ iv = .int .i64 i ∧ Hid (wr.heap = w7.heap) ∧ Hid (Below w.heap.size w wr)) (fun iv _ => M - (intOf iv).toNat)
          case atStart => exact ⟨0, Nat.zero_le _, rfl, rfl, unhide B7⟩
          case round =>
            obtain ⟨i, hi, rfl, hh, hB⟩ := hrel
            by_cases hc : i < M
            · have q1 : ((i : Int) < (M : Int)) = True := by simp; omega
              have c1 := (cell_heap (unhide hh) _).trans (brow_at (unhide RA7) hc)
              have c2 := (cell_heap (unhide hh) _).trans (brow_at (unhide RC) hc)
              cases hv : bA i
              · rw [hv] at c1
                generalize bC i = v at c2
                clear hv
                go_wp2_with fail
                exact ⟨⟨i + 1, by omega, by go_num, unhide hh, ⟨(unhide hB).os, (unhide hB).tape, (unhide hB).output, (unhide hB).size, (unhide hB).block⟩⟩, by simp [intOf]; omega⟩
              · rw [hv] at c1
                rw [unhide hle i hc hv] at c2
                clear hv
                go_wp2_with fail
                exact ⟨⟨i + 1, by omega, by go_num, unhide hh, ⟨(unhide hB).os, (unhide hB).tape, (unhide hB).output, (unhide hB).size, (unhide hB).block⟩⟩, by simp [intOf]; omega⟩
            · have e : i = M := by omega
              subst e
              have q1 : ((i : Int) < (i : Int)) = False := by simp
              go_wp2_with fail
              go_ret
              exact ⟨rfl, unhide hB⟩
  · have kG := hide (fun (w' : World) (hw : Dirs w' a g o L) => hOB n L a cap g o w' (by omega) hA hw hE)
    generalize openErr n L = er at *
    have q1 : (er != 0) = true := by simp; exact hE
    clear hE hA hOB hOG h
    generalize L.length = N at *
    go_enter Try.func5, Try.ntmps5
    go_wp2_with fail
    refine (hAl _).mono ?_
    rintro e w1 ⟨rfl, hb1⟩
    have B := hide hb1
    clear hb1
    go_wp2_with fail
    refine (unhide kG w1 (dirs_below (unhide H) (unhide B))).mono ?_
    rintro e w2 ⟨rfl, hb2⟩
    have B2 := hide (on (unhide B) hb2)
    clear hb2
    go_wp2_with fail
    go_ret
    exact ⟨rfl, unhide B2⟩
end Go.Proofs.Ytgbkfmjkemkajaa
