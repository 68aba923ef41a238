/- The sixth statement's walk: each cell on just one line. -/
import Derived.Test.YtkjjhllmedkfhaaDW
import Derived.Test.YtkjjhllmedkfhaaDR
import Derived.Deep.DeepCutAuto
import Derived.Maps.OwnOps
namespace Go.Proofs.Ytkjjhllmedkfhaa
open Go.RowKit

theorem bins_ok {N : Nat} {a : Int × Int} (h1 : 1 ≤ N) (h2 : N ≤ 16) (ho : okD a.1 a.2 = true) : ∃ B : Nat, binsS N a = ((B : Int), 0) ∧ 1 ≤ B ∧ B ≤ 481 := by
  obtain ⟨b1, b2, b3⟩ := okD_bounds ho
  have hb : binsS N a = (((N : Int) - 1) * (a.1.natAbs + a.2) + 1, 0) := by
    unfold binsS
    rw [if_neg (by omega), if_pos ho]
  have q1 : 0 ≤ ((N : Int) - 1) * (a.1.natAbs + a.2) := Int.mul_nonneg (by omega) (by omega)
  have q2 : ((N : Int) - 1) * (a.1.natAbs + a.2) ≤ 15 * 32 := Int.le_trans (Int.mul_le_mul_of_nonneg_right (by omega) (by omega)) (Int.mul_le_mul_of_nonneg_left (by omega) (by omega))
  refine ⟨(((N : Int) - 1) * (a.1.natAbs + a.2) + 1).toNat, ?_, by omega, by omega⟩
  rw [hb]
  simp
  omega

theorem dirs_pairs {w : World} {v : Value} {L : List (Int × Int)} (h : Pairs2 w v L) : ∃ a cap g o, v = .slice a L.length cap ∧ Dirs w a g o L := by
  obtain ⟨a, cap, g, o, h1, h2, h3⟩ := h
  exact ⟨a, cap, g, o, h1, ⟨h2, h3⟩⟩
theorem MapC.isMap {w : World} {b : Nat} {S : List (Int × Int)} {f : Int × Int → Int} (h : MapC w b S f) : ∃ es clock, w.heap[b]? = some (.map es clock) := by
  obtain ⟨D, ⟨es, clock, h1, _⟩, _⟩ := h
  exact ⟨es, clock, h1⟩
theorem dirs_put {w w' : World} {a : Option Addr} {g o b : Nat} {L : List (Int × Int)} (h : Dirs w a g o L) (hg : w.grownBy w' (some b)) (hm : ∃ es clock, w.heap[b]? = some (.map es clock)) : Dirs w' a g o L := by
  have hne : 0 < L.length → g ≠ b := by
    intro hl e
    subst e
    obtain ⟨es, clock, hm⟩ := hm
    have := (h.cell 0 _ (List.getElem?_eq_getElem hl)).1
    simp [World.cell?, hm] at this
  refine ⟨fun hl => ⟨(h.at_ hl).1, Nat.lt_of_lt_of_le (h.at_ hl).2 hg.size⟩, fun i c hi => ?_⟩
  have hl : 0 < L.length := by
    have := (List.getElem?_eq_some_iff.1 hi).1
    omega
  have hb : w'.heap[g]? = w.heap[g]? := hg.block g (h.at_ hl).2 (by simpa using hne hl)
  exact ⟨(World.cell?_of_block (a := ⟨g, o + i * 2, none⟩) hb).trans (h.cell i c hi).1, (World.cell?_of_block (a := ⟨g, o + i * 2 + 1, none⟩) hb).trans (h.cell i c hi).2⟩

set_option maxRecDepth 100000 in
set_option maxHeartbeats 6400000 in
theorem cellsWalk {n : Int} {a : Int × Int} (hn : I64 n) (ha : Dir64 a) (w : World) :
    Calls Try.prog 8 #[.int .i64 n, dirV a] w fun e w' => e = .returned (.bool true) ∧ Below w.heap.size w w' := by
  have kB := hide (fun (n : Int) w => dirBins (n := n) ha w)
  have kL := hide (fun (n bin : Int) w => dirLine (n := n) (bin := bin) ha w)
  have kI := hide (fun (n x y : Int) w => dirIndex (n := n) (x := x) (y := y) ha w)
  by_cases c1 : (binsS n a).2 = 0
  · obtain ⟨r1, r2, ho⟩ := binsS_ok c1
    have h1 : binsS n a = ((binsS n a).1, 0) := by rw [← c1]
    have k1 := hide (unhide kB n)
    rw [h1] at k1
    generalize (binsS n a).1 = b0 at k1 h1
    have hb0 := hide h1
    obtain ⟨N, hN1, hN2, hN⟩ : ∃ N : Nat, 1 ≤ N ∧ N ≤ 16 ∧ ((n ≤ 16 ∧ n = N) ∨ (16 < n ∧ 1 + n % 16 = N)) := by
      by_cases h : n ≤ 16
      · exact ⟨n.toNat, by omega, by omega, Or.inl ⟨h, by omega⟩⟩
      · exact ⟨(1 + n % 16).toNat, by omega, by omega, Or.inr ⟨by omega, by omega⟩⟩
    obtain ⟨B, hB0, hB1, hB2⟩ := bins_ok hN1 hN2 ho
    have k2 := hide (unhide kB N)
    rw [hB0] at k2
    have hBb := hide hB0
    have hO := hide ho
    obtain ⟨P, Q⟩ := a
    unfold dirV at *
    dsimp only at *
    clear c1 h1 hB0 ho kB
    go_enter Try.func8, Try.ntmps8
    go_wp2_with fail
    refine (aliveAny _).mono ?_
    rintro e w1 ⟨rfl, hb1⟩
    have hB1 : Hid (Below w.heap.size w w1) := ((Below.refl _ _).alloc (Nat.le_refl _) _).trans (hb1.mono (by simp))
    have x1 : w1.cell? ⟨w.heap.size, 0, none⟩ = some (.int .i64 P) := by rw [hb1.cell (by simp)]; simp [go_sem]
    have x2 : w1.cell? ⟨w.heap.size, 1, none⟩ = some (.int .i64 Q) := by rw [hb1.cell (by simp)]; simp [go_sem]
    have hlt : Hid (w.heap.size < w1.heap.size) := by
      have := hb1.size
      simp at this
      exact this
    clear hb1
    have fct0 : Hid (∀ w8 : World, Below w1.heap.size w1 w8 → w8.cell? ⟨w.heap.size, 0, none⟩ = some (.int .i64 P) ∧ w8.cell? ⟨w.heap.size, 1, none⟩ = some (.int .i64 Q)) :=
      fun w8 h => ⟨(h.cell (p := ⟨w.heap.size, 0, none⟩) (unhide hlt)).trans x1, (h.cell (p := ⟨w.heap.size, 1, none⟩) (unhide hlt)).trans x2⟩
    go_wp2_with fail
    refine (unhide k1 _).mono ?_
    rintro e w2 ⟨rfl, hb2⟩
    have hC2 := hide hb2
    obtain ⟨y1, y2⟩ := unhide fct0 _ hb2
    clear hb2
    have hmk := @run_makeMap Try.prog
    go_upto_if 29 with fail
    go_cut [0, 5] (fun nv bv wx => Hid (nv = .int .i64 N ∧ bv = .int .i64 B ∧ Below w1.heap.size w1 wx))
    case first =>
      rcases hN with ⟨h, e⟩ | ⟨h, e⟩
      · subst e
        have q3 : (16 < (N : Int)) = False := by simp; omega
        have e4 : b0 = B := by
          have := (unhide hb0).symm.trans (unhide hBb)
          simpa using this
        rw [e4]
        clear kL kI k1 k2
        go_wp2_with fail
        go_meet
        case rel => exact ⟨rfl, rfl, unhide hC2⟩
      · have q3 : (16 < n) = True := by simp; omega
        have q4 : Int.tmod n 16 = n % 16 := Int.tmod_eq_emod_of_nonneg (by omega)
        have q5 : IntKind.i64.wrap (1 + n % 16) = (N : Int) := by rw [IntKind.wrap_i64]; omega
        clear kL kI k1
        go_wp2_with fail
        refine (unhide k2 _).mono ?_
        rintro e w3 ⟨rfl, hb3⟩
        have hC3 := hide (below_on (unhide hC2) hb3)
        clear hb3
        go_wp2_with fail
        go_meet
        case rel => exact ⟨rfl, rfl, unhide hC3⟩
    case rest =>
      obtain ⟨rfl, rfl, hC⟩ := unhide hcut
      have hCc := hide hC
      clear hcut hC hC2 y1 y2 x1 x2 hb0 hN k1 k2 hn r1 r2
      have q6 : ((B : Int) < 1) = False := by simp; omega
      have q7 : (600 < (B : Int)) = False := by simp; omega
      go_wp2_with fail
      have hMap0 := hide (mapC_made wc (fun c => idx P Q (startS N (P, Q)) c + 1))
      have hBl0 : Hid (Below w1.heap.size w1 (wc.alloc (.map #[] 0))) := (unhide hCc).alloc (unhide hCc).size _
      have hbm : Hid (w1.heap.size ≤ wc.heap.size) := (unhide hCc).size
      have hS0 := hide (seen_none (n := N) (a := (P, Q)) hN1 (by omega) (unhide hO))
      have hline : Hid (∀ i : Nat, i < B → lineS N (P, Q) i = (lineL P Q (startS N (P, Q)) i N (N * N), 0)) := fun i hi => by
        unfold lineS
        rw [unhide hBb, if_neg (by simp), if_neg (by omega), Int.toNat_natCast]
      have hindex : Hid (∀ c : Int × Int, InG N c → indexS N (P, Q) c.1 c.2 = (idx P Q (startS N (P, Q)) c, 0)) := fun c hc => by
        unfold InG at hc
        unfold indexS
        rw [unhide hBb, if_neg (by simp), if_neg (by omega)]
        rfl
      have hstp : Hid (∀ c : Int × Int, InG N c → idx P Q (startS N (P, Q)) c < B) := fun c hc => by
        have := (idx_bounds (a := (P, Q)) hN1 (by omega) (unhide hO) hc).2
        rw [unhide hBb] at this
        exact this
      have hpq := okD_bounds (unhide hO)
      have hfin := hide (fun S => seen_all (n := N) (a := (P, Q)) (B := B) (S := S) hN1 (by omega) (unhide hO) (by rw [unhide hBb]))
      generalize startS N (P, Q) = st at *
      generalize hbe : wc.heap.size = bm at *
      dsimp only at *
      clear hCc hbe hmk
      go_loopw [8] (fun iv wr => ∃ (i : Nat) (S : List (Int × Int)), i ≤ B ∧ iv = .int .i64 i ∧ Hid (Seen N P Q st i 0 S) ∧ Hid (MapC wr bm S (fun c => idx P Q st c + 1)) ∧ Hid (Below w1.heap.size w1 wr)) (fun iv _ => B - (intOf iv).toNat)
      case atStart => exact ⟨0, [], Nat.zero_le _, rfl, hS0, hMap0, hBl0⟩
      case round =>
        clear hS0 hMap0 hBl0
        obtain ⟨i, S0, hi, rfl, hS0, hMp0, hB0⟩ := hrel
        by_cases hiB : i < B
        · have q8 : ((i : Int) < (B : Int)) = True := by simp; omega
          obtain ⟨y1, y2⟩ := unhide fct0 _ (unhide hB0)
          have k3 := hide (unhide kL N i)
          rw [unhide hline i hiB] at k3
          dsimp only at k3
          go_wp2_with fail
          refine (unhide k3 _).mono ?_
          rintro e w3 ⟨v, rfl, hPr, hb3⟩
          obtain ⟨a3, cap3, g, o, rfl, hD3⟩ := dirs_pairs hPr
          have hD3' := hide hD3
          have hM3 := hide ((unhide hMp0).below hb3)
          have hB3 : Hid (Below w1.heap.size w1 w3) := (unhide hB0).trans (hb3.mono (unhide hB0).size)
          have hat := hide (fun k (hk : k < (lineL P Q st i N (N * N)).length) => pairs2_get (L := lineL P Q st i N (N * N)) hk)
          have hin : Hid (∀ (k : Nat) (c : Int × Int), (lineL P Q st i N (N * N))[k]? = some c → InG N c ∧ idx P Q st c = i) := fun k c hk => mem_lineL.1 (List.mem_of_getElem? hk)
          have hnx := hide (fun (k : Nat) (c d : Int × Int) h1 h2 => line_next (P := P) (Q := Q) (st := st) (n := N) (i := i) (k := k) (c := c) (d := d) h1 h2)
          have hnew := hide (fun (k : Nat) (S : List (Int × Int)) (c : Int × Int) (h : Seen N P Q st i k S) (hc : (lineL P Q st i N (N * N))[k]? = some c) => And.intro (seen_new h hc) (seen_put h hc))
          have hend := hide (fun (S : List (Int × Int)) h => seen_start (n := N) (P := P) (Q := Q) (st := st) (i := i) (S := S) h)
          have hsl := hide (fun (k : Nat) (S : List (Int × Int)) h => seen_len (n := N) (P := P) (Q := Q) (st := st) (i := i) (k := k) (S := S) h)
          have hll := lineL_len P Q st i N (N * N)
          have hNN : N * N ≤ 256 := Nat.mul_le_mul hN2 hN2
          generalize lineL P Q st i N (N * N) = LN at *
          generalize hMM : LN.length = M at *
          have hM0 : Hid (LN.length = M) := hMM
          clear hPr hD3 hb3 hB0 hMp0 k3 y1 y2 hline kL hMM
          go_wp2_with fail
          go_loopw [11] (fun kv wr => ∃ (k : Nat) (S : List (Int × Int)), k ≤ M ∧ kv = .int .i64 k ∧ Hid (Seen N P Q st i k S) ∧ Hid (MapC wr bm S (fun c => idx P Q st c + 1)) ∧ Hid (Dirs wr a3 g o LN) ∧ Hid (Below w1.heap.size w1 wr)) (fun kv _ => M - (intOf kv).toNat)
          case atStart => exact ⟨0, S0, Nat.zero_le _, rfl, hS0, hM3, hD3', hB3⟩
          case round =>
            clear hS0 hM3 hD3' hB3
            obtain ⟨k, S, hk, rfl, hS, hM, hD, hB⟩ := hrel
            by_cases hkM : k < M
            · have q9 : ((k : Int) < (M : Int)) = True := by simp; omega
              obtain ⟨cx, cy, hc⟩ := unhide hat k hkM
              obtain ⟨hg, hix⟩ := unhide hin k _ hc
              have hgb := hg
              unfold InG at hgb
              obtain ⟨g1, g2, g3, g4⟩ := hgb
              dsimp only at g1 g2 g3 g4
              have hc64 : Hid (Dir64 (cx, cy)) := ⟨by unfold I64; dsimp only; omega, by unfold I64; dsimp only; omega⟩
              have k4 := hide (unhide kI N cx cy)
              have hi4 := unhide hindex (cx, cy) hg
              dsimp only at hi4
              rw [hi4, hix] at k4
              dsimp only at k4
              obtain ⟨ea, la⟩ := (unhide hD).at_ (by have := unhide hM0; omega)
              obtain ⟨y1, y2⟩ := unhide fct0 _ (unhide hB)
              have c1 := ((unhide hD).cell k _ hc).1
              have c2 := ((unhide hD).cell k _ hc).2
              dsimp only at c1 c2
              have hwl : Hid (w.heap.size < wr.heap.size) := Nat.lt_of_lt_of_le (unhide hlt) (unhide hB).size
              have fct : Hid (∀ w8 : World, Below wr.heap.size wr w8 → w8.cell? ⟨w.heap.size, 0, none⟩ = some (.int .i64 P) ∧ w8.cell? ⟨w.heap.size, 1, none⟩ = some (.int .i64 Q) ∧ w8.cell? ⟨g, o + k * 2, none⟩ = some (.int .i64 cx) ∧ w8.cell? ⟨g, o + k * 2 + 1, none⟩ = some (.int .i64 cy)) :=
                fun w8 h => ⟨(h.cell (p := ⟨w.heap.size, 0, none⟩) (unhide hwl)).trans y1, (h.cell (p := ⟨w.heap.size, 1, none⟩) (unhide hwl)).trans y2, (h.cell (p := ⟨g, o + k * 2, none⟩) la).trans c1, (h.cell (p := ⟨g, o + k * 2 + 1, none⟩) la).trans c2⟩
              have hcS := hide (unhide hnew k S (cx, cy) (unhide hS) hc)
              have hSl := unhide hsl k S (unhide hS)
              have hcc := hide hc
              have hixx := hide hix
              have hk0 : (0 : Int) ≤ (k : Int) := by omega
              rw [ea]
              clear hi4 hc hix kI hindex
              go_wp2_with fail
              go_region_held3 (fun w8 => w8.cell? ⟨w.heap.size, 0, none⟩ = some (.int .i64 P) ∧ w8.cell? ⟨w.heap.size, 1, none⟩ = some (.int .i64 Q) ∧ w8.cell? ⟨g, o + k * 2, none⟩ = some (.int .i64 cx) ∧ w8.cell? ⟨g, o + k * 2 + 1, none⟩ = some (.int .i64 cy))
                (first | exact unhide fct _ (unhide hv1) | go_keep)
                (first
                | (go_at_call 23; with_reducible refine (unhide k4 _).mono ?_; rintro e v1 ⟨rfl, hx1⟩
                   have hv1 : Hid (Below wr.heap.size wr v1) := ⟨hx1.os, hx1.tape, hx1.output, hx1.size, hx1.block⟩
                   clear hx1))
              obtain ⟨z1, z2, z3, z4⟩ := unhide fct _ (unhide hv1)
              have hM1 := hide ((unhide hM).below (unhide hv1))
              have hlk := (unhide hM1).look (unhide hc64)
              rw [if_neg (unhide hcS).1] at hlk
              dsimp only at hlk
              obtain ⟨v2, hput, hMM2, hgr⟩ := (unhide hM1).put (unhide hc64) (unhide hcS).1 (by rw [unhide hixx]; unfold I64; omega) (by unfold maxLen; omega)
              rw [unhide hixx] at hput
              dsimp only at hput
              have hM2 := hide hMM2
              have hB1' : Hid (Below w1.heap.size w1 v1) := (unhide hB).trans ((unhide hv1).mono (unhide hB).size)
              have hD2 := hide (dirs_put (dirs_below (unhide hD) (unhide hv1)) hgr (unhide hM1).isMap)
              have hB2' : Hid (Below w1.heap.size w1 v2) := (unhide hB1').grown hgr (unhide hB1').size (fun b hb => by cases hb; exact unhide hbm)
              have hS2 := hide (unhide hcS).2
              obtain ⟨y1', y2'⟩ := unhide fct0 _ (unhide hB2')
              have c1' := ((unhide hD2).cell k _ (unhide hcc)).1
              have c2' := ((unhide hD2).cell k _ (unhide hcc)).2
              dsimp only at c1' c2'
              clear hMM2 hgr hM1 hB1' hv1 fct hcS hM hD hB hS k4 y1 y2 c1 c2 hixx hwl hfin hstp hend hsl hnew
              rw [ea] at hD2
              rcases Nat.eq_zero_or_pos k with rfl | hkp
              · have e0 : o + 0 * 2 = o := by omega
                simp only [Int.natCast_zero, e0] at *
                clear hnx hat hin
                go_wp2_with fail
                go_quiet (fail)
                go_wp2_with fail
                have hb := unhide hB2'
                exact ⟨⟨1, _, hkM, by go_num, hS2, hM2, ⟨(unhide hD2).at_, (unhide hD2).cell⟩, ⟨hb.os, hb.tape, hb.output, hb.size, hb.block⟩⟩, by simp [intOf]; omega⟩
              · obtain ⟨m, hm⟩ : ∃ m, k = m + 1 := ⟨k - 1, by omega⟩
                obtain ⟨px, py, hp⟩ := unhide hat m (by omega)
                obtain ⟨hpg, _⟩ := unhide hin m _ hp
                unfold InG at hpg
                obtain ⟨p1, p2, p3, p4⟩ := hpg
                dsimp only at p1 p2 p3 p4
                obtain ⟨hE, hne⟩ := unhide hnx m _ _ hp (by rw [← hm]; exact unhide hcc)
                dsimp only at hE
                have c3' := ((unhide hD2).cell m _ hp).1
                have c4' := ((unhide hD2).cell m _ hp).2
                dsimp only at c3' c4'
                have hX := prod_small (x := cx - px) (y := Q) (by omega) (by omega)
                have hw : IntKind.i64.wrap ((k : Int) - 1) = (m : Int) := by rw [IntKind.wrap_i64]; omega
                have w3 : IntKind.i64.wrap (cx - px) = cx - px := by rw [IntKind.wrap_i64]; omega
                have w4 : IntKind.i64.wrap (cy - py) = cy - py := by rw [IntKind.wrap_i64]; omega
                obtain ⟨X, hXX⟩ : ∃ X, X = (cx - px) * Q := ⟨_, rfl⟩
                have w5 : IntKind.i64.wrap ((cx - px) * Q) = X := by rw [← hXX] at hX ⊢; rw [IntKind.wrap_i64]; omega
                have w6 : IntKind.i64.wrap ((cy - py) * P) = X := by rw [← hE]; exact w5
                have hi0' : (0 < (k : Int)) = True := by simp; omega
                have hi1' : (0 < k) = True := by simp; omega
                have hi3' : (k : Int) < (M : Int) := by omega
                have hi4' : (0 : Int) ≤ (m : Int) := by omega
                have hi5' : (m : Int) < (M : Int) := by omega
                have hmM : m < M := by omega
                have hcase : (cx == px) = false ∨ ((cx == px) = true ∧ (cy == py) = false) := by
                  by_cases e1 : cx = px
                  · right
                    refine ⟨by simp [e1], ?_⟩
                    simp
                    intro e2
                    exact hne (by rw [e1, e2])
                  · left
                    simp [e1]
                clear hnx hat hin hE hne hX hXX hp hm hcc
                rcases hcase with e1 | ⟨e1, e2⟩
                all_goals
                  go_wp2_with fail
                  go_quiet (fail)
                  go_wp2_with fail
                  have hb := unhide hB2'
                  exact ⟨⟨k + 1, _, hkM, by go_num, hS2, hM2, ⟨(unhide hD2).at_, (unhide hD2).cell⟩, ⟨hb.os, hb.tape, hb.output, hb.size, hb.block⟩⟩, by simp [intOf]; omega⟩
            · have q9 : ((k : Int) < (M : Int)) = False := by simp; omega
              have e : k = M := by omega
              rw [e] at hS
              have hS2 := hide (unhide hend S (unhide hS))
              clear hS hin hnx hnew hend hsl hat hfin kI hindex hstp
              go_wp2_with fail
              exact ⟨⟨i + 1, S, hiB, by go_num, hS2, hM, hB⟩, by simp [intOf]; omega⟩
        · have q8 : ((i : Int) < (B : Int)) = False := by simp; omega
          have e : i = B := by omega
          rw [e] at hS0
          obtain ⟨hmem, hlen⟩ := unhide hfin S0 (unhide hS0)
          have hme := hide hmem
          obtain ⟨y1, y2⟩ := unhide fct0 _ (unhide hB0)
          have hll := (unhide hMp0).len 3
          have hNN : N * N ≤ 256 := Nat.mul_le_mul hN2 hN2
          have wNN : IntKind.i64.wrap ((N : Int) * (N : Int)) = ((N * N : Nat) : Int) := by
            rw [IntKind.wrap_i64]
            have : ((N : Int) * (N : Int)) = ((N * N : Nat) : Int) := by simp
            rw [this]
            omega
          rw [hlen] at hll
          clear hS0 hfin hlen hmem kI kL hindex hline hstp
          go_wp2_with fail
          have hlook : Hid (∀ (wz : World) (c : Int × Int), MapC wz bm S0 (fun c => idx P Q st c + 1) → InG N c → (Instr.lookup 52 (.map (some bm)) (.agg #[.int .i64 c.1, .int .i64 c.2]) false).run Try.prog wz = .ok (.int .i64 (idx P Q st c + 1)) wz) := fun wz c hm hc => by
            have h64 : Dir64 c := by
              unfold InG at hc
              exact ⟨by unfold I64; omega, by unfold I64; omega⟩
            have := hm.look h64
            rw [if_pos ((unhide hme c).2 hc)] at this
            exact this
          clear hll wNN hme
          go_loopw [14] (fun yv wr => ∃ y : Nat, y ≤ 16 ∧ yv = .int .i64 y ∧ Hid (MapC wr bm S0 (fun c => idx P Q st c + 1)) ∧ Hid (Below w1.heap.size w1 wr)) (fun yv _ => 17 - (intOf yv).toNat)
          case atStart => exact ⟨0, Nat.zero_le _, rfl, hMp0, hB0⟩
          case round =>
            clear hMp0 hB0 y1 y2
            obtain ⟨y, hy, rfl, hM, hB⟩ := hrel
            obtain ⟨y1, y2⟩ := unhide fct0 _ (unhide hB)
            by_cases hyN : (y : Int) + Q < N
            · have r1 : ((y : Int) + Q < (N : Int)) = True := by simp; omega
              have x00 : ∃ x0 : Nat, x0 ≤ 16 ∧ 0 ≤ (x0 : Int) + P ∧ ((P < 0 ∧ -P = x0) ∨ (¬ P < 0 ∧ 0 = x0)) := by
                by_cases h : P < 0
                · exact ⟨(-P).toNat, by omega, by omega, Or.inl ⟨h, by omega⟩⟩
                · exact ⟨0, by omega, by omega, Or.inr ⟨h, rfl⟩⟩
              obtain ⟨x0, hx0, hx1, hx2⟩ := x00
              have hmax : (Builtin.max_ #[3, 3] 3 #[.int .i64 0, .int .i64 (-P)]).run Try.prog wr = .ok (.int .i64 x0) wr := by
                rcases hx2 with ⟨h1, h2⟩ | ⟨h1, h2⟩
                · have hq3 : (P < 0) = True := by simp; omega
                  rw [← h2]
                  simp [Builtin.max_, Builtin.max2, go_sem, hq3]
                · have hq3 : (P < 0) = False := by simp; omega
                  rw [← h2]
                  simp [Builtin.max_, Builtin.max2, go_sem, hq3]
              clear hx2
              go_wp2_with fail
              go_loopw [15] (fun xv wr => ∃ x : Nat, x ≤ 16 ∧ 0 ≤ (x : Int) + P ∧ xv = .int .i64 x ∧ Hid (MapC wr bm S0 (fun c => idx P Q st c + 1)) ∧ Hid (Below w1.heap.size w1 wr)) (fun xv _ => 17 - (intOf xv).toNat)
              case atStart => exact ⟨x0, hx0, hx1, rfl, hM, hB⟩
              case round =>
                clear hM hB y1 y2 hmax hx0 hx1
                obtain ⟨x, hx, hxP, rfl, hM, hB⟩ := hrel
                obtain ⟨y1, y2⟩ := unhide fct0 _ (unhide hB)
                by_cases hxN : (x : Int) < N
                · have r2 : ((x : Int) < (N : Int)) = True := by simp; omega
                  by_cases hxN2 : (x : Int) + P < N
                  · have r3 : ((x : Int) + P < (N : Int)) = True := by simp; omega
                    have hl1 : Hid (∀ wz : World, MapC wz bm S0 (fun c => idx P Q st c + 1) → (Instr.lookup 52 (.map (some bm)) (.agg #[.int .i64 x, .int .i64 y]) false).run Try.prog wz = .ok (.int .i64 (idx P Q st (x, y) + 1)) wz) :=
                      fun wz hm => unhide hlook wz ((x : Int), (y : Int)) hm (by unfold InG; dsimp only; omega)
                    have hl2 : Hid (∀ wz : World, MapC wz bm S0 (fun c => idx P Q st c + 1) → (Instr.lookup 52 (.map (some bm)) (.agg #[.int .i64 ((x : Int) + P), .int .i64 ((y : Int) + Q)]) false).run Try.prog wz = .ok (.int .i64 (idx P Q st (x, y) + 1)) wz) :=
                      fun wz hm => by
                        have := unhide hlook wz ((x : Int) + P, (y : Int) + Q) hm (by unfold InG; dsimp only; omega)
                        rw [idx_step] at this
                        exact this
                    generalize idx P Q st (x, y) + 1 = V at hl1 hl2
                    have l1 := fun nq => unhide hl1 (wr.drewN nq) (unhide hM)
                    have l2 := fun nq => unhide hl2 (wr.drewN nq) (unhide hM)
                    have l3 := unhide hl1 wr (unhide hM)
                    have l4 := unhide hl2 wr (unhide hM)
                    clear hl1 hl2 hlook
                    go_wp2_with fail
                    go_quiet (fail)
                    go_wp2_with fail
                    have hb := unhide hB
                    exact ⟨⟨x + 1, by omega, by omega, by go_num, hM, ⟨hb.os, hb.tape, hb.output, hb.size, hb.block⟩⟩, by simp [intOf]; omega⟩
                  · have r3 : ((x : Int) + P < (N : Int)) = False := by simp; omega
                    clear hlook
                    go_wp2_with fail
                    exact ⟨⟨y + 1, by omega, by go_num, hM, hB⟩, by simp [intOf]; omega⟩
                · have r2 : ((x : Int) < (N : Int)) = False := by simp; omega
                  clear hlook
                  go_wp2_with fail
                  exact ⟨⟨y + 1, by omega, by go_num, hM, hB⟩, by simp [intOf]; omega⟩
            · have r1 : ((y : Int) + Q < (N : Int)) = False := by simp; omega
              go_wp2_with fail
              go_ret
              exact ⟨rfl, (unhide hB1).trans ((unhide hB).mono (unhide hB1).size)⟩
  · have h1 : binsS n a = (0, (binsS n a).2) := by
      unfold binsS at c1 ⊢
      split
      · rfl
      · split
        · rename_i h2 h3
          rw [if_neg h2, if_pos h3] at c1
          exact absurd rfl c1
        · rfl
    have k1 := hide (unhide kB n)
    rw [h1] at k1
    generalize (binsS n a).2 = be at k1 c1
    obtain ⟨P, Q⟩ := a
    unfold dirV at *
    dsimp only at *
    have q1 : (be != 0) = true := by simp; exact c1
    clear c1 h1 kB kL kI
    go_enter Try.func8, Try.ntmps8
    go_wp2_with fail
    refine (aliveAny _).mono ?_
    rintro e w1 ⟨rfl, hb1⟩
    have hB1 : Hid (Below w.heap.size w w1) := ((Below.refl _ _).alloc (Nat.le_refl _) _).trans (hb1.mono (by simp))
    have x1 : w1.cell? ⟨w.heap.size, 0, none⟩ = some (.int .i64 P) := by rw [hb1.cell (by simp)]; simp [go_sem]
    have x2 : w1.cell? ⟨w.heap.size, 1, none⟩ = some (.int .i64 Q) := by rw [hb1.cell (by simp)]; simp [go_sem]
    clear hb1
    go_wp2_with fail
    refine (unhide k1 _).mono ?_
    rintro e w2 ⟨rfl, hb2⟩
    have hB2 := hide (below_on (unhide hB1) hb2)
    clear hb2
    go_wp2_with fail
    go_ret
    exact ⟨rfl, unhide hB2⟩
end Go.Proofs.Ytkjjhllmedkfhaa
