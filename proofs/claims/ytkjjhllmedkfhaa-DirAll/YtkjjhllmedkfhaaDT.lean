/- The document's own All. -/
import Derived.Test.YtkjjhllmedkfhaaDS
import Derived.Deep.AppendLies
namespace Go.Proofs.Ytkjjhllmedkfhaa
open Go.RowKit

set_option maxHeartbeats 6400000 in
theorem allAny {k : Int} (w : World) :
    Calls Try.prog 19 #[.int .i64 k] w fun e w' =>
      ∃ v, e = .returned (.tuple #[v, .int .i64 (allS k).2]) ∧ w'.ownsRow w.heap.size 23 2 v (allS k).1.length (flat2 (allS k).1) ∧ Below w.heap.size w w' := by
  by_cases c2 : k < 1 ∨ 16 < k
  · have hI : Hid (allS k = ([], 1)) := by
      show _ = _
      unfold allS
      rw [if_pos c2]
    generalize allS k = r at hI ⊢
    have hd : ((k < 1) = True) ∨ ((k < 1) = False ∧ (16 < k) = True) := by
      by_cases d1 : k < 1
      · exact Or.inl (by simp; omega)
      · exact Or.inr ⟨by simp; omega, by simp; omega⟩
    clear c2
    rcases hd with d1 | ⟨d1, d2⟩
    all_goals
      go_enter Try.func19, Try.ntmps19
      go_wp2_with fail
      go_ret2
      rw [unhide hI]
      exact ⟨_, rfl, World.ownsRow_nil _ _ _ _, Below.refl _ _⟩
  · have hI : Hid (allS k = (allL k.toNat ((k.toNat + 1) * (2 * k.toNat + 1)), 0)) := by
      show _ = _
      unfold allS
      rw [if_neg c2]
    generalize allS k = r at hI ⊢
    obtain ⟨K, rfl⟩ : ∃ K : Nat, k = K := ⟨k.toNat, by omega⟩
    rw [Int.toNat_natCast] at hI
    have hK : K ≤ 16 := by omega
    have hK1 : 1 ≤ K := by omega
    have d1 : ((K : Int) < 1) = False := by simp; omega
    have d2 : (16 < (K : Int)) = False := by simp; omega
    have hyes := hide (fun j h => allL_yes (k := K) (j := j) h)
    have hno := hide (fun j h => allL_no (k := K) (j := j) h)
    have hln := hide (allL_len K)
    have hok := hide (allL_ok K)
    have hzr := hide (allL_zero K)
    have hcd := hide (fun q p h => cand_at (k := K) (q := q) (p := p) h)
    obtain ⟨i0, hi0, hz0, hz1, hz2⟩ := info_parts infoDir
    generalize allL K = LL at *
    clear c2
    go_enter Try.func19, Try.ntmps19
    go_wp2_with fail
    have ck := hide (fun (P Q : Int) (hP : I64 P) (hQ : I64 Q) w => checkAny hP hQ w)
    have cm := hide (fun (a b : Int × Int) (ha : Dir64 a) (hb : Dir64 b) w => cmpAny ha hb w)
    go_loopw [4, 5] (fun lv qv wr => ∃ q : Nat, q ≤ K + 1 ∧ qv = .int .i64 q ∧ Hid (wr.ownsRow w.heap.size 23 2 lv (LL (q * (2 * K + 1))).length (flat2 (LL (q * (2 * K + 1))))) ∧ Hid (Below w.heap.size w wr)) (fun _ qv _ => K + 1 - (intOf qv).toNat)
    case atStart =>
      refine ⟨0, Nat.zero_le _, rfl, ?_, Below.refl _ _⟩
      rw [Nat.zero_mul, unhide hzr]
      exact World.ownsRow_nil _ _ _ _
    case round =>
      obtain ⟨q, hq, rfl, hO, hBr⟩ := hrel
      by_cases hqK : q ≤ K
      · have q1 : ((q : Int) ≤ (K : Int)) = True := by simp; omega
        go_wp2_with fail
        go_loopw [4, 6] (fun lv pv wr => ∃ p : Nat, p ≤ 2 * K + 1 ∧ pv = .int .i64 ((p : Int) - (K : Int)) ∧ Hid (wr.ownsRow w.heap.size 23 2 lv (LL (q * (2 * K + 1) + p)).length (flat2 (LL (q * (2 * K + 1) + p)))) ∧ Hid (Below w.heap.size w wr)) (fun _ pv _ => 2 * K + 1 - (intOf pv + K).toNat)
        case atStart => exact ⟨0, Nat.zero_le _, by go_num, hO, hBr⟩
        case round =>
          clear hO hBr
          obtain ⟨p, hp, rfl, hO, hBr⟩ := hrel
          by_cases hpK : p < 2 * K + 1
          · have q2 : ((p : Int) - (K : Int) ≤ (K : Int)) = True := by simp; omega
            have hc := unhide hcd q p hpK
            have hY := hide (unhide hyes (q * (2 * K + 1) + p))
            have hN := hide (unhide hno (q * (2 * K + 1) + p))
            rw [hc] at hY hN
            have hlen := unhide hln (q * (2 * K + 1) + p)
            have hok1 := hide (unhide hok (q * (2 * K + 1) + p))
            have hqp : q * (2 * K + 1) + p ≤ 600 := by
              have := Nat.mul_le_mul (show q ≤ 16 by omega) (show 2 * K + 1 ≤ 33 by omega)
              omega
            dsimp only at hY hN
            generalize hX : (p : Int) - (K : Int) = X at *
            have k1 := hide (unhide ck X q (by unfold I64; omega) (by unfold I64; omega))
            have d64 : Hid (Dir64 (X, (q : Int))) := ⟨by unfold I64; dsimp only; omega, by unfold I64; dsimp only; omega⟩
            generalize hj : q * (2 * K + 1) + p = j at *
            have hj1 : Hid (q * (2 * K + 1) + (p + 1) = j + 1) := by
              show _ = _
              omega
            clear hc hcd hyes hno hzr hln hok ck
            unfold dirV at k1
            dsimp only at k1
            by_cases c3 : okD X q = true
            · have hL := hide (unhide hY c3)
              have e3 : checkS X q = 0 := checkS_ok c3
              rw [e3] at k1
              clear e3 hY hN
              go_wp2_with fail
              refine (unhide k1 _).mono ?_
              rintro e w1 ⟨rfl, hb1⟩
              have hbs : w.heap.size ≤ wr.heap.size := (unhide hBr).size
              have hown := hide (owns_below ((unhide hO).alloc _) hb1)
              have hB2 : Hid (Below w.heap.size w w1) := ((unhide hBr).alloc hbs _).trans (hb1.mono (by simp; omega))
              obtain ⟨x1, x2⟩ := two_cells _ _ _ _ (hb1.mono (by simp))
              have hbs1 : w.heap.size ≤ w1.heap.size := (unhide hB2).size
              clear hb1 hO hBr k1 hbs
              go_wp2_with (first
                | (at_builtin; refine wpList_append_own _ rfl (.tmp 33) (.tmp 35) 32 rfl w.heap.size 23 i0 (.agg #[.int .i64 0, .int .i64 0]) 2 16 Try.underlying32 hi0 hz0 hz1 hz2 rfl (by decide) _ _ _ rfl ((unhide hown).alloc _) ⟨w1.heap.size, 0, none⟩ 1 1 [.int .i64 X, .int .i64 q] rfl rfl (news_two _ _ _ _) ?c2 ?c3 ?c4 ?c5 ?_))
              case c2 => intro u hu; simp at hu; rcases hu with rfl | rfl <;> rfl
              case c3 => unfold maxLen; omega
              case c4 => omega
              case c5 => simp; omega
              intro v' w2 hown' hgrow _
              have hB3 : Hid (Below w.heap.size w w2) := ((unhide hB2).alloc hbs1 _).grown hgrow (by simp; omega) (fun k hk => ((unhide hown).lt k hk).1)
              obtain ⟨g, cap, rfl, hg1, hg2⟩ := hown'.form (by omega)
              have hO2 : Hid (w2.ownsRow w.heap.size 23 2 (.slice (some ⟨g, 0, none⟩) ((LL j).length + 1) cap) ((LL j).length + 1) (flat2 (LL j ++ (X, (q : Int)) :: []))) := by
                rw [flat2_snoc]
                exact hown'
              clear hown' hgrow hB2 hown x1 x2 hg2
              generalize hNN : (LL j).length + 1 = N at *
              have hN1 : Hid ((LL j).length + 1 = N) := hNN
              have hN2 : ((LL j).length : Int) = (N : Int) - 1 := by omega
              have hN6 : N ≤ 601 := by omega
              have hN7 : 1 ≤ N := by omega
              clear hNN
              go_wp2_with fail
              go_loopw [8] (fun iv wr2 => ∃ (L R : List (Int × Int)), iv = .int .i64 ((L.length : Nat) : Int) ∧ Hid (L.length + R.length + 1 = N) ∧ Hid (putIn (X, (q : Int)) L R = LL (j + 1)) ∧ Hid (∀ x ∈ L ++ R, okD x.1 x.2 = true) ∧ Hid (wr2.ownsRow w.heap.size 23 2 (.slice (some ⟨g, 0, none⟩) N cap) N (flat2 (L ++ (X, (q : Int)) :: R))) ∧ Hid (Below w.heap.size w wr2)) (fun iv _ => (intOf iv).toNat)
              case atStart =>
                exact ⟨LL j, [], by rw [hN2], unhide hN1, (unhide hL).symm, fun x hx => unhide hok1 x (by simpa using hx), hO2, hB3⟩
              case round =>
                clear hO2 hB3 hN2 hN1 hok1 hL
                obtain ⟨L, R, rfl, hLR, hput, hoks, hO, hBr⟩ := hrel
                rcases List.eq_nil_or_concat L with rfl | ⟨L', a, rfl⟩
                · have hO3 : Hid (wr.ownsRow w.heap.size 23 2 (.slice (some ⟨g, 0, none⟩) N cap) (LL (q * (2 * K + 1) + (p + 1))).length (flat2 (LL (q * (2 * K + 1) + (p + 1))))) := by
                    have h1 : (LL (j + 1)).length = N := by
                      rw [← unhide hput, putIn_nil]
                      have := unhide hLR
                      simp at this ⊢
                      omega
                    rw [unhide hj1, h1, ← unhide hput, putIn_nil]
                    exact unhide hO
                  clear hO hput hLR hoks
                  simp only [List.length_nil, Int.natCast_zero]
                  go_wp2_with fail
                  go_quiet (fail)
                  go_wp2_with fail
                  have hb := unhide hBr
                  exact ⟨⟨p + 1, by omega, by subst hX; go_num, hO3, ⟨hb.os, hb.tape, hb.output, hb.size, hb.block⟩⟩, by simp [intOf]; omega⟩
                · rw [List.concat_eq_append] at *
                  obtain ⟨a1, a2⟩ := a
                  have hoka := unhide hoks (a1, a2) (by simp)
                  have ha64 : Dir64 (a1, a2) := by
                    have := okD_bounds hoka
                    exact ⟨by unfold I64; dsimp only at *; omega, by unfold I64; dsimp only at *; omega⟩
                  have kc := hide (unhide cm _ _ (unhide d64) ha64)
                  have hsw := hide (flat2_swap L' R (a1, a2) (X, (q : Int)))
                  have hO' : wr.ownsRow w.heap.size 23 2 (.slice (some ⟨g, 0, none⟩) N cap) N (flat2 (L' ++ (a1, a2) :: (X, (q : Int)) :: R)) := by simpa using unhide hO
                  have hon := hide (fun h => putIn_on (d := (X, (q : Int))) (a := (a1, a2)) (L := L') (R := R) h)
                  have hst := hide (fun h => putIn_stop (d := (X, (q : Int))) (a := (a1, a2)) (L := L') (R := R) h)
                  have hil : (L' ++ [(a1, a2)]).length = L'.length + 1 := by simp
                  have hge : (L' ++ (a1, a2) :: (X, (q : Int)) :: R)[L'.length]? = some (a1, a2) := by simp
                  have hge' : (L' ++ (a1, a2) :: (X, (q : Int)) :: R)[L'.length + 1]? = some (X, (q : Int)) := by simp
                  obtain ⟨f1, f2⟩ := flat2_get hge
                  obtain ⟨f3, f4⟩ := flat2_get hge'
                  have hmN : L'.length + 2 ≤ N := by
                    have := unhide hLR
                    simp at this
                    omega
                  rw [hil] at hLR ⊢
                  have hgl : Hid (g < wr.heap.size) := by
                    obtain ⟨g', cap', e1, _, e3⟩ := hO'.form (by omega)
                    simp at e1
                    show _ < _
                    omega
                  generalize hm : L'.length = m at *
                  have hm0 : Hid (L'.length = m) := hm
                  obtain ⟨i, hi⟩ : ∃ i, i = m + 1 := ⟨_, rfl⟩
                  rw [← hi] at f3 f4 hLR ⊢
                  have c1 : wr.cell? ⟨g, i * 2, none⟩ = some (.int .i64 X) := (hO'.cellAt _ (by omega)).trans f3
                  have c2 : wr.cell? ⟨g, i * 2 + 1, none⟩ = some (.int .i64 q) := (hO'.cellAt _ (by omega)).trans f4
                  have c3 : wr.cell? ⟨g, m * 2, none⟩ = some (.int .i64 a1) := (hO'.cellAt _ (by omega)).trans f1
                  have c4 : wr.cell? ⟨g, m * 2 + 1, none⟩ = some (.int .i64 a2) := (hO'.cellAt _ (by omega)).trans f2
                  have hi0' : (0 < (i : Int)) = True := by simp; omega
                  have hi1' : (0 < i) = True := by simp; omega
                  have hw : IntKind.i64.wrap ((i : Int) - 1) = (m : Int) := by rw [IntKind.wrap_i64]; omega
                  have hi2' : (0 : Int) ≤ (i : Int) := by omega
                  have hi3' : (i : Int) < (N : Int) := by omega
                  have hi4' : (0 : Int) ≤ (m : Int) := by omega
                  have hi5' : (m : Int) < (N : Int) := by omega
                  have fct : Hid (∀ w8 : World, Below wr.heap.size wr w8 → w8.cell? ⟨g, i * 2, none⟩ = some (.int .i64 X) ∧ w8.cell? ⟨g, i * 2 + 1, none⟩ = some (.int .i64 q) ∧ w8.cell? ⟨g, m * 2, none⟩ = some (.int .i64 a1) ∧ w8.cell? ⟨g, m * 2 + 1, none⟩ = some (.int .i64 a2)) :=
                    fun w8 h => ⟨(h.cell (p := ⟨g, i * 2, none⟩) (unhide hgl)).trans c1, (h.cell (p := ⟨g, i * 2 + 1, none⟩) (unhide hgl)).trans c2, (h.cell (p := ⟨g, m * 2, none⟩) (unhide hgl)).trans c3, (h.cell (p := ⟨g, m * 2 + 1, none⟩) (unhide hgl)).trans c4⟩
                  have hO2 := hide hO'
                  have hi2 := hide hi
                  have hiN : i < N := by omega
                  have hmN2 : m < N := by omega
                  unfold dirV at kc
                  dsimp only at kc
                  generalize cmpS (X, (q : Int)) (a1, a2) = cc at *
                  clear hO' hO hi hil hge hge' f1 f2 f3 f4 hm hoka ha64
                  by_cases h5 : cc < 0
                  · have q5 : (cc < 0) = True := by simp; omega
                    have hput2 := hide ((unhide hon h5).symm.trans (unhide hput))
                    clear hon hst h5 hput cm
                    go_wp2_with fail
                    go_region_held3 (fun w8 => w8.cell? ⟨g, i * 2, none⟩ = some (.int .i64 X) ∧ w8.cell? ⟨g, i * 2 + 1, none⟩ = some (.int .i64 q) ∧ w8.cell? ⟨g, m * 2, none⟩ = some (.int .i64 a1) ∧ w8.cell? ⟨g, m * 2 + 1, none⟩ = some (.int .i64 a2))
                      (first | exact unhide fct _ (unhide hv1) | go_keep)
                      (first
                      | (go_at_call 17; with_reducible refine (unhide kc _).mono ?_; rintro e v1 ⟨rfl, hx1⟩
                         have hv1 : Hid (Below wr.heap.size wr v1) := ⟨hx1.os, hx1.tape, hx1.output, hx1.size, hx1.block⟩
                         clear hx1))
                    have hB2 : Hid (Below w.heap.size w v1) := (unhide hBr).trans ((unhide hv1).mono (unhide hBr).size)
                    have hO4 := hide (owns_below (unhide hO2) (unhide hv1))
                    obtain ⟨y1, y2, y3, y4⟩ := unhide fct _ (unhide hv1)
                    have z1 : v1.frozen? ⟨g, i * 2, none⟩ = false := (unhide hO4).frozenAt _
                    have z2 : v1.frozen? ⟨g, i * 2 + 1, none⟩ = false := (unhide hO4).frozenAt _
                    have z3 : v1.frozen? ⟨g, m * 2, none⟩ = false := (unhide hO4).frozenAt _
                    have z4 : v1.frozen? ⟨g, m * 2 + 1, none⟩ = false := (unhide hO4).frozenAt _
                    have n1 : (i = m) = False := by simp; have := unhide hi2; omega
                    have n2 : (m = i) = False := by simp; have := unhide hi2; omega
                    have n3 : (i * 2 = m * 2 + 1) = False := by simp; omega
                    have n4 : (m * 2 + 1 = i * 2) = False := by simp; omega
                    have n5 : (i * 2 + 1 = m * 2) = False := by simp; omega
                    have n6 : (m * 2 = i * 2 + 1) = False := by simp; omega
                    have n7 : (i * 2 = m * 2) = False := by simp; have := unhide hi2; omega
                    have n8 : (m * 2 = i * 2) = False := by simp; have := unhide hi2; omega
                    clear fct hO2 hBr hv1 c1 c2 c3 c4 kc
                    go_wp2_with fail
                    go_big_region
                    generalize hW5 : ((((v1.setCell ⟨g, i * 2, none⟩ (Value.int IntKind.i64 a1)).setCell ⟨g, i * 2 + 1, none⟩ (Value.int IntKind.i64 a2)).setCell ⟨g, m * 2, none⟩ (Value.int IntKind.i64 X)).setCell ⟨g, m * 2 + 1, none⟩ (Value.int IntKind.i64 ↑q)).drew = w5
                    have hO5 : Hid (w5.ownsRow w.heap.size 23 2 (.slice (some ⟨g, 0, none⟩) N cap) N (flat2 (L' ++ (X, (q : Int)) :: (a1, a2) :: R))) := by
                      have s4 := ((((unhide hO4).stored (i * 2) (.int .i64 a1)).1.stored (i * 2 + 1) (.int .i64 a2)).1.stored (m * 2) (.int .i64 X)).1.stored (m * 2 + 1) (.int .i64 q)
                      have e := unhide hsw
                      have e2 : m * 2 + 2 = i * 2 := by have := unhide hi2; omega
                      rw [e2] at e
                      rw [← hW5]
                      show World.ownsRow _ _ _ _ _ _ _
                      rw [← e]
                      exact s4.1.drew
                    have hB5 : Hid (Below w.heap.size w w5) := by
                      have hb := ((((unhide hB2).setCell (show _ ≤ (⟨g, i * 2, none⟩ : Addr).block from hg1) (.int .i64 a1)).setCell (show _ ≤ (⟨g, i * 2 + 1, none⟩ : Addr).block from hg1) (.int .i64 a2)).setCell (show _ ≤ (⟨g, m * 2, none⟩ : Addr).block from hg1) (.int .i64 X)).setCell (show _ ≤ (⟨g, m * 2 + 1, none⟩ : Addr).block from hg1) (.int .i64 q)
                      rw [← hW5]
                      exact ⟨hb.os, hb.tape, hb.output, hb.size, hb.block⟩
                    clear hW5 y1 y2 y3 y4 z1 z2 z3 z4 n1 n2 n3 n4 n5 n6 n7 n8 hO4 hB2 hsw
                    go_wp2_with fail
                    refine ⟨⟨L', (a1, a2) :: R, by rw [unhide hm0], ?_, hput2, fun x hx => unhide hoks x (by simp at hx ⊢; exact hx), hO5, hB5⟩, by simp [intOf]; have := unhide hi2; omega⟩
                    show _ = _
                    have := unhide hLR
                    have := unhide hm0
                    have := unhide hi2
                    simp
                    omega
                  · have q5 : (cc < 0) = False := by simp; omega
                    have h0 := hide ((unhide hput).symm.trans (unhide hst h5))
                    clear hon hst h5 hput cm
                    go_wp2_with fail
                    go_region_held3 (fun w8 => w8.cell? ⟨g, i * 2, none⟩ = some (.int .i64 X) ∧ w8.cell? ⟨g, i * 2 + 1, none⟩ = some (.int .i64 q) ∧ w8.cell? ⟨g, m * 2, none⟩ = some (.int .i64 a1) ∧ w8.cell? ⟨g, m * 2 + 1, none⟩ = some (.int .i64 a2))
                      (first | exact unhide fct _ (unhide hv1) | go_keep)
                      (first
                      | (go_at_call 17; with_reducible refine (unhide kc _).mono ?_; rintro e v1 ⟨rfl, hx1⟩
                         have hv1 : Hid (Below wr.heap.size wr v1) := ⟨hx1.os, hx1.tape, hx1.output, hx1.size, hx1.block⟩
                         clear hx1))
                    have hB2 : Hid (Below w.heap.size w v1) := (unhide hBr).trans ((unhide hv1).mono (unhide hBr).size)
                    have hO4 := hide (owns_below (unhide hO2) (unhide hv1))
                    have hO3 : Hid (v1.ownsRow w.heap.size 23 2 (.slice (some ⟨g, 0, none⟩) N cap) (LL (q * (2 * K + 1) + (p + 1))).length (flat2 (LL (q * (2 * K + 1) + (p + 1))))) := by
                      have h1 : (LL (j + 1)).length = N := by
                        rw [unhide h0]
                        have := unhide hLR
                        have := unhide hm0
                        have := unhide hi2
                        simp
                        omega
                      rw [unhide hj1, h1, unhide h0, List.append_assoc]
                      exact unhide hO4
                    clear fct hO2 hBr hv1 c1 c2 c3 c4 kc hO4
                    go_wp2_with fail
                    exact ⟨⟨p + 1, by omega, by subst hX; go_num, hO3, hB2⟩, by simp [intOf]; omega⟩
            · have c4 : okD X q = false := by simpa using c3
              have hL := hide (unhide hN c4)
              have e3 : checkS X q = 60 := checkS_bad c4
              rw [e3] at k1
              clear e3 hY hN c3 c4
              go_wp2_with fail
              refine (unhide k1 _).mono ?_
              rintro e w1 ⟨rfl, hb1⟩
              have hbs : w.heap.size ≤ wr.heap.size := (unhide hBr).size
              have hown := hide (owns_below ((unhide hO).alloc _) hb1)
              have hB2 : Hid (Below w.heap.size w w1) := ((unhide hBr).alloc hbs _).trans (hb1.mono (by simp; omega))
              clear hb1 hO hBr k1 hbs
              have hO3 : Hid (w1.ownsRow w.heap.size 23 2 u4 (LL (q * (2 * K + 1) + (p + 1))).length (flat2 (LL (q * (2 * K + 1) + (p + 1))))) := by
                rw [unhide hj1, unhide hL]
                exact unhide hown
              clear hown cm
              go_wp2_with fail
              exact ⟨⟨p + 1, by omega, by subst hX; go_num, hO3, hB2⟩, by simp [intOf]; omega⟩
          · have q2 : ((p : Int) - (K : Int) ≤ (K : Int)) = False := by simp; omega
            have e : p = 2 * K + 1 := by omega
            rw [e, ← Nat.succ_mul] at hO
            clear hyes hno hcd hln hok
            go_wp2_with fail
            exact ⟨⟨q + 1, by omega, by go_num, hO, hBr⟩, by simp [intOf]; omega⟩
      · have q1 : ((q : Int) ≤ (K : Int)) = False := by simp; omega
        have e : q = K + 1 := by omega
        rw [e] at hO
        clear hyes hno hcd hln hok
        go_wp2_with fail
        go_ret2
        rw [unhide hI]
        exact ⟨_, rfl, unhide hO, unhide hBr⟩
end Go.Proofs.Ytkjjhllmedkfhaa
