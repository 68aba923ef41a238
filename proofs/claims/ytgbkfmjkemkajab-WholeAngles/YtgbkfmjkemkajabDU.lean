/- The second statement's walk: all directions, each once, rising. -/
import Derived.Test.YtgbkfmjkemkajabDT
import Derived.Test.YtgbkfmjkemkajabDSQ
namespace Go.Proofs.Ytgbkfmjkemkajab
open Go.RowKit

theorem genL_mono (k : Nat) {j : Nat} : ∀ m, j ≤ m → (genL k j).length ≤ (genL k m).length
  | 0, h => by
    have : j = 0 := by omega
    subst this
    exact Nat.le_refl _
  | m + 1, h => by
    by_cases c : j = m + 1
    · subst c
      exact Nat.le_refl _
    · have ih := genL_mono k (j := j) m (by omega)
      refine Nat.le_trans ih ?_
      show _ ≤ (if okD (cand k m).1 (cand k m).2 then genL k m ++ [cand k m] else genL k m).length
      split
      · simp
      · exact Nat.le_refl _
theorem genL_some {k : Nat} (h : 1 ≤ k) : 0 < (genL k ((k + 1) * (2 * k + 1))).length := by
  have e : cand k (0 * (2 * k + 1) + (k + 1)) = (1, 0) := by
    rw [cand_at (by omega)]
    refine Prod.ext ?_ rfl
    show ((k + 1 : Nat) : Int) - (k : Int) = 1
    omega
  rw [Nat.zero_mul, Nat.zero_add] at e
  have h1 : genL k (k + 1 + 1) = genL k (k + 1) ++ [cand k (k + 1)] := genL_yes (by rw [e]; exact ok_one)
  have h2 := genL_mono k (j := k + 1 + 1) ((k + 1) * (2 * k + 1)) (by
    have := Nat.mul_le_mul (show 2 ≤ k + 1 by omega) (show k + 1 ≤ 2 * k + 1 by omega)
    omega)
  rw [h1, List.length_append] at h2
  simp at h2
  omega

set_option maxRecDepth 100000 in
set_option maxHeartbeats 6400000 in
theorem dirAll {k : Int} (w : World) :
    Calls Try.prog 5 #[.int .i64 k] w fun e w' =>
      ∃ v, e = .returned (.tuple #[v, .int .i64 (allS k).2]) ∧ w'.ownsRow w.heap.size 31 2 v (allS k).1.length (flat2 (allS k).1) ∧ Below w.heap.size w w' := by
  by_cases c2 : k < 1 ∨ 16 < k
  · have hI : Hid (allS k = ([], 1)) := by
      show _ = _
      unfold allS
      rw [if_pos c2]
    generalize allS k = r at hI ⊢
    have hd : ((k < 1) = True) ∨ ((k < 1) = False ∧ (16 < k) = True) := by
      by_cases d1 : k < 1
      · exact Or.inl (by simp; omega)
      · exact Or.inr ⟨by simp; omega, by simp; omega⟩
    clear c2
    rcases hd with d1 | ⟨d1, d2⟩
    all_goals
      go_enter Try.func5, Try.ntmps5
      go_wp2_with fail
      go_ret2
      rw [unhide hI]
      exact ⟨_, rfl, World.ownsRow_nil _ _ _ _, Below.refl _ _⟩
  · have hI : Hid (allS k = (allL k.toNat ((k.toNat + 1) * (2 * k.toNat + 1)), 0)) := by
      show _ = _
      unfold allS
      rw [if_neg c2]
    generalize allS k = r at hI ⊢
    obtain ⟨K, rfl⟩ : ∃ K : Nat, k = K := ⟨k.toNat, by omega⟩
    rw [Int.toNat_natCast] at hI
    have hK : K ≤ 16 := by omega
    have hK1 : 1 ≤ K := by omega
    have d1 : ((K : Int) < 1) = False := by simp; omega
    have d2 : (16 < (K : Int)) = False := by simp; omega
    have hyes := hide (fun j h => genL_yes (k := K) (j := j) h)
    have hno := hide (fun j h => genL_no (k := K) (j := j) h)
    have hln := hide (genL_len K)
    have hok := hide (genL_ok K)
    have hzr := hide (genL_zero K)
    have hsm := hide (genL_some hK1)
    have hpm := hide (allL_perm K ((K + 1) * (2 * K + 1)))
    have hpw := hide (rises_pair (all_rise K (by omega)) (allL_ok K _))
    have hcd := hide (fun q p h => cand_at (k := K) (q := q) (p := p) h)
    obtain ⟨i0, hi0, hz0, hz1, hz2⟩ := info_parts infoDir
    generalize genL K = LL at *
    generalize allL K ((K + 1) * (2 * K + 1)) = M at *
    clear c2
    go_enter Try.func5, Try.ntmps5
    go_wp2_with fail
    have ck := hide (fun (P Q : Int) (hP : I64 P) (hQ : I64 Q) w => dirCheck hP hQ w)
    go_loopw [4, 16] (fun lv qv wr => ∃ q : Nat, q ≤ K + 1 ∧ qv = .int .i64 q ∧ Hid (wr.ownsRow w.heap.size 31 2 lv (LL (q * (2 * K + 1))).length (flat2 (LL (q * (2 * K + 1))))) ∧ Hid (Below w.heap.size w wr)) (fun _ qv _ => K + 1 - (intOf qv).toNat)
    case atStart =>
      refine ⟨0, Nat.zero_le _, rfl, ?_, Below.refl _ _⟩
      rw [Nat.zero_mul, unhide hzr]
      exact World.ownsRow_nil _ _ _ _
    case round =>
      obtain ⟨q, hq, rfl, hO, hBr⟩ := hrel
      by_cases hqK : q ≤ K
      · have q1 : ((q : Int) < (K : Int) + 1) = True := by simp; omega
        clear hsm hpm hpw
        go_wp2_with fail
        go_loopw [4, 6] (fun lv pv wr => ∃ p : Nat, p ≤ 2 * K + 1 ∧ pv = .int .i64 ((p : Int) - (K : Int)) ∧ Hid (wr.ownsRow w.heap.size 31 2 lv (LL (q * (2 * K + 1) + p)).length (flat2 (LL (q * (2 * K + 1) + p)))) ∧ Hid (Below w.heap.size w wr)) (fun _ pv _ => 2 * K + 1 - (intOf pv + K).toNat)
        case atStart => exact ⟨0, Nat.zero_le _, by go_num, hO, hBr⟩
        case round =>
          clear hO hBr
          obtain ⟨p, hp, rfl, hO, hBr⟩ := hrel
          by_cases hpK : p < 2 * K + 1
          · have q2 : ((p : Int) - (K : Int) ≤ (K : Int)) = True := by simp; omega
            have hc := unhide hcd q p hpK
            have hY := hide (unhide hyes (q * (2 * K + 1) + p))
            have hN := hide (unhide hno (q * (2 * K + 1) + p))
            rw [hc] at hY hN
            have hlen := unhide hln (q * (2 * K + 1) + p)
            have hqp : q * (2 * K + 1) + p ≤ 600 := by
              have := Nat.mul_le_mul (show q ≤ 16 by omega) (show 2 * K + 1 ≤ 33 by omega)
              omega
            dsimp only at hY hN
            generalize hX : (p : Int) - (K : Int) = X at *
            have k1 := hide (unhide ck X q (by unfold I64; omega) (by unfold I64; omega))
            generalize hj : q * (2 * K + 1) + p = j at *
            have hj1 : Hid (q * (2 * K + 1) + (p + 1) = j + 1) := by
              show _ = _
              omega
            clear hc hcd hyes hno hzr hln hok ck
            unfold dirV at k1
            dsimp only at k1
            by_cases c3 : okD X q = true
            · have hL := hide (unhide hY c3)
              have e3 : checkS X q = 0 := checkS_ok c3
              rw [e3] at k1
              clear e3 hY hN
              go_wp2_with fail
              refine (unhide k1 _).mono ?_
              rintro e w1 ⟨rfl, hb1⟩
              have hbs : w.heap.size ≤ wr.heap.size := (unhide hBr).size
              have hown := hide (owns_below ((unhide hO).alloc _) hb1)
              have hB2 : Hid (Below w.heap.size w w1) := ((unhide hBr).alloc hbs _).trans (hb1.mono (by simp; omega))
              obtain ⟨x1, x2⟩ := two_cells _ _ _ _ (hb1.mono (by simp))
              have hbs1 : w.heap.size ≤ w1.heap.size := (unhide hB2).size
              clear hb1 hO hBr k1 hbs
              go_wp2_with (first
                | (at_builtin; refine wpList_append_own _ rfl (.tmp 32) (.tmp 34) 23 rfl w.heap.size 31 i0 (.agg #[.int .i64 0, .int .i64 0]) 2 16 Try.underlying23 hi0 hz0 hz1 hz2 rfl (by decide) _ _ _ rfl ((unhide hown).alloc _) ⟨w1.heap.size, 0, none⟩ 1 1 [.int .i64 X, .int .i64 q] rfl rfl (news_two _ _ _ _) ?c2 ?c3 ?c4 ?c5 ?_))
              case c2 => intro u hu; simp at hu; rcases hu with rfl | rfl <;> rfl
              case c3 => unfold maxLen; omega
              case c4 => omega
              case c5 => simp; omega
              intro v' w2 hown' hgrow _
              have hB3 : Hid (Below w.heap.size w w2) := ((unhide hB2).alloc hbs1 _).grown hgrow (by simp; omega) (fun k hk => ((unhide hown).lt k hk).1)
              have hO2 : Hid (w2.ownsRow w.heap.size 31 2 v' (LL (q * (2 * K + 1) + (p + 1))).length (flat2 (LL (q * (2 * K + 1) + (p + 1))))) := by
                rw [unhide hj1, unhide hL, flat2_snoc, List.length_append]
                exact hown'
              clear hown' hgrow hB2 hown x1 x2 hL
              go_wp2_with fail
              exact ⟨⟨p + 1, hpK, by go_num, hO2, hB3⟩, by simp [intOf]; omega⟩
            · have c3' : okD X q = false := by
                cases h : okD X q
                · rfl
                · exact absurd h c3
              have hL := hide (unhide hN c3')
              rw [checkS_bad c3'] at k1
              clear hY hN c3 c3'
              go_wp2_with fail
              refine (unhide k1 _).mono ?_
              rintro e w1 ⟨rfl, hb1⟩
              have hbs : w.heap.size ≤ wr.heap.size := (unhide hBr).size
              have hO2 : Hid (w1.ownsRow w.heap.size 31 2 u4 (LL (q * (2 * K + 1) + (p + 1))).length (flat2 (LL (q * (2 * K + 1) + (p + 1))))) := by
                rw [unhide hj1, unhide hL]
                exact owns_below ((unhide hO).alloc _) hb1
              have hB2 : Hid (Below w.heap.size w w1) := ((unhide hBr).alloc hbs _).trans (hb1.mono (by simp; omega))
              clear hb1 hO hBr k1 hbs hL
              go_wp2_with fail
              exact ⟨⟨p + 1, hpK, by go_num, hO2, hB2⟩, by simp [intOf]; omega⟩
          · have q2 : ((p : Int) - (K : Int) ≤ (K : Int)) = False := by simp; omega
            have e : p = 2 * K + 1 := by omega
            rw [e, ← Nat.succ_mul] at hO
            clear hcd hyes hno hzr hln hok ck
            go_wp2_with fail
            exact ⟨⟨q + 1, by omega, by go_num, hO, hBr⟩, by simp [intOf]; omega⟩
      · have q1 : ((q : Int) < (K : Int) + 1) = False := by simp; omega
        have e : q = K + 1 := by omega
        rw [e] at hO
        have hl1 : (LL ((K + 1) * (2 * K + 1))).length ≤ 600 := by
          have := unhide hln ((K + 1) * (2 * K + 1))
          have := Nat.mul_le_mul (show K + 1 ≤ 17 by omega) (show 2 * K + 1 ≤ 33 by omega)
          omega
        obtain ⟨g, cap, ev, hg1, hg2⟩ := (unhide hO).form (by have := unhide hsm; omega)
        rw [ev] at hO ⊢
        have kS := hide (sortAny (unhide hok ((K + 1) * (2 * K + 1))) (by omega) (unhide hO) (unhide hpm) (unhide hpw))
        have hg1 := hide hg1
        clear hcd hyes hno hzr hln hok ck hsm hpm hpw ev hg2 hO
        generalize (LL ((K + 1) * (2 * K + 1))).length = N at *
        go_wp2_with fail
        with_reducible refine (unhide kS).mono ?_
        rintro e w2 ⟨rfl, hO2, hgr⟩
        have hB2 : Hid (Below w.heap.size w w2) := (unhide hBr).grown hgr (unhide hBr).size (fun k hk => by cases hk; exact unhide hg1)
        have hO2 := hide hO2
        clear hgr kS
        go_wp2_with fail
        go_ret2
        rw [unhide hI]
        exact ⟨_, rfl, unhide hO2, unhide hB2⟩

theorem allS_rise (k : Int) : risesB (allS k).1 = true := by
  unfold allS
  split
  · rfl
  · exact all_rise _ (by omega)
theorem allS_len (k : Int) : (allS k).1.length ≤ 600 := by
  unfold allS
  split
  · simp
  · rename_i h
    have h1 := allL_len k.toNat ((k.toNat + 1) * (2 * k.toNat + 1))
    have := Nat.mul_le_mul (show k.toNat + 1 ≤ 17 by omega) (show 2 * k.toNat + 1 ≤ 33 by omega)
    dsimp only
    omega
theorem allS_ok (k : Int) : ∀ d ∈ (allS k).1, okD d.1 d.2 = true := by
  unfold allS
  split
  · intro d h; simp at h
  · exact allL_ok _ _

end Go.Proofs.Ytgbkfmjkemkajab
