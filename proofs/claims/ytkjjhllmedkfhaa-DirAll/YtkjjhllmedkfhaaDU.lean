/- The second statement's walk: all directions, each once, rising. -/
import Derived.Test.YtkjjhllmedkfhaaDT
import Derived.Test.YtkjjhllmedkfhaaDSQ
namespace Go.Proofs.Ytkjjhllmedkfhaa
open Go.RowKit

theorem genL_mono (k : Nat) {j : Nat} : ∀ m, j ≤ m → (genL k j).length ≤ (genL k m).length
  | 0, h => by
    have : j = 0 := by omega
    subst this
    exact Nat.le_refl _
  | m + 1, h => by
    by_cases c : j = m + 1
    · subst c
      exact Nat.le_refl _
    · have ih := genL_mono k (j := j) m (by omega)
      refine Nat.le_trans ih ?_
      show _ ≤ (if okD (cand k m).1 (cand k m).2 then genL k m ++ [cand k m] else genL k m).length
      split
      · simp
      · exact Nat.le_refl _
theorem genL_some {k : Nat} (h : 1 ≤ k) : 0 < (genL k ((k + 1) * (2 * k + 1))).length := by
  have e : cand k (0 * (2 * k + 1) + (k + 1)) = (1, 0) := by
    rw [cand_at (by omega)]
    refine Prod.ext ?_ rfl
    show ((k + 1 : Nat) : Int) - (k : Int) = 1
    omega
  rw [Nat.zero_mul, Nat.zero_add] at e
  have h1 : genL k (k + 1 + 1) = genL k (k + 1) ++ [cand k (k + 1)] := genL_yes (by rw [e]; exact ok_one)
  have h2 := genL_mono k (j := k + 1 + 1) ((k + 1) * (2 * k + 1)) (by
    have := Nat.mul_le_mul (show 2 ≤ k + 1 by omega) (show k + 1 ≤ 2 * k + 1 by omega)
    omega)
  rw [h1, List.length_append] at h2
  simp at h2
  omega

set_option maxHeartbeats 6400000 in
theorem dirAll {k : Int} (w : World) :
    Calls Try.prog 18 #[.int .i64 k] w fun e w' =>
      ∃ v, e = .returned (.tuple #[v, .int .i64 (allS k).2]) ∧ w'.ownsRow w.heap.size 23 2 v (allS k).1.length (flat2 (allS k).1) ∧ Below w.heap.size w w' := by
  by_cases c2 : k < 1 ∨ 16 < k
  · have hI : Hid (allS k = ([], 1)) := by
      show _ = _
      unfold allS
      rw [if_pos c2]
    generalize allS k = r at hI ⊢
    have hd : ((k < 1) = True) ∨ ((k < 1) = False ∧ (16 < k) = True) := by
      by_cases d1 : k < 1
      · exact Or.inl (by simp; omega)
      · exact Or.inr ⟨by simp; omega, by simp; omega⟩
    clear c2
    rcases hd with d1 | ⟨d1, d2⟩
    all_goals
      go_enter Try.func18, Try.ntmps18
      go_wp2_with fail
      go_ret2
      rw [unhide hI]
      exact ⟨_, rfl, World.ownsRow_nil _ _ _ _, Below.refl _ _⟩
  · have hI : Hid (allS k = (allL k.toNat ((k.toNat + 1) * (2 * k.toNat + 1)), 0)) := by
      show _ = _
      unfold allS
      rw [if_neg c2]
    generalize allS k = r at hI ⊢
    obtain ⟨K, rfl⟩ : ∃ K : Nat, k = K := ⟨k.toNat, by omega⟩
    rw [Int.toNat_natCast] at hI
    have hK : K ≤ 16 := by omega
    have hK1 : 1 ≤ K := by omega
    have d1 : ((K : Int) < 1) = False := by simp; omega
    have d2 : (16 < (K : Int)) = False := by simp; omega
    have hyes := hide (fun j h => genL_yes (k := K) (j := j) h)
    have hno := hide (fun j h => genL_no (k := K) (j := j) h)
    have hln := hide (genL_len K)
    have hok := hide (genL_ok K)
    have hzr := hide (genL_zero K)
    have hsm := hide (genL_some hK1)
    have hpm := hide (allL_perm K ((K + 1) * (2 * K + 1)))
    have hpw := hide (rises_pair (all_rise K (by omega)) (allL_ok K _))
    have hcd := hide (fun q p h => cand_at (k := K) (q := q) (p := p) h)
    obtain ⟨i0, hi0, hz0, hz1, hz2⟩ := info_parts infoDir
    generalize genL K = LL at *
    generalize allL K ((K + 1) * (2 * K + 1)) = M at *
    clear c2
    go_enter Try.func18, Try.ntmps18
    go_wp2_with fail
    have ck := hide (fun (P Q : Int) (hP : I64 P) (hQ : I64 Q) w => dirCheck hP hQ w)
    go_loopw [4, 16] (fun lv qv wr => ∃ q : Nat, q ≤ K + 1 ∧ qv = .int .i64 q ∧ Hid (wr.ownsRow w.heap.size 23 2 lv (LL (q * (2 * K + 1))).length (flat2 (LL (q * (2 * K + 1))))) ∧ Hid (Below w.heap.size w wr)) (fun _ qv _ => K + 1 - (intOf qv).toNat)
    case atStart =>
      refine ⟨0, Nat.zero_le _, rfl, ?_, Below.refl _ _⟩
      rw [Nat.zero_mul, unhide hzr]
      exact World.ownsRow_nil _ _ _ _
    case round =>
      obtain ⟨q, hq, rfl, hO, hBr⟩ := hrel
      by_cases hqK : q ≤ K
      · have q1 : ((q : Int) < (K : Int) + 1) = True := by simp; omega
        clear hsm hpm hpw
        go_wp2_with fail
        go_loopw [4, 6] (fun lv pv wr => ∃ p : Nat, p ≤ 2 * K + 1 ∧ pv = .int .i64 ((p : Int) - (K : Int)) ∧ Hid (wr.ownsRow w.heap.size 23 2 lv (LL (q * (2 * K + 1) + p)).length (flat2 (LL (q * (2 * K + 1) + p)))) ∧ Hid (Below w.heap.size w wr)) (fun _ pv _ => 2 * K + 1 - (intOf pv + K).toNat)
        case atStart => exact ⟨0, Nat.zero_le _, by go_num, hO, hBr⟩
        case round =>
          clear hO hBr
          obtain ⟨p, hp, rfl, hO, hBr⟩ := hrel
          by_cases hpK : p < 2 * K + 1
          · have q2 : ((p : Int) - (K : Int) ≤ (K : Int)) = True := by simp; omega
            have hc := unhide hcd q p hpK
            have hY := hide (unhide hyes (q * (2 * K + 1) + p))
            have hN := hide (unhide hno (q * (2 * K + 1) + p))
            rw [hc] at hY hN
            have hlen := unhide hln (q * (2 * K + 1) + p)
            have hqp : q * (2 * K + 1) + p ≤ 600 := by
              have := Nat.mul_le_mul (show q ≤ 16 by omega) (show 2 * K + 1 ≤ 33 by omega)
              omega
            dsimp only at hY hN
            generalize hX : (p : Int) - (K : Int) = X at *
            have k1 := hide (unhide ck X q (by unfold I64; omega) (by unfold I64; omega))
            generalize hj : q * (2 * K + 1) + p = j at *
            have hj1 : Hid (q * (2 * K + 1) + (p + 1) = j + 1) := by
              show _ = _
              omega
            clear hc hcd hyes hno hzr hln hok ck
            unfold dirV at k1
            dsimp only at k1
            by_cases c3 : okD X q = true
            · have hL := hide (unhide hY c3)
              have e3 : checkS X q = 0 := checkS_ok c3
              rw [e3] at k1
              clear e3 hY hN
              go_wp2_with fail
              refine (unhide k1 _).mono ?_
              rintro e w1 ⟨rfl, hb1⟩
              have hbs : w.heap.size ≤ wr.heap.size := (unhide hBr).size
              have hown := hide (owns_below ((unhide hO).alloc _) hb1)
              have hB2 : Hid (Below w.heap.size w w1) := ((unhide hBr).alloc hbs _).trans (hb1.mono (by simp; omega))
              obtain ⟨x1, x2⟩ := two_cells _ _ _ _ (hb1.mono (by simp))
              have hbs1 : w.heap.size ≤ w1.heap.size := (unhide hB2).size
              clear hb1 hO hBr k1 hbs
              go_wp2_with (first
                | (at_builtin; refine wpList_append_own _ rfl (.tmp 32) (.tmp 34) 32 rfl w.heap.size 23 i0 (.agg #[.int .i64 0, .int .i64 0]) 2 16 Try.underlying32 hi0 hz0 hz1 hz2 rfl (by decide) _ _ _ rfl ((unhide hown).alloc _) ⟨w1.heap.size, 0, none⟩ 1 1 [.int .i64 X, .int .i64 q] rfl rfl (news_two _ _ _ _) ?c2 ?c3 ?c4 ?c5 ?_))
              case c2 => intro u hu; simp at hu; rcases hu with rfl | rfl <;> rfl
              case c3 => unfold maxLen; omega
              case c4 => omega
              case c5 => simp; omega
              intro v' w2 hown' hgrow _
              have hB3 : Hid (Below w.heap.size w w2) := ((unhide hB2).alloc hbs1 _).grown hgrow (by simp; omega) (fun k hk => ((unhide hown).lt k hk).1)
              have hO2 : Hid (w2.ownsRow w.heap.size 23 2 v' (LL (q * (2 * K + 1) + (p + 1))).length (flat2 (LL (q * (2 * K + 1) + (p + 1))))) := by
                rw [unhide hj1, unhide hL, flat2_snoc, List.length_append]
                exact hown'
              clear hown' hgrow hB2 hown x1 x2 hL
              go_wp2_with fail
              exact ⟨⟨p + 1, hpK, by go_num, hO2, hB3⟩, by simp [intOf]; omega⟩
            · have c3' : okD X q = false := by
                cases h : okD X q
                · rfl
                · exact absurd h c3
              have hL := hide (unhide hN c3')
              rw [checkS_bad c3'] at k1
              clear hY hN c3 c3'
              go_wp2_with fail
              refine (unhide k1 _).mono ?_
              rintro e w1 ⟨rfl, hb1⟩
              have hbs : w.heap.size ≤ wr.heap.size := (unhide hBr).size
              have hO2 : Hid (w1.ownsRow w.heap.size 23 2 u4 (LL (q * (2 * K + 1) + (p + 1))).length (flat2 (LL (q * (2 * K + 1) + (p + 1))))) := by
                rw [unhide hj1, unhide hL]
                exact owns_below ((unhide hO).alloc _) hb1
              have hB2 : Hid (Below w.heap.size w w1) := ((unhide hBr).alloc hbs _).trans (hb1.mono (by simp; omega))
              clear hb1 hO hBr k1 hbs hL
              go_wp2_with fail
              exact ⟨⟨p + 1, hpK, by go_num, hO2, hB2⟩, by simp [intOf]; omega⟩
          · have q2 : ((p : Int) - (K : Int) ≤ (K : Int)) = False := by simp; omega
            have e : p = 2 * K + 1 := by omega
            rw [e, ← Nat.succ_mul] at hO
            clear hcd hyes hno hzr hln hok ck
            go_wp2_with fail
            exact ⟨⟨q + 1, by omega, by go_num, hO, hBr⟩, by simp [intOf]; omega⟩
      · have q1 : ((q : Int) < (K : Int) + 1) = False := by simp; omega
        have e : q = K + 1 := by omega
        rw [e] at hO
        have hl1 : (LL ((K + 1) * (2 * K + 1))).length ≤ 600 := by
          have := unhide hln ((K + 1) * (2 * K + 1))
          have := Nat.mul_le_mul (show K + 1 ≤ 17 by omega) (show 2 * K + 1 ≤ 33 by omega)
          omega
        obtain ⟨g, cap, ev, hg1, hg2⟩ := (unhide hO).form (by have := unhide hsm; omega)
        rw [ev] at hO ⊢
        have kS := hide (sortAny (unhide hok ((K + 1) * (2 * K + 1))) (by omega) (unhide hO) (unhide hpm) (unhide hpw))
        have hg1 := hide hg1
        clear hcd hyes hno hzr hln hok ck hsm hpm hpw ev hg2 hO
        generalize (LL ((K + 1) * (2 * K + 1))).length = N at *
        go_wp2_with fail
        with_reducible refine (unhide kS).mono ?_
        rintro e w2 ⟨rfl, hO2, hgr⟩
        have hB2 : Hid (Below w.heap.size w w2) := (unhide hBr).grown hgr (unhide hBr).size (fun k hk => by cases hk; exact unhide hg1)
        have hO2 := hide hO2
        clear hgr kS
        go_wp2_with fail
        go_ret2
        rw [unhide hI]
        exact ⟨_, rfl, unhide hO2, unhide hB2⟩

theorem allS_rise (k : Int) : risesB (allS k).1 = true := by
  unfold allS
  split
  · rfl
  · exact all_rise _ (by omega)
theorem allS_len (k : Int) : (allS k).1.length ≤ 600 := by
  unfold allS
  split
  · simp
  · rename_i h
    have h1 := allL_len k.toNat ((k.toNat + 1) * (2 * k.toNat + 1))
    have := Nat.mul_le_mul (show k.toNat + 1 ≤ 17 by omega) (show 2 * k.toNat + 1 ≤ 33 by omega)
    dsimp only
    omega
theorem allS_ok (k : Int) : ∀ d ∈ (allS k).1, okD d.1 d.2 = true := by
  unfold allS
  split
  · intro d h; simp at h
  · exact allL_ok _ _

set_option maxHeartbeats 6400000 in
theorem allWalk {k : Int} (w : World) :
    Calls Try.prog 4 #[.int .i64 k] w fun e w' => e = .returned (.bool true) ∧ Below w.heap.size w w' := by
  have kA := hide (fun w => dirAll (k := k) w)
  have kR := hide (fun w => allAny (k := k) w)
  have hri := hide (allS_rise k)
  have hln := allS_len k
  have hok := hide (allS_ok k)
  generalize allS k = r at kA kR hri hln hok
  obtain ⟨L, er⟩ := r
  dsimp only at kA kR hri hln hok
  have sm := hide (fun (a b : Option Addr) (ca cb g o g' o' : Nat) (w' : World) (h1 : Dirs w' a g o L) (h2 : Dirs w' b g' o' L) => sameAny (ca := ca) (cb := cb) (by omega) w' h1 h2)
  have cm := hide (fun (a b : Int × Int) (ha : Dir64 a) (hb : Dir64 b) w => dirCmp ha hb w)
  go_enter Try.func4, Try.ntmps4
  go_wp2_with fail
  refine (aliveAny _).mono ?_
  rintro e w1 ⟨rfl, hb1⟩
  have hB1 := hide hb1
  clear hb1
  go_wp2_with fail
  refine (unhide kA _).mono ?_
  rintro e w2 ⟨v, rfl, hO, hb2⟩
  have hO2 := hide hO
  have hB2 := hide (below_on (unhide hB1) hb2)
  clear hO hb2
  go_wp2_with fail
  refine (unhide kR _).mono ?_
  rintro e w3 ⟨u, rfl, hO, hb3⟩
  have hO3 := hide (owns_below (unhide hO2) hb3)
  have hU3 := hide hO
  have hB3 := hide (below_on (unhide hB2) hb3)
  have hlow : Hid (∀ k, v.ownBlock = some k → k < w2.heap.size) := fun k hk => ((unhide hO2).lt k hk).2
  clear hO hb3 hB2 hO2
  obtain ⟨a, ca, g, rfl, hDa⟩ := dirs_owns (unhide hO3)
  obtain ⟨b, cb, g', rfl, hDb⟩ := dirs_owns (unhide hU3)
  have hDa' := hide hDa
  have hDb' := hide hDb
  clear hDa hDb
  go_wp2_with fail
  refine (unhide sm _ _ _ _ _ _ _ _ _ (unhide hDa') (unhide hDb')).mono ?_
  rintro e w4 ⟨rfl, hb4⟩
  have hO4 := hide (owns_below (unhide hO3) hb4)
  have hU4 := hide (owns_below (unhide hU3) hb4)
  have hD4 := hide (dirs_below (unhide hDa') hb4)
  have hB4 := hide (below_on (unhide hB3) hb4)
  have hw2 : Hid (w.heap.size ≤ w1.heap.size) := (unhide hB1).size
  have hat := hide (fun i (hi : i < L.length) => pairs2_get (L := L) hi)
  have hri2 := hide (fun (i : Nat) (x y : Int × Int) (h : L[i]? = some x) (h' : L[i + 1]? = some y) => rises_at (unhide hri) h h')
  have h64 : Hid (∀ (i : Nat) (x : Int × Int), L[i]? = some x → Dir64 x) := fun i x h => by
    have := okD_bounds (unhide hok x (List.mem_of_getElem? h))
    exact ⟨by unfold I64; omega, by unfold I64; omega⟩
  clear hb4 hO3 hU3 hDa' hDb' hB3 hri hok kR hB1
  go_wp2_with fail
  generalize hNN : L.length = N at *
  have hN0 : Hid (L.length = N) := hNN
  clear hNN
  go_loopw [7] (fun iv wr => ∃ i : Nat, i ≤ N ∧ iv = .int .i64 i ∧ Hid (Below w4.heap.size w4 wr)) (fun iv _ => N - (intOf iv).toNat)
  case atStart => exact ⟨0, Nat.zero_le _, rfl, Below.refl _ _⟩
  case round =>
    obtain ⟨i, hi, rfl, hBr⟩ := hrel
    by_cases hc : i < N
    · have qq : ((i : Int) < (N : Int)) = True := by simp; omega
      cases i with
      | zero =>
        simp only [Int.natCast_zero]
        simp only [Int.natCast_zero] at qq
        clear hri2 h64 hat sm cm kA
        go_wp2_with fail
        go_quiet (fail)
        go_wp2_with fail
        have hb := unhide hBr
        exact ⟨⟨1, by omega, by go_num, ⟨hb.os, hb.tape, hb.output, hb.size, hb.block⟩⟩, by simp [intOf]; omega⟩
      | succ m =>
        obtain ⟨p1, p2, e1⟩ := unhide hat m (by omega)
        obtain ⟨r1, r2, e2⟩ := unhide hat (m + 1) hc
        obtain ⟨t1, t2⟩ := unhide hri2 m _ _ e1 e2
        have kc1 := hide (unhide cm _ _ (unhide h64 m _ e1) (unhide h64 _ _ e2))
        have kc2 := hide (unhide cm _ _ (unhide h64 _ _ e2) (unhide h64 m _ e1))
        rw [t1] at kc1
        rw [t2] at kc2
        obtain ⟨ea, la⟩ := (unhide hD4).at_ (by have := unhide hN0; omega)
        have hgl : Hid (g < wr.heap.size) := Nat.lt_of_lt_of_le la (unhide hBr).size
        obtain ⟨i, hi2⟩ : ∃ i, i = m + 1 := ⟨_, rfl⟩
        have c1 := ((unhide hBr).cell (p := ⟨g, 0 + (m + 1) * 2, none⟩) la).trans ((unhide hD4).cell _ _ e2).1
        have c2 := ((unhide hBr).cell (p := ⟨g, 0 + (m + 1) * 2 + 1, none⟩) la).trans ((unhide hD4).cell _ _ e2).2
        have c3 := ((unhide hBr).cell (p := ⟨g, 0 + m * 2, none⟩) la).trans ((unhide hD4).cell _ _ e1).1
        have c4 := ((unhide hBr).cell (p := ⟨g, 0 + m * 2 + 1, none⟩) la).trans ((unhide hD4).cell _ _ e1).2
        dsimp only at c1 c2 c3 c4
        rw [Nat.zero_add] at c1 c2 c3 c4
        rw [← hi2] at c1 c2 hc qq ⊢
        have fct : Hid (∀ w8 : World, Below wr.heap.size wr w8 → w8.cell? ⟨g, i * 2, none⟩ = some (.int .i64 r1) ∧ w8.cell? ⟨g, i * 2 + 1, none⟩ = some (.int .i64 r2) ∧ w8.cell? ⟨g, m * 2, none⟩ = some (.int .i64 p1) ∧ w8.cell? ⟨g, m * 2 + 1, none⟩ = some (.int .i64 p2)) :=
          fun w8 h => ⟨(h.cell (p := ⟨g, i * 2, none⟩) (unhide hgl)).trans c1, (h.cell (p := ⟨g, i * 2 + 1, none⟩) (unhide hgl)).trans c2, (h.cell (p := ⟨g, m * 2, none⟩) (unhide hgl)).trans c3, (h.cell (p := ⟨g, m * 2 + 1, none⟩) (unhide hgl)).trans c4⟩
        have hi0' : (0 < (i : Int)) = True := by simp; omega
        have hi1' : (0 < i) = True := by simp; omega
        have hw : IntKind.i64.wrap ((i : Int) - 1) = (m : Int) := by rw [IntKind.wrap_i64]; omega
        have hi2' : (0 : Int) ≤ (i : Int) := by omega
        have hi3' : (i : Int) < (N : Int) := by omega
        have hi4' : (0 : Int) ≤ (m : Int) := by omega
        have hi5' : (m : Int) < (N : Int) := by omega
        have hmN : m < N := by omega
        have hi3 := hide hi2
        unfold dirV at kc1 kc2
        dsimp only at kc1 kc2
        rw [ea]
        clear e1 e2 t1 t2 hri2 h64 hat sm cm kA hi2 ea la hi
        go_wp2_with fail
        go_region_held3 (fun w8 => w8.cell? ⟨g, i * 2, none⟩ = some (.int .i64 r1) ∧ w8.cell? ⟨g, i * 2 + 1, none⟩ = some (.int .i64 r2) ∧ w8.cell? ⟨g, m * 2, none⟩ = some (.int .i64 p1) ∧ w8.cell? ⟨g, m * 2 + 1, none⟩ = some (.int .i64 p2))
          (first | exact unhide fct _ (unhide hv2) | exact unhide fct _ (unhide hv1) | go_keep)
          (first
          | (go_at_call 16; with_reducible refine (unhide kc1 _).mono ?_; rintro e v1 ⟨rfl, hx1⟩
             have hv1 : Hid (Below wr.heap.size wr v1) := ⟨hx1.os, hx1.tape, hx1.output, hx1.size, hx1.block⟩
             clear hx1)
          | (go_at_call 16; with_reducible refine (unhide kc2 _).mono ?_; rintro e v2 ⟨rfl, hx2⟩
             have hv2 : Hid (Below wr.heap.size wr v2) := (unhide hv1).trans (Below.mono (⟨hx2.os, hx2.tape, hx2.output, hx2.size, hx2.block⟩ : Below v1.heap.size v1 v2) (unhide hv1).size)
             clear hx2))
        have hb := below_on (unhide hBr) (unhide hv2)
        go_wp2_with fail
        exact ⟨⟨i + 1, hc, by go_num, hb⟩, by simp [intOf]; omega⟩
    · have qq : ((i : Int) < (N : Int)) = False := by simp; omega
      have hO5 := hide (owns_below (unhide hO4) (unhide hBr))
      have hU5 := hide (owns_below (unhide hU4) (unhide hBr))
      have hB5 := hide (below_on (unhide hB4) (unhide hBr))
      clear hO4 hU4 hB4 hD4 hBr hat hri2 h64 cm
      go_wp2_with fail
      go_loopw [8] (fun iv wr => ∃ (i : Nat) (xs : List Value), i ≤ N ∧ iv = .int .i64 i ∧ Hid (wr.ownsRow w1.heap.size 23 2 (.slice a N ca) N xs) ∧ Hid (wr.ownsRow w2.heap.size 23 2 (.slice b N cb) N (flat2 L)) ∧ Hid (Below w.heap.size w wr)) (fun iv _ => N - (intOf iv).toNat)
      case atStart => exact ⟨0, _, Nat.zero_le _, rfl, hO5, hU5, hB5⟩
      case round =>
        clear hO5 hU5 hB5 hi hc qq
        obtain ⟨i, xs, hi, rfl, hO, hU, hB⟩ := hrel
        by_cases hc : i < N
        · have qq : ((i : Int) < (N : Int)) = True := by simp; omega
          obtain ⟨g2, cap2, ev, hg1, _⟩ := (unhide hO).form (by omega)
          have el := (unhide hlow)
          rw [ev] at hO el ⊢
          have hg2 := el g2 rfl
          obtain ⟨ea, ec⟩ : a = some ⟨g2, 0, none⟩ ∧ ca = cap2 := by simpa using ev
          subst ea ec
          have hx := (unhide hO).1
          have c1 : wr.cell? ⟨g2, i * 2, none⟩ = some xs[i * 2] := ((unhide hO).cellAt _ (by omega)).trans (List.getElem?_eq_getElem (by omega))
          have c2 : wr.cell? ⟨g2, i * 2 + 1, none⟩ = some xs[i * 2 + 1] := ((unhide hO).cellAt _ (by omega)).trans (List.getElem?_eq_getElem (by omega))
          have z1 : wr.frozen? ⟨g2, i * 2, none⟩ = false := (unhide hO).frozenAt _
          have z2 : wr.frozen? ⟨g2, i * 2 + 1, none⟩ = false := (unhide hO).frozenAt _
          generalize xs[i * 2] = y1 at c1
          generalize xs[i * 2 + 1] = y2 at c2
          have hi2' : (0 : Int) ≤ (i : Int) := by omega
          have hw1 : w.heap.size ≤ g2 := Nat.le_trans (unhide hw2) hg1
          clear sm kA hx ev
          go_wp2_with fail
          have hO6 := hide (((unhide hO).stored (i * 2) (.int .i64 0)).1.stored (i * 2 + 1) (.int .i64 0)).1
          have hU6 := hide (ownsRow_setCell_below (ownsRow_setCell_below (unhide hU) (a := ⟨g2, i * 2, none⟩) hg2 (.int .i64 0)) (a := ⟨g2, i * 2 + 1, none⟩) hg2 (.int .i64 0))
          have hB6 := hide (((unhide hB).setCell (show _ ≤ (⟨g2, i * 2, none⟩ : Addr).block from hw1) (.int .i64 0)).setCell (show _ ≤ (⟨g2, i * 2 + 1, none⟩ : Addr).block from hw1) (.int .i64 0))
          exact ⟨⟨i + 1, _, hc, by go_num, hO6, hU6, hB6⟩, by simp [intOf]; omega⟩
        · have qq : ((i : Int) < (N : Int)) = False := by simp; omega
          clear hO hlow
          go_wp2_with fail
          refine (unhide kA _).mono ?_
          rintro e w6 ⟨v, rfl, hO, hb6⟩
          have hO7 : Hid (w6.ownsRow wr.heap.size 23 2 v L.length (flat2 L)) := by
            rw [unhide hN0]
            exact hO
          have hU7 : Hid (w6.ownsRow w2.heap.size 23 2 (.slice b N cb) L.length (flat2 L)) := by
            rw [unhide hN0]
            exact owns_below (unhide hU) hb6
          have hB7 := hide (below_on (unhide hB) hb6)
          clear hO hb6 hB hU kA
          obtain ⟨a3, ca3, g3, rfl, hDa⟩ := dirs_owns (unhide hO7)
          obtain ⟨b3, cb3, g4, ev, hDb⟩ := dirs_owns (unhide hU7)
          obtain ⟨rfl, e5, rfl⟩ : b = b3 ∧ N = L.length ∧ cb = cb3 := by simpa using ev
          have hDa' := hide hDa
          have hDb' := hide hDb
          rw [unhide hN0]
          clear hDa hDb ev e5
          go_wp2_with fail
          refine (unhide sm _ _ _ _ _ _ _ _ _ (unhide hDa') (unhide hDb')).mono ?_
          rintro e w7 ⟨rfl, hb7⟩
          have hB8 := hide (below_on (unhide hB7) hb7)
          clear hb7
          go_wp2_with fail
          go_ret
          exact ⟨rfl, unhide hB8⟩
end Go.Proofs.Ytkjjhllmedkfhaa
