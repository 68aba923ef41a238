/- The document's Is and Line. -/
import Derived.Test.YtkaggnlceboocaaQD
namespace Go.Proofs.Ytkaggnlceboocaa
open Go.RowKit

def IsOk (f : Nat) : Prop := ∀ (p : Int) (w : World), Calls Try.prog f #[.int .i64 p] w fun e w' => e = .returned (.bool (isP p)) ∧ Below w.heap.size w w'
def LineOk (f : Nat) : Prop := ∀ (p m t : Int) (w : World), Calls Try.prog f #[.int .i64 p, .int .i64 m, .int .i64 t] w fun e w' =>
  ∃ v, e = .returned (.tuple #[v, .int .i64 (linePS p m t).2]) ∧ Pairs2 w' v (linePS p m t).1 ∧ Below w.heap.size w w'

theorem rem_nat (a b : Nat) : ((a : Int)).tmod (b : Int) = ((a % b : Nat) : Int) := by rw [Int.tmod_eq_emod_of_nonneg (by omega)]; rfl

theorem isP_low {p : Int} (h : p < 2) : isP p = false := by unfold isP; simp [show ¬ 2 ≤ p by omega]
theorem isP_high {p : Int} (h : 61 < p) : isP p = false := by unfold isP; simp [show ¬ p ≤ 61 by omega]
theorem isP_mid {p : Nat} (h : 2 ≤ p) (h2 : p ≤ 61) : isP (p : Int) = noDiv p p := by
  unfold isP
  rw [Int.toNat_natCast]
  simp [show (2 : Int) ≤ p by omega, show (p : Int) ≤ 61 by omega]

set_option maxHeartbeats 1600000 in
theorem refIsAny (p : Int) (w : World) : Calls Try.prog 11 #[.int .i64 p] w fun e w' => e = .returned (.bool (isP p)) ∧ w' = w := by
  by_cases h1 : p < 2
  · have q1 : (p < 2) = True := by simp [h1]
    rw [isP_low h1]
    clear h1
    go_enter Try.func11, Try.ntmps11
    go_wp2
    go_ret
    exact ⟨rfl, rfl⟩
  · have q1 : (p < 2) = False := by simp; omega
    by_cases h2 : 61 < p
    · have q2 : (61 < p) = True := by simp [h2]
      rw [isP_high h2]
      clear h1 h2
      go_enter Try.func11, Try.ntmps11
      go_wp2
      go_ret
      exact ⟨rfl, rfl⟩
    · have q2 : (61 < p) = False := by simp; omega
      obtain ⟨N, rfl⟩ : ∃ N : Nat, p = N := ⟨p.toNat, by omega⟩
      have hN : 2 ≤ N := by omega
      have hN2 : N ≤ 61 := by omega
      rw [isP_mid hN hN2]
      clear h1 h2
      go_enter Try.func11, Try.ntmps11
      go_wp2_with fail
      go_loopw [3] (fun dv wr => ∃ d : Nat, 2 ≤ d ∧ d ≤ N ∧ dv = .int .i64 d ∧ Hid (noDiv N d = true) ∧ w = wr) (fun dv _ => N - (intOf dv).toNat)
      case atStart => exact ⟨2, Nat.le_refl _, hN, rfl, by show _ = _; rfl, rfl⟩
      case round =>
        obtain ⟨d, hd, hdN, rfl, hn, rfl⟩ := hrel
        by_cases c : d < N
        · have q3 : ((d : Int) < (N : Int)) = True := by simp; omega
          have e1 := rem_nat N d
          have z0 : ((d : Int) == 0) = false := by simp; omega
          have z1 : ¬ (d : Int) = 0 := by omega
          have z2 : (d = 0) = False := by simp; omega
          by_cases r : N % d = 0
          · have hr := hide (noDiv_no hd c r)
            rw [r] at e1
            clear r hn
            go_wp2_with fail
            go_ret
            rw [unhide hr]
            exact ⟨rfl, rfl⟩
          · have q4 : (((N % d : Nat) : Int) == 0) = false := by simp; omega
            have hr := hide (noDiv_yes (unhide hn) r)
            generalize N % d = re at *
            clear r hn
            go_wp2_with fail
            exact ⟨⟨d + 1, by omega, by omega, by go_num, hr, trivial⟩, by simp [intOf]; omega⟩
        · have q3 : ((d : Int) < (N : Int)) = False := by simp; omega
          have e : d = N := by omega
          rw [e] at hn
          clear e
          go_wp2_with fail
          go_ret
          rw [unhide hn]
          exact ⟨rfl, rfl⟩

theorem refIs : IsOk 11 := fun p w => (refIsAny p w).mono fun e w' h => by
  obtain ⟨rfl, rfl⟩ := h
  exact ⟨rfl, Below.refl _ _⟩

theorem pairs2_none (w : World) : Pairs2 w (.slice none 0 0) [] := ⟨none, 0, 0, 0, rfl, fun h => absurd h (by simp), fun i c h => by simp at h⟩

theorem linePS_ok {p m t : Nat} (h : isP (p : Int) = true) (hm : m ≤ p) (ht : t < p) : linePS p m t = (lineP p m t, 0) := by
  unfold linePS
  rw [if_neg (by rw [h]; simp), if_neg (by omega)]
  rfl

set_option maxRecDepth 100000 in
set_option maxHeartbeats 6400000 in
theorem refLine : LineOk 7 := by
  intro p m t w
  have kI := hide (fun W => refIsAny p W)
  by_cases h1 : isP p = false
  · have e : linePS p m t = ([], 150) := by unfold linePS; rw [if_pos h1]
    rw [e]
    rw [h1] at kI
    clear e h1
    go_enter Try.func7, Try.ntmps7
    go_wp2_with fail
    refine (unhide kI _).mono ?_
    rintro e w1 ⟨rfl, hw⟩
    obtain rfl := hw.symm
    go_wp2_with fail
    go_ret2
    exact ⟨_, rfl, pairs2_none _, Below.refl _ _⟩
  · have h1 : isP p = true := by simpa using h1
    by_cases h2 : m < 0 ∨ p < m ∨ t < 0 ∨ p ≤ t
    · have e : linePS p m t = ([], 1) := by unfold linePS; rw [if_neg (by rw [h1]; simp), if_pos h2]
      rw [e]
      rw [h1] at kI
      have hd : (m < 0) = True ∨ ((m < 0) = False ∧ (p < m) = True) ∨ ((m < 0) = False ∧ (p < m) = False ∧ (t < 0) = True) ∨ ((m < 0) = False ∧ (p < m) = False ∧ (t < 0) = False ∧ (p ≤ t) = True) := by
        by_cases c1 : m < 0
        · exact Or.inl (by simp [c1])
        · by_cases c2 : p < m
          · exact Or.inr (Or.inl ⟨by simp [c1], by simp [c2]⟩)
          · by_cases c3 : t < 0
            · exact Or.inr (Or.inr (Or.inl ⟨by simp [c1], by simp [c2], by simp [c3]⟩))
            · exact Or.inr (Or.inr (Or.inr ⟨by simp [c1], by simp [c2], by simp [c3], by simp; omega⟩))
      clear e h1 h2
      rcases hd with d1 | ⟨d1, d2⟩ | ⟨d1, d2, d3⟩ | ⟨d1, d2, d3, d4⟩
      all_goals
        go_enter Try.func7, Try.ntmps7
        go_wp2_with fail
        refine (unhide kI _).mono ?_
        rintro e w1 ⟨rfl, hw⟩
        obtain rfl := hw.symm
        go_wp2_with fail
        go_ret2
        exact ⟨_, rfl, pairs2_none _, Below.refl _ _⟩
    · obtain ⟨N, rfl, hN1, hN2, _⟩ := isP_nat h1
      obtain ⟨M, rfl⟩ : ∃ M : Nat, m = M := ⟨m.toNat, by omega⟩
      obtain ⟨T, rfl⟩ : ∃ T : Nat, t = T := ⟨t.toNat, by omega⟩
      have hM : M ≤ N := by omega
      have hT : T < N := by omega
      rw [linePS_ok h1 hM hT]
      rw [h1] at kI
      have d1 : ((M : Int) < 0) = False := by simp
      have d2 : ((N : Int) < (M : Int)) = False := by simp; omega
      have d3 : ((T : Int) < 0) = False := by simp
      have d4 : ((N : Int) ≤ (T : Int)) = False := by simp; omega
      have hall := hide (cellsP_all (p := N) (m := M) (t := T) (by omega) hM hT)
      have hyes := hide (fun (x y : Nat) (hy : y < N) h => cellsP_yes (p := N) (m := M) (t := T) (x := x) hy h)
      have hno := hide (fun (x y : Nat) (hy : y < N) h => cellsP_no (p := N) (m := M) (t := T) (x := x) hy h)
      have hln := hide (fun k => cellsP_len N M T k)
      have hzr := hide (cellsP_zero N M T)
      obtain ⟨i0, hi0, hz0, hz1, hz2⟩ := info_parts infoCell
      have hcd : Hid (∀ x y, condP N M T x y = ((decide (M = N) && decide (x = T)) || (decide (M < N) && decide ((M * x + T) % N = y)))) := fun _ _ => rfl
      generalize cellsP N M T = LL at *
      generalize hcP : condP N M T = cP at *
      clear h1 h2 hcP
      go_enter Try.func7, Try.ntmps7
      go_wp2_with fail
      refine (unhide kI _).mono ?_
      rintro e w1 ⟨rfl, hw⟩
      obtain rfl := hw.symm
      clear kI
      go_wp2_with fail
      go_loopw [8, 9] (fun lv xv wr => ∃ x : Nat, x ≤ N ∧ xv = .int .i64 x ∧ Hid (wr.ownsRow w.heap.size 28 2 lv (LL (x * N)).length (flat2 (LL (x * N)))) ∧ Hid (Below w.heap.size w wr)) (fun _ xv _ => N - (intOf xv).toNat)
      case atStart =>
        refine ⟨0, Nat.zero_le _, rfl, ?_, Below.refl _ _⟩
        rw [Nat.zero_mul, unhide hzr]
        exact World.ownsRow_nil _ _ _ _
      case round =>
        obtain ⟨x, hx, rfl, hO, hB⟩ := hrel
        by_cases hxN : x < N
        · have q1 : ((x : Int) < (N : Int)) = True := by simp; omega
          go_wp2_with fail
          go_loopw [8, 10] (fun lv yv wr => ∃ y : Nat, y ≤ N ∧ yv = .int .i64 y ∧ Hid (wr.ownsRow w.heap.size 28 2 lv (LL (x * N + y)).length (flat2 (LL (x * N + y)))) ∧ Hid (Below w.heap.size w wr)) (fun _ yv _ => N - (intOf yv).toNat)
          case atStart => exact ⟨0, Nat.zero_le _, rfl, hO, hB⟩
          case round =>
            clear hO hB
            obtain ⟨y, hy, rfl, hO, hB⟩ := hrel
            by_cases hyN : y < N
            · have q2 : ((y : Int) < (N : Int)) = True := by simp; omega
              have hlen := unhide hln (x * N + y)
              have hxb : x * N + y ≤ 3721 := by
                have : x * N ≤ 60 * 61 := Nat.mul_le_mul (by omega) hN2
                omega
              have hbs : w.heap.size ≤ wr.heap.size := (unhide hB).size
              have mx : M * x ≤ 61 * 61 := Nat.mul_le_mul (by omega) (by omega)
              have hcx := unhide hcd x y
              by_cases e1 : M = N
              · have q3 : ((M : Int) == (N : Int)) = true := by simp; omega
                have q5 : ((M : Int) < (N : Int)) = False := by simp; omega
                by_cases e2 : x = T
                · have q4 : ((x : Int) == (T : Int)) = true := by simp; omega
                  have hc : cP x y = true := by rw [hcx]; simp [e1, e2]
                  clear hcx e1 e2
                  have hL := hide (unhide hyes x y hyN hc)
                  clear hyes hno hcd hc
                  go_wp2_with (first
                    | (at_builtin; refine wpList_append_own _ rfl (.tmp 64) (.tmp 68) 23 rfl w.heap.size 28 i0 (.agg #[.int .i64 0, .int .i64 0]) 2 16 Try.underlying23 hi0 hz0 hz1 hz2 rfl (by decide) _ _ _ rfl ((unhide hO).alloc _) ⟨wr.heap.size, 0, none⟩ 1 1 [.int .i64 x, .int .i64 y] rfl rfl (news_two _ _ _ _) ?c2 ?c3 ?c4 ?c5 ?_))
                  case c2 => intro u hu; simp at hu; rcases hu with rfl | rfl <;> rfl
                  case c3 => unfold maxLen; omega
                  case c4 => omega
                  case c5 => simp; omega
                  intro v' w2 hown' hgrow _
                  have hB3 : Hid (Below w.heap.size w w2) := ((unhide hB).alloc hbs _).grown hgrow (by simp; omega) (fun k hk => ((unhide hO).lt k hk).1)
                  have hO2 : Hid (w2.ownsRow w.heap.size 28 2 v' (LL (x * N + (y + 1))).length (flat2 (LL (x * N + (y + 1))))) := by
                    rw [← Nat.add_assoc, unhide hL, flat2_snoc, List.length_append]
                    exact hown'
                  clear hown' hgrow hB hO
                  go_wp2_with fail
                  exact ⟨⟨y + 1, by omega, by go_num, hO2, hB3⟩, by simp [intOf]; omega⟩
                · have q4 : ((x : Int) == (T : Int)) = false := by simp; omega
                  have hc : cP x y = false := by rw [hcx]; simp [e1, e2]
                  clear hcx e1 e2
                  have hL := hide (unhide hno x y hyN hc)
                  have hO2 : Hid (wr.ownsRow w.heap.size 28 2 u8 (LL (x * N + (y + 1))).length (flat2 (LL (x * N + (y + 1))))) := by
                    rw [← Nat.add_assoc, unhide hL]
                    exact unhide hO
                  clear hyes hno hcd hc hO
                  go_wp2_with fail
                  exact ⟨⟨y + 1, by omega, by go_num, hO2, hB⟩, by simp [intOf]; omega⟩
              · have q3 : ((M : Int) == (N : Int)) = false := by simp; omega
                have q5 : ((M : Int) < (N : Int)) = True := by simp; omega
                have n1 : IntKind.i64.wrap ((M : Int) * (x : Int)) = ((M * x : Nat) : Int) := by
                  rw [← Int.natCast_mul, IntKind.wrap_i64]; omega
                have hMx := hide (rfl : M * x = M * x)
                have n2 : IntKind.i64.wrap (((M * x : Nat) : Int) + (T : Int)) = ((M * x + T : Nat) : Int) := by rw [IntKind.wrap_i64]; omega
                have n3 := rem_nat (M * x + T) N
                have z0 : ((N : Int) == 0) = false := by simp; omega
                have z1 : ¬ (N : Int) = 0 := by omega
                have z2 : (N = 0) = False := by simp; omega
                by_cases e2 : (M * x + T) % N = y
                · have hc : cP x y = true := by rw [hcx]; simp [e2]; omega
                  rw [e2] at n3
                  clear hcx e1 e2 hMx
                  generalize M * x + T = mt at *
                  generalize M * x = mm at *
                  have hL := hide (unhide hyes x y hyN hc)
                  clear hyes hno hcd hc
                  go_wp2_with (first
                    | (at_builtin; refine wpList_append_own _ rfl (.tmp 64) (.tmp 68) 23 rfl w.heap.size 28 i0 (.agg #[.int .i64 0, .int .i64 0]) 2 16 Try.underlying23 hi0 hz0 hz1 hz2 rfl (by decide) _ _ _ rfl ((unhide hO).alloc _) ⟨wr.heap.size, 0, none⟩ 1 1 [.int .i64 x, .int .i64 y] rfl rfl (news_two _ _ _ _) ?c2 ?c3 ?c4 ?c5 ?_))
                  case c2 => intro u hu; simp at hu; rcases hu with rfl | rfl <;> rfl
                  case c3 => unfold maxLen; omega
                  case c4 => omega
                  case c5 => simp; omega
                  intro v' w2 hown' hgrow _
                  have hB3 : Hid (Below w.heap.size w w2) := ((unhide hB).alloc hbs _).grown hgrow (by simp; omega) (fun k hk => ((unhide hO).lt k hk).1)
                  have hO2 : Hid (w2.ownsRow w.heap.size 28 2 v' (LL (x * N + (y + 1))).length (flat2 (LL (x * N + (y + 1))))) := by
                    rw [← Nat.add_assoc, unhide hL, flat2_snoc, List.length_append]
                    exact hown'
                  clear hown' hgrow hB hO
                  go_wp2_with fail
                  exact ⟨⟨y + 1, by omega, by go_num, hO2, hB3⟩, by simp [intOf]; omega⟩
                · have q6 : ((((M * x + T) % N : Nat) : Int) == (y : Int)) = false := by rw [beq_eq_false_iff_ne]; exact fun h => e2 (Int.ofNat.inj h)
                  have hc : cP x y = false := by rw [hcx]; simp [e1, e2]
                  clear hcx e1 hMx
                  generalize M * x + T = mt at *
                  generalize M * x = mm at *
                  generalize mt % N = rr at *
                  have e2' := hide e2
                  clear e2
                  have hL := hide (unhide hno x y hyN hc)
                  have hO2 : Hid (wr.ownsRow w.heap.size 28 2 u8 (LL (x * N + (y + 1))).length (flat2 (LL (x * N + (y + 1))))) := by
                    rw [← Nat.add_assoc, unhide hL]
                    exact unhide hO
                  clear hyes hno hcd hc hO
                  go_wp2_with fail
                  exact ⟨⟨y + 1, by omega, by go_num, hO2, hB⟩, by simp [intOf]; omega⟩
            · have q2 : ((y : Int) < (N : Int)) = False := by simp; omega
              have e : x * N + y = (x + 1) * N := by rw [Nat.add_mul]; omega
              rw [e] at hO
              have hO' := hide (unhide hO)
              clear e hyes hno hO
              go_wp2_with fail
              exact ⟨⟨x + 1, by omega, by go_num, hO', hB⟩, by simp [intOf]; omega⟩
        · have q1 : ((x : Int) < (N : Int)) = False := by simp; omega
          have e : x = N := by omega
          rw [e, unhide hall] at hO
          clear e hyes hno
          go_wp2_with fail
          go_ret2
          exact ⟨_, rfl, pairs2_owns (unhide hO), unhide hB⟩
end Go.Proofs.Ytkaggnlceboocaa
