/- The document's own Normal, Cmp. -/
import Derived.Test.YtkjjhllmedkfhaaDK
namespace Go.Proofs.Ytkjjhllmedkfhaa
open Go.RowKit

theorem cell_heap {w w' : World} (h : w'.heap = w.heap) (p : Addr) : w'.cell? p = w.cell? p := World.cell?_of_block (by rw [h])
theorem frozen_heap {w w' : World} (h : w'.heap = w.heap) (p : Addr) : w'.frozen? p = w.frozen? p := World.frozen?_of_block (by rw [h])

theorem gcd_pos {p q : Int} (h : ¬ (p = 0 ∧ q = 0)) : 0 < Nat.gcd p.natAbs q.natAbs := by
  rcases Nat.eq_zero_or_pos (Nat.gcd p.natAbs q.natAbs) with e | e
  · have := Nat.gcd_eq_zero_iff.1 e
    omega
  · exact e

theorem normalS_big {p q : Int} (h : ¬ (p = 0 ∧ q = 0)) (hb : 16 < p.natAbs / Nat.gcd p.natAbs q.natAbs ∨ 16 < q.natAbs / Nat.gcd p.natAbs q.natAbs) : normalS p q = ((0, 0), 60) := by
  unfold normalS
  rw [if_neg h, if_pos hb]

theorem normalS_turn {p q : Int} (h : ¬ (p = 0 ∧ q = 0)) (hb : ¬ (16 < p.natAbs / Nat.gcd p.natAbs q.natAbs ∨ 16 < q.natAbs / Nat.gcd p.natAbs q.natAbs)) (hs : q ≠ 0 ∧ (decide (p < 0)) ≠ (decide (q < 0))) :
    normalS p q = ((-((p.natAbs / Nat.gcd p.natAbs q.natAbs : Nat) : Int), ((q.natAbs / Nat.gcd p.natAbs q.natAbs : Nat) : Int)), 0) := by
  unfold normalS
  rw [if_neg h, if_neg hb, if_pos hs]

theorem normalS_stay {p q : Int} (h : ¬ (p = 0 ∧ q = 0)) (hb : ¬ (16 < p.natAbs / Nat.gcd p.natAbs q.natAbs ∨ 16 < q.natAbs / Nat.gcd p.natAbs q.natAbs)) (hs : ¬ (q ≠ 0 ∧ (decide (p < 0)) ≠ (decide (q < 0)))) :
    normalS p q = ((((p.natAbs / Nat.gcd p.natAbs q.natAbs : Nat) : Int), ((q.natAbs / Nat.gcd p.natAbs q.natAbs : Nat) : Int)), 0) := by
  unfold normalS
  rw [if_neg h, if_neg hb, if_neg hs]

set_option maxHeartbeats 6400000 in
theorem normalAny {p q : Int} (hp : I64 p) (hq : I64 q) (w : World) :
    Calls Try.prog 11 #[.int .i64 p, .int .i64 q] w fun e w' => e = .returned (.tuple #[dirV (normalS p q).1, .int .i64 (normalS p q).2]) ∧ Below w.heap.size w w' := by
  by_cases c1 : p = 0 ∧ q = 0
  · have hS : Hid (normalS p q = ((0, 0), 1)) := by show _ = _; unfold normalS; rw [if_pos c1]
    have q1 : (p == 0) = true := by simp; omega
    have q2 : (q == 0) = true := by simp; omega
    generalize normalS p q = n at hS ⊢
    clear c1 hp hq
    go_enter Try.func11, Try.ntmps11
    go_wp2_with fail
    refine bodyPost_ret (results_two_tmp (P := Try.prog) rfl _ _ w.heap.size (.int .i64 0) (.int .i64 0) (.int .i64 1) _ rfl rfl (by simp [go_sem]) (by simp [go_sem]) Try.underlying23 rfl (by kernel_rfl)) rfl ?_
    exact ⟨by rw [unhide hS]; rfl, (Below.refl _ _).alloc (Nat.le_refl _) _⟩
  · have s1 := hide (fun w => sizeAny hp w)
    have s2 := hide (fun w => sizeAny hq w)
    have dv := hide (fun w => divisorAny (a := p.natAbs) (b := q.natAbs) w)
    have hG := gcd_pos c1
    have hx := abs_lt hp
    have hy := abs_lt hq
    have q1 : ((p == 0) = true ∧ (q == 0) = false) ∨ (p == 0) = false := by
      by_cases c : p = 0
      · exact Or.inl ⟨by simp; omega, by simp; omega⟩
      · exact Or.inr (by simp; omega)
    have hbg := hide (fun h => normalS_big c1 h)
    have htn := hide (fun hb h => normalS_turn c1 hb h)
    have hst := hide (fun hb h => normalS_stay c1 hb h)
    have d1 : ((p.natAbs : Nat) : Int) / ((Nat.gcd p.natAbs q.natAbs : Nat) : Int) = ((p.natAbs / Nat.gcd p.natAbs q.natAbs : Nat) : Int) := rfl
    have d2 : ((q.natAbs : Nat) : Int) / ((Nat.gcd p.natAbs q.natAbs : Nat) : Int) = ((q.natAbs / Nat.gcd p.natAbs q.natAbs : Nat) : Int) := rfl
    have eA : IntKind.u64.wrap ((p.natAbs / Nat.gcd p.natAbs q.natAbs : Nat) : Int) = ((p.natAbs / Nat.gcd p.natAbs q.natAbs : Nat) : Int) := by
      have := Nat.div_le_self p.natAbs (Nat.gcd p.natAbs q.natAbs)
      generalize p.natAbs / Nat.gcd p.natAbs q.natAbs = z at this ⊢
      rw [IntKind.wrap_u64]
      omega
    have eB : IntKind.u64.wrap ((q.natAbs / Nat.gcd p.natAbs q.natAbs : Nat) : Int) = ((q.natAbs / Nat.gcd p.natAbs q.natAbs : Nat) : Int) := by
      have := Nat.div_le_self q.natAbs (Nat.gcd p.natAbs q.natAbs)
      generalize q.natAbs / Nat.gcd p.natAbs q.natAbs = z at this ⊢
      rw [IntKind.wrap_u64]
      omega
    have g0 : ¬ ((Nat.gcd p.natAbs q.natAbs : Nat) : Int) = 0 := by omega
    generalize p.natAbs / Nat.gcd p.natAbs q.natAbs = A at *
    generalize q.natAbs / Nat.gcd p.natAbs q.natAbs = B at *
    generalize normalS p q = n at *
    generalize Nat.gcd p.natAbs q.natAbs = G at *
    generalize p.natAbs = x at *
    generalize q.natAbs = y at *
    clear c1 hp hq
    go_enter Try.func11, Try.ntmps11
    rcases q1 with ⟨q1, q2⟩ | q1
    all_goals
      go_wp2_with fail
      refine (unhide s1 _).mono ?_
      rintro e w1 ⟨rfl, rfl⟩
      go_wp2_with fail
      refine (unhide s2 _).mono ?_
      rintro e w2 ⟨rfl, rfl⟩
      go_wp2_with fail
      refine (unhide dv _).mono ?_
      rintro e w3 ⟨rfl, k, hw3⟩
      have hB3 : Hid (Below w.heap.size w w3) := by rw [hw3]; exact below_box _ _ _
      have b1 : w3.cell? ⟨w.heap.size, 0, none⟩ = some (.int .i64 0) := by rw [hw3]; simp [go_sem]
      have b2 : w3.cell? ⟨w.heap.size, 1, none⟩ = some (.int .i64 0) := by rw [hw3]; simp [go_sem]
      have b3 : w3.frozen? ⟨w.heap.size, 0, none⟩ = false := by rw [hw3]; simp [go_sem]
      have b4 : w3.frozen? ⟨w.heap.size, 1, none⟩ = false := by rw [hw3]; simp [go_sem]
      have hz : w.heap.size < w3.heap.size := by rw [hw3]; simp
      clear hw3
      go_wp2_with fail
      go_quiet (first | (go_at_call 32; with_reducible refine Calls.quiet_of_same (unhide s1 _)) | (go_at_call 32; with_reducible refine Calls.quiet_of_same (unhide s2 _)))
      generalize hD : w3.drewN _ = w4
      have hh : w4.heap = w3.heap := by rw [← hD]; rfl
      have b1 := (cell_heap hh _).trans b1
      have b2 := (cell_heap hh _).trans b2
      have b3 := (frozen_heap hh _).trans b3
      have b4 := (frozen_heap hh _).trans b4
      have hz : w.heap.size < w4.heap.size := by rw [hh]; exact hz
      have hB4 : Hid (Below w.heap.size w w4) := by
        rw [← hD]
        have h := unhide hB3
        exact ⟨h.os, h.tape, h.output, h.size, h.block⟩
      clear hD hh hB3 s1 s2 dv
      by_cases c2 : 16 < A ∨ 16 < B
      · have hS := hide (unhide hbg c2)
        have q3 : ((16 < (A : Int)) = True) ∨ ((16 < (A : Int)) = False ∧ (16 < (B : Int)) = True) := by
          by_cases c : 16 < A
          · exact Or.inl (by simp; omega)
          · exact Or.inr ⟨by simp; omega, by simp; omega⟩
        clear c2 hbg htn hst
        rcases q3 with q3 | ⟨q3, q4⟩
        all_goals
          go_wp2_with fail
          refine bodyPost_ret (results_two_tmp (P := Try.prog) rfl _ _ w.heap.size (.int .i64 0) (.int .i64 0) (.int .i64 60) _ rfl rfl (by simp [go_sem, b1]) (by simp [go_sem, b2]) Try.underlying23 rfl (by kernel_rfl)) rfl ?_
          exact ⟨by rw [unhide hS]; rfl, ((unhide hB4).setCell (by simp) _).setCell (by simp) _⟩
      · have q3 : (16 < (A : Int)) = False := by simp; omega
        have q4 : (16 < (B : Int)) = False := by simp; omega
        have lA : A ≤ 16 := by omega
        have lB : B ≤ 16 := by omega
        have hne : ¬ w.heap.size = w4.heap.size := by omega
        have hne2 : ¬ w4.heap.size = w.heap.size := by omega
        by_cases c3 : q ≠ 0 ∧ (decide (p < 0)) ≠ (decide (q < 0))
        · have hS := hide (unhide htn c2 c3)
          have q5 : (q != 0) = true := by simp; exact c3.1
          have q6 : ((p < 0) = True ∧ (q < 0) = False) ∨ ((p < 0) = False ∧ (q < 0) = True) := by
            have := c3.2
            by_cases x1 : p < 0
            · by_cases x2 : q < 0
              · simp [x1, x2] at this
              · exact Or.inl ⟨by simp; omega, by simp; omega⟩
            · by_cases x2 : q < 0
              · exact Or.inr ⟨by simp; omega, by simp; omega⟩
              · simp [x1, x2] at this
          clear c2 c3 hbg htn hst
          rcases q6 with ⟨q6, q7⟩ | ⟨q6, q7⟩
          all_goals
            go_wp2_with fail
            refine bodyPost_ret (results_two_tmp (P := Try.prog) rfl _ _ w.heap.size (.int .i64 (-(A : Int))) (.int .i64 B) (.int .i64 0) _ rfl rfl (by simp [go_sem, b1, hz]) (by simp [go_sem, b2, hz]) Try.underlying23 rfl (by kernel_rfl)) rfl ?_
            exact ⟨by rw [unhide hS]; rfl, (((unhide hB4).setCell (by simp) _).setCell (by simp) _).alloc (by simp [World.setCell]; omega) _⟩
        · have hS := hide (unhide hst c2 c3)
          have q5 : (q != 0) = false ∨ ((q != 0) = true ∧ (((p < 0) = True ∧ (q < 0) = True) ∨ ((p < 0) = False ∧ (q < 0) = False))) := by
            by_cases x0 : q = 0
            · exact Or.inl (by simp; exact x0)
            · refine Or.inr ⟨by simp; exact x0, ?_⟩
              by_cases x1 : p < 0
              · by_cases x2 : q < 0
                · exact Or.inl ⟨by simp; omega, by simp; omega⟩
                · exact absurd ⟨x0, by simp [x1, x2]⟩ c3
              · by_cases x2 : q < 0
                · exact absurd ⟨x0, by simp [x1, x2]⟩ c3
                · exact Or.inr ⟨by simp; omega, by simp; omega⟩
          clear c2 c3 hbg htn hst
          rcases q5 with q5 | ⟨q5, ⟨q6, q7⟩ | ⟨q6, q7⟩⟩
          all_goals
            go_wp2_with fail
            refine bodyPost_ret (results_two_tmp (P := Try.prog) rfl _ _ w.heap.size (.int .i64 A) (.int .i64 B) (.int .i64 0) _ rfl rfl (by simp [go_sem, b1, hz]) (by simp [go_sem, b2, hz]) Try.underlying23 rfl (by kernel_rfl)) rfl ?_
            exact ⟨by rw [unhide hS]; rfl, (((unhide hB4).setCell (by simp) _).setCell (by simp) _).alloc (by simp [World.setCell]; omega) _⟩
end Go.Proofs.Ytkjjhllmedkfhaa
