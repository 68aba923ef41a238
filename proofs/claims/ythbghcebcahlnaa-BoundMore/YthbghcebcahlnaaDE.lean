/- The program's own size, divisor, Normal. -/
import Derived.Test.YthbghcebcahlnaaDG
namespace Go.Proofs.Ythbghcebcahlnaa
open Go.RowKit

/-- What a call leaves that makes blocks and draws, and turns nothing that was there. -/
structure Grows (w w' : World) : Prop where
  below : Below w.heap.size w w'
  drawn : w.drawn ≤ w'.drawn

theorem Grows.refl (w : World) : Grows w w := ⟨Below.refl _ _, Nat.le_refl _⟩
theorem Grows.on {a b c : World} (h : Grows a b) (k : Grows b c) : Grows a c := ⟨h.below.trans (k.below.mono h.below.size), Nat.le_trans h.drawn k.drawn⟩
theorem Grows.alloc {a w : World} (h : Grows a w) (o : Obj) : Grows a (w.alloc o) := ⟨h.below.alloc h.below.size o, h.drawn⟩
theorem Grows.setCell {a w : World} (h : Grows a w) {p : Addr} (hp : a.heap.size ≤ p.block) (u : Value) : Grows a (w.setCell p u) := ⟨h.below.setCell hp u, h.drawn⟩

set_option maxHeartbeats 800000 in
theorem ddivisorAny {a b : Nat} (w : World) :
    Calls (barP Try.prog) 76 #[.int .u64 a, .int .u64 b] w fun e w' => e = .returned (.int .u64 (Nat.gcd a b : Nat)) ∧ ∃ k, w' = w.drewN k := by
  go_enter Bar.func76, Bar.ntmps76
  go_wp2_with fail
  go_loopw [0, 1] (fun av bv wr => ∃ x y : Nat, av = .int .u64 x ∧ bv = .int .u64 y ∧ Hid (Nat.gcd x y = Nat.gcd a b) ∧ ∃ k, wr = w.drewN k) (fun _ bv _ => (intOf bv).toNat)
  case atStart => exact ⟨a, b, rfl, rfl, rfl, 0, rfl⟩
  case round =>
    obtain ⟨x, y, rfl, rfl, hg, k, rfl⟩ := hrel
    by_cases hy : y = 0
    · have q1 : ((y : Int) == 0) = true := by simp; omega
      subst hy
      go_wp2_with fail
      go_ret
      have h := unhide hg
      rw [Nat.gcd_zero_right] at h
      exact ⟨by rw [h]; rfl, k, rfl⟩
    · have q1 : ((y : Int) == 0) = false := by simp; omega
      have q2 : ¬ (y : Int) = 0 := by omega
      have hm : ((x : Int) % (y : Int)) = ((x % y : Nat) : Int) := rfl
      have hlt : x % y < y := Nat.mod_lt _ (by omega)
      have hg2 : Hid (Nat.gcd y (x % y) = Nat.gcd a b) := by
        rw [← unhide hg, Nat.gcd_comm x y, Nat.gcd_rec y x, Nat.gcd_comm]
        exact rfl
      generalize x % y = r at hm hlt hg2
      clear hg
      go_wp2_with fail
      go_quiet (fail)
      go_wp2_with fail
      exact ⟨⟨y, r, rfl, by rw [hm], hg2, _, World.drewN_drewN _ _ _⟩, by simp [intOf]; omega⟩

set_option maxHeartbeats 800000 in
theorem dsizeAny {p : Int} (h : I64 p) (w : World) :
    Calls (barP Try.prog) 75 #[.int .i64 p] w fun e w' => e = .returned (.int .u64 (p.natAbs : Nat)) ∧ w' = w := by
  unfold I64 at h
  by_cases c : p < 0
  · have q1 : (p < 0) = True := by simp; omega
    have e1 : IntKind.u64.wrap p = p + 18446744073709551616 := by rw [IntKind.wrap_u64]; omega
    have e2 : IntKind.u64.wrap (-(p + 18446744073709551616)) = (p.natAbs : Nat) := by rw [IntKind.wrap_u64]; omega
    go_enter Bar.func75, Bar.ntmps75
    go_wp2_with fail
    go_ret
    exact ⟨rfl, rfl⟩
  · have q1 : (p < 0) = False := by simp; omega
    have e1 : IntKind.u64.wrap p = (p.natAbs : Nat) := by rw [IntKind.wrap_u64]; omega
    go_enter Bar.func75, Bar.ntmps75
    go_wp2_with fail
    go_ret
    exact ⟨rfl, rfl⟩

set_option maxHeartbeats 6400000 in
theorem dirNormalG {p q : Int} (hp : I64 p) (hq : I64 q) (w : World) :
    Calls (barP Try.prog) 40 #[.int .i64 p, .int .i64 q] w fun e w' => e = .returned (.tuple #[dirV (normalS p q).1, .int .i64 (normalS p q).2]) ∧ Grows w w' := by
  by_cases c1 : p = 0 ∧ q = 0
  · have hS : Hid (normalS p q = ((0, 0), 1)) := by show _ = _; unfold normalS; rw [if_pos c1]
    have q1 : (p == 0) = true := by simp; omega
    have q2 : (q == 0) = true := by simp; omega
    generalize normalS p q = n at hS ⊢
    clear c1 hp hq
    go_enter Bar.func40, Bar.ntmps40
    go_wp2_with fail
    refine bodyPost_ret (results_two_tmp (P := (barP Try.prog)) rfl _ _ w.heap.size (.int .i64 0) (.int .i64 0) (.int .i64 1) _ rfl rfl (by simp [go_sem]) (by simp [go_sem]) Bar.underlying47 rfl (by kernel_rfl)) rfl ?_
    exact ⟨by rw [unhide hS]; rfl, ⟨(Below.refl _ _).alloc (Nat.le_refl _) _, Nat.le_refl _⟩⟩
  · have s1 := hide (fun w => dsizeAny hp w)
    have s2 := hide (fun w => dsizeAny hq w)
    have dv := hide (fun w => ddivisorAny (a := p.natAbs) (b := q.natAbs) w)
    have hG := gcd_pos c1
    have hx := abs_lt hp
    have hy := abs_lt hq
    have q1 : ((p == 0) = true ∧ (q == 0) = false) ∨ (p == 0) = false := by
      by_cases c : p = 0
      · exact Or.inl ⟨by simp; omega, by simp; omega⟩
      · exact Or.inr (by simp; omega)
    have hbg := hide (fun h => normalS_big c1 h)
    have htn := hide (fun hb h => normalS_turn c1 hb h)
    have hst := hide (fun hb h => normalS_stay c1 hb h)
    have d1 : ((p.natAbs : Nat) : Int) / ((Nat.gcd p.natAbs q.natAbs : Nat) : Int) = ((p.natAbs / Nat.gcd p.natAbs q.natAbs : Nat) : Int) := rfl
    have d2 : ((q.natAbs : Nat) : Int) / ((Nat.gcd p.natAbs q.natAbs : Nat) : Int) = ((q.natAbs / Nat.gcd p.natAbs q.natAbs : Nat) : Int) := rfl
    have eA : IntKind.u64.wrap ((p.natAbs / Nat.gcd p.natAbs q.natAbs : Nat) : Int) = ((p.natAbs / Nat.gcd p.natAbs q.natAbs : Nat) : Int) := by
      have := Nat.div_le_self p.natAbs (Nat.gcd p.natAbs q.natAbs)
      generalize p.natAbs / Nat.gcd p.natAbs q.natAbs = z at this ⊢
      rw [IntKind.wrap_u64]
      omega
    have eB : IntKind.u64.wrap ((q.natAbs / Nat.gcd p.natAbs q.natAbs : Nat) : Int) = ((q.natAbs / Nat.gcd p.natAbs q.natAbs : Nat) : Int) := by
      have := Nat.div_le_self q.natAbs (Nat.gcd p.natAbs q.natAbs)
      generalize q.natAbs / Nat.gcd p.natAbs q.natAbs = z at this ⊢
      rw [IntKind.wrap_u64]
      omega
    have g0 : ¬ ((Nat.gcd p.natAbs q.natAbs : Nat) : Int) = 0 := by omega
    generalize p.natAbs / Nat.gcd p.natAbs q.natAbs = A at *
    generalize q.natAbs / Nat.gcd p.natAbs q.natAbs = B at *
    generalize normalS p q = n at *
    generalize Nat.gcd p.natAbs q.natAbs = G at *
    generalize p.natAbs = x at *
    generalize q.natAbs = y at *
    clear c1 hp hq
    go_enter Bar.func40, Bar.ntmps40
    rcases q1 with ⟨q1, q2⟩ | q1
    all_goals
      go_wp2_with fail
      refine (unhide s1 _).mono ?_
      rintro e w1 ⟨rfl, rfl⟩
      go_wp2_with fail
      refine (unhide s2 _).mono ?_
      rintro e w2 ⟨rfl, rfl⟩
      go_wp2_with fail
      refine (unhide dv _).mono ?_
      rintro e w3 ⟨rfl, k, hw3⟩
      have hB3 : Hid (Below w.heap.size w w3) := by rw [hw3]; exact below_box _ _ _
      have b1 : w3.cell? ⟨w.heap.size, 0, none⟩ = some (.int .i64 0) := by rw [hw3]; simp [go_sem]
      have b2 : w3.cell? ⟨w.heap.size, 1, none⟩ = some (.int .i64 0) := by rw [hw3]; simp [go_sem]
      have b3 : w3.frozen? ⟨w.heap.size, 0, none⟩ = false := by rw [hw3]; simp [go_sem]
      have b4 : w3.frozen? ⟨w.heap.size, 1, none⟩ = false := by rw [hw3]; simp [go_sem]
      have hz : w.heap.size < w3.heap.size := by rw [hw3]; simp
      have hD3 : Hid (w.drawn ≤ w3.drawn) := by rw [hw3]; exact Nat.le_add_right _ _
      clear hw3
      go_wp2_with fail
      go_quiet (fail)
      generalize hD : w3.drewN _ = w4
      have hh : w4.heap = w3.heap := by rw [← hD]; rfl
      have b1 := (cell_heap hh _).trans b1
      have b2 := (cell_heap hh _).trans b2
      have b3 := (frozen_heap hh _).trans b3
      have b4 := (frozen_heap hh _).trans b4
      have hz : w.heap.size < w4.heap.size := by rw [hh]; exact hz
      have hB4 : Hid (Below w.heap.size w w4) := by
        rw [← hD]
        have h := unhide hB3
        exact ⟨h.os, h.tape, h.output, h.size, h.block⟩
      have hD4 : Hid (w.drawn ≤ w4.drawn) := by rw [← hD]; exact Nat.le_trans (unhide hD3) (Nat.le_add_right _ _)
      clear hD hh hB3 hD3 s1 s2 dv
      by_cases c2 : 16 < A ∨ 16 < B
      · have hS := hide (unhide hbg c2)
        have q3 : ((16 < (A : Int)) = True) ∨ ((16 < (A : Int)) = False ∧ (16 < (B : Int)) = True) := by
          by_cases c : 16 < A
          · exact Or.inl (by simp; omega)
          · exact Or.inr ⟨by simp; omega, by simp; omega⟩
        clear c2 hbg htn hst
        rcases q3 with q3 | ⟨q3, q4⟩
        all_goals
          go_wp2_with fail
          refine bodyPost_ret (results_two_tmp (P := (barP Try.prog)) rfl _ _ w.heap.size (.int .i64 0) (.int .i64 0) (.int .i64 60) _ rfl rfl (by simp [go_sem, b1]) (by simp [go_sem, b2]) Bar.underlying47 rfl (by kernel_rfl)) rfl ?_
          exact ⟨by rw [unhide hS]; rfl, ⟨((unhide hB4).setCell (by simp) _).setCell (by simp) _, unhide hD4⟩⟩
      · have q3 : (16 < (A : Int)) = False := by simp; omega
        have q4 : (16 < (B : Int)) = False := by simp; omega
        have lA : A ≤ 16 := by omega
        have lB : B ≤ 16 := by omega
        have hne : ¬ w.heap.size = w4.heap.size := by omega
        have hne2 : ¬ w4.heap.size = w.heap.size := by omega
        by_cases c3 : q ≠ 0 ∧ (decide (p < 0)) ≠ (decide (q < 0))
        · have hS := hide (unhide htn c2 c3)
          have q5 : (q != 0) = true := by simp; exact c3.1
          have q6 : ((p < 0) = True ∧ (q < 0) = False) ∨ ((p < 0) = False ∧ (q < 0) = True) := by
            have := c3.2
            by_cases x1 : p < 0
            · by_cases x2 : q < 0
              · simp [x1, x2] at this
              · exact Or.inl ⟨by simp; omega, by simp; omega⟩
            · by_cases x2 : q < 0
              · exact Or.inr ⟨by simp; omega, by simp; omega⟩
              · simp [x1, x2] at this
          clear c2 c3 hbg htn hst
          rcases q6 with ⟨q6, q7⟩ | ⟨q6, q7⟩
          all_goals
            go_wp2_with fail
            refine bodyPost_ret (results_two_tmp (P := (barP Try.prog)) rfl _ _ w.heap.size (.int .i64 (-(A : Int))) (.int .i64 B) (.int .i64 0) _ rfl rfl (by simp [go_sem, b1, hz]) (by simp [go_sem, b2, hz]) Bar.underlying47 rfl (by kernel_rfl)) rfl ?_
            exact ⟨by rw [unhide hS]; rfl, ⟨(((unhide hB4).setCell (by simp) _).setCell (by simp) _).alloc (by simp [World.setCell]; omega) _, unhide hD4⟩⟩
        · have hS := hide (unhide hst c2 c3)
          have q5 : (q != 0) = false ∨ ((q != 0) = true ∧ (((p < 0) = True ∧ (q < 0) = True) ∨ ((p < 0) = False ∧ (q < 0) = False))) := by
            by_cases x0 : q = 0
            · exact Or.inl (by simp; exact x0)
            · refine Or.inr ⟨by simp; exact x0, ?_⟩
              by_cases x1 : p < 0
              · by_cases x2 : q < 0
                · exact Or.inl ⟨by simp; omega, by simp; omega⟩
                · exact absurd ⟨x0, by simp [x1, x2]⟩ c3
              · by_cases x2 : q < 0
                · exact absurd ⟨x0, by simp [x1, x2]⟩ c3
                · exact Or.inr ⟨by simp; omega, by simp; omega⟩
          clear c2 c3 hbg htn hst
          rcases q5 with q5 | ⟨q5, ⟨q6, q7⟩ | ⟨q6, q7⟩⟩
          all_goals
            go_wp2_with fail
            refine bodyPost_ret (results_two_tmp (P := (barP Try.prog)) rfl _ _ w.heap.size (.int .i64 A) (.int .i64 B) (.int .i64 0) _ rfl rfl (by simp [go_sem, b1, hz]) (by simp [go_sem, b2, hz]) Bar.underlying47 rfl (by kernel_rfl)) rfl ?_
            exact ⟨by rw [unhide hS]; rfl, ⟨(((unhide hB4).setCell (by simp) _).setCell (by simp) _).alloc (by simp [World.setCell]; omega) _, unhide hD4⟩⟩
end Go.Proofs.Ythbghcebcahlnaa
