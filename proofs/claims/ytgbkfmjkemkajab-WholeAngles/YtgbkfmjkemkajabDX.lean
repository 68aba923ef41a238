/- The program's own Check, Cmp, Across. -/
import Derived.Test.YtgbkfmjkemkajabDE
namespace Go.Proofs.Ytgbkfmjkemkajab
open Go.RowKit

theorem normal_ok {P Q : Int} (h : okD P Q = true) : normalS P Q = ((P, Q), 0) := by
  have := mul_normal (k := 1) h (by decide) (by decide) (by decide)
  rwa [Int.one_mul, Int.one_mul] at this

theorem div_self_one {a g : Nat} (hg : 2 ≤ g) (h : a = a / g) : a = 0 := by
  rcases Nat.eq_zero_or_pos a with e | e
  · exact e
  · have := Nat.div_lt_self e (show 1 < g by omega)
    omega

theorem ok_normal {P Q : Int} (h : normalS P Q = ((P, Q), 0)) : okD P Q = true := by
  by_cases c1 : P = 0 ∧ Q = 0
  · rw [c1.1, c1.2, normalS_zero] at h
    simp at h
  · have hp := gcd_pos c1
    by_cases c2 : 16 < P.natAbs / Nat.gcd P.natAbs Q.natAbs ∨ 16 < Q.natAbs / Nat.gcd P.natAbs Q.natAbs
    · rw [normalS_big c1 c2] at h
      simp at h
    · have key : (P = -((P.natAbs / Nat.gcd P.natAbs Q.natAbs : Nat) : Int) ∨ P = ((P.natAbs / Nat.gcd P.natAbs Q.natAbs : Nat) : Int)) ∧ Q = ((Q.natAbs / Nat.gcd P.natAbs Q.natAbs : Nat) : Int) ∧ (Q = 0 → P = ((P.natAbs / Nat.gcd P.natAbs Q.natAbs : Nat) : Int)) := by
        by_cases c3 : Q ≠ 0 ∧ (decide (P < 0)) ≠ (decide (Q < 0))
        · have e := (normalS_turn c1 c2 c3).symm.trans h
          simp only [Prod.mk.injEq] at e
          exact ⟨Or.inl e.1.1.symm, e.1.2.symm, fun h0 => absurd h0 c3.1⟩
        · have e := (normalS_stay c1 c2 c3).symm.trans h
          simp only [Prod.mk.injEq] at e
          exact ⟨Or.inr e.1.1.symm, e.1.2.symm, fun _ => e.1.1.symm⟩
      obtain ⟨k1, k2, k3⟩ := key
      have a1 : P.natAbs = P.natAbs / Nat.gcd P.natAbs Q.natAbs := by
        generalize P.natAbs / Nat.gcd P.natAbs Q.natAbs = z at k1
        omega
      have a2 : Q.natAbs = Q.natAbs / Nat.gcd P.natAbs Q.natAbs := by
        generalize Q.natAbs / Nat.gcd P.natAbs Q.natAbs = z at k2
        omega
      have g1 : Nat.gcd P.natAbs Q.natAbs = 1 := by
        rcases Nat.lt_or_ge 1 (Nat.gcd P.natAbs Q.natAbs) with hg | hg
        · have b1 := div_self_one hg a1
          have b2 := div_self_one hg a2
          exact absurd ⟨by omega, by omega⟩ c1
        · omega
      rw [g1, Nat.div_one, Nat.div_one] at c2
      rw [g1, Nat.div_one] at k2 k3
      unfold okD
      simp only [decide_eq_true_eq]
      refine ⟨by omega, by omega, by omega, g1, fun h0 => ?_⟩
      have h1 := k3 h0
      rw [h0] at g1
      simp at g1
      omega

theorem check_by {P Q r1 r2 r3 : Int} (h : normalS P Q = ((r1, r2), r3)) : (r3 = 0 ∧ r1 = P ∧ r2 = Q ∧ checkS P Q = 0) ∨ (r3 ≠ 0 ∧ checkS P Q = 60) ∨ (r3 = 0 ∧ r1 ≠ P ∧ checkS P Q = 60) ∨ (r3 = 0 ∧ r1 = P ∧ r2 ≠ Q ∧ checkS P Q = 60) := by
  cases c : okD P Q
  · have e := checkS_bad c
    by_cases h3 : r3 = 0
    · by_cases h1 : r1 = P
      · by_cases h2 : r2 = Q
        · rw [h1, h2, h3] at h
          rw [ok_normal h] at c
          cases c
        · exact Or.inr (Or.inr (Or.inr ⟨h3, h1, h2, e⟩))
      · exact Or.inr (Or.inr (Or.inl ⟨h3, h1, e⟩))
    · exact Or.inr (Or.inl ⟨h3, e⟩)
  · rw [normal_ok c] at h
    simp only [Prod.mk.injEq] at h
    exact Or.inl ⟨h.2.symm, h.1.1.symm, h.1.2.symm, checkS_ok c⟩

set_option maxHeartbeats 1600000 in
theorem dirCheckG {P Q : Int} (hP : I64 P) (hQ : I64 Q) (w : World) :
    Calls Try.prog 8 #[dirV (P, Q)] w fun e w' => e = .returned (.int .i64 (checkS P Q)) ∧ Grows w w' := by
  have k := hide (fun w => dirNormalG hP hQ w)
  have hc := fun r1 r2 r3 h => check_by (P := P) (Q := Q) (r1 := r1) (r2 := r2) (r3 := r3) h
  generalize normalS P Q = r at k hc
  obtain ⟨⟨r1, r2⟩, r3⟩ := r
  have hc := hc r1 r2 r3 rfl
  generalize checkS P Q = ch at hc ⊢
  unfold dirV at k ⊢
  dsimp only at k ⊢
  clear hP hQ
  go_enter Try.func8, Try.ntmps8
  go_wp2_with fail
  refine (unhide k _).mono ?_
  rintro e w1 ⟨rfl, hg1⟩
  have hb1 := hg1.below
  have hG : Hid (Grows w w1) := ((Grows.refl w).alloc _).on hg1
  have x1 : w1.cell? ⟨w.heap.size, 0, none⟩ = some (.int .i64 P) := by rw [hb1.cell (by simp)]; simp [go_sem]
  have x2 : w1.cell? ⟨w.heap.size, 1, none⟩ = some (.int .i64 Q) := by rw [hb1.cell (by simp)]; simp [go_sem]
  have hz : w.heap.size < w1.heap.size := by
    have := hb1.size
    simp at this
    omega
  have hne : ¬ w.heap.size = w1.heap.size := by omega
  have hne2 : ¬ w1.heap.size = w.heap.size := by omega
  clear hb1 hg1 k
  rcases hc with ⟨c1, c2, c3, c4⟩ | ⟨c1, c4⟩ | ⟨c1, c2, c4⟩ | ⟨c1, c2, c3, c4⟩
  · subst c1 c2 c3
    have hS := hide c4
    clear c4
    go_wp2_with fail
    go_ret
    exact ⟨by rw [unhide hS]; rfl, (unhide hG).alloc _⟩
  · have hS := hide c4
    have q1 : (r3 != 0) = true := by simp; exact c1
    clear c4 c1
    go_wp2_with fail
    go_ret
    exact ⟨by rw [unhide hS]; rfl, (unhide hG).alloc _⟩
  · subst c1
    have hS := hide c4
    have q1 : (r1 == P) = false := by simp; exact c2
    clear c4
    go_wp2_with fail
    go_ret
    exact ⟨by rw [unhide hS]; rfl, (unhide hG).alloc _⟩
  · subst c1 c2
    have hS := hide c4
    have q1 : (r2 == Q) = false := by simp; exact c3
    clear c4
    go_wp2_with fail
    go_ret
    exact ⟨by rw [unhide hS]; rfl, (unhide hG).alloc _⟩

theorem cmp_same {a : Int × Int} : cmpS a a = 0 := by
  unfold cmpS
  have e : crossS a a = 0 := by
    unfold crossS
    rw [Int.mul_comm a.2 a.1]
    omega
  rw [e]
  split <;> rfl
theorem cmp_none {a b : Int × Int} (h : okD a.1 a.2 = false ∨ okD b.1 b.2 = false) : cmpS a b = 0 := by
  unfold cmpS
  rcases h with h | h
  · rw [h]; rfl
  · rw [h, Bool.and_false]; rfl

set_option maxHeartbeats 3200000 in
theorem dirCmpG {a b : Int × Int} (ha : Dir64 a) (hb : Dir64 b) (w : World) :
    Calls Try.prog 10 #[dirV a, dirV b] w fun e w' => e = .returned (.int .i64 (cmpS a b)) ∧ Grows w w' := by
  obtain ⟨P, Q⟩ := a
  obtain ⟨R, S⟩ := b
  have k1 := hide (fun w => dirCheckG ha.one ha.two w)
  have k2 := hide (fun w => dirCheckG hb.one hb.two w)
  unfold dirV at k1 k2 ⊢
  dsimp only at k1 k2 ⊢
  clear ha hb
  by_cases c0 : P = R ∧ Q = S
  · obtain ⟨rfl, rfl⟩ := c0
    have hS := hide (cmp_same (a := (P, Q)))
    generalize cmpS (P, Q) (P, Q) = r at hS ⊢
    clear k1 k2
    go_enter Try.func10, Try.ntmps10
    go_wp2_with fail
    go_ret
    exact ⟨by rw [unhide hS]; rfl, ((Grows.refl w).alloc _).alloc _⟩
  · have q0 : ((P == R) = false) ∨ ((P == R) = true ∧ (Q == S) = false) := by
      by_cases d : P = R
      · exact Or.inr ⟨by simp; exact d, by simp; exact fun e => c0 ⟨d, e⟩⟩
      · exact Or.inl (by simp; exact d)
    cases c1 : okD P Q
    · have hS := hide (cmp_none (a := (P, Q)) (b := (R, S)) (Or.inl c1))
      rw [checkS_bad c1] at k1
      generalize cmpS (P, Q) (R, S) = r at hS ⊢
      clear c1 k2 c0
      rcases q0 with q0 | ⟨q0, q00⟩
      all_goals
        go_enter Try.func10, Try.ntmps10
        go_wp2_with fail
        refine (unhide k1 _).mono ?_
        rintro e w1 ⟨rfl, hg1⟩
        have hG : Hid (Grows w w1) := (((Grows.refl w).alloc _).alloc _).on hg1
        clear hg1
        go_wp2_with fail
        go_ret
        exact ⟨by rw [unhide hS]; rfl, unhide hG⟩
    · rw [checkS_ok c1] at k1
      cases c2 : okD R S
      · have hS := hide (cmp_none (a := (P, Q)) (b := (R, S)) (Or.inr c2))
        rw [checkS_bad c2] at k2
        generalize cmpS (P, Q) (R, S) = r at hS ⊢
        clear c1 c2 c0
        rcases q0 with q0 | ⟨q0, q00⟩
        all_goals
          go_enter Try.func10, Try.ntmps10
          go_wp2_with fail
          refine (unhide k1 _).mono ?_
          rintro e w1 ⟨rfl, hg1⟩
          have hb1 := hg1.below
          have hG : Hid (Grows w w1) := (((Grows.refl w).alloc _).alloc _).on hg1
          have x3 : w1.cell? ⟨w.heap.size + 1, 0, none⟩ = some (.int .i64 R) := by rw [hb1.cell (by simp)]; simp [go_sem]
          have x4 : w1.cell? ⟨w.heap.size + 1, 1, none⟩ = some (.int .i64 S) := by rw [hb1.cell (by simp)]; simp [go_sem]
          clear hb1 hg1
          go_wp2_with fail
          refine (unhide k2 _).mono ?_
          rintro e w2 ⟨rfl, hg2⟩
          have hG2 : Hid (Grows w w2) := (unhide hG).on hg2
          clear hg2
          go_wp2_with fail
          go_ret
          exact ⟨by rw [unhide hS]; rfl, unhide hG2⟩
      · rw [checkS_ok c2] at k2
        obtain ⟨p1, p2, p3⟩ := okD_bounds c1
        obtain ⟨p4, p5, p6⟩ := okD_bounds c2
        have m1 := prod_small (x := P) (y := S) p1 (by omega)
        have m2 := prod_small (x := Q) (y := R) (by omega) p4
        have hS := cmpS_ok (a := (P, Q)) (b := (R, S)) c1 c2
        have hx0 : P * S - Q * R ≠ 0 := fun e => c0 (by
          have := cross_zero (a := (P, Q)) (b := (R, S)) c1 c2 e
          simpa using this)
        unfold crossS at hS
        dsimp only at hS
        have n1 : IntKind.i64.wrap (P * S) = P * S := by rw [IntKind.wrap_i64]; omega
        have n2 : IntKind.i64.wrap (Q * R) = Q * R := by rw [IntKind.wrap_i64]; omega
        generalize cmpS (P, Q) (R, S) = r at hS ⊢
        generalize hX : P * S = X at *
        generalize hY : Q * R = Y at *
        have hc : ((Y < X) = True ∧ r = -1) ∨ ((Y < X) = False ∧ r = 1) := by
          by_cases d1 : 0 < X - Y
          · rw [if_pos d1] at hS
            exact Or.inl ⟨by simp; omega, hS⟩
          · rw [if_neg d1, if_pos (by omega)] at hS
            exact Or.inr ⟨by simp; omega, hS⟩
        have r1 : -256 ≤ X ∧ X ≤ 256 := by omega
        have r2 : -256 ≤ Y ∧ Y ≤ 256 := by omega
        have n3 : IntKind.i64.wrap (X - Y) = X - Y := by rw [IntKind.wrap_i64]; omega
        clear c1 c2 hS p1 p2 p3 p4 p5 p6 m1 m2 hx0 c0
        rcases q0 with q0 | ⟨q0, q00⟩
        all_goals
          go_enter Try.func10, Try.ntmps10
          go_wp2_with fail
          refine (unhide k1 _).mono ?_
          rintro e w1 ⟨rfl, hg1⟩
          have hb1 := hg1.below
          have hG : Hid (Grows w w1) := (((Grows.refl w).alloc _).alloc _).on hg1
          have x1 : w1.cell? ⟨w.heap.size, 0, none⟩ = some (.int .i64 P) := by rw [hb1.cell (by simp; omega)]; simp [go_sem]
          have x2 : w1.cell? ⟨w.heap.size, 1, none⟩ = some (.int .i64 Q) := by rw [hb1.cell (by simp; omega)]; simp [go_sem]
          have x3 : w1.cell? ⟨w.heap.size + 1, 0, none⟩ = some (.int .i64 R) := by rw [hb1.cell (by simp)]; simp [go_sem]
          have x4 : w1.cell? ⟨w.heap.size + 1, 1, none⟩ = some (.int .i64 S) := by rw [hb1.cell (by simp)]; simp [go_sem]
          have hz : Hid (w.heap.size + 1 < w1.heap.size) := by
            have := hb1.size
            simp at this
            show _ < _
            omega
          clear hb1 hg1
          go_wp2_with fail
          refine (unhide k2 _).mono ?_
          rintro e w2 ⟨rfl, hg2⟩
          have hb2 := hg2.below
          have hG2 : Hid (Grows w w2) := (unhide hG).on hg2
          have z := unhide hz
          have x1 := (hb2.cell (p := ⟨w.heap.size, 0, none⟩) (by show w.heap.size < _; omega)).trans x1
          have x2 := (hb2.cell (p := ⟨w.heap.size, 1, none⟩) (by show w.heap.size < _; omega)).trans x2
          have x3 := (hb2.cell (p := ⟨w.heap.size + 1, 0, none⟩) z).trans x3
          have x4 := (hb2.cell (p := ⟨w.heap.size + 1, 1, none⟩) z).trans x4
          clear hb2 z hg2
          rcases hc with ⟨d1, d2⟩ | ⟨d1, d2⟩
          all_goals
            go_wp2_with fail
            go_ret
            refine ⟨?_, unhide hG2⟩
            rw [d2]
            rfl

theorem dirNormal {p q : Int} (hp : I64 p) (hq : I64 q) (w : World) :
    Calls Try.prog 26 #[.int .i64 p, .int .i64 q] w fun e w' => e = .returned (.tuple #[dirV (normalS p q).1, .int .i64 (normalS p q).2]) ∧ Below w.heap.size w w' :=
  (dirNormalG hp hq w).mono fun _ _ h => ⟨h.1, h.2.below⟩
theorem dirCheck {P Q : Int} (hP : I64 P) (hQ : I64 Q) (w : World) :
    Calls Try.prog 8 #[dirV (P, Q)] w fun e w' => e = .returned (.int .i64 (checkS P Q)) ∧ Below w.heap.size w w' :=
  (dirCheckG hP hQ w).mono fun _ _ h => ⟨h.1, h.2.below⟩
theorem dirCmp {a b : Int × Int} (ha : Dir64 a) (hb : Dir64 b) (w : World) :
    Calls Try.prog 10 #[dirV a, dirV b] w fun e w' => e = .returned (.int .i64 (cmpS a b)) ∧ Below w.heap.size w w' :=
  (dirCmpG ha hb w).mono fun _ _ h => ⟨h.1, h.2.below⟩
end Go.Proofs.Ytgbkfmjkemkajab
