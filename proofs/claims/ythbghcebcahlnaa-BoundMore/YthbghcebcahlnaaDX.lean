/- The program's own Check, Cmp, Across. -/
import Derived.Test.YthbghcebcahlnaaDE
namespace Go.Proofs.Ythbghcebcahlnaa
open Go.RowKit

theorem normal_ok {P Q : Int} (h : okD P Q = true) : normalS P Q = ((P, Q), 0) := by
  have := mul_normal (k := 1) h (by decide) (by decide) (by decide)
  rwa [Int.one_mul, Int.one_mul] at this

theorem div_self_one {a g : Nat} (hg : 2 ≤ g) (h : a = a / g) : a = 0 := by
  rcases Nat.eq_zero_or_pos a with e | e
  · exact e
  · have := Nat.div_lt_self e (show 1 < g by omega)
    omega

theorem ok_normal {P Q : Int} (h : normalS P Q = ((P, Q), 0)) : okD P Q = true := by
  by_cases c1 : P = 0 ∧ Q = 0
  · rw [c1.1, c1.2, normalS_zero] at h
    simp at h
  · have hp := gcd_pos c1
    by_cases c2 : 16 < P.natAbs / Nat.gcd P.natAbs Q.natAbs ∨ 16 < Q.natAbs / Nat.gcd P.natAbs Q.natAbs
    · rw [normalS_big c1 c2] at h
      simp at h
    · have key : (P = -((P.natAbs / Nat.gcd P.natAbs Q.natAbs : Nat) : Int) ∨ P = ((P.natAbs / Nat.gcd P.natAbs Q.natAbs : Nat) : Int)) ∧ Q = ((Q.natAbs / Nat.gcd P.natAbs Q.natAbs : Nat) : Int) ∧ (Q = 0 → P = ((P.natAbs / Nat.gcd P.natAbs Q.natAbs : Nat) : Int)) := by
        by_cases c3 : Q ≠ 0 ∧ (decide (P < 0)) ≠ (decide (Q < 0))
        · have e := (normalS_turn c1 c2 c3).symm.trans h
          simp only [Prod.mk.injEq] at e
          exact ⟨Or.inl e.1.1.symm, e.1.2.symm, fun h0 => absurd h0 c3.1⟩
        · have e := (normalS_stay c1 c2 c3).symm.trans h
          simp only [Prod.mk.injEq] at e
          exact ⟨Or.inr e.1.1.symm, e.1.2.symm, fun _ => e.1.1.symm⟩
      obtain ⟨k1, k2, k3⟩ := key
      have a1 : P.natAbs = P.natAbs / Nat.gcd P.natAbs Q.natAbs := by
        generalize P.natAbs / Nat.gcd P.natAbs Q.natAbs = z at k1
        omega
      have a2 : Q.natAbs = Q.natAbs / Nat.gcd P.natAbs Q.natAbs := by
        generalize Q.natAbs / Nat.gcd P.natAbs Q.natAbs = z at k2
        omega
      have g1 : Nat.gcd P.natAbs Q.natAbs = 1 := by
        rcases Nat.lt_or_ge 1 (Nat.gcd P.natAbs Q.natAbs) with hg | hg
        · have b1 := div_self_one hg a1
          have b2 := div_self_one hg a2
          exact absurd ⟨by omega, by omega⟩ c1
        · omega
      rw [g1, Nat.div_one, Nat.div_one] at c2
      rw [g1, Nat.div_one] at k2 k3
      unfold okD
      simp only [decide_eq_true_eq]
      refine ⟨by omega, by omega, by omega, g1, fun h0 => ?_⟩
      have h1 := k3 h0
      rw [h0] at g1
      simp at g1
      omega

theorem check_by {P Q r1 r2 r3 : Int} (h : normalS P Q = ((r1, r2), r3)) : (r3 = 0 ∧ r1 = P ∧ r2 = Q ∧ checkS P Q = 0) ∨ (r3 ≠ 0 ∧ checkS P Q = 60) ∨ (r3 = 0 ∧ r1 ≠ P ∧ checkS P Q = 60) ∨ (r3 = 0 ∧ r1 = P ∧ r2 ≠ Q ∧ checkS P Q = 60) := by
  cases c : okD P Q
  · have e := checkS_bad c
    by_cases h3 : r3 = 0
    · by_cases h1 : r1 = P
      · by_cases h2 : r2 = Q
        · rw [h1, h2, h3] at h
          rw [ok_normal h] at c
          cases c
        · exact Or.inr (Or.inr (Or.inr ⟨h3, h1, h2, e⟩))
      · exact Or.inr (Or.inr (Or.inl ⟨h3, h1, e⟩))
    · exact Or.inr (Or.inl ⟨h3, e⟩)
  · rw [normal_ok c] at h
    simp only [Prod.mk.injEq] at h
    exact Or.inl ⟨h.2.symm, h.1.1.symm, h.1.2.symm, checkS_ok c⟩

set_option maxHeartbeats 1600000 in
theorem dirCheckG {P Q : Int} (hP : I64 P) (hQ : I64 Q) (w : World) :
    Calls (barP Try.prog) 23 #[dirV (P, Q)] w fun e w' => e = .returned (.int .i64 (checkS P Q)) ∧ Grows w w' := by
  have k := hide (fun w => dirNormalG hP hQ w)
  have hc := fun r1 r2 r3 h => check_by (P := P) (Q := Q) (r1 := r1) (r2 := r2) (r3 := r3) h
  generalize normalS P Q = r at k hc
  obtain ⟨⟨r1, r2⟩, r3⟩ := r
  have hc := hc r1 r2 r3 rfl
  generalize checkS P Q = ch at hc ⊢
  unfold dirV at k ⊢
  dsimp only at k ⊢
  clear hP hQ
  go_enter Bar.func23, Bar.ntmps23
  go_wp2_with fail
  refine (unhide k _).mono ?_
  rintro e w1 ⟨rfl, hg1⟩
  have hb1 := hg1.below
  have hG : Hid (Grows w w1) := ((Grows.refl w).alloc _).on hg1
  have x1 : w1.cell? ⟨w.heap.size, 0, none⟩ = some (.int .i64 P) := by rw [hb1.cell (by simp)]; simp [go_sem]
  have x2 : w1.cell? ⟨w.heap.size, 1, none⟩ = some (.int .i64 Q) := by rw [hb1.cell (by simp)]; simp [go_sem]
  have hz : w.heap.size < w1.heap.size := by
    have := hb1.size
    simp at this
    omega
  have hne : ¬ w.heap.size = w1.heap.size := by omega
  have hne2 : ¬ w1.heap.size = w.heap.size := by omega
  clear hb1 hg1 k
  rcases hc with ⟨c1, c2, c3, c4⟩ | ⟨c1, c4⟩ | ⟨c1, c2, c4⟩ | ⟨c1, c2, c3, c4⟩
  · subst c1 c2 c3
    have hS := hide c4
    clear c4
    go_wp2_with fail
    go_ret
    exact ⟨by rw [unhide hS]; rfl, (unhide hG).alloc _⟩
  · have hS := hide c4
    have q1 : (r3 != 0) = true := by simp; exact c1
    clear c4 c1
    go_wp2_with fail
    go_ret
    exact ⟨by rw [unhide hS]; rfl, (unhide hG).alloc _⟩
  · subst c1
    have hS := hide c4
    have q1 : (r1 == P) = false := by simp; exact c2
    clear c4
    go_wp2_with fail
    go_ret
    exact ⟨by rw [unhide hS]; rfl, (unhide hG).alloc _⟩
  · subst c1 c2
    have hS := hide c4
    have q1 : (r2 == Q) = false := by simp; exact c3
    clear c4
    go_wp2_with fail
    go_ret
    exact ⟨by rw [unhide hS]; rfl, (unhide hG).alloc _⟩

theorem cmp_same {a : Int × Int} : cmpS a a = 0 := by
  unfold cmpS
  have e : crossS a a = 0 := by
    unfold crossS
    rw [Int.mul_comm a.2 a.1]
    omega
  rw [e]
  split <;> rfl
theorem cmp_none {a b : Int × Int} (h : okD a.1 a.2 = false ∨ okD b.1 b.2 = false) : cmpS a b = 0 := by
  unfold cmpS
  rcases h with h | h
  · rw [h]; rfl
  · rw [h, Bool.and_false]; rfl

theorem dirNormal {p q : Int} (hp : I64 p) (hq : I64 q) (w : World) :
    Calls (barP Try.prog) 40 #[.int .i64 p, .int .i64 q] w fun e w' => e = .returned (.tuple #[dirV (normalS p q).1, .int .i64 (normalS p q).2]) ∧ Below w.heap.size w w' :=
  (dirNormalG hp hq w).mono fun _ _ h => ⟨h.1, h.2.below⟩
theorem dirCheck {P Q : Int} (hP : I64 P) (hQ : I64 Q) (w : World) :
    Calls (barP Try.prog) 23 #[dirV (P, Q)] w fun e w' => e = .returned (.int .i64 (checkS P Q)) ∧ Below w.heap.size w w' :=
  (dirCheckG hP hQ w).mono fun _ _ h => ⟨h.1, h.2.below⟩
end Go.Proofs.Ythbghcebcahlnaa
