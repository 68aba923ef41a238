/- The document's own Bins, Start, Index. -/
import Derived.Test.YthdoophjcjlklaaDC
import Derived.Deep.RegionHeld3
namespace Go.Proofs.Ythdoophjcjlklaa
open Go.RowKit

theorem bins_small {n P Q : Int} (h1 : 1 ≤ n) (h2 : n ≤ 64) (h3 : P.natAbs ≤ 16) (h4 : 0 ≤ Q) (h5 : Q ≤ 16) : 0 ≤ (n - 1) * (P.natAbs + Q) ∧ (n - 1) * (P.natAbs + Q) ≤ 2016 := by
  have a1 : (n - 1) * (P.natAbs + Q) ≤ 63 * 32 := Int.mul_le_mul (by omega) (by omega) (by omega) (by omega)
  exact ⟨Int.mul_nonneg (by omega) (by omega), a1⟩

set_option maxHeartbeats 3200000 in
theorem binsAny {n : Int} {a : Int × Int} (ha : Dir64 a) (w : World) :
    Calls Try.prog 50 #[.int .i64 n, dirV a] w fun e w' => e = .returned (.tuple #[.int .i64 (binsS n a).1, .int .i64 (binsS n a).2]) ∧ Below w.heap.size w w' := by
  obtain ⟨P, Q⟩ := a
  have k := hide (fun w => checkAny ha.one ha.two w)
  unfold dirV at k ⊢
  dsimp only at k ⊢
  unfold binsS
  dsimp only
  clear ha
  by_cases c1 : n < 1 ∨ 64 < n
  · rw [if_pos c1]
    have q1 : ((n < 1) = True) ∨ ((n < 1) = False ∧ (64 < n) = True) := by
      by_cases c : n < 1
      · exact Or.inl (by simp; omega)
      · exact Or.inr ⟨by simp; omega, by simp; omega⟩
    clear c1 k
    rcases q1 with q1 | ⟨q1, q2⟩
    all_goals
      go_enter Try.func50, Try.ntmps50
      go_wp2_with fail
      go_ret2
      exact ⟨rfl, (Below.refl _ _).alloc (Nat.le_refl _) _⟩
  · have q1 : (n < 1) = False := by simp; omega
    have q2 : (64 < n) = False := by simp; omega
    have r1 : 1 ≤ n := by omega
    have r2 : n ≤ 64 := by omega
    rw [if_neg c1]
    cases hok : okD P Q
    · rw [checkS_bad hok] at k
      clear c1 hok
      go_enter Try.func50, Try.ntmps50
      go_wp2_with fail
      refine (unhide k _).mono ?_
      rintro e w1 ⟨rfl, hb1⟩
      have hB : Hid (Below w.heap.size w w1) := ((Below.refl _ _).alloc (Nat.le_refl _) _).trans (hb1.mono (by simp))
      clear hb1
      go_wp2_with fail
      go_ret2
      exact ⟨rfl, unhide hB⟩
    · rw [checkS_ok hok] at k
      obtain ⟨b1, b2, b3⟩ := okD_bounds hok
      obtain ⟨s1, s2⟩ := bins_small (P := P) r1 r2 b1 b2 b3
      rw [if_pos rfl]
      clear c1 hok
      by_cases c2 : P < 0
      · have e1 : ((P.natAbs : Nat) : Int) = -P := by omega
        rw [e1] at s1 s2 ⊢
        have n1 : IntKind.i64.wrap ((n - 1) * (-P + Q)) = (n - 1) * (-P + Q) := by
          generalize (n - 1) * (-P + Q) = z at s1 s2 ⊢
          rw [IntKind.wrap_i64]
          omega
        generalize hz : (n - 1) * (-P + Q) = z at *
        have b4 : -16 ≤ P := by omega
        have q5 : (P < -P) = True := by simp; omega
        have q6 : (-P < P) = False := by simp; omega
        clear e1 b1
        go_enter Try.func50, Try.ntmps50
        go_wp2_with fail
        refine (unhide k _).mono ?_
        rintro e w1 ⟨rfl, hb1⟩
        have hB : Hid (Below w.heap.size w w1) := ((Below.refl _ _).alloc (Nat.le_refl _) _).trans (hb1.mono (by simp))
        have x1 : w1.cell? ⟨w.heap.size, 0, none⟩ = some (.int .i64 P) := by rw [hb1.cell (by simp)]; simp [go_sem]
        have x2 : w1.cell? ⟨w.heap.size, 1, none⟩ = some (.int .i64 Q) := by rw [hb1.cell (by simp)]; simp [go_sem]
        clear hb1
        go_wp2_with fail
        go_ret2
        exact ⟨rfl, unhide hB⟩
      · have e1 : ((P.natAbs : Nat) : Int) = P := by omega
        rw [e1] at s1 s2 ⊢
        have n1 : IntKind.i64.wrap ((n - 1) * (P + Q)) = (n - 1) * (P + Q) := by
          generalize (n - 1) * (P + Q) = z at s1 s2 ⊢
          rw [IntKind.wrap_i64]
          omega
        generalize hz : (n - 1) * (P + Q) = z at *
        have b4 : 0 ≤ P := by omega
        have b5 : P ≤ 16 := by omega
        have q5 : (P < -P) = False := by simp; omega
        have q6 : (-P ≤ P) = True := by simp; omega
        clear e1 b1
        go_enter Try.func50, Try.ntmps50
        go_wp2_with fail
        refine (unhide k _).mono ?_
        rintro e w1 ⟨rfl, hb1⟩
        have hB : Hid (Below w.heap.size w w1) := ((Below.refl _ _).alloc (Nat.le_refl _) _).trans (hb1.mono (by simp))
        have x1 : w1.cell? ⟨w.heap.size, 0, none⟩ = some (.int .i64 P) := by rw [hb1.cell (by simp)]; simp [go_sem]
        have x2 : w1.cell? ⟨w.heap.size, 1, none⟩ = some (.int .i64 Q) := by rw [hb1.cell (by simp)]; simp [go_sem]
        clear hb1
        go_wp2_with fail
        go_ret2
        exact ⟨rfl, unhide hB⟩

set_option maxHeartbeats 1600000 in
/-- The number of the line of (0, 0). -/
theorem startAny {n P Q : Int} (h1 : 1 ≤ n) (h2 : n ≤ 64) (h3 : P.natAbs ≤ 16) (w : World) :
    Calls Try.prog 52 #[.int .i64 n, .agg #[.int .i64 P, .int .i64 Q]] w fun e w' => e = .returned (.int .i64 (startS n (P, Q))) ∧ Below w.heap.size w w' := by
  unfold startS
  dsimp only
  by_cases c2 : P < 0
  · rw [if_pos c2]
    have q5 : (P < 0) = True := by simp; omega
    clear h3 c2
    go_enter Try.func52, Try.ntmps52
    go_wp2_with fail
    go_ret
    exact ⟨by rw [Int.zero_mul]; rfl, (Below.refl _ _).alloc (Nat.le_refl _) _⟩
  · rw [if_neg c2]
    have q5 : (P < 0) = False := by simp; omega
    have hs : 0 ≤ P * (n - 1) ∧ P * (n - 1) ≤ 1008 := by
      have a1 : P * (n - 1) ≤ 16 * 63 := Int.mul_le_mul (by omega) (by omega) (by omega) (by omega)
      exact ⟨Int.mul_nonneg (by omega) (by omega), a1⟩
    have b4 : 0 ≤ P := by omega
    have b5 : P ≤ 16 := by omega
    have n1 : IntKind.i64.wrap (P * (n - 1)) = P * (n - 1) := by
      generalize P * (n - 1) = z at hs ⊢
      rw [IntKind.wrap_i64]
      omega
    generalize hz : P * (n - 1) = z at *
    clear h3 c2
    go_enter Try.func52, Try.ntmps52
    go_wp2_with fail
    go_ret
    exact ⟨rfl, (Below.refl _ _).alloc (Nat.le_refl _) _⟩

theorem start_small {n P Q : Int} (h1 : 1 ≤ n) (h2 : n ≤ 64) (h3 : P.natAbs ≤ 16) : 0 ≤ startS n (P, Q) ∧ startS n (P, Q) ≤ 1008 := by
  unfold startS
  dsimp only
  by_cases c : P < 0
  · rw [if_pos c, Int.zero_mul]
    exact ⟨by decide, by decide⟩
  · rw [if_neg c]
    have a1 : P * (n - 1) ≤ 16 * 63 := Int.mul_le_mul (by omega) (by omega) (by omega) (by omega)
    exact ⟨Int.mul_nonneg (by omega) (by omega), a1⟩

theorem cell_prod {x n Q : Int} (h1 : 0 ≤ x) (h2 : x < n) (h3 : n ≤ 64) (h4 : Q.natAbs ≤ 16) : (Q * x).natAbs ≤ 1008 := by
  rw [Int.natAbs_mul]
  exact Nat.mul_le_mul h4 (by omega : x.natAbs ≤ 63)

theorem binsS_bad {n : Int} {a : Int × Int} (h : (binsS n a).2 ≠ 0) (x y : Int) : indexS n a x y = (0, (binsS n a).2) := by unfold indexS; rw [if_pos h]
theorem binsS_ok {n : Int} {a : Int × Int} (h : (binsS n a).2 = 0) : 1 ≤ n ∧ n ≤ 64 ∧ okD a.1 a.2 = true := by
  unfold binsS at h
  by_cases c1 : n < 1 ∨ 64 < n
  · rw [if_pos c1] at h
    exact absurd h (by decide)
  · rw [if_neg c1] at h
    cases c2 : okD a.1 a.2
    · rw [c2, if_neg (by decide)] at h
      exact absurd h (by decide)
    · exact ⟨by omega, by omega, rfl⟩

end Go.Proofs.Ythdoophjcjlklaa
