/- The document's own Bins, Start, Index. -/
import Derived.Test.YtkjjhllmedkfhaaDC
import Derived.Deep.RegionHeld3
namespace Go.Proofs.Ytkjjhllmedkfhaa
open Go.RowKit

theorem bins_small {n P Q : Int} (h1 : 1 ≤ n) (h2 : n ≤ 64) (h3 : P.natAbs ≤ 16) (h4 : 0 ≤ Q) (h5 : Q ≤ 16) : 0 ≤ (n - 1) * (P.natAbs + Q) ∧ (n - 1) * (P.natAbs + Q) ≤ 2016 := by
  have a1 : (n - 1) * (P.natAbs + Q) ≤ 63 * 32 := Int.mul_le_mul (by omega) (by omega) (by omega) (by omega)
  exact ⟨Int.mul_nonneg (by omega) (by omega), a1⟩

set_option maxHeartbeats 3200000 in
theorem binsAny {n : Int} {a : Int × Int} (ha : Dir64 a) (w : World) :
    Calls Try.prog 22 #[.int .i64 n, dirV a] w fun e w' => e = .returned (.tuple #[.int .i64 (binsS n a).1, .int .i64 (binsS n a).2]) ∧ Below w.heap.size w w' := by
  obtain ⟨P, Q⟩ := a
  have k := hide (fun w => checkAny ha.one ha.two w)
  unfold dirV at k ⊢
  dsimp only at k ⊢
  unfold binsS
  dsimp only
  clear ha
  by_cases c1 : n < 1 ∨ 64 < n
  · rw [if_pos c1]
    have q1 : ((n < 1) = True) ∨ ((n < 1) = False ∧ (64 < n) = True) := by
      by_cases c : n < 1
      · exact Or.inl (by simp; omega)
      · exact Or.inr ⟨by simp; omega, by simp; omega⟩
    clear c1 k
    rcases q1 with q1 | ⟨q1, q2⟩
    all_goals
      go_enter Try.func22, Try.ntmps22
      go_wp2_with fail
      go_ret2
      exact ⟨rfl, (Below.refl _ _).alloc (Nat.le_refl _) _⟩
  · have q1 : (n < 1) = False := by simp; omega
    have q2 : (64 < n) = False := by simp; omega
    have r1 : 1 ≤ n := by omega
    have r2 : n ≤ 64 := by omega
    rw [if_neg c1]
    cases hok : okD P Q
    · rw [checkS_bad hok] at k
      clear c1 hok
      go_enter Try.func22, Try.ntmps22
      go_wp2_with fail
      refine (unhide k _).mono ?_
      rintro e w1 ⟨rfl, hb1⟩
      have hB : Hid (Below w.heap.size w w1) := ((Below.refl _ _).alloc (Nat.le_refl _) _).trans (hb1.mono (by simp))
      clear hb1
      go_wp2_with fail
      go_ret2
      exact ⟨rfl, unhide hB⟩
    · rw [checkS_ok hok] at k
      obtain ⟨b1, b2, b3⟩ := okD_bounds hok
      obtain ⟨s1, s2⟩ := bins_small (P := P) r1 r2 b1 b2 b3
      rw [if_pos rfl]
      clear c1 hok
      by_cases c2 : P < 0
      · have e1 : ((P.natAbs : Nat) : Int) = -P := by omega
        rw [e1] at s1 s2 ⊢
        have n1 : IntKind.i64.wrap ((n - 1) * (-P + Q)) = (n - 1) * (-P + Q) := by
          generalize (n - 1) * (-P + Q) = z at s1 s2 ⊢
          rw [IntKind.wrap_i64]
          omega
        generalize hz : (n - 1) * (-P + Q) = z at *
        have b4 : -16 ≤ P := by omega
        have q5 : (P < -P) = True := by simp; omega
        have q6 : (-P < P) = False := by simp; omega
        clear e1 b1
        go_enter Try.func22, Try.ntmps22
        go_wp2_with fail
        refine (unhide k _).mono ?_
        rintro e w1 ⟨rfl, hb1⟩
        have hB : Hid (Below w.heap.size w w1) := ((Below.refl _ _).alloc (Nat.le_refl _) _).trans (hb1.mono (by simp))
        have x1 : w1.cell? ⟨w.heap.size, 0, none⟩ = some (.int .i64 P) := by rw [hb1.cell (by simp)]; simp [go_sem]
        have x2 : w1.cell? ⟨w.heap.size, 1, none⟩ = some (.int .i64 Q) := by rw [hb1.cell (by simp)]; simp [go_sem]
        clear hb1
        go_wp2_with fail
        go_ret2
        exact ⟨rfl, unhide hB⟩
      · have e1 : ((P.natAbs : Nat) : Int) = P := by omega
        rw [e1] at s1 s2 ⊢
        have n1 : IntKind.i64.wrap ((n - 1) * (P + Q)) = (n - 1) * (P + Q) := by
          generalize (n - 1) * (P + Q) = z at s1 s2 ⊢
          rw [IntKind.wrap_i64]
          omega
        generalize hz : (n - 1) * (P + Q) = z at *
        have b4 : 0 ≤ P := by omega
        have b5 : P ≤ 16 := by omega
        have q5 : (P < -P) = False := by simp; omega
        have q6 : (-P ≤ P) = True := by simp; omega
        clear e1 b1
        go_enter Try.func22, Try.ntmps22
        go_wp2_with fail
        refine (unhide k _).mono ?_
        rintro e w1 ⟨rfl, hb1⟩
        have hB : Hid (Below w.heap.size w w1) := ((Below.refl _ _).alloc (Nat.le_refl _) _).trans (hb1.mono (by simp))
        have x1 : w1.cell? ⟨w.heap.size, 0, none⟩ = some (.int .i64 P) := by rw [hb1.cell (by simp)]; simp [go_sem]
        have x2 : w1.cell? ⟨w.heap.size, 1, none⟩ = some (.int .i64 Q) := by rw [hb1.cell (by simp)]; simp [go_sem]
        clear hb1
        go_wp2_with fail
        go_ret2
        exact ⟨rfl, unhide hB⟩

set_option maxHeartbeats 1600000 in
/-- The number of the line of (0, 0). -/
theorem startAny {n P Q : Int} (h1 : 1 ≤ n) (h2 : n ≤ 64) (h3 : P.natAbs ≤ 16) (w : World) :
    Calls Try.prog 38 #[.int .i64 n, .agg #[.int .i64 P, .int .i64 Q]] w fun e w' => e = .returned (.int .i64 (startS n (P, Q))) ∧ Below w.heap.size w w' := by
  unfold startS
  dsimp only
  by_cases c2 : P < 0
  · rw [if_pos c2]
    have q5 : (P < 0) = True := by simp; omega
    clear h3 c2
    go_enter Try.func38, Try.ntmps38
    go_wp2_with fail
    go_ret
    exact ⟨by rw [Int.zero_mul]; rfl, (Below.refl _ _).alloc (Nat.le_refl _) _⟩
  · rw [if_neg c2]
    have q5 : (P < 0) = False := by simp; omega
    have hs : 0 ≤ P * (n - 1) ∧ P * (n - 1) ≤ 1008 := by
      have a1 : P * (n - 1) ≤ 16 * 63 := Int.mul_le_mul (by omega) (by omega) (by omega) (by omega)
      exact ⟨Int.mul_nonneg (by omega) (by omega), a1⟩
    have b4 : 0 ≤ P := by omega
    have b5 : P ≤ 16 := by omega
    have n1 : IntKind.i64.wrap (P * (n - 1)) = P * (n - 1) := by
      generalize P * (n - 1) = z at hs ⊢
      rw [IntKind.wrap_i64]
      omega
    generalize hz : P * (n - 1) = z at *
    clear h3 c2
    go_enter Try.func38, Try.ntmps38
    go_wp2_with fail
    go_ret
    exact ⟨rfl, (Below.refl _ _).alloc (Nat.le_refl _) _⟩

theorem start_small {n P Q : Int} (h1 : 1 ≤ n) (h2 : n ≤ 64) (h3 : P.natAbs ≤ 16) : 0 ≤ startS n (P, Q) ∧ startS n (P, Q) ≤ 1008 := by
  unfold startS
  dsimp only
  by_cases c : P < 0
  · rw [if_pos c, Int.zero_mul]
    exact ⟨by decide, by decide⟩
  · rw [if_neg c]
    have a1 : P * (n - 1) ≤ 16 * 63 := Int.mul_le_mul (by omega) (by omega) (by omega) (by omega)
    exact ⟨Int.mul_nonneg (by omega) (by omega), a1⟩

theorem cell_prod {x n Q : Int} (h1 : 0 ≤ x) (h2 : x < n) (h3 : n ≤ 64) (h4 : Q.natAbs ≤ 16) : (Q * x).natAbs ≤ 1008 := by
  rw [Int.natAbs_mul]
  exact Nat.mul_le_mul h4 (by omega : x.natAbs ≤ 63)

theorem binsS_bad {n : Int} {a : Int × Int} (h : (binsS n a).2 ≠ 0) (x y : Int) : indexS n a x y = (0, (binsS n a).2) := by unfold indexS; rw [if_pos h]
theorem binsS_ok {n : Int} {a : Int × Int} (h : (binsS n a).2 = 0) : 1 ≤ n ∧ n ≤ 64 ∧ okD a.1 a.2 = true := by
  unfold binsS at h
  by_cases c1 : n < 1 ∨ 64 < n
  · rw [if_pos c1] at h
    exact absurd h (by decide)
  · rw [if_neg c1] at h
    cases c2 : okD a.1 a.2
    · rw [c2, if_neg (by decide)] at h
      exact absurd h (by decide)
    · exact ⟨by omega, by omega, rfl⟩

set_option maxHeartbeats 3200000 in
theorem indexAny {n x y : Int} {a : Int × Int} (ha : Dir64 a) (w : World) :
    Calls Try.prog 24 #[.int .i64 n, dirV a, .int .i64 x, .int .i64 y] w fun e w' => e = .returned (.tuple #[.int .i64 (indexS n a x y).1, .int .i64 (indexS n a x y).2]) ∧ Below w.heap.size w w' := by
  have k := hide (fun w => binsAny (n := n) ha w)
  by_cases c1 : (binsS n a).2 = 0
  · obtain ⟨r1, r2, r3⟩ := binsS_ok c1
    have hI : Hid (indexS n a x y = if x < 0 ∨ n ≤ x ∨ y < 0 ∨ n ≤ y then (0, 1) else (a.2 * x - a.1 * y + startS n a, 0)) := by
      show _ = _
      unfold indexS
      rw [if_neg (by omega)]
    rw [c1] at k
    generalize (binsS n a).1 = bn at k
    obtain ⟨P, Q⟩ := a
    obtain ⟨b1, b2, b3⟩ := okD_bounds r3
    dsimp only at b1 b2 b3 hI
    have ks := hide (fun w => startAny (Q := Q) r1 r2 b1 w)
    obtain ⟨s1, s2⟩ := start_small (Q := Q) r1 r2 b1
    generalize startS n (P, Q) = st at *
    unfold dirV at *
    dsimp only at *
    by_cases c2 : x < 0 ∨ n ≤ x ∨ y < 0 ∨ n ≤ y
    · rw [if_pos c2] at hI
      have hd : ((x < 0) = True) ∨ ((x < 0) = False ∧ (n ≤ x) = True) ∨ ((x < 0) = False ∧ (n ≤ x) = False ∧ (y < 0) = True) ∨ ((x < 0) = False ∧ (n ≤ x) = False ∧ (y < 0) = False ∧ (n ≤ y) = True) := by
        by_cases d1 : x < 0
        · exact Or.inl (by simp; omega)
        · by_cases d2 : n ≤ x
          · exact Or.inr (Or.inl ⟨by simp; omega, by simp; omega⟩)
          · by_cases d3 : y < 0
            · exact Or.inr (Or.inr (Or.inl ⟨by simp; omega, by simp; omega, by simp; omega⟩))
            · exact Or.inr (Or.inr (Or.inr ⟨by simp; omega, by simp; omega, by simp; omega, by simp; omega⟩))
      generalize indexS n (P, Q) x y = r at hI ⊢
      clear c1 c2 r3 ks
      rcases hd with d1 | ⟨d1, d2⟩ | ⟨d1, d2, d3⟩ | ⟨d1, d2, d3, d4⟩
      all_goals
        go_enter Try.func24, Try.ntmps24
        go_wp2_with fail
        refine (unhide k _).mono ?_
        rintro e w1 ⟨rfl, hb1⟩
        have hB : Hid (Below w.heap.size w w1) := ((Below.refl _ _).alloc (Nat.le_refl _) _).trans (hb1.mono (by simp))
        clear hb1
        go_wp2_with fail
        go_ret2
        exact ⟨by rw [unhide hI]; rfl, unhide hB⟩
    · rw [if_neg c2] at hI
      have d1 : (x < 0) = False := by simp; omega
      have d2 : (n ≤ x) = False := by simp; omega
      have d3 : (y < 0) = False := by simp; omega
      have d4 : (n ≤ y) = False := by simp; omega
      have m1 := cell_prod (x := x) (n := n) (Q := Q) (by omega) (by omega) r2 (by omega)
      have m2 := cell_prod (x := y) (n := n) (Q := P) (by omega) (by omega) r2 b1
      have n1 : IntKind.i64.wrap (Q * x) = Q * x := by rw [IntKind.wrap_i64]; omega
      have n2 : IntKind.i64.wrap (P * y) = P * y := by rw [IntKind.wrap_i64]; omega
      generalize hX : Q * x = X at *
      generalize hY : P * y = Y at *
      have g1 : -1008 ≤ X ∧ X ≤ 1008 := by omega
      have g2 : -1008 ≤ Y ∧ Y ≤ 1008 := by omega
      have n3 : IntKind.i64.wrap (X - Y) = X - Y := by rw [IntKind.wrap_i64]; omega
      have n4 : IntKind.i64.wrap (X - Y + st) = X - Y + st := by rw [IntKind.wrap_i64]; omega
      generalize indexS n (P, Q) x y = r at hI ⊢
      clear c1 c2 r3 m1 m2 b1
      go_enter Try.func24, Try.ntmps24
      go_wp2_with fail
      refine (unhide k _).mono ?_
      rintro e w1 ⟨rfl, hb1⟩
      have hB : Hid (Below w.heap.size w w1) := ((Below.refl _ _).alloc (Nat.le_refl _) _).trans (hb1.mono (by simp))
      have x1 : w1.cell? ⟨w.heap.size, 0, none⟩ = some (.int .i64 P) := by rw [hb1.cell (by simp)]; simp [go_sem]
      have x2 : w1.cell? ⟨w.heap.size, 1, none⟩ = some (.int .i64 Q) := by rw [hb1.cell (by simp)]; simp [go_sem]
      have hz : Hid (w.heap.size < w1.heap.size) := by
        have := hb1.size
        simp at this
        exact this
      have fct : Hid (∀ w8 : World, Below w1.heap.size w1 w8 → w8.cell? ⟨w.heap.size, 0, none⟩ = some (.int .i64 P) ∧ w8.cell? ⟨w.heap.size, 1, none⟩ = some (.int .i64 Q)) :=
        fun w8 h => ⟨(h.cell (p := ⟨w.heap.size, 0, none⟩) (unhide hz)).trans x1, (h.cell (p := ⟨w.heap.size, 1, none⟩) (unhide hz)).trans x2⟩
      clear hb1 k
      go_wp2_with fail
      go_region_held3 (fun w8 => w8.cell? ⟨w.heap.size, 0, none⟩ = some (.int .i64 P) ∧ w8.cell? ⟨w.heap.size, 1, none⟩ = some (.int .i64 Q))
        (first | exact unhide fct _ (unhide hv1) | go_keep)
        (first
        | (go_at_call 38; with_reducible refine (unhide ks _).mono ?_; rintro e v1 ⟨rfl, hx1⟩
           have hv1 : Hid (Below w1.heap.size w1 v1) := ⟨hx1.os, hx1.tape, hx1.output, hx1.size, hx1.block⟩
           clear hx1))
      go_wp2_with fail
      go_ret2
      exact ⟨by rw [unhide hI]; rfl, (unhide hB).trans ((unhide hv1).mono (unhide hB).size)⟩
  · have hI := hide (binsS_bad c1 x y)
    generalize binsS n a = bb at *
    generalize indexS n a x y = r at hI ⊢
    obtain ⟨P, Q⟩ := a
    obtain ⟨bn, be⟩ := bb
    unfold dirV at *
    dsimp only at *
    have q1 : (be != 0) = true := by simp; exact c1
    clear c1
    go_enter Try.func24, Try.ntmps24
    go_wp2_with fail
    refine (unhide k _).mono ?_
    rintro e w1 ⟨rfl, hb1⟩
    have hB : Hid (Below w.heap.size w w1) := ((Below.refl _ _).alloc (Nat.le_refl _) _).trans (hb1.mono (by simp))
    clear hb1
    go_wp2_with fail
    go_ret2
    exact ⟨by rw [unhide hI]; rfl, unhide hB⟩
end Go.Proofs.Ytkjjhllmedkfhaa
