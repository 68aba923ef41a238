/- The program's own isSide, liesIn, look, bins, origin, Bins, Index. -/
import Derived.Test.YthbghcebcahlnaaDX
import Derived.Test.YthbghcebcahlnaaDI
namespace Go.Proofs.Ythbghcebcahlnaa
open Go.RowKit

set_option maxHeartbeats 800000 in
theorem sideAny {n : Int} (w : World) :
    Calls (barP Try.prog) 85 #[.int .i64 n] w fun e w' => e = .returned (.bool (decide (1 ≤ n ∧ n ≤ 64))) ∧ w' = w := by
  by_cases c1 : 1 ≤ n
  · have q1 : (1 ≤ n) = True := by simp; omega
    by_cases c2 : n ≤ 64
    · have q2 : (n ≤ 64) = True := by simp; omega
      rw [decide_eq_true (⟨c1, c2⟩ : 1 ≤ n ∧ n ≤ 64)]
      clear c1 c2
      go_enter Bar.func85, Bar.ntmps85
      go_wp2_with fail
      go_ret
      exact ⟨rfl, rfl⟩
    · have q2 : (n ≤ 64) = False := by simp; omega
      rw [decide_eq_false (fun h => c2 h.2 : ¬ (1 ≤ n ∧ n ≤ 64))]
      clear c1 c2
      go_enter Bar.func85, Bar.ntmps85
      go_wp2_with fail
      go_ret
      exact ⟨rfl, rfl⟩
  · have q1 : (1 ≤ n) = False := by simp; omega
    rw [decide_eq_false (fun h => c1 h.1 : ¬ (1 ≤ n ∧ n ≤ 64))]
    clear c1
    go_enter Bar.func85, Bar.ntmps85
    go_wp2_with fail
    go_ret
    exact ⟨rfl, rfl⟩

set_option maxHeartbeats 800000 in
theorem liesAny {n x : Int} (w : World) :
    Calls (barP Try.prog) 89 #[.int .i64 n, .int .i64 x] w fun e w' => e = .returned (.bool (decide (0 ≤ x ∧ x < n))) ∧ w' = w := by
  by_cases c1 : 0 ≤ x
  · have q1 : (0 ≤ x) = True := by simp; omega
    by_cases c2 : x < n
    · have q2 : (x < n) = True := by simp; omega
      rw [decide_eq_true (⟨c1, c2⟩ : 0 ≤ x ∧ x < n)]
      clear c1 c2
      go_enter Bar.func89, Bar.ntmps89
      go_wp2_with fail
      go_ret
      exact ⟨rfl, rfl⟩
    · have q2 : (x < n) = False := by simp; omega
      rw [decide_eq_false (fun h => c2 h.2 : ¬ (0 ≤ x ∧ x < n))]
      clear c1 c2
      go_enter Bar.func89, Bar.ntmps89
      go_wp2_with fail
      go_ret
      exact ⟨rfl, rfl⟩
  · have q1 : (0 ≤ x) = False := by simp; omega
    rw [decide_eq_false (fun h => c1 h.1 : ¬ (0 ≤ x ∧ x < n))]
    clear c1
    go_enter Bar.func89, Bar.ntmps89
    go_wp2_with fail
    go_ret
    exact ⟨rfl, rfl⟩

set_option maxHeartbeats 1600000 in
/-- The errors that all calls about lines begin with. -/
theorem lookAny {n : Int} {a : Int × Int} (ha : Dir64 a) (w : World) :
    Calls (barP Try.prog) 66 #[.int .i64 n, dirV a] w fun e w' => e = .returned (.int .i64 (binsS n a).2) ∧ Below w.heap.size w w' := by
  obtain ⟨P, Q⟩ := a
  have k := hide (fun w => dirCheck ha.one ha.two w)
  have ks := hide (fun w => sideAny (n := n) w)
  unfold dirV at k ⊢
  dsimp only at k ⊢
  clear ha
  by_cases c1 : n < 1 ∨ 64 < n
  · have hS : Hid ((binsS n (P, Q)).2 = 1) := by show _ = _; unfold binsS; rw [if_pos c1]
    rw [decide_eq_false (by omega : ¬ (1 ≤ n ∧ n ≤ 64))] at ks
    generalize (binsS n (P, Q)).2 = r at hS ⊢
    clear c1 k
    go_enter Bar.func66, Bar.ntmps66
    go_wp2_with fail
    refine (unhide ks _).mono ?_
    rintro e w1 ⟨rfl, rfl⟩
    go_wp2_with fail
    go_ret
    exact ⟨by rw [unhide hS]; rfl, (Below.refl _ _).alloc (Nat.le_refl _) _⟩
  · have hS : Hid ((binsS n (P, Q)).2 = checkS P Q) := by
      show _ = _
      unfold binsS checkS
      rw [if_neg c1]
      dsimp only
      split <;> rfl
    rw [decide_eq_true (by omega : 1 ≤ n ∧ n ≤ 64)] at ks
    generalize (binsS n (P, Q)).2 = r at hS ⊢
    generalize checkS P Q = ch at hS k
    clear c1
    go_enter Bar.func66, Bar.ntmps66
    go_wp2_with fail
    refine (unhide ks _).mono ?_
    rintro e w1 ⟨rfl, rfl⟩
    go_wp2_with fail
    refine (unhide k _).mono ?_
    rintro e w1 ⟨rfl, hb1⟩
    have hB : Hid (Below w.heap.size w w1) := ((Below.refl _ _).alloc (Nat.le_refl _) _).trans (hb1.mono (by simp))
    clear hb1
    go_wp2_with fail
    go_ret
    exact ⟨by rw [unhide hS]; rfl, unhide hB⟩

set_option maxHeartbeats 1600000 in
/-- How many lines. -/
theorem dbinsAny {n P Q : Int} (h1 : 1 ≤ n) (h2 : n ≤ 64) (h3 : P.natAbs ≤ 16) (h4 : 0 ≤ Q) (h5 : Q ≤ 16) (w : World) :
    Calls (barP Try.prog) 67 #[.int .i64 n, .agg #[.int .i64 P, .int .i64 Q]] w fun e w' => e = .returned (.int .i64 ((n - 1) * (P.natAbs + Q) + 1)) ∧ Below w.heap.size w w' := by
  obtain ⟨s1, s2⟩ := bins_small (P := P) h1 h2 h3 h4 h5
  by_cases c2 : P < 0
  · have e1 : ((P.natAbs : Nat) : Int) = -P := by omega
    rw [e1] at s1 s2 ⊢
    have n1 : IntKind.i64.wrap ((n - 1) * (-P + Q)) = (n - 1) * (-P + Q) := by
      generalize (n - 1) * (-P + Q) = z at s1 s2 ⊢
      rw [IntKind.wrap_i64]
      omega
    generalize hz : (n - 1) * (-P + Q) = z at *
    have b4 : -16 ≤ P := by omega
    have q5 : (P < -P) = True := by simp; omega
    have q6 : (-P < P) = False := by simp; omega
    clear e1 h3
    go_enter Bar.func67, Bar.ntmps67
    go_wp2_with fail
    go_ret
    exact ⟨rfl, (Below.refl _ _).alloc (Nat.le_refl _) _⟩
  · have e1 : ((P.natAbs : Nat) : Int) = P := by omega
    rw [e1] at s1 s2 ⊢
    have n1 : IntKind.i64.wrap ((n - 1) * (P + Q)) = (n - 1) * (P + Q) := by
      generalize (n - 1) * (P + Q) = z at s1 s2 ⊢
      rw [IntKind.wrap_i64]
      omega
    generalize hz : (n - 1) * (P + Q) = z at *
    have b4 : 0 ≤ P := by omega
    have b5 : P ≤ 16 := by omega
    have q5 : (P < -P) = False := by simp; omega
    have q6 : (-P ≤ P) = True := by simp; omega
    clear e1 h3
    go_enter Bar.func67, Bar.ntmps67
    go_wp2_with fail
    go_ret
    exact ⟨rfl, (Below.refl _ _).alloc (Nat.le_refl _) _⟩

set_option maxHeartbeats 1600000 in
/-- The number of the line of (0, 0). -/
theorem originAny {n P Q : Int} (h1 : 1 ≤ n) (h2 : n ≤ 64) (h3 : P.natAbs ≤ 16) (w : World) :
    Calls (barP Try.prog) 73 #[.int .i64 n, .agg #[.int .i64 P, .int .i64 Q]] w fun e w' => e = .returned (.int .i64 (startS n (P, Q))) ∧ Below w.heap.size w w' := by
  unfold startS
  dsimp only
  by_cases c2 : P < 0
  · rw [if_pos c2]
    have q5 : (P < 0) = True := by simp; omega
    clear h3 c2
    go_enter Bar.func73, Bar.ntmps73
    go_wp2_with fail
    go_ret
    exact ⟨by rw [Int.zero_mul]; rfl, (Below.refl _ _).alloc (Nat.le_refl _) _⟩
  · rw [if_neg c2]
    have q5 : (P < 0) = False := by simp; omega
    have hs : 0 ≤ P * (n - 1) ∧ P * (n - 1) ≤ 1008 := by
      have a1 : P * (n - 1) ≤ 16 * 63 := Int.mul_le_mul (by omega) (by omega) (by omega) (by omega)
      exact ⟨Int.mul_nonneg (by omega) (by omega), a1⟩
    have b4 : 0 ≤ P := by omega
    have b5 : P ≤ 16 := by omega
    have n1 : IntKind.i64.wrap (P * (n - 1)) = P * (n - 1) := by
      generalize P * (n - 1) = z at hs ⊢
      rw [IntKind.wrap_i64]
      omega
    generalize hz : P * (n - 1) = z at *
    clear h3 c2
    go_enter Bar.func73, Bar.ntmps73
    go_wp2_with fail
    go_ret
    exact ⟨rfl, (Below.refl _ _).alloc (Nat.le_refl _) _⟩


theorem binsS_good {n P Q : Int} (h1 : 1 ≤ n) (h2 : n ≤ 64) (h3 : okD P Q = true) : binsS n (P, Q) = ((n - 1) * (P.natAbs + Q) + 1, 0) := by
  unfold binsS
  rw [if_neg (by omega), if_pos h3]

theorem binsS_none {n : Int} {a : Int × Int} (h : (binsS n a).2 ≠ 0) : (binsS n a).1 = 0 := by
  unfold binsS at h ⊢
  split
  · rfl
  · rename_i c
    rw [if_neg c] at h
    split
    · rename_i c2
      rw [if_pos c2] at h
      exact absurd rfl h
    · rfl

set_option maxHeartbeats 1600000 in
theorem dirBins {n : Int} {a : Int × Int} (ha : Dir64 a) (w : World) :
    Calls (barP Try.prog) 34 #[.int .i64 n, dirV a] w fun e w' => e = .returned (.tuple #[.int .i64 (binsS n a).1, .int .i64 (binsS n a).2]) ∧ Below w.heap.size w w' := by
  have k := hide (fun w => lookAny (n := n) ha w)
  by_cases c1 : (binsS n a).2 = 0
  · obtain ⟨r1, r2, r3⟩ := binsS_ok c1
    obtain ⟨P, Q⟩ := a
    obtain ⟨b1, b2, b3⟩ := okD_bounds r3
    have kb := hide (fun w => dbinsAny r1 r2 b1 b2 b3 w)
    rw [binsS_good r1 r2 r3] at k ⊢
    dsimp only at k kb ⊢
    generalize (n - 1) * (P.natAbs + Q) + 1 = bn at kb ⊢
    unfold dirV at k ⊢
    dsimp only at k ⊢
    clear c1 r3 b1 ha
    go_enter Bar.func34, Bar.ntmps34
    go_wp2_with fail
    refine (unhide k _).mono ?_
    rintro e w1 ⟨rfl, hb1⟩
    have hB : Hid (Below w.heap.size w w1) := ((Below.refl _ _).alloc (Nat.le_refl _) _).trans (hb1.mono (by simp))
    have x1 : w1.cell? ⟨w.heap.size, 0, none⟩ = some (.int .i64 P) := by rw [hb1.cell (by simp)]; simp [go_sem]
    have x2 : w1.cell? ⟨w.heap.size, 1, none⟩ = some (.int .i64 Q) := by rw [hb1.cell (by simp)]; simp [go_sem]
    clear hb1
    go_wp2_with fail
    refine (unhide kb _).mono ?_
    rintro e w2 ⟨rfl, hb2⟩
    have hB2 : Hid (Below w.heap.size w w2) := (unhide hB).trans (hb2.mono (unhide hB).size)
    clear hb2
    go_wp2_with fail
    go_ret2
    exact ⟨rfl, unhide hB2⟩
  · have hI := hide (binsS_none c1)
    generalize binsS n a = bb at *
    obtain ⟨P, Q⟩ := a
    obtain ⟨bn, be⟩ := bb
    unfold dirV at *
    dsimp only at *
    have q1 : (be != 0) = true := by simp; exact c1
    clear c1 ha
    go_enter Bar.func34, Bar.ntmps34
    go_wp2_with fail
    refine (unhide k _).mono ?_
    rintro e w1 ⟨rfl, hb1⟩
    have hB : Hid (Below w.heap.size w w1) := ((Below.refl _ _).alloc (Nat.le_refl _) _).trans (hb1.mono (by simp))
    clear hb1
    go_wp2_with fail
    go_ret2
    exact ⟨by rw [unhide hI]; rfl, unhide hB⟩

set_option maxHeartbeats 3200000 in
theorem dirIndex {n x y : Int} {a : Int × Int} (ha : Dir64 a) (w : World) :
    Calls (barP Try.prog) 82 #[.int .i64 n, dirV a, .int .i64 x, .int .i64 y] w fun e w' => e = .returned (.tuple #[.int .i64 (indexS n a x y).1, .int .i64 (indexS n a x y).2]) ∧ Below w.heap.size w w' := by
  have k := hide (fun w => lookAny (n := n) ha w)
  by_cases c1 : (binsS n a).2 = 0
  · obtain ⟨r1, r2, r3⟩ := binsS_ok c1
    have hI : Hid (indexS n a x y = if x < 0 ∨ n ≤ x ∨ y < 0 ∨ n ≤ y then (0, 1) else (a.2 * x - a.1 * y + startS n a, 0)) := by
      show _ = _
      unfold indexS
      rw [if_neg (by omega)]
    rw [c1] at k
    obtain ⟨P, Q⟩ := a
    obtain ⟨b1, b2, b3⟩ := okD_bounds r3
    dsimp only at b1 b2 b3 hI
    have ks := hide (fun w => originAny (Q := Q) r1 r2 b1 w)
    obtain ⟨s1, s2⟩ := start_small (Q := Q) r1 r2 b1
    generalize startS n (P, Q) = st at *
    have kx := hide (fun w => liesAny (n := n) (x := x) w)
    have ky := hide (fun w => liesAny (n := n) (x := y) w)
    unfold dirV at *
    dsimp only at *
    by_cases c2 : x < 0 ∨ n ≤ x ∨ y < 0 ∨ n ≤ y
    · rw [if_pos c2] at hI
      generalize indexS n (P, Q) x y = r at hI ⊢
      clear c1 r3 ks
      by_cases d1 : 0 ≤ x ∧ x < n
      · rw [decide_eq_true d1] at kx
        rw [decide_eq_false (by omega : ¬ (0 ≤ y ∧ y < n))] at ky
        clear d1 c2
        go_enter Bar.func82, Bar.ntmps82
        go_wp2_with fail
        refine (unhide k _).mono ?_
        rintro e w1 ⟨rfl, hb1⟩
        have hB : Hid (Below w.heap.size w w1) := ((Below.refl _ _).alloc (Nat.le_refl _) _).trans (hb1.mono (by simp))
        clear hb1
        go_wp2_with fail
        refine (unhide kx _).mono ?_
        rintro e w2 ⟨rfl, hw2⟩
        obtain rfl := hw2.symm
        go_wp2_with fail
        refine (unhide ky _).mono ?_
        rintro e w3 ⟨rfl, hw3⟩
        obtain rfl := hw3.symm
        go_wp2_with fail
        go_ret2
        exact ⟨by rw [unhide hI]; rfl, unhide hB⟩
      · rw [decide_eq_false d1] at kx
        clear d1 c2
        go_enter Bar.func82, Bar.ntmps82
        go_wp2_with fail
        refine (unhide k _).mono ?_
        rintro e w1 ⟨rfl, hb1⟩
        have hB : Hid (Below w.heap.size w w1) := ((Below.refl _ _).alloc (Nat.le_refl _) _).trans (hb1.mono (by simp))
        clear hb1
        go_wp2_with fail
        refine (unhide kx _).mono ?_
        rintro e w2 ⟨rfl, hw2⟩
        obtain rfl := hw2.symm
        go_wp2_with fail
        go_ret2
        exact ⟨by rw [unhide hI]; rfl, unhide hB⟩
    · rw [if_neg c2] at hI
      rw [decide_eq_true (by omega : 0 ≤ x ∧ x < n)] at kx
      rw [decide_eq_true (by omega : 0 ≤ y ∧ y < n)] at ky
      have m1 := cell_prod (x := x) (n := n) (Q := Q) (by omega) (by omega) r2 (by omega)
      have m2 := cell_prod (x := y) (n := n) (Q := P) (by omega) (by omega) r2 b1
      have n1 : IntKind.i64.wrap (Q * x) = Q * x := by rw [IntKind.wrap_i64]; omega
      have n2 : IntKind.i64.wrap (P * y) = P * y := by rw [IntKind.wrap_i64]; omega
      generalize hX : Q * x = X at *
      generalize hY : P * y = Y at *
      have g1 : -1008 ≤ X ∧ X ≤ 1008 := by omega
      have g2 : -1008 ≤ Y ∧ Y ≤ 1008 := by omega
      have n3 : IntKind.i64.wrap (X - Y) = X - Y := by rw [IntKind.wrap_i64]; omega
      have n4 : IntKind.i64.wrap (X - Y + st) = X - Y + st := by rw [IntKind.wrap_i64]; omega
      generalize indexS n (P, Q) x y = r at hI ⊢
      clear c1 c2 r3 m1 m2 b1
      go_enter Bar.func82, Bar.ntmps82
      go_wp2_with fail
      refine (unhide k _).mono ?_
      rintro e w1 ⟨rfl, hb1⟩
      have hB : Hid (Below w.heap.size w w1) := ((Below.refl _ _).alloc (Nat.le_refl _) _).trans (hb1.mono (by simp))
      have x1 : w1.cell? ⟨w.heap.size, 0, none⟩ = some (.int .i64 P) := by rw [hb1.cell (by simp)]; simp [go_sem]
      have x2 : w1.cell? ⟨w.heap.size, 1, none⟩ = some (.int .i64 Q) := by rw [hb1.cell (by simp)]; simp [go_sem]
      have hz : Hid (w.heap.size < w1.heap.size) := by
        have := hb1.size
        simp at this
        exact this
      have fct : Hid (∀ w8 : World, Below w1.heap.size w1 w8 → w8.cell? ⟨w.heap.size, 0, none⟩ = some (.int .i64 P) ∧ w8.cell? ⟨w.heap.size, 1, none⟩ = some (.int .i64 Q)) :=
        fun w8 h => ⟨(h.cell (p := ⟨w.heap.size, 0, none⟩) (unhide hz)).trans x1, (h.cell (p := ⟨w.heap.size, 1, none⟩) (unhide hz)).trans x2⟩
      clear hb1 k
      go_wp2_with fail
      refine (unhide kx _).mono ?_
      rintro e w2 ⟨rfl, hw2⟩
      obtain rfl := hw2.symm
      go_wp2_with fail
      refine (unhide ky _).mono ?_
      rintro e w3 ⟨rfl, hw3⟩
      obtain rfl := hw3.symm
      go_wp2_with fail
      go_region_held3 (fun w8 => w8.cell? ⟨w.heap.size, 0, none⟩ = some (.int .i64 P) ∧ w8.cell? ⟨w.heap.size, 1, none⟩ = some (.int .i64 Q))
        (first | exact unhide fct _ (unhide hv1) | go_keep)
        (first
        | (go_at_call 73; with_reducible refine (unhide ks _).mono ?_; rintro e v1 ⟨rfl, hx1⟩
           have hv1 : Hid (Below w1.heap.size w1 v1) := ⟨hx1.os, hx1.tape, hx1.output, hx1.size, hx1.block⟩
           clear hx1))
      go_wp2_with fail
      go_ret2
      exact ⟨by rw [unhide hI]; rfl, (unhide hB).trans ((unhide hv1).mono (unhide hB).size)⟩
  · have hI := hide (binsS_bad c1 x y)
    generalize binsS n a = bb at *
    generalize indexS n a x y = r at hI ⊢
    obtain ⟨P, Q⟩ := a
    obtain ⟨bn, be⟩ := bb
    unfold dirV at *
    dsimp only at *
    have q1 : (be != 0) = true := by simp; exact c1
    clear c1
    go_enter Bar.func82, Bar.ntmps82
    go_wp2_with fail
    refine (unhide k _).mono ?_
    rintro e w1 ⟨rfl, hb1⟩
    have hB : Hid (Below w.heap.size w w1) := ((Below.refl _ _).alloc (Nat.le_refl _) _).trans (hb1.mono (by simp))
    clear hb1
    go_wp2_with fail
    go_ret2
    exact ⟨by rw [unhide hI]; rfl, unhide hB⟩
end Go.Proofs.Ythbghcebcahlnaa
