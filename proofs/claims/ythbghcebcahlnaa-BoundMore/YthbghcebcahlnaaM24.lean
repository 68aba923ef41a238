/- The program's own isSide, liesIn, look, bins, origin, Bins, Index. Lists of pairs; the program's own slope. The program's own row, Line. -/
import Derived.Test.YthbghcebcahlnaaM23
import Derived.Test.YthbghcebcahlnaaM20
namespace Go.Proofs.Ythbghcebcahlnaa
open Go.RowKit

set_option maxHeartbeats 800000 in
theorem sideAny {n : Int} (w : World) :
    Calls (barP Try.prog) 85 #[.int .i64 n] w fun e w' => e = .returned (.bool (decide (1 ≤ n ∧ n ≤ 64))) ∧ w' = w := by
  by_cases c1 : 1 ≤ n
  · have q1 : (1 ≤ n) = True := by simp; omega
    by_cases c2 : n ≤ 64
    · have q2 : (n ≤ 64) = True := by simp; omega
      rw [decide_eq_true (⟨c1, c2⟩ : 1 ≤ n ∧ n ≤ 64)]
      clear c1 c2
      go_enter Bar.func85, Bar.ntmps85
      go_wp2_with fail
      go_ret
      exact ⟨rfl, rfl⟩
    · have q2 : (n ≤ 64) = False := by simp; omega
      rw [decide_eq_false (fun h => c2 h.2 : ¬ (1 ≤ n ∧ n ≤ 64))]
      clear c1 c2
      go_enter Bar.func85, Bar.ntmps85
      go_wp2_with fail
      go_ret
      exact ⟨rfl, rfl⟩
  · have q1 : (1 ≤ n) = False := by simp; omega
    rw [decide_eq_false (fun h => c1 h.1 : ¬ (1 ≤ n ∧ n ≤ 64))]
    clear c1
    go_enter Bar.func85, Bar.ntmps85
    go_wp2_with fail
    go_ret
    exact ⟨rfl, rfl⟩

set_option maxHeartbeats 800000 in
theorem liesAny {n x : Int} (w : World) :
    Calls (barP Try.prog) 89 #[.int .i64 n, .int .i64 x] w fun e w' => e = .returned (.bool (decide (0 ≤ x ∧ x < n))) ∧ w' = w := by
  by_cases c1 : 0 ≤ x
  · have q1 : (0 ≤ x) = True := by simp; omega
    by_cases c2 : x < n
    · have q2 : (x < n) = True := by simp; omega
      rw [decide_eq_true (⟨c1, c2⟩ : 0 ≤ x ∧ x < n)]
      clear c1 c2
      go_enter Bar.func89, Bar.ntmps89
      go_wp2_with fail
      go_ret
      exact ⟨rfl, rfl⟩
    · have q2 : (x < n) = False := by simp; omega
      rw [decide_eq_false (fun h => c2 h.2 : ¬ (0 ≤ x ∧ x < n))]
      clear c1 c2
      go_enter Bar.func89, Bar.ntmps89
      go_wp2_with fail
      go_ret
      exact ⟨rfl, rfl⟩
  · have q1 : (0 ≤ x) = False := by simp; omega
    rw [decide_eq_false (fun h => c1 h.1 : ¬ (0 ≤ x ∧ x < n))]
    clear c1
    go_enter Bar.func89, Bar.ntmps89
    go_wp2_with fail
    go_ret
    exact ⟨rfl, rfl⟩

set_option maxHeartbeats 1600000 in
/-- The errors that all calls about lines begin with. -/
theorem lookAny {n : Int} {a : Int × Int} (ha : Dir64 a) (w : World) :
    Calls (barP Try.prog) 66 #[.int .i64 n, dirV a] w fun e w' => e = .returned (.int .i64 (binsS n a).2) ∧ Below w.heap.size w w' := by
  obtain ⟨P, Q⟩ := a
  have k := hide (fun w => dirCheck ha.one ha.two w)
  have ks := hide (fun w => sideAny (n := n) w)
  unfold dirV at k ⊢
  dsimp only at k ⊢
  clear ha
  by_cases c1 : n < 1 ∨ 64 < n
  · have hS : Hid ((binsS n (P, Q)).2 = 1) := by show _ = _; unfold binsS; rw [if_pos c1]
    rw [decide_eq_false (by omega : ¬ (1 ≤ n ∧ n ≤ 64))] at ks
    generalize (binsS n (P, Q)).2 = r at hS ⊢
    clear c1 k
    go_enter Bar.func66, Bar.ntmps66
    go_wp2_with fail
    refine (unhide ks _).mono ?_
    rintro e w1 ⟨rfl, rfl⟩
    go_wp2_with fail
    go_ret
    exact ⟨by rw [unhide hS]; rfl, (Below.refl _ _).alloc (Nat.le_refl _) _⟩
  · have hS : Hid ((binsS n (P, Q)).2 = checkS P Q) := by
      show _ = _
      unfold binsS checkS
      rw [if_neg c1]
      dsimp only
      split <;> rfl
    rw [decide_eq_true (by omega : 1 ≤ n ∧ n ≤ 64)] at ks
    generalize (binsS n (P, Q)).2 = r at hS ⊢
    generalize checkS P Q = ch at hS k
    clear c1
    go_enter Bar.func66, Bar.ntmps66
    go_wp2_with fail
    refine (unhide ks _).mono ?_
    rintro e w1 ⟨rfl, rfl⟩
    go_wp2_with fail
    refine (unhide k _).mono ?_
    rintro e w1 ⟨rfl, hb1⟩
    have hB : Hid (Below w.heap.size w w1) := ((Below.refl _ _).alloc (Nat.le_refl _) _).trans (hb1.mono (by simp))
    clear hb1
    go_wp2_with fail
    go_ret
    exact ⟨by rw [unhide hS]; rfl, unhide hB⟩

set_option maxHeartbeats 1600000 in
/-- How many lines. -/
theorem dbinsAny {n P Q : Int} (h1 : 1 ≤ n) (h2 : n ≤ 64) (h3 : P.natAbs ≤ 16) (h4 : 0 ≤ Q) (h5 : Q ≤ 16) (w : World) :
    Calls (barP Try.prog) 67 #[.int .i64 n, .agg #[.int .i64 P, .int .i64 Q]] w fun e w' => e = .returned (.int .i64 ((n - 1) * (P.natAbs + Q) + 1)) ∧ Below w.heap.size w w' := by
  obtain ⟨s1, s2⟩ := bins_small (P := P) h1 h2 h3 h4 h5
  by_cases c2 : P < 0
  · have e1 : ((P.natAbs : Nat) : Int) = -P := by omega
    rw [e1] at s1 s2 ⊢
    have n1 : IntKind.i64.wrap ((n - 1) * (-P + Q)) = (n - 1) * (-P + Q) := by
      generalize (n - 1) * (-P + Q) = z at s1 s2 ⊢
      rw [IntKind.wrap_i64]
      omega
    generalize hz : (n - 1) * (-P + Q) = z at *
    have b4 : -16 ≤ P := by omega
    have q5 : (P < -P) = True := by simp; omega
    have q6 : (-P < P) = False := by simp; omega
    clear e1 h3
    go_enter Bar.func67, Bar.ntmps67
    go_wp2_with fail
    go_ret
    exact ⟨rfl, (Below.refl _ _).alloc (Nat.le_refl _) _⟩
  · have e1 : ((P.natAbs : Nat) : Int) = P := by omega
    rw [e1] at s1 s2 ⊢
    have n1 : IntKind.i64.wrap ((n - 1) * (P + Q)) = (n - 1) * (P + Q) := by
      generalize (n - 1) * (P + Q) = z at s1 s2 ⊢
      rw [IntKind.wrap_i64]
      omega
    generalize hz : (n - 1) * (P + Q) = z at *
    have b4 : 0 ≤ P := by omega
    have b5 : P ≤ 16 := by omega
    have q5 : (P < -P) = False := by simp; omega
    have q6 : (-P ≤ P) = True := by simp; omega
    clear e1 h3
    go_enter Bar.func67, Bar.ntmps67
    go_wp2_with fail
    go_ret
    exact ⟨rfl, (Below.refl _ _).alloc (Nat.le_refl _) _⟩

set_option maxHeartbeats 1600000 in
/-- The number of the line of (0, 0). -/
theorem originAny {n P Q : Int} (h1 : 1 ≤ n) (h2 : n ≤ 64) (h3 : P.natAbs ≤ 16) (w : World) :
    Calls (barP Try.prog) 73 #[.int .i64 n, .agg #[.int .i64 P, .int .i64 Q]] w fun e w' => e = .returned (.int .i64 (startS n (P, Q))) ∧ Below w.heap.size w w' := by
  unfold startS
  dsimp only
  by_cases c2 : P < 0
  · rw [if_pos c2]
    have q5 : (P < 0) = True := by simp; omega
    clear h3 c2
    go_enter Bar.func73, Bar.ntmps73
    go_wp2_with fail
    go_ret
    exact ⟨by rw [Int.zero_mul]; rfl, (Below.refl _ _).alloc (Nat.le_refl _) _⟩
  · rw [if_neg c2]
    have q5 : (P < 0) = False := by simp; omega
    have hs : 0 ≤ P * (n - 1) ∧ P * (n - 1) ≤ 1008 := by
      have a1 : P * (n - 1) ≤ 16 * 63 := Int.mul_le_mul (by omega) (by omega) (by omega) (by omega)
      exact ⟨Int.mul_nonneg (by omega) (by omega), a1⟩
    have b4 : 0 ≤ P := by omega
    have b5 : P ≤ 16 := by omega
    have n1 : IntKind.i64.wrap (P * (n - 1)) = P * (n - 1) := by
      generalize P * (n - 1) = z at hs ⊢
      rw [IntKind.wrap_i64]
      omega
    generalize hz : P * (n - 1) = z at *
    clear h3 c2
    go_enter Bar.func73, Bar.ntmps73
    go_wp2_with fail
    go_ret
    exact ⟨rfl, (Below.refl _ _).alloc (Nat.le_refl _) _⟩


theorem binsS_good {n P Q : Int} (h1 : 1 ≤ n) (h2 : n ≤ 64) (h3 : okD P Q = true) : binsS n (P, Q) = ((n - 1) * (P.natAbs + Q) + 1, 0) := by
  unfold binsS
  rw [if_neg (by omega), if_pos h3]

theorem binsS_none {n : Int} {a : Int × Int} (h : (binsS n a).2 ≠ 0) : (binsS n a).1 = 0 := by
  unfold binsS at h ⊢
  split
  · rfl
  · rename_i c
    rw [if_neg c] at h
    split
    · rename_i c2
      rw [if_pos c2] at h
      exact absurd rfl h
    · rfl

set_option maxHeartbeats 1600000 in
theorem dirBins {n : Int} {a : Int × Int} (ha : Dir64 a) (w : World) :
    Calls (barP Try.prog) 34 #[.int .i64 n, dirV a] w fun e w' => e = .returned (.tuple #[.int .i64 (binsS n a).1, .int .i64 (binsS n a).2]) ∧ Below w.heap.size w w' := by
  have k := hide (fun w => lookAny (n := n) ha w)
  by_cases c1 : (binsS n a).2 = 0
  · obtain ⟨r1, r2, r3⟩ := binsS_ok c1
    obtain ⟨P, Q⟩ := a
    obtain ⟨b1, b2, b3⟩ := okD_bounds r3
    have kb := hide (fun w => dbinsAny r1 r2 b1 b2 b3 w)
    rw [binsS_good r1 r2 r3] at k ⊢
    dsimp only at k kb ⊢
    generalize (n - 1) * (P.natAbs + Q) + 1 = bn at kb ⊢
    unfold dirV at k ⊢
    dsimp only at k ⊢
    clear c1 r3 b1 ha
    go_enter Bar.func34, Bar.ntmps34
    go_wp2_with fail
    refine (unhide k _).mono ?_
    rintro e w1 ⟨rfl, hb1⟩
    have hB : Hid (Below w.heap.size w w1) := ((Below.refl _ _).alloc (Nat.le_refl _) _).trans (hb1.mono (by simp))
    have x1 : w1.cell? ⟨w.heap.size, 0, none⟩ = some (.int .i64 P) := by rw [hb1.cell (by simp)]; simp [go_sem]
    have x2 : w1.cell? ⟨w.heap.size, 1, none⟩ = some (.int .i64 Q) := by rw [hb1.cell (by simp)]; simp [go_sem]
    clear hb1
    go_wp2_with fail
    refine (unhide kb _).mono ?_
    rintro e w2 ⟨rfl, hb2⟩
    have hB2 : Hid (Below w.heap.size w w2) := (unhide hB).trans (hb2.mono (unhide hB).size)
    clear hb2
    go_wp2_with fail
    go_ret2
    exact ⟨rfl, unhide hB2⟩
  · have hI := hide (binsS_none c1)
    generalize binsS n a = bb at *
    obtain ⟨P, Q⟩ := a
    obtain ⟨bn, be⟩ := bb
    unfold dirV at *
    dsimp only at *
    have q1 : (be != 0) = true := by simp; exact c1
    clear c1 ha
    go_enter Bar.func34, Bar.ntmps34
    go_wp2_with fail
    refine (unhide k _).mono ?_
    rintro e w1 ⟨rfl, hb1⟩
    have hB : Hid (Below w.heap.size w w1) := ((Below.refl _ _).alloc (Nat.le_refl _) _).trans (hb1.mono (by simp))
    clear hb1
    go_wp2_with fail
    go_ret2
    exact ⟨by rw [unhide hI]; rfl, unhide hB⟩

set_option maxHeartbeats 3200000 in
theorem dirIndex {n x y : Int} {a : Int × Int} (ha : Dir64 a) (w : World) :
    Calls (barP Try.prog) 82 #[.int .i64 n, dirV a, .int .i64 x, .int .i64 y] w fun e w' => e = .returned (.tuple #[.int .i64 (indexS n a x y).1, .int .i64 (indexS n a x y).2]) ∧ Below w.heap.size w w' := by
  have k := hide (fun w => lookAny (n := n) ha w)
  by_cases c1 : (binsS n a).2 = 0
  · obtain ⟨r1, r2, r3⟩ := binsS_ok c1
    have hI : Hid (indexS n a x y = if x < 0 ∨ n ≤ x ∨ y < 0 ∨ n ≤ y then (0, 1) else (a.2 * x - a.1 * y + startS n a, 0)) := by
      show _ = _
      unfold indexS
      rw [if_neg (by omega)]
    rw [c1] at k
    obtain ⟨P, Q⟩ := a
    obtain ⟨b1, b2, b3⟩ := okD_bounds r3
    dsimp only at b1 b2 b3 hI
    have ks := hide (fun w => originAny (Q := Q) r1 r2 b1 w)
    obtain ⟨s1, s2⟩ := start_small (Q := Q) r1 r2 b1
    generalize startS n (P, Q) = st at *
    have kx := hide (fun w => liesAny (n := n) (x := x) w)
    have ky := hide (fun w => liesAny (n := n) (x := y) w)
    unfold dirV at *
    dsimp only at *
    by_cases c2 : x < 0 ∨ n ≤ x ∨ y < 0 ∨ n ≤ y
    · rw [if_pos c2] at hI
      generalize indexS n (P, Q) x y = r at hI ⊢
      clear c1 r3 ks
      by_cases d1 : 0 ≤ x ∧ x < n
      · rw [decide_eq_true d1] at kx
        rw [decide_eq_false (by omega : ¬ (0 ≤ y ∧ y < n))] at ky
        clear d1 c2
        go_enter Bar.func82, Bar.ntmps82
        go_wp2_with fail
        refine (unhide k _).mono ?_
        rintro e w1 ⟨rfl, hb1⟩
        have hB : Hid (Below w.heap.size w w1) := ((Below.refl _ _).alloc (Nat.le_refl _) _).trans (hb1.mono (by simp))
        clear hb1
        go_wp2_with fail
        refine (unhide kx _).mono ?_
        rintro e w2 ⟨rfl, hw2⟩
        obtain rfl := hw2.symm
        go_wp2_with fail
        refine (unhide ky _).mono ?_
        rintro e w3 ⟨rfl, hw3⟩
        obtain rfl := hw3.symm
        go_wp2_with fail
        go_ret2
        exact ⟨by rw [unhide hI]; rfl, unhide hB⟩
      · rw [decide_eq_false d1] at kx
        clear d1 c2
        go_enter Bar.func82, Bar.ntmps82
        go_wp2_with fail
        refine (unhide k _).mono ?_
        rintro e w1 ⟨rfl, hb1⟩
        have hB : Hid (Below w.heap.size w w1) := ((Below.refl _ _).alloc (Nat.le_refl _) _).trans (hb1.mono (by simp))
        clear hb1
        go_wp2_with fail
        refine (unhide kx _).mono ?_
        rintro e w2 ⟨rfl, hw2⟩
        obtain rfl := hw2.symm
        go_wp2_with fail
        go_ret2
        exact ⟨by rw [unhide hI]; rfl, unhide hB⟩
    · rw [if_neg c2] at hI
      rw [decide_eq_true (by omega : 0 ≤ x ∧ x < n)] at kx
      rw [decide_eq_true (by omega : 0 ≤ y ∧ y < n)] at ky
      have m1 := cell_prod (x := x) (n := n) (Q := Q) (by omega) (by omega) r2 (by omega)
      have m2 := cell_prod (x := y) (n := n) (Q := P) (by omega) (by omega) r2 b1
      have n1 : IntKind.i64.wrap (Q * x) = Q * x := by rw [IntKind.wrap_i64]; omega
      have n2 : IntKind.i64.wrap (P * y) = P * y := by rw [IntKind.wrap_i64]; omega
      generalize hX : Q * x = X at *
      generalize hY : P * y = Y at *
      have g1 : -1008 ≤ X ∧ X ≤ 1008 := by omega
      have g2 : -1008 ≤ Y ∧ Y ≤ 1008 := by omega
      have n3 : IntKind.i64.wrap (X - Y) = X - Y := by rw [IntKind.wrap_i64]; omega
      have n4 : IntKind.i64.wrap (X - Y + st) = X - Y + st := by rw [IntKind.wrap_i64]; omega
      generalize indexS n (P, Q) x y = r at hI ⊢
      clear c1 c2 r3 m1 m2 b1
      go_enter Bar.func82, Bar.ntmps82
      go_wp2_with fail
      refine (unhide k _).mono ?_
      rintro e w1 ⟨rfl, hb1⟩
      have hB : Hid (Below w.heap.size w w1) := ((Below.refl _ _).alloc (Nat.le_refl _) _).trans (hb1.mono (by simp))
      have x1 : w1.cell? ⟨w.heap.size, 0, none⟩ = some (.int .i64 P) := by rw [hb1.cell (by simp)]; simp [go_sem]
      have x2 : w1.cell? ⟨w.heap.size, 1, none⟩ = some (.int .i64 Q) := by rw [hb1.cell (by simp)]; simp [go_sem]
      have hz : Hid (w.heap.size < w1.heap.size) := by
        have := hb1.size
        simp at this
        exact this
      have fct : Hid (∀ w8 : World, Below w1.heap.size w1 w8 → w8.cell? ⟨w.heap.size, 0, none⟩ = some (.int .i64 P) ∧ w8.cell? ⟨w.heap.size, 1, none⟩ = some (.int .i64 Q)) :=
        fun w8 h => ⟨(h.cell (p := ⟨w.heap.size, 0, none⟩) (unhide hz)).trans x1, (h.cell (p := ⟨w.heap.size, 1, none⟩) (unhide hz)).trans x2⟩
      clear hb1 k
      go_wp2_with fail
      refine (unhide kx _).mono ?_
      rintro e w2 ⟨rfl, hw2⟩
      obtain rfl := hw2.symm
      go_wp2_with fail
      refine (unhide ky _).mono ?_
      rintro e w3 ⟨rfl, hw3⟩
      obtain rfl := hw3.symm
      go_wp2_with fail
      go_region_held3 (fun w8 => w8.cell? ⟨w.heap.size, 0, none⟩ = some (.int .i64 P) ∧ w8.cell? ⟨w.heap.size, 1, none⟩ = some (.int .i64 Q))
        (first | exact unhide fct _ (unhide hv1) | go_keep)
        (first
        | (go_at_call 73; with_reducible refine (unhide ks _).mono ?_; rintro e v1 ⟨rfl, hx1⟩
           have hv1 : Hid (Below w1.heap.size w1 v1) := ⟨hx1.os, hx1.tape, hx1.output, hx1.size, hx1.block⟩
           clear hx1))
      go_wp2_with fail
      go_ret2
      exact ⟨by rw [unhide hI]; rfl, (unhide hB).trans ((unhide hv1).mono (unhide hB).size)⟩
  · have hI := hide (binsS_bad c1 x y)
    generalize binsS n a = bb at *
    generalize indexS n a x y = r at hI ⊢
    obtain ⟨P, Q⟩ := a
    obtain ⟨bn, be⟩ := bb
    unfold dirV at *
    dsimp only at *
    have q1 : (be != 0) = true := by simp; exact c1
    clear c1
    go_enter Bar.func82, Bar.ntmps82
    go_wp2_with fail
    refine (unhide k _).mono ?_
    rintro e w1 ⟨rfl, hb1⟩
    have hB : Hid (Below w.heap.size w w1) := ((Below.refl _ _).alloc (Nat.le_refl _) _).trans (hb1.mono (by simp))
    clear hb1
    go_wp2_with fail
    go_ret2
    exact ⟨by rw [unhide hI]; rfl, unhide hB⟩
end Go.Proofs.Ythbghcebcahlnaa

namespace Go.Proofs.Ythbghcebcahlnaa
open Go.RowKit

/-- A slice of pairs of ints, wherever it lies. -/
def Pairs2 (w : World) (v : Value) (L : List (Int × Int)) : Prop := ∃ (a : Option Addr) (cap g o : Nat), v = .slice a L.length cap ∧ (0 < L.length → a = some ⟨g, o, none⟩ ∧ g < w.heap.size) ∧
  ∀ i c, L[i]? = some c → w.cell? ⟨g, o + i * 2, none⟩ = some (.int .i64 c.1) ∧ w.cell? ⟨g, o + i * 2 + 1, none⟩ = some (.int .i64 c.2)

theorem pairs2_below {w w' : World} {v : Value} {L : List (Int × Int)} (h : Pairs2 w v L) (hb : Below w.heap.size w w') : Pairs2 w' v L := by
  obtain ⟨a, cap, g, o, h1, h2, h3⟩ := h
  refine ⟨a, cap, g, o, h1, fun hl => ⟨(h2 hl).1, Nat.lt_of_lt_of_le (h2 hl).2 hb.size⟩, fun i c hi => ?_⟩
  have hl : 0 < L.length := by
    have := (List.getElem?_eq_some_iff.1 hi).1
    omega
  exact ⟨(hb.cell (h2 hl).2).trans (h3 i c hi).1, (hb.cell (h2 hl).2).trans (h3 i c hi).2⟩

theorem flat2_get {L : List (Int × Int)} {i : Nat} {c : Int × Int} (h : L[i]? = some c) : (flat2 L)[i * 2]? = some (.int .i64 c.1) ∧ (flat2 L)[i * 2 + 1]? = some (.int .i64 c.2) := by
  induction L generalizing i with
  | nil => simp at h
  | cons a l ih =>
    have e : flat2 (a :: l) = .int .i64 a.1 :: .int .i64 a.2 :: flat2 l := by
      unfold flat2
      rfl
    rw [e]
    cases i with
    | zero =>
      simp at h
      subst h
      exact ⟨rfl, rfl⟩
    | succ i =>
      simp at h
      have := ih h
      rw [show (i + 1) * 2 = i * 2 + 2 by omega]
      exact this

theorem pairs2_owns {w : World} {B : Nat} {v : Value} {L : List (Int × Int)} (h : w.ownsRow B 92 2 v L.length (flat2 L)) : Pairs2 w v L := by
  rcases h.2 with ⟨h1, h2⟩ | ⟨g, cap, cur, h1, h2, h3, h4, h5, h6, h7⟩
  · refine ⟨none, 0, 0, 0, by rw [h2]; exact h1, fun hl => by omega, fun i c hi => ?_⟩
    have := (List.getElem?_eq_some_iff.1 hi).1
    omega
  · refine ⟨_, cap, g, 0, h1, fun _ => ⟨rfl, (Array.getElem?_eq_some_iff.1 h3).1⟩, fun i c hi => ?_⟩
    have hlt := (List.getElem?_eq_some_iff.1 hi).1
    obtain ⟨f1, f2⟩ := flat2_get hi
    rw [← h7, List.getElem?_take, if_pos (by omega)] at f1 f2
    rw [Nat.zero_add]
    refine ⟨?_, ?_⟩
    · simp [World.cell?, h3]
      simpa using f1
    · simp [World.cell?, h3]
      simpa using f2


/-- The cells of a row that lie on a line. -/
def rowL (P Q st bin : Int) (y k : Nat) : List (Int × Int) := ((List.range k).filter fun (x : Nat) => decide (Q * (x : Int) - P * (y : Int) + st = bin)).map fun (x : Nat) => ((x : Int), (y : Int))

theorem row_part (P Q st bin : Int) (n y : Nat) : ∀ k, k ≤ n → lineL P Q st bin n (y * n + k) = lineL P Q st bin n (y * n) ++ rowL P Q st bin y k
  | 0, _ => by
    unfold rowL
    simp
  | k + 1, h => by
    have ih := row_part P Q st bin n y k (by omega)
    by_cases c : Q * (k : Int) - P * (y : Int) + st = bin
    · rw [lineL_yes (by omega) c, ih, List.append_assoc]
      congr 1
      unfold rowL
      rw [List.range_succ, List.filter_append, List.map_append]
      simp [c]
    · rw [lineL_no (by omega) c, ih]
      congr 1
      unfold rowL
      rw [List.range_succ, List.filter_append, List.map_append]
      simp [c]

theorem row_next (P Q st bin : Int) (n y : Nat) : lineL P Q st bin n ((y + 1) * n) = lineL P Q st bin n (y * n) ++ rowL P Q st bin y n := by
  rw [Nat.succ_mul]
  exact row_part P Q st bin n y n (Nat.le_refl _)

theorem filter_one (p : Nat → Bool) (x0 : Nat) (h : ∀ x, p x = decide (x = x0)) : ∀ n, (List.range n).filter p = if x0 < n then [x0] else []
  | 0 => by simp
  | n + 1 => by
    rw [List.range_succ, List.filter_append, filter_one p x0 h n]
    by_cases c : x0 < n
    · rw [if_pos c, if_pos (by omega)]
      have : p n = false := by rw [h]; exact decide_eq_false (by omega)
      simp [this]
    · rw [if_neg c]
      by_cases c2 : n = x0
      · subst c2
        have : p n = true := by rw [h]; exact decide_eq_true rfl
        rw [if_pos (by omega)]
        simp [this]
      · have : p n = false := by rw [h]; exact decide_eq_false c2
        rw [if_neg (by omega)]
        simp [this]

theorem row_one {P Q st bin : Int} {n y x0 : Nat} (hQ : 0 < Q) (hx : x0 < n) (h : Q * (x0 : Int) = bin - st + P * (y : Int)) : rowL P Q st bin y n = [((x0 : Int), (y : Int))] := by
  unfold rowL
  rw [filter_one _ x0 (fun x => ?_), if_pos hx]
  · rfl
  · refine decide_eq_decide.2 ⟨fun e => ?_, fun e => ?_⟩
    · have e2 : Q * (x : Int) = Q * (x0 : Int) := by omega
      have := Int.eq_of_mul_eq_mul_left (by omega) e2
      omega
    · subst e
      omega

theorem row_none {P Q st bin : Int} {n y : Nat} (h : ∀ x : Nat, x < n → Q * (x : Int) ≠ bin - st + P * (y : Int)) : rowL P Q st bin y n = [] := by
  unfold rowL
  rw [List.map_eq_nil_iff, List.filter_eq_nil_iff]
  intro x hx
  have := h x (List.mem_range.1 hx)
  simp only [decide_eq_true_eq]
  omega

theorem slope_yes {P Q st bin s : Int} {n y : Nat} (hQ : 0 < Q) (hs : s = bin - st + P * (y : Int)) (h0 : s.tmod Q = 0) (h1 : 0 ≤ s.tdiv Q) (h2 : s.tdiv Q < n) :
    lineL P Q st bin n ((y + 1) * n) = lineL P Q st bin n (y * n) ++ [(s.tdiv Q, (y : Int))] := by
  have e := Int.mul_tdiv_add_tmod s Q
  rw [h0, Int.add_zero] at e
  have ex : ((s.tdiv Q).toNat : Int) = s.tdiv Q := Int.toNat_of_nonneg h1
  rw [row_next, row_one (x0 := (s.tdiv Q).toNat) hQ (by omega) (by rw [ex, e, hs]), ex]
theorem slope_no {P Q st bin s : Int} {n y : Nat} (hQ : 0 < Q) (hs : s = bin - st + P * (y : Int)) (h : s.tmod Q ≠ 0 ∨ ¬ (0 ≤ s.tdiv Q ∧ s.tdiv Q < n)) :
    lineL P Q st bin n ((y + 1) * n) = lineL P Q st bin n (y * n) := by
  rw [row_next, row_none, List.append_nil]
  intro x hx e
  rw [← hs] at e
  rcases h with h | h
  · apply h
    rw [← e]
    exact Int.mul_tmod_right _ _
  · apply h
    rw [← e, Int.mul_tdiv_cancel_left _ (by omega : Q ≠ 0)]
    omega

set_option maxHeartbeats 3200000 in
theorem slopeAny {N : Nat} {P Q st bin : Int} (hN : N ≤ 64) (hP : P.natAbs ≤ 16) (hQ : 0 < Q) (hQ2 : Q ≤ 16) (hl1 : -4000 ≤ bin - st) (hl2 : bin - st ≤ 4000) (w : World) :
    Calls (barP Try.prog) 74 #[.int .i64 N, .agg #[.int .i64 P, .int .i64 Q], .int .i64 (bin - st)] w fun e w' =>
      ∃ v, e = .returned v ∧ w'.ownsRow w.heap.size 92 2 v (lineL P Q st bin N (N * N)).length (flat2 (lineL P Q st bin N (N * N))) ∧ Below w.heap.size w w' := by
  have hyes := hide (fun (y : Nat) s hs h0 h1 h2 => slope_yes (P := P) (Q := Q) (st := st) (bin := bin) (s := s) (n := N) (y := y) hQ hs h0 h1 h2)
  have hno := hide (fun (y : Nat) s hs h => slope_no (P := P) (Q := Q) (st := st) (bin := bin) (s := s) (n := N) (y := y) hQ hs h)
  have hln := hide (fun k => lineL_len P Q st bin N k)
  have hzr := hide (lineL_zero P Q st bin N)
  obtain ⟨i0, hi0, hz0, hz1, hz2⟩ := info_parts infoCell
  have kl := hide (fun (x : Int) w => liesAny (n := (N : Int)) (x := x) w)
  generalize lineL P Q st bin N = LL at *
  generalize bin - st = lv at *
  have hPh : Hid (P.natAbs ≤ 16) := hP
  clear hP
  go_enter Bar.func74, Bar.ntmps74
  go_wp2_with fail
  have hB0 : Hid (Below w.heap.size w (w.alloc (.cells #[.int .i64 P, .int .i64 Q] 47))) := (Below.refl _ _).alloc (Nat.le_refl _) _
  have hx1 : Hid ((w.alloc (.cells #[.int .i64 P, .int .i64 Q] 47)).cell? ⟨w.heap.size, 0, none⟩ = some (.int .i64 P)) := by show _ = _; simp [go_sem]
  have hx2 : Hid ((w.alloc (.cells #[.int .i64 P, .int .i64 Q] 47)).cell? ⟨w.heap.size, 1, none⟩ = some (.int .i64 Q)) := by show _ = _; simp [go_sem]
  have hz : Hid (w.heap.size < (w.alloc (.cells #[.int .i64 P, .int .i64 Q] 47)).heap.size) := by show _ < _; simp
  generalize hw1 : w.alloc (.cells #[.int .i64 P, .int .i64 Q] 47) = w1 at *
  clear hw1
  go_loopw [7, 12] (fun lv yv wr => ∃ y : Nat, y ≤ N ∧ yv = .int .i64 y ∧ Hid (wr.ownsRow w1.heap.size 92 2 lv (LL (y * N)).length (flat2 (LL (y * N)))) ∧ Hid (Below w1.heap.size w1 wr)) (fun _ yv _ => N - (intOf yv).toNat)
  case atStart =>
    refine ⟨0, Nat.zero_le _, rfl, ?_, Below.refl _ _⟩
    rw [Nat.zero_mul, unhide hzr]
    exact World.ownsRow_nil _ _ _ _
  case round =>
    obtain ⟨y, hy, rfl, hO, hBr⟩ := hrel
    by_cases hyN : y < N
    · have q1 : ((y : Int) < (N : Int)) = True := by simp; omega
      have m2 := cell_prod (x := (y : Int)) (n := (N : Int)) (Q := P) (by omega) (by omega) (by omega) (unhide hPh)
      have n1 : IntKind.i64.wrap (P * (y : Int)) = P * (y : Int) := by rw [IntKind.wrap_i64]; omega
      have x1 := ((unhide hBr).cell (p := ⟨w.heap.size, 0, none⟩) (unhide hz)).trans (unhide hx1)
      have x2 := ((unhide hBr).cell (p := ⟨w.heap.size, 1, none⟩) (unhide hz)).trans (unhide hx2)
      have hY := hide (unhide hyes y)
      have hNo := hide (unhide hno y)
      generalize hYY : P * (y : Int) = Y at *
      have n2 : IntKind.i64.wrap (lv + Y) = lv + Y := by rw [IntKind.wrap_i64]; omega
      have hyx : Hid (y * N ≤ 4096) := Nat.mul_le_mul (show y ≤ 64 by omega) hN
      have hlen := unhide hln (y * N)
      have hlen2 : (LL (y * N)).length ≤ 4096 := Nat.le_trans hlen (unhide hyx)
      have q0 : ¬ Q = 0 := by omega
      by_cases c0 : (lv + Y).tmod Q = 0
      · have q2 : ((lv + Y).tmod Q == 0) = true := by simp; exact c0
        have kx := hide (unhide kl ((lv + Y).tdiv Q))
        by_cases c1 : 0 ≤ (lv + Y).tdiv Q ∧ (lv + Y).tdiv Q < N
        · rw [decide_eq_true c1] at kx
          have hL := hide (unhide hY (lv + Y) rfl c0 c1.1 c1.2)
          clear c0 c1 hY hNo hyes hno kl hlen
          go_wp2_with fail
          with_reducible refine (unhide kx _).mono ?_
          rintro e w2 ⟨rfl, hw2⟩
          obtain rfl := hw2.symm
          have hbs : w1.heap.size ≤ wr.heap.size := (unhide hBr).size
          go_wp2_with (first
            | (at_builtin; refine wpList_append_own _ rfl (.tmp 35) (.tmp 39) 88 rfl w1.heap.size 92 i0 (.agg #[.int .i64 0, .int .i64 0]) 2 16 Bar.underlying88 hi0 hz0 hz1 hz2 rfl (by decide) _ _ _ rfl ((unhide hO).alloc _) ⟨wr.heap.size, 0, none⟩ 1 1 [.int .i64 ((lv + Y).tdiv Q), .int .i64 y] rfl rfl (news_two _ _ _ _) ?c2 ?c3 ?c4 ?c5 ?_))
          case c2 => intro u hu; simp at hu; rcases hu with rfl | rfl <;> rfl
          case c3 => unfold maxLen; omega
          case c4 => omega
          case c5 => simp; omega
          intro v' w2 hown' hgrow _
          have hB3 : Hid (Below w1.heap.size w1 w2) := ((unhide hBr).alloc hbs _).grown hgrow (by simp; omega) (fun k hk => ((unhide hO).lt k hk).1)
          have hO2 : Hid (w2.ownsRow w1.heap.size 92 2 v' (LL ((y + 1) * N)).length (flat2 (LL ((y + 1) * N)))) := by
            rw [unhide hL, flat2_snoc, List.length_append]
            exact hown'
          clear hown' hgrow hBr hO
          go_wp2_with fail
          exact ⟨⟨y + 1, hyN, by go_num, hO2, hB3⟩, by simp [intOf]; omega⟩
        · rw [decide_eq_false c1] at kx
          have hL := hide (unhide hNo (lv + Y) rfl (Or.inr c1))
          have hO2 : Hid (wr.ownsRow w1.heap.size 92 2 u7 (LL ((y + 1) * N)).length (flat2 (LL ((y + 1) * N)))) := by
            rw [unhide hL]
            exact unhide hO
          clear c0 c1 hY hNo hyes hno kl hlen hO
          go_wp2_with fail
          with_reducible refine (unhide kx _).mono ?_
          rintro e w2 ⟨rfl, hw2⟩
          obtain rfl := hw2.symm
          go_wp2_with fail
          exact ⟨⟨y + 1, hyN, by go_num, hO2, hBr⟩, by simp [intOf]; omega⟩
      · have q2 : ((lv + Y).tmod Q == 0) = false := by simp; exact c0
        have hL := hide (unhide hNo (lv + Y) rfl (Or.inl c0))
        have hO2 : Hid (wr.ownsRow w1.heap.size 92 2 u7 (LL ((y + 1) * N)).length (flat2 (LL ((y + 1) * N)))) := by
          rw [unhide hL]
          exact unhide hO
        clear c0 hY hNo hyes hno kl hlen hO
        go_wp2_with fail
        exact ⟨⟨y + 1, hyN, by go_num, hO2, hBr⟩, by simp [intOf]; omega⟩
    · have q1 : ((y : Int) < (N : Int)) = False := by simp; omega
      have e : y = N := by omega
      rw [e] at hO
      clear hyes hno
      go_wp2_with fail
      go_ret
      exact ⟨_, rfl, (unhide hO).mono (unhide hB0).size, (unhide hB0).trans ((unhide hBr).mono (unhide hB0).size)⟩
end Go.Proofs.Ythbghcebcahlnaa

namespace Go.Proofs.Ythbghcebcahlnaa
open Go.RowKit

theorem row_flat {st bin : Int} {y k : Nat} : rowL 1 0 st bin y k = if st - bin = (y : Int) then (List.range k).map fun (x : Nat) => ((x : Int), (y : Int)) else [] := by
  unfold rowL
  by_cases c : st - bin = (y : Int)
  · rw [if_pos c, List.filter_eq_self.2]
    intro x _
    simp only [decide_eq_true_eq]
    omega
  · rw [if_neg c, List.map_eq_nil_iff, List.filter_eq_nil_iff]
    intro x _
    simp only [decide_eq_true_eq]
    omega

theorem flat_line {st bin : Int} {N y0 : Nat} (h : st - bin = (y0 : Int)) (hy : y0 < N) : lineL 1 0 st bin N (N * N) = (List.range N).map fun (x : Nat) => ((x : Int), (y0 : Int)) := by
  have key : ∀ j, j ≤ N → lineL 1 0 st bin N (j * N) = if y0 < j then (List.range N).map fun (x : Nat) => ((x : Int), (y0 : Int)) else [] := by
    intro j
    induction j with
    | zero =>
      intro _
      rw [Nat.zero_mul, lineL_zero, if_neg (by omega)]
    | succ j ih =>
      intro hj
      rw [row_next, ih (by omega), row_flat]
      by_cases c : y0 < j
      · rw [if_pos c, if_neg (by omega), if_pos (by omega), List.append_nil]
      · rw [if_neg c]
        by_cases c2 : y0 = j
        · subst c2
          rw [if_pos h, if_pos (by omega), List.nil_append]
        · rw [if_neg (by omega), if_neg (by omega), List.nil_append]
  rw [key N (Nat.le_refl _), if_pos hy]

theorem pairs2_nil (w : World) : Pairs2 w (.slice none 0 0) [] := ⟨none, 0, 0, 0, rfl, fun h => absurd h (by simp), fun i c h => by simp at h⟩

set_option maxHeartbeats 1600000 in
theorem rowAny {N : Nat} {y0 : Int} (hN : N ≤ 64) (w : World) :
    Calls (barP Try.prog) 72 #[.int .i64 N, .int .i64 y0] w fun e w' =>
      ∃ v, e = .returned v ∧ Pairs2 w' v ((List.range N).map fun (x : Nat) => ((x : Int), y0)) ∧ Below w.heap.size w w' := by
  obtain ⟨i0, hi0, hz0, hz1, hz2⟩ := info_parts infoCell
  go_enter Bar.func72, Bar.ntmps72
  go_wp2_with (first
    | (at_make; refine wpList_make_full _ rfl (.tmp 7) (.tmp 7) 88 rfl w.heap.size 92 i0 (.agg #[.int .i64 0, .int .i64 0]) 2 Bar.underlying88 hi0 hz0 hz1 .i64 .i64 N N N rfl rfl rfl rfl ?c1 ?c2 ?c3 ?_))
  case c1 => rw [hz2]; omega
  case c2 => unfold maxLen; omega
  case c3 => exact Nat.le_refl _
  intro w2 hown2 hg2
  have hB2 : Hid (Below w.heap.size w w2) := (Below.refl _ _).grown hg2 (Nat.le_refl _) (fun k hk => by cases hk)
  have hO2 := hide hown2
  clear hown2 hg2
  generalize (madeCells (Value.agg #[Value.int IntKind.i64 0, Value.int IntKind.i64 0]).cells (N * 2)).toList = xs0 at hO2
  go_wp2_with fail
  go_loopw [11] (fun ix wr => ∃ (x : Nat) (xs : List Value), x ≤ N ∧ ix = .int .i64 x ∧ Hid (wr.ownsRow w.heap.size 92 2 (.slice (some ⟨w.heap.size, 0, none⟩) N N) N xs) ∧ Hid (∀ j, j < x → xs[j * 2]? = some (.int .i64 j) ∧ xs[j * 2 + 1]? = some (.int .i64 y0)) ∧ Hid (Below w.heap.size w wr)) (fun ix _ => N - (intOf ix).toNat)
  case atStart => exact ⟨0, _, Nat.zero_le _, rfl, hO2, fun j hj => absurd hj (by omega), hB2⟩
  case round =>
    clear hO2 hB2
    obtain ⟨x, xs, hx, rfl, hO, hF, hB⟩ := hrel
    by_cases hc : x < N
    · have qq : ((x : Int) < (N : Int)) = True := by simp; omega
      have hl := (unhide hO).1
      have c1 : wr.cell? ⟨w.heap.size, x * 2, none⟩ = some xs[x * 2] := ((unhide hO).cellAt _ (by omega)).trans (List.getElem?_eq_getElem (by omega))
      have c2 : wr.cell? ⟨w.heap.size, x * 2 + 1, none⟩ = some xs[x * 2 + 1] := ((unhide hO).cellAt _ (by omega)).trans (List.getElem?_eq_getElem (by omega))
      have z1 : wr.frozen? ⟨w.heap.size, x * 2, none⟩ = false := (unhide hO).frozenAt _
      have z2 : wr.frozen? ⟨w.heap.size, x * 2 + 1, none⟩ = false := (unhide hO).frozenAt _
      have hi2' : (0 : Int) ≤ (x : Int) := by omega
      have hO6 := hide (((unhide hO).stored (x * 2) (.int .i64 x)).1.stored (x * 2 + 1) (.int .i64 y0)).1
      have hB6 := hide (((unhide hB).setCell (show _ ≤ (⟨w.heap.size, x * 2, none⟩ : Addr).block from Nat.le_refl _) (.int .i64 x)).setCell (show _ ≤ (⟨w.heap.size, x * 2 + 1, none⟩ : Addr).block from Nat.le_refl _) (.int .i64 y0))
      have hF6 : Hid (∀ j, j < x + 1 → ((xs.set (x * 2) (.int .i64 x)).set (x * 2 + 1) (.int .i64 y0))[j * 2]? = some (.int .i64 j) ∧ ((xs.set (x * 2) (.int .i64 x)).set (x * 2 + 1) (.int .i64 y0))[j * 2 + 1]? = some (.int .i64 y0)) := by
        intro j hj
        by_cases e : j = x
        · subst e
          refine ⟨?_, ?_⟩
          · rw [List.getElem?_set_ne (by omega), List.getElem?_set_self (by omega)]
          · rw [List.getElem?_set_self (by rw [List.length_set]; omega)]
        · obtain ⟨f1, f2⟩ := unhide hF j (by omega)
          refine ⟨?_, ?_⟩
          · rw [List.getElem?_set_ne (by omega), List.getElem?_set_ne (by omega)]
            exact f1
          · rw [List.getElem?_set_ne (by omega), List.getElem?_set_ne (by omega)]
            exact f2
      generalize xs[x * 2] = y1 at c1
      generalize xs[x * 2 + 1] = y2 at c2
      clear hO hF hB hl
      go_wp2_with fail
      exact ⟨⟨x + 1, _, hc, by go_num, hO6, hF6, hB6⟩, by simp [intOf]; omega⟩
    · have qq : ((x : Int) < (N : Int)) = False := by simp; omega
      have e : x = N := by omega
      subst e
      have hP : Hid (Pairs2 wr (.slice (some ⟨w.heap.size, 0, none⟩) x x) ((List.range x).map fun (j : Nat) => ((j : Int), y0))) := by
        refine ⟨some ⟨w.heap.size, 0, none⟩, x, w.heap.size, 0, by simp, fun hl => ⟨rfl, ((unhide hO).lt w.heap.size rfl).2⟩, fun i c hi => ?_⟩
        have hi2 : i < x := by
          have := (List.getElem?_eq_some_iff.1 hi).1
          simpa using this
        have hc2 : c = ((i : Int), y0) := by
          simp [hi2] at hi
          exact hi.symm
        subst hc2
        obtain ⟨f1, f2⟩ := unhide hF i hi2
        rw [Nat.zero_add]
        exact ⟨((unhide hO).cellAt _ (by omega)).trans f1, ((unhide hO).cellAt _ (by omega)).trans f2⟩
      clear hO hF
      go_wp2_with fail
      go_ret
      exact ⟨_, rfl, unhide hP, unhide hB⟩

theorem okD_flat {P : Int} (h : okD P 0 = true) : P = 1 := (okD_form h).2.1 rfl

set_option maxHeartbeats 3200000 in
theorem dirLine {n bin : Int} {a : Int × Int} (ha : Dir64 a) (w : World) :
    Calls (barP Try.prog) 37 #[.int .i64 n, dirV a, .int .i64 bin] w fun e w' =>
      ∃ v, e = .returned (.tuple #[v, .int .i64 (lineS n a bin).2]) ∧ Pairs2 w' v (lineS n a bin).1 ∧ Below w.heap.size w w' := by
  have k := hide (fun w => lookAny (n := n) ha w)
  by_cases c1 : (binsS n a).2 = 0
  · obtain ⟨r1, r2, r3⟩ := binsS_ok c1
    obtain ⟨P, Q⟩ := a
    obtain ⟨b1, b2, b3⟩ := okD_bounds r3
    dsimp only at b1 b2 b3 r3
    have kb := hide (fun w => dbinsAny r1 r2 b1 b2 b3 w)
    obtain ⟨t1, t2⟩ := bins_small (P := P) r1 r2 b1 b2 b3
    have hI0 : lineS n (P, Q) bin = if bin < 0 ∨ (binsS n (P, Q)).1 ≤ bin then ([], 1) else (lineL P Q (startS n (P, Q)) bin n.toNat (n.toNat * n.toNat), 0) := by
      unfold lineS
      rw [if_neg (by omega)]
    rw [binsS_good r1 r2 r3] at hI0 k
    dsimp only at hI0 k
    by_cases c2 : bin < 0 ∨ (n - 1) * (P.natAbs + Q) + 1 ≤ bin
    · rw [if_pos c2] at hI0
      have hI := hide hI0
      clear hI0
      generalize (n - 1) * (P.natAbs + Q) + 1 = bn at kb c2
      generalize lineS n (P, Q) bin = r at hI ⊢
      unfold dirV at *
      dsimp only at *
      clear c1 r3 b1 ha t1 t2
      by_cases d1 : bin < 0
      · have q1 : (bin < 0) = True := by simp; omega
        clear c2 d1 kb
        go_enter Bar.func37, Bar.ntmps37
        go_wp2_with fail
        refine (unhide k _).mono ?_
        rintro e w1 ⟨rfl, hb1⟩
        have hB : Hid (Below w.heap.size w w1) := ((Below.refl _ _).alloc (Nat.le_refl _) _).trans (hb1.mono (by simp))
        clear hb1
        go_wp2_with fail
        go_ret2
        rw [unhide hI]
        exact ⟨_, rfl, pairs2_nil _, unhide hB⟩
      · have q1 : (bin < 0) = False := by simp; omega
        have q2 : (bn ≤ bin) = True := by simp; omega
        clear c2 d1
        go_enter Bar.func37, Bar.ntmps37
        go_wp2_with fail
        refine (unhide k _).mono ?_
        rintro e w1 ⟨rfl, hb1⟩
        have hB : Hid (Below w.heap.size w w1) := ((Below.refl _ _).alloc (Nat.le_refl _) _).trans (hb1.mono (by simp))
        have x1 : w1.cell? ⟨w.heap.size, 0, none⟩ = some (.int .i64 P) := by rw [hb1.cell (by simp)]; simp [go_sem]
        have x2 : w1.cell? ⟨w.heap.size, 1, none⟩ = some (.int .i64 Q) := by rw [hb1.cell (by simp)]; simp [go_sem]
        clear hb1
        go_wp2_with fail
        refine (unhide kb _).mono ?_
        rintro e w2 ⟨rfl, hb2⟩
        have hB2 : Hid (Below w.heap.size w w2) := (unhide hB).trans (hb2.mono (unhide hB).size)
        clear hb2
        go_wp2_with fail
        go_ret2
        rw [unhide hI]
        exact ⟨_, rfl, pairs2_nil _, unhide hB2⟩
    · rw [if_neg c2] at hI0
      have hI := hide hI0
      clear hI0
      have ko := hide (fun w => originAny (Q := Q) r1 r2 b1 w)
      obtain ⟨s1, s2⟩ := start_small (Q := Q) r1 r2 b1
      obtain ⟨N, rfl⟩ : ∃ N : Nat, n = N := ⟨n.toNat, by omega⟩
      rw [Int.toNat_natCast] at hI
      have q1 : (bin < 0) = False := by simp; omega
      have q2 : ((((N : Int) - 1) * (P.natAbs + Q) + 1 ≤ bin)) = False := by simp; omega
      have g1 : 0 ≤ bin := by omega
      have g2 : bin ≤ 2016 := by omega
      by_cases cQ : Q = 0
      · subst cQ
        obtain rfl := okD_flat r3
        have hst : startS (N : Int) (1, 0) = (N : Int) - 1 := by
          unfold startS
          dsimp only
          rw [if_neg (by decide), Int.one_mul]
        have e1 : (((1 : Int).natAbs : Nat) : Int) + 0 = 1 := rfl
        rw [e1, Int.mul_one] at c2 q2 kb
        rw [hst] at hI ko
        obtain ⟨y0, hy⟩ : ∃ y0 : Nat, (N : Int) - 1 - bin = y0 := ⟨((N : Int) - 1 - bin).toNat, by omega⟩
        rw [flat_line hy (by omega)] at hI
        have kr := hide (fun w => rowAny (N := N) (y0 := (y0 : Int)) (by omega) w)
        have n1 : IntKind.i64.wrap ((N : Int) - 1 - bin) = y0 := by rw [IntKind.wrap_i64]; omega
        generalize lineS (N : Int) (1, 0) bin = r at hI ⊢
        unfold dirV at *
        dsimp only at *
        have hy := hide hy
        have e2 : (N : Int) - 1 + 1 = N := by omega
        rw [e2] at q2 kb
        clear c1 r3 b1 ha t1 t2 hst e1 c2 s1 s2 e2 b2 b3
        go_enter Bar.func37, Bar.ntmps37
        go_wp2_with fail
        refine (unhide k _).mono ?_
        rintro e w1 ⟨rfl, hb1⟩
        have hB : Hid (Below w.heap.size w w1) := ((Below.refl _ _).alloc (Nat.le_refl _) _).trans (hb1.mono (by simp))
        have x1 : w1.cell? ⟨w.heap.size, 0, none⟩ = some (.int .i64 1) := by rw [hb1.cell (by simp)]; simp [go_sem]
        have x2 : w1.cell? ⟨w.heap.size, 1, none⟩ = some (.int .i64 0) := by rw [hb1.cell (by simp)]; simp [go_sem]
        have hz : Hid (w.heap.size < w1.heap.size) := by
          have := hb1.size
          simp at this
          exact this
        clear hb1
        go_wp2_with fail
        with_reducible refine (unhide kb _).mono ?_
        rintro e w2 ⟨rfl, hb2⟩
        have hB2 : Hid (Below w.heap.size w w2) := (unhide hB).trans (hb2.mono (unhide hB).size)
        have x1 := (hb2.cell (p := ⟨w.heap.size, 0, none⟩) (unhide hz)).trans x1
        have x2 := (hb2.cell (p := ⟨w.heap.size, 1, none⟩) (unhide hz)).trans x2
        have hz : Hid (w.heap.size < w2.heap.size) := Nat.lt_of_lt_of_le (unhide hz) hb2.size
        clear hb2 hB
        go_wp2_with fail
        with_reducible refine (unhide ko _).mono ?_
        rintro e w3 ⟨rfl, hb3⟩
        have hB3 : Hid (Below w.heap.size w w3) := (unhide hB2).trans (hb3.mono (unhide hB2).size)
        clear hb3 hB2
        go_wp2_with fail
        with_reducible refine (unhide kr _).mono ?_
        rintro e w4 ⟨v, rfl, hP, hb4⟩
        have hB4 : Hid (Below w.heap.size w w4) := (unhide hB3).trans (hb4.mono (unhide hB3).size)
        have hP := hide hP
        clear hb4 hB3
        go_wp2_with fail
        go_ret2
        rw [unhide hI]
        exact ⟨_, rfl, unhide hP, unhide hB4⟩
      · have ks := hide (fun w => slopeAny (N := N) (P := P) (Q := Q) (st := startS (N : Int) (P, Q)) (bin := bin) (by omega) b1 (by omega) b3 (by omega) (by omega) w)
        generalize lineL P Q (startS (N : Int) (P, Q)) bin N (N * N) = LL at hI ks
        generalize startS (N : Int) (P, Q) = st at *
        generalize lineS (N : Int) (P, Q) bin = r at hI ⊢
        generalize ((N : Int) - 1) * (P.natAbs + Q) + 1 = bn at q2 kb c2
        have n1 : IntKind.i64.wrap (bin - st) = bin - st := by rw [IntKind.wrap_i64]; omega
        have q3 : (Q == 0) = false := by simp; exact cQ
        unfold dirV at *
        dsimp only at *
        clear c1 r3 b1 ha t1 t2 c2
        go_enter Bar.func37, Bar.ntmps37
        go_wp2_with fail
        refine (unhide k _).mono ?_
        rintro e w1 ⟨rfl, hb1⟩
        have hB : Hid (Below w.heap.size w w1) := ((Below.refl _ _).alloc (Nat.le_refl _) _).trans (hb1.mono (by simp))
        have x1 : w1.cell? ⟨w.heap.size, 0, none⟩ = some (.int .i64 P) := by rw [hb1.cell (by simp)]; simp [go_sem]
        have x2 : w1.cell? ⟨w.heap.size, 1, none⟩ = some (.int .i64 Q) := by rw [hb1.cell (by simp)]; simp [go_sem]
        have hz : Hid (w.heap.size < w1.heap.size) := by
          have := hb1.size
          simp at this
          exact this
        clear hb1
        go_wp2_with fail
        with_reducible refine (unhide kb _).mono ?_
        rintro e w2 ⟨rfl, hb2⟩
        have hB2 : Hid (Below w.heap.size w w2) := (unhide hB).trans (hb2.mono (unhide hB).size)
        have x1 := (hb2.cell (p := ⟨w.heap.size, 0, none⟩) (unhide hz)).trans x1
        have x2 := (hb2.cell (p := ⟨w.heap.size, 1, none⟩) (unhide hz)).trans x2
        have hz : Hid (w.heap.size < w2.heap.size) := Nat.lt_of_lt_of_le (unhide hz) hb2.size
        have fct : Hid (∀ w8 : World, Below w2.heap.size w2 w8 → w8.cell? ⟨w.heap.size, 0, none⟩ = some (.int .i64 P) ∧ w8.cell? ⟨w.heap.size, 1, none⟩ = some (.int .i64 Q)) :=
          fun w8 h => ⟨(h.cell (p := ⟨w.heap.size, 0, none⟩) (unhide hz)).trans x1, (h.cell (p := ⟨w.heap.size, 1, none⟩) (unhide hz)).trans x2⟩
        clear hb2 hB k kb
        go_wp2_with fail
        go_region_held3 (fun w8 => w8.cell? ⟨w.heap.size, 0, none⟩ = some (.int .i64 P) ∧ w8.cell? ⟨w.heap.size, 1, none⟩ = some (.int .i64 Q))
          (first | exact unhide fct _ (unhide hv2) | exact unhide fct _ (unhide hv1) | go_keep)
          (first
          | (go_at_call 73; with_reducible refine (unhide ko _).mono ?_; rintro e v1 ⟨rfl, hx1⟩
             have hv1 : Hid (Below w2.heap.size w2 v1) := ⟨hx1.os, hx1.tape, hx1.output, hx1.size, hx1.block⟩
             clear hx1)
          | (go_at_call 74; with_reducible refine (unhide ks _).mono ?_; rintro e v2 ⟨v, rfl, hO, hx2⟩
             have hv2 : Hid (Below w2.heap.size w2 v2) := (unhide hv1).trans (Below.mono (⟨hx2.os, hx2.tape, hx2.output, hx2.size, hx2.block⟩ : Below v1.heap.size v1 v2) (unhide hv1).size)
             have hP := hide (pairs2_owns hO)
             clear hx2 hO))
        go_wp2_with fail
        go_ret2
        rw [unhide hI]
        exact ⟨_, rfl, unhide hP, (unhide hB2).trans ((unhide hv2).mono (unhide hB2).size)⟩
  · have hI : Hid (lineS n a bin = ([], (binsS n a).2)) := by
      show _ = _
      unfold lineS
      rw [if_pos c1]
    generalize binsS n a = bb at *
    generalize lineS n a bin = r at hI ⊢
    obtain ⟨P, Q⟩ := a
    obtain ⟨bn, be⟩ := bb
    unfold dirV at *
    dsimp only at *
    have q1 : (be != 0) = true := by simp; exact c1
    clear c1
    go_enter Bar.func37, Bar.ntmps37
    go_wp2_with fail
    refine (unhide k _).mono ?_
    rintro e w1 ⟨rfl, hb1⟩
    have hB : Hid (Below w.heap.size w w1) := ((Below.refl _ _).alloc (Nat.le_refl _) _).trans (hb1.mono (by simp))
    clear hb1
    go_wp2_with fail
    go_ret2
    rw [unhide hI]
    exact ⟨_, rfl, pairs2_nil _, unhide hB⟩
end Go.Proofs.Ythbghcebcahlnaa
