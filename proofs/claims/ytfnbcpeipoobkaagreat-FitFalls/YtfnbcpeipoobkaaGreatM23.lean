/- The program's own isSide, liesIn, look, bins, origin, Bins, Index. Whole numbers as bits: the opposite, plain parts, sums and products of complex numbers whose parts are whole. Sums over cells and over bins: what each bin gathers, measured against any bins, is what the cells are, measured against the bins spread back. A row of complex numbers in memory; sums, products, conjugates, plain parts. -/
import Derived.Test.YtfnbcpeipoobkaaGreatM22
import Derived.Test.YtfnbcpeipoobkaaGreatM19
import Derived.Laws.BitsAllLaws
import Derived.WalkKit
import Derived.WalkSpells
import Derived.WalkLawsBesides
namespace Go.Proofs.YtfnbcpeipoobkaaGreat
open Go.RowKit

set_option maxRecDepth 100000 in
set_option maxHeartbeats 800000 in
theorem sideAny {n : Int} (w : World) :
    Calls (barP Tryz.prog) 96 #[.int .i64 n] w fun e w' => e = .returned (.bool (decide (1 ≤ n ∧ n ≤ 64))) ∧ w' = w := by
  by_cases c1 : 1 ≤ n
  · have q1 : (1 ≤ n) = True := by simp; omega
    by_cases c2 : n ≤ 64
    · have q2 : (n ≤ 64) = True := by simp; omega
      rw [decide_eq_true (⟨c1, c2⟩ : 1 ≤ n ∧ n ≤ 64)]
      clear c1 c2
      go_enter Bar.func96, Bar.ntmps96
      go_wp2_with fail
      go_ret
      exact ⟨rfl, rfl⟩
    · have q2 : (n ≤ 64) = False := by simp; omega
      rw [decide_eq_false (fun h => c2 h.2 : ¬ (1 ≤ n ∧ n ≤ 64))]
      clear c1 c2
      go_enter Bar.func96, Bar.ntmps96
      go_wp2_with fail
      go_ret
      exact ⟨rfl, rfl⟩
  · have q1 : (1 ≤ n) = False := by simp; omega
    rw [decide_eq_false (fun h => c1 h.1 : ¬ (1 ≤ n ∧ n ≤ 64))]
    clear c1
    go_enter Bar.func96, Bar.ntmps96
    go_wp2_with fail
    go_ret
    exact ⟨rfl, rfl⟩

set_option maxRecDepth 100000 in
set_option maxHeartbeats 800000 in
theorem liesAny {n x : Int} (w : World) :
    Calls (barP Tryz.prog) 89 #[.int .i64 n, .int .i64 x] w fun e w' => e = .returned (.bool (decide (0 ≤ x ∧ x < n))) ∧ w' = w := by
  by_cases c1 : 0 ≤ x
  · have q1 : (0 ≤ x) = True := by simp; omega
    by_cases c2 : x < n
    · have q2 : (x < n) = True := by simp; omega
      rw [decide_eq_true (⟨c1, c2⟩ : 0 ≤ x ∧ x < n)]
      clear c1 c2
      go_enter Bar.func89, Bar.ntmps89
      go_wp2_with fail
      go_ret
      exact ⟨rfl, rfl⟩
    · have q2 : (x < n) = False := by simp; omega
      rw [decide_eq_false (fun h => c2 h.2 : ¬ (0 ≤ x ∧ x < n))]
      clear c1 c2
      go_enter Bar.func89, Bar.ntmps89
      go_wp2_with fail
      go_ret
      exact ⟨rfl, rfl⟩
  · have q1 : (0 ≤ x) = False := by simp; omega
    rw [decide_eq_false (fun h => c1 h.1 : ¬ (0 ≤ x ∧ x < n))]
    clear c1
    go_enter Bar.func89, Bar.ntmps89
    go_wp2_with fail
    go_ret
    exact ⟨rfl, rfl⟩

set_option maxRecDepth 100000 in
set_option maxHeartbeats 1600000 in
/-- The errors that all calls about lines begin with. -/
theorem lookAny {n : Int} {a : Int × Int} (ha : Dir64 a) (w : World) :
    Calls (barP Tryz.prog) 81 #[.int .i64 n, dirV a] w fun e w' => e = .returned (.int .i64 (binsS n a).2) ∧ Below w.heap.size w w' := by
  obtain ⟨P, Q⟩ := a
  have k := hide (fun w => dirCheck ha.one ha.two w)
  have ks := hide (fun w => sideAny (n := n) w)
  unfold dirV at k ⊢
  dsimp only at k ⊢
  clear ha
  by_cases c1 : n < 1 ∨ 64 < n
  · have hS : Hid ((binsS n (P, Q)).2 = 1) := by show _ = _; unfold binsS; rw [if_pos c1]
    rw [decide_eq_false (by omega : ¬ (1 ≤ n ∧ n ≤ 64))] at ks
    generalize (binsS n (P, Q)).2 = r at hS ⊢
    clear c1 k
    go_enter Bar.func81, Bar.ntmps81
    go_wp2_with fail
    refine (unhide ks _).mono ?_
    rintro e w1 ⟨rfl, rfl⟩
    go_wp2_with fail
    go_ret
    exact ⟨by rw [unhide hS]; rfl, (Below.refl _ _).alloc (Nat.le_refl _) _⟩
  · have hS : Hid ((binsS n (P, Q)).2 = checkS P Q) := by
      show _ = _
      unfold binsS checkS
      rw [if_neg c1]
      dsimp only
      split <;> rfl
    rw [decide_eq_true (by omega : 1 ≤ n ∧ n ≤ 64)] at ks
    generalize (binsS n (P, Q)).2 = r at hS ⊢
    generalize checkS P Q = ch at hS k
    clear c1
    go_enter Bar.func81, Bar.ntmps81
    go_wp2_with fail
    refine (unhide ks _).mono ?_
    rintro e w1 ⟨rfl, rfl⟩
    go_wp2_with fail
    refine (unhide k _).mono ?_
    rintro e w1 ⟨rfl, hb1⟩
    have hB : Hid (Below w.heap.size w w1) := ((Below.refl _ _).alloc (Nat.le_refl _) _).trans (hb1.mono (by simp))
    clear hb1
    go_wp2_with fail
    go_ret
    exact ⟨by rw [unhide hS]; rfl, unhide hB⟩

set_option maxRecDepth 100000 in
set_option maxHeartbeats 1600000 in
/-- How many lines. -/
theorem dbinsAny {n P Q : Int} (h1 : 1 ≤ n) (h2 : n ≤ 64) (h3 : P.natAbs ≤ 16) (h4 : 0 ≤ Q) (h5 : Q ≤ 16) (w : World) :
    Calls (barP Tryz.prog) 82 #[.int .i64 n, .agg #[.int .i64 P, .int .i64 Q]] w fun e w' => e = .returned (.int .i64 ((n - 1) * (P.natAbs + Q) + 1)) ∧ Below w.heap.size w w' := by
  obtain ⟨s1, s2⟩ := bins_small (P := P) h1 h2 h3 h4 h5
  by_cases c2 : P < 0
  · have e1 : ((P.natAbs : Nat) : Int) = -P := by omega
    rw [e1] at s1 s2 ⊢
    have n1 : IntKind.i64.wrap ((n - 1) * (-P + Q)) = (n - 1) * (-P + Q) := by
      generalize (n - 1) * (-P + Q) = z at s1 s2 ⊢
      rw [IntKind.wrap_i64]
      omega
    generalize hz : (n - 1) * (-P + Q) = z at *
    have b4 : -16 ≤ P := by omega
    have q5 : (P < -P) = True := by simp; omega
    have q6 : (-P < P) = False := by simp; omega
    clear e1 h3
    go_enter Bar.func82, Bar.ntmps82
    go_wp2_with fail
    go_ret
    exact ⟨rfl, (Below.refl _ _).alloc (Nat.le_refl _) _⟩
  · have e1 : ((P.natAbs : Nat) : Int) = P := by omega
    rw [e1] at s1 s2 ⊢
    have n1 : IntKind.i64.wrap ((n - 1) * (P + Q)) = (n - 1) * (P + Q) := by
      generalize (n - 1) * (P + Q) = z at s1 s2 ⊢
      rw [IntKind.wrap_i64]
      omega
    generalize hz : (n - 1) * (P + Q) = z at *
    have b4 : 0 ≤ P := by omega
    have b5 : P ≤ 16 := by omega
    have q5 : (P < -P) = False := by simp; omega
    have q6 : (-P ≤ P) = True := by simp; omega
    clear e1 h3
    go_enter Bar.func82, Bar.ntmps82
    go_wp2_with fail
    go_ret
    exact ⟨rfl, (Below.refl _ _).alloc (Nat.le_refl _) _⟩

set_option maxRecDepth 100000 in
set_option maxHeartbeats 1600000 in
/-- The number of the line of (0, 0). -/
theorem originAny {n P Q : Int} (h1 : 1 ≤ n) (h2 : n ≤ 64) (h3 : P.natAbs ≤ 16) (w : World) :
    Calls (barP Tryz.prog) 90 #[.int .i64 n, .agg #[.int .i64 P, .int .i64 Q]] w fun e w' => e = .returned (.int .i64 (startS n (P, Q))) ∧ Below w.heap.size w w' := by
  unfold startS
  dsimp only
  by_cases c2 : P < 0
  · rw [if_pos c2]
    have q5 : (P < 0) = True := by simp; omega
    clear h3 c2
    go_enter Bar.func90, Bar.ntmps90
    go_wp2_with fail
    go_ret
    exact ⟨by rw [Int.zero_mul]; rfl, (Below.refl _ _).alloc (Nat.le_refl _) _⟩
  · rw [if_neg c2]
    have q5 : (P < 0) = False := by simp; omega
    have hs : 0 ≤ P * (n - 1) ∧ P * (n - 1) ≤ 1008 := by
      have a1 : P * (n - 1) ≤ 16 * 63 := Int.mul_le_mul (by omega) (by omega) (by omega) (by omega)
      exact ⟨Int.mul_nonneg (by omega) (by omega), a1⟩
    have b4 : 0 ≤ P := by omega
    have b5 : P ≤ 16 := by omega
    have n1 : IntKind.i64.wrap (P * (n - 1)) = P * (n - 1) := by
      generalize P * (n - 1) = z at hs ⊢
      rw [IntKind.wrap_i64]
      omega
    generalize hz : P * (n - 1) = z at *
    clear h3 c2
    go_enter Bar.func90, Bar.ntmps90
    go_wp2_with fail
    go_ret
    exact ⟨rfl, (Below.refl _ _).alloc (Nat.le_refl _) _⟩


theorem binsS_good {n P Q : Int} (h1 : 1 ≤ n) (h2 : n ≤ 64) (h3 : okD P Q = true) : binsS n (P, Q) = ((n - 1) * (P.natAbs + Q) + 1, 0) := by
  unfold binsS
  rw [if_neg (by omega), if_pos h3]

theorem binsS_none {n : Int} {a : Int × Int} (h : (binsS n a).2 ≠ 0) : (binsS n a).1 = 0 := by
  unfold binsS at h ⊢
  split
  · rfl
  · rename_i c
    rw [if_neg c] at h
    split
    · rename_i c2
      rw [if_pos c2] at h
      exact absurd rfl h
    · rfl

set_option maxRecDepth 100000 in
set_option maxHeartbeats 1600000 in
theorem dirBins {n : Int} {a : Int × Int} (ha : Dir64 a) (w : World) :
    Calls (barP Tryz.prog) 53 #[.int .i64 n, dirV a] w fun e w' => e = .returned (.tuple #[.int .i64 (binsS n a).1, .int .i64 (binsS n a).2]) ∧ Below w.heap.size w w' := by
  have k := hide (fun w => lookAny (n := n) ha w)
  by_cases c1 : (binsS n a).2 = 0
  · obtain ⟨r1, r2, r3⟩ := binsS_ok c1
    obtain ⟨P, Q⟩ := a
    obtain ⟨b1, b2, b3⟩ := okD_bounds r3
    have kb := hide (fun w => dbinsAny r1 r2 b1 b2 b3 w)
    rw [binsS_good r1 r2 r3] at k ⊢
    dsimp only at k kb ⊢
    generalize (n - 1) * (P.natAbs + Q) + 1 = bn at kb ⊢
    unfold dirV at k ⊢
    dsimp only at k ⊢
    clear c1 r3 b1 ha
    go_enter Bar.func53, Bar.ntmps53
    go_wp2_with fail
    refine (unhide k _).mono ?_
    rintro e w1 ⟨rfl, hb1⟩
    have hB : Hid (Below w.heap.size w w1) := ((Below.refl _ _).alloc (Nat.le_refl _) _).trans (hb1.mono (by simp))
    have x1 : w1.cell? ⟨w.heap.size, 0, none⟩ = some (.int .i64 P) := by rw [hb1.cell (by simp)]; simp [go_sem]
    have x2 : w1.cell? ⟨w.heap.size, 1, none⟩ = some (.int .i64 Q) := by rw [hb1.cell (by simp)]; simp [go_sem]
    clear hb1
    go_wp2_with fail
    refine (unhide kb _).mono ?_
    rintro e w2 ⟨rfl, hb2⟩
    have hB2 : Hid (Below w.heap.size w w2) := (unhide hB).trans (hb2.mono (unhide hB).size)
    clear hb2
    go_wp2_with fail
    go_ret2
    exact ⟨rfl, unhide hB2⟩
  · have hI := hide (binsS_none c1)
    generalize binsS n a = bb at *
    obtain ⟨P, Q⟩ := a
    obtain ⟨bn, be⟩ := bb
    unfold dirV at *
    dsimp only at *
    have q1 : (be != 0) = true := by simp; exact c1
    clear c1 ha
    go_enter Bar.func53, Bar.ntmps53
    go_wp2_with fail
    refine (unhide k _).mono ?_
    rintro e w1 ⟨rfl, hb1⟩
    have hB : Hid (Below w.heap.size w w1) := ((Below.refl _ _).alloc (Nat.le_refl _) _).trans (hb1.mono (by simp))
    clear hb1
    go_wp2_with fail
    go_ret2
    exact ⟨by rw [unhide hI]; rfl, unhide hB⟩

set_option maxRecDepth 100000 in
set_option maxHeartbeats 3200000 in
theorem dirIndex {n x y : Int} {a : Int × Int} (ha : Dir64 a) (w : World) :
    Calls (barP Tryz.prog) 64 #[.int .i64 n, dirV a, .int .i64 x, .int .i64 y] w fun e w' => e = .returned (.tuple #[.int .i64 (indexS n a x y).1, .int .i64 (indexS n a x y).2]) ∧ Below w.heap.size w w' := by
  have k := hide (fun w => lookAny (n := n) ha w)
  by_cases c1 : (binsS n a).2 = 0
  · obtain ⟨r1, r2, r3⟩ := binsS_ok c1
    have hI : Hid (indexS n a x y = if x < 0 ∨ n ≤ x ∨ y < 0 ∨ n ≤ y then (0, 1) else (a.2 * x - a.1 * y + startS n a, 0)) := by
      show _ = _
      unfold indexS
      rw [if_neg (by omega)]
    rw [c1] at k
    obtain ⟨P, Q⟩ := a
    obtain ⟨b1, b2, b3⟩ := okD_bounds r3
    dsimp only at b1 b2 b3 hI
    have ks := hide (fun w => originAny (Q := Q) r1 r2 b1 w)
    obtain ⟨s1, s2⟩ := start_small (Q := Q) r1 r2 b1
    generalize startS n (P, Q) = st at *
    have kx := hide (fun w => liesAny (n := n) (x := x) w)
    have ky := hide (fun w => liesAny (n := n) (x := y) w)
    unfold dirV at *
    dsimp only at *
    by_cases c2 : x < 0 ∨ n ≤ x ∨ y < 0 ∨ n ≤ y
    · rw [if_pos c2] at hI
      generalize indexS n (P, Q) x y = r at hI ⊢
      clear c1 r3 ks
      by_cases d1 : 0 ≤ x ∧ x < n
      · rw [decide_eq_true d1] at kx
        rw [decide_eq_false (by omega : ¬ (0 ≤ y ∧ y < n))] at ky
        clear d1 c2
        go_enter Bar.func64, Bar.ntmps64
        go_wp2_with fail
        refine (unhide k _).mono ?_
        rintro e w1 ⟨rfl, hb1⟩
        have hB : Hid (Below w.heap.size w w1) := ((Below.refl _ _).alloc (Nat.le_refl _) _).trans (hb1.mono (by simp))
        clear hb1
        go_wp2_with fail
        refine (unhide kx _).mono ?_
        rintro e w2 ⟨rfl, hw2⟩
        obtain rfl := hw2.symm
        go_wp2_with fail
        refine (unhide ky _).mono ?_
        rintro e w3 ⟨rfl, hw3⟩
        obtain rfl := hw3.symm
        go_wp2_with fail
        go_ret2
        exact ⟨by rw [unhide hI]; rfl, unhide hB⟩
      · rw [decide_eq_false d1] at kx
        clear d1 c2
        go_enter Bar.func64, Bar.ntmps64
        go_wp2_with fail
        refine (unhide k _).mono ?_
        rintro e w1 ⟨rfl, hb1⟩
        have hB : Hid (Below w.heap.size w w1) := ((Below.refl _ _).alloc (Nat.le_refl _) _).trans (hb1.mono (by simp))
        clear hb1
        go_wp2_with fail
        refine (unhide kx _).mono ?_
        rintro e w2 ⟨rfl, hw2⟩
        obtain rfl := hw2.symm
        go_wp2_with fail
        go_ret2
        exact ⟨by rw [unhide hI]; rfl, unhide hB⟩
    · rw [if_neg c2] at hI
      rw [decide_eq_true (by omega : 0 ≤ x ∧ x < n)] at kx
      rw [decide_eq_true (by omega : 0 ≤ y ∧ y < n)] at ky
      have m1 := cell_prod (x := x) (n := n) (Q := Q) (by omega) (by omega) r2 (by omega)
      have m2 := cell_prod (x := y) (n := n) (Q := P) (by omega) (by omega) r2 b1
      have n1 : IntKind.i64.wrap (Q * x) = Q * x := by rw [IntKind.wrap_i64]; omega
      have n2 : IntKind.i64.wrap (P * y) = P * y := by rw [IntKind.wrap_i64]; omega
      generalize hX : Q * x = X at *
      generalize hY : P * y = Y at *
      have g1 : -1008 ≤ X ∧ X ≤ 1008 := by omega
      have g2 : -1008 ≤ Y ∧ Y ≤ 1008 := by omega
      have n3 : IntKind.i64.wrap (X - Y) = X - Y := by rw [IntKind.wrap_i64]; omega
      have n4 : IntKind.i64.wrap (X - Y + st) = X - Y + st := by rw [IntKind.wrap_i64]; omega
      generalize indexS n (P, Q) x y = r at hI ⊢
      clear c1 c2 r3 m1 m2 b1
      go_enter Bar.func64, Bar.ntmps64
      go_wp2_with fail
      refine (unhide k _).mono ?_
      rintro e w1 ⟨rfl, hb1⟩
      have hB : Hid (Below w.heap.size w w1) := ((Below.refl _ _).alloc (Nat.le_refl _) _).trans (hb1.mono (by simp))
      have x1 : w1.cell? ⟨w.heap.size, 0, none⟩ = some (.int .i64 P) := by rw [hb1.cell (by simp)]; simp [go_sem]
      have x2 : w1.cell? ⟨w.heap.size, 1, none⟩ = some (.int .i64 Q) := by rw [hb1.cell (by simp)]; simp [go_sem]
      have hz : Hid (w.heap.size < w1.heap.size) := by
        have := hb1.size
        simp at this
        exact this
      have fct : Hid (∀ w8 : World, Below w1.heap.size w1 w8 → w8.cell? ⟨w.heap.size, 0, none⟩ = some (.int .i64 P) ∧ w8.cell? ⟨w.heap.size, 1, none⟩ = some (.int .i64 Q)) :=
        fun w8 h => ⟨(h.cell (p := ⟨w.heap.size, 0, none⟩) (unhide hz)).trans x1, (h.cell (p := ⟨w.heap.size, 1, none⟩) (unhide hz)).trans x2⟩
      clear hb1 k
      go_wp2_with fail
      refine (unhide kx _).mono ?_
      rintro e w2 ⟨rfl, hw2⟩
      obtain rfl := hw2.symm
      go_wp2_with fail
      refine (unhide ky _).mono ?_
      rintro e w3 ⟨rfl, hw3⟩
      obtain rfl := hw3.symm
      go_wp2_with fail
      go_region_held3 (fun w8 => w8.cell? ⟨w.heap.size, 0, none⟩ = some (.int .i64 P) ∧ w8.cell? ⟨w.heap.size, 1, none⟩ = some (.int .i64 Q))
        (first | exact unhide fct _ (unhide hv1) | go_keep)
        (first
        | (go_at_call 90; with_reducible refine (unhide ks _).mono ?_; rintro e v1 ⟨rfl, hx1⟩
           have hv1 : Hid (Below w1.heap.size w1 v1) := ⟨hx1.os, hx1.tape, hx1.output, hx1.size, hx1.block⟩
           clear hx1))
      go_wp2_with fail
      go_ret2
      exact ⟨by rw [unhide hI]; rfl, (unhide hB).trans ((unhide hv1).mono (unhide hB).size)⟩
  · have hI := hide (binsS_bad c1 x y)
    generalize binsS n a = bb at *
    generalize indexS n a x y = r at hI ⊢
    obtain ⟨P, Q⟩ := a
    obtain ⟨bn, be⟩ := bb
    unfold dirV at *
    dsimp only at *
    have q1 : (be != 0) = true := by simp; exact c1
    clear c1
    go_enter Bar.func64, Bar.ntmps64
    go_wp2_with fail
    refine (unhide k _).mono ?_
    rintro e w1 ⟨rfl, hb1⟩
    have hB : Hid (Below w.heap.size w w1) := ((Below.refl _ _).alloc (Nat.le_refl _) _).trans (hb1.mono (by simp))
    clear hb1
    go_wp2_with fail
    go_ret2
    exact ⟨by rw [unhide hI]; rfl, unhide hB⟩
end Go.Proofs.YtfnbcpeipoobkaaGreat

namespace Go.Proofs.YtfnbcpeipoobkaaGreat
open Go.RowKit Fl Ieee

def negB (b : Nat) : Nat := (bits .xor .u64 (b : Int) 9223372036854775808).toNat
def plainB (a : Nat) : Nat := if FloatKind.f64.format.order a 0 == some .eq then 0 else a
theorem fv_nought : FV 0 0 := ⟨false, 0, 0, rfl, rfl⟩

theorem fv_unique {b : Nat} {v v' : Int} (h : FV b v) (h' : FV b v') : v = v' := by
  obtain ⟨s, m, k, e, rfl⟩ := h
  obtain ⟨s', m', k', e', rfl⟩ := h'
  rw [e] at e'
  injection e' with h1 h2 h3
  have : k = k' := by omega
  rw [h1, h2, this]

theorem fv_mod64 {b : Nat} {v : Int} (h : FV b v) : FV (b % 18446744073709551616) v := by
  obtain ⟨s, m, k, e, hv⟩ := h
  refine ⟨s, m, k, ?_, hv⟩
  rw [← e]
  unfold Format.read
  dsimp only
  rw [sw, show b % 18446744073709551616 / 9223372036854775808 % 2 = b / 9223372036854775808 % 2 by omega, show b % 18446744073709551616 % 9223372036854775808 = b % 9223372036854775808 by omega]

theorem negB_mod (b : Nat) : negB b = negB (b % 18446744073709551616) := by
  unfold negB
  have : BitVec.ofInt 64 (b : Int) = BitVec.ofInt 64 ((b % 18446744073709551616 : Nat) : Int) := by
    apply BitVec.eq_of_toNat_eq
    simp only [BitVec.toNat_ofInt]
    omega
  show (IntKind.u64.wrap ((BitVec.ofInt 64 (b : Int) ^^^ BitVec.ofInt 64 9223372036854775808).toNat : Int)).toNat = (IntKind.u64.wrap ((BitVec.ofInt 64 ((b % 18446744073709551616 : Nat) : Int) ^^^ BitVec.ofInt 64 9223372036854775808).toNat : Int)).toNat
  rw [this]

theorem negB_low {b : Nat} (hb : b < 18446744073709551616) : negB b = if b < 9223372036854775808 then b + 9223372036854775808 else b - 9223372036854775808 := by
  unfold negB
  rw [show (9223372036854775808 : Int) = ((9223372036854775808 : Nat) : Int) from rfl, u64_xor_nat b 9223372036854775808 hb (by decide), Int.toNat_natCast]
  have h1 : (b ^^^ 9223372036854775808) / 2 ^ 63 = b / 2 ^ 63 ^^^ 9223372036854775808 / 2 ^ 63 := Nat.xor_div_two_pow
  have h2 : (b ^^^ 9223372036854775808) % 2 ^ 63 = b % 2 ^ 63 ^^^ 9223372036854775808 % 2 ^ 63 := Nat.xor_mod_two_pow
  rw [show (9223372036854775808 : Nat) % 2 ^ 63 = 0 by decide, Nat.xor_zero] at h2
  rw [show (9223372036854775808 : Nat) / 2 ^ 63 = 1 by decide] at h1
  generalize b ^^^ 9223372036854775808 = y at h1 h2 ⊢
  by_cases c : b < 9223372036854775808
  · rw [show b / 2 ^ 63 = 0 by omega] at h1
    have h3 : (0 ^^^ 1 : Nat) = 1 := by decide
    rw [h3] at h1
    rw [if_pos c]
    omega
  · rw [show b / 2 ^ 63 = 1 by omega] at h1
    have h3 : (1 ^^^ 1 : Nat) = 0 := by decide
    rw [h3] at h1
    rw [if_neg c]
    omega

theorem read_flip {s t : Bool} {r m : Nat} {p : Int} (hr : r < 9223372036854775808) (h : double.read (double.word s r) = .number t m p) : double.read (double.word (!s) r) = .number (!t) m p := by
  rw [read_word _ r hr] at h ⊢
  by_cases c1 : r < 4503599627370496
  · rw [if_pos c1] at h ⊢
    injection h with h1 h2 h3
    rw [h1, h2, h3]
  · rw [if_neg c1] at h ⊢
    by_cases c2 : r < 9218868437227405312
    · rw [if_pos c2] at h ⊢
      injection h with h1 h2 h3
      rw [h1, h2, h3]
    · rw [if_neg c2] at h
      split at h <;> cases h

theorem fv_negB {b : Nat} {v : Int} (h : FV b v) : FV (negB b) (-v) := by
  rw [negB_mod]
  have h' := fv_mod64 h
  have hb : b % 18446744073709551616 < 18446744073709551616 := Nat.mod_lt _ (by decide)
  generalize b % 18446744073709551616 = c at h' hb
  obtain ⟨s, m, k, e, rfl⟩ := h'
  rw [negB_low hb]
  refine ⟨!s, m, k, ?_, signed_not s m k⟩
  by_cases hc : c < 9223372036854775808
  · rw [if_pos hc]
    have e1 : c = double.word false c := by unfold Format.word; rw [if_neg (by decide)]
    have e2 : c + 9223372036854775808 = double.word (!false) c := by
      show _ = double.word true c
      unfold Format.word
      rw [if_pos rfl, sw, Nat.add_comm]
    rw [e1] at e
    rw [e2]
    exact read_flip hc e
  · rw [if_neg hc]
    obtain ⟨d, hd⟩ : ∃ d, c = d + 9223372036854775808 := ⟨c - 9223372036854775808, by omega⟩
    have hdl : d < 9223372036854775808 := by omega
    have e1 : c = double.word true d := by unfold Format.word; rw [if_pos rfl, sw, hd, Nat.add_comm]
    have e2 : c - 9223372036854775808 = double.word (!true) d := by
      show _ = double.word false d
      unfold Format.word
      rw [if_neg (by decide), hd, Nat.add_sub_cancel]
    rw [e2]
    rw [e1] at e
    exact read_flip hdl e

theorem fv_plain {b : Nat} {v : Int} (h : FV b v) : FV (plainB b) v := by
  unfold plainB
  split
  · rename_i h1
    have h2 : FloatKind.f64.format.order b 0 = some (compare v 0) := fv_order h fv_nought
    rw [h2] at h1
    have : v = 0 := Int.compare_eq_eq.1 (by
      generalize compare v 0 = o at h1
      cases o <;> first | rfl | exact absurd h1 (by decide))
    rw [this]
    exact fv_nought
  · exact h

theorem iv_negB {b : Nat} {n : Int} (h : IV b n) : IV (negB b) (-n) := by
  obtain ⟨q, hq, f⟩ := h
  exact ⟨q, hq, by rw [Int.neg_mul]; exact fv_negB f⟩

theorem iv_plain {b : Nat} {n : Int} (h : IV b n) : IV (plainB b) n := by
  obtain ⟨q, hq, f⟩ := h
  exact ⟨q, hq, fv_plain f⟩

theorem order_zero {b : Nat} {n : Int} (h : IV b n) : (FloatKind.f64.format.order b 0 == some .eq) = decide (n = 0) := by
  rw [show FloatKind.f64.format.order b 0 = _ from iv_order h iv_zero]
  by_cases c : n = 0
  · subst c; rfl
  · rw [decide_eq_false c, beq_eq_false_iff_ne]
    intro e
    exact c (Int.compare_eq_eq.1 (Option.some.inj e))

theorem plain_zero {b : Nat} (h : IV b 0) : plainB b = 0 := by
  unfold plainB
  rw [order_zero h]
  rfl

theorem plain_lt {b : Nat} (h : b < 18446744073709551616) : plainB b < 18446744073709551616 := by
  unfold plainB
  split
  · decide
  · exact h

theorem iv_same {a b : Nat} {n : Int} (ha : IV a n) (hb : IV b n) : FloatKind.f64.format.order a b = some .eq := by
  rw [show FloatKind.f64.format.order a b = _ from iv_order ha hb, Int.compare_eq_eq.2 rfl]

theorem iv_of {b : Nat} (n : Int) (hn : n.natAbs < 2 ^ 53) (h : floatOfInt .f64 n = b) : IV b n := by
  rw [← h]
  exact iv_ofInt n hn

structure AddTo (a b r : Nat × Nat) : Prop where
  one : floatBits .add .f64 a.1 b.1 = some r.1
  two : floatBits .add .f64 a.2 b.2 = some r.2

/-- What a product of two complex numbers comes to, part by part. -/
structure MulTo (a b c d r s : Nat) : Prop where
  ex : ∃ ac bd ad bc, floatBits .mul .f64 a c = some ac ∧ floatBits .mul .f64 b d = some bd ∧ floatBits .mul .f64 a d = some ad ∧ floatBits .mul .f64 b c = some bc ∧ floatBits .sub .f64 ac bd = some r ∧ floatBits .add .f64 ad bc = some s

/-- Both parts are whole numbers. -/
structure IC (b : Nat × Nat) (z : Int × Int) : Prop where
  one : IV b.1 z.1
  two : IV b.2 z.2

/-- Such as a grid takes: of 64 bits, noughts without a sign, parts of at most m. -/
structure Cell (b : Nat × Nat) (z : Int × Int) (m : Nat) : Prop where
  ic : IC b z
  lt1 : b.1 < 18446744073709551616
  lt2 : b.2 < 18446744073709551616
  z1 : z.1 = 0 → b.1 = 0
  z2 : z.2 = 0 → b.2 = 0
  le1 : z.1.natAbs ≤ m
  le2 : z.2.natAbs ≤ m

theorem ic_zero : IC (0, 0) (0, 0) := ⟨iv_zero, iv_zero⟩
theorem cell_zero (m : Nat) : Cell (0, 0) (0, 0) m := ⟨ic_zero, by decide, by decide, fun _ => rfl, fun _ => rfl, Nat.zero_le _, Nat.zero_le _⟩
theorem Cell.mono {b : Nat × Nat} {z : Int × Int} {m k : Nat} (h : Cell b z m) (hk : m ≤ k) : Cell b z k := ⟨h.ic, h.lt1, h.lt2, h.z1, h.z2, Nat.le_trans h.le1 hk, Nat.le_trans h.le2 hk⟩

def addZ (a b : Int × Int) : Int × Int := (a.1 + b.1, a.2 + b.2)
/-- a times the conjugate of b. -/
def mulZ (a b : Int × Int) : Int × Int := (a.1 * b.1 + a.2 * b.2, a.2 * b.1 - a.1 * b.2)

theorem ic_add {a b : Nat × Nat} {x y : Int × Int} (ha : IC a x) (hb : IC b y) (h1 : (x.1 + y.1).natAbs < 2 ^ 53) (h2 : (x.2 + y.2).natAbs < 2 ^ 53) : ∃ r : Nat × Nat, AddTo a b r ∧ IC r (addZ x y) ∧ r.1 < 18446744073709551616 ∧ r.2 < 18446744073709551616 := by
  obtain ⟨r, e1, i1⟩ := iv_add ha.one hb.one h1
  obtain ⟨s, e2, i2⟩ := iv_add ha.two hb.two h2
  exact ⟨(r, s), ⟨e1, e2⟩, ⟨i1, i2⟩, Ieee.Format.add_lt _ e1, Ieee.Format.add_lt _ e2⟩

theorem prod_le {x y : Int} {m k : Nat} (hx : x.natAbs ≤ m) (hy : y.natAbs ≤ k) : (x * y).natAbs ≤ m * k := by
  rw [Int.natAbs_mul]
  exact Nat.mul_le_mul hx hy

theorem ic_mul {a b : Nat × Nat} {x y : Int × Int} {m k : Nat} (ha : IC a x) (hb : IC b y) (a1 : x.1.natAbs ≤ m) (a2 : x.2.natAbs ≤ m) (b1 : y.1.natAbs ≤ k) (b2 : y.2.natAbs ≤ k) (h : 2 * (m * k) < 2 ^ 53) :
    ∃ r s : Nat, MulTo a.1 a.2 b.1 (negB b.2) r s ∧ IC (r, s) (mulZ x y) := by
  have hn := iv_negB hb.two
  have p1 := prod_le a1 b1
  have p2 := prod_le a2 b2
  have p3 := prod_le a1 b2
  have p4 := prod_le a2 b1
  obtain ⟨ac, e1, i1⟩ := iv_mul ha.one hb.one (by omega)
  obtain ⟨bd, e2, i2⟩ := iv_mul ha.two hn (by rw [Int.mul_neg, Int.natAbs_neg]; omega)
  obtain ⟨ad, e3, i3⟩ := iv_mul ha.one hn (by rw [Int.mul_neg, Int.natAbs_neg]; omega)
  obtain ⟨bc, e4, i4⟩ := iv_mul ha.two hb.one (by omega)
  rw [Int.mul_neg] at i2 i3
  obtain ⟨r, e5, i5⟩ := iv_sub i1 i2 (by omega)
  obtain ⟨s, e6, i6⟩ := iv_add i3 i4 (by omega)
  refine ⟨r, s, ⟨ac, bd, ad, bc, e1, e2, e3, e4, e5, e6⟩, ?_, ?_⟩
  · show IV r (x.1 * y.1 + x.2 * y.2)
    rw [show x.1 * y.1 + x.2 * y.2 = x.1 * y.1 - -(x.2 * y.2) by omega]
    exact i5
  · show IV s (x.2 * y.1 - x.1 * y.2)
    rw [show x.2 * y.1 - x.1 * y.2 = -(x.1 * y.2) + x.2 * y.1 by omega]
    exact i6
end Go.Proofs.YtfnbcpeipoobkaaGreat

namespace Go.Proofs.YtfnbcpeipoobkaaGreat

/-- What the bins hold behind k cells, the cell j having gone into the bin ix j. -/
def accZ (ix : Nat → Nat) (v : Nat → Int × Int) : Nat → Nat → Int × Int
  | 0 => fun _ => (0, 0)
  | k + 1 => fun j => if j = ix k then addZ (accZ ix v k j) (v k) else accZ ix v k j

/-- The sum of the products with conjugates. -/
def dotZ (a b : Nat → Int × Int) : Nat → Int × Int
  | 0 => (0, 0)
  | m + 1 => addZ (dotZ a b m) (mulZ (a m) (b m))

theorem dot_ext {a b a' b' : Nat → Int × Int} {m : Nat} (h : ∀ j, j < m → a j = a' j ∧ b j = b' j) : dotZ a b m = dotZ a' b' m := by
  induction m with
  | zero => rfl
  | succ m ih =>
    show addZ _ _ = addZ _ _
    rw [ih fun j hj => h j (by omega), (h m (by omega)).1, (h m (by omega)).2]

theorem dot_put (f l : Nat → Int × Int) (i : Nat) (z : Int × Int) (m : Nat) :
    dotZ (fun j => if j = i then addZ (f j) z else f j) l m = if i < m then addZ (dotZ f l m) (mulZ z (l i)) else dotZ f l m := by
  induction m with
  | zero => rfl
  | succ m ih =>
    show addZ (dotZ _ l m) (mulZ (if m = i then addZ (f m) z else f m) (l m)) = if i < m + 1 then addZ (addZ (dotZ f l m) (mulZ (f m) (l m))) (mulZ z (l i)) else addZ (dotZ f l m) (mulZ (f m) (l m))
    rw [ih]
    by_cases c : i < m
    · have c1 : i < m + 1 := by omega
      have c2 : ¬ m = i := by omega
      rw [if_pos c, if_pos c1, if_neg c2]
      unfold addZ
      refine Prod.ext ?_ ?_
      · dsimp only; omega
      · dsimp only; omega
    · rw [if_neg c]
      by_cases c2 : m = i
      · subst c2
        rw [if_pos rfl, if_pos (Nat.lt_succ_self m)]
        unfold addZ mulZ
        refine Prod.ext ?_ ?_
        · dsimp only; rw [Int.add_mul, Int.add_mul]; omega
        · dsimp only; rw [Int.add_mul, Int.add_mul]; omega
      · have c3 : ¬ i < m + 1 := by omega
        rw [if_neg c2, if_neg c3]

theorem adjoint {ix : Nat → Nat} {v l : Nat → Int × Int} {m : Nat} (k : Nat) (h : ∀ j, j < k → ix j < m) :
    dotZ (accZ ix v k) l m = dotZ v (fun j => l (ix j)) k := by
  induction k with
  | zero =>
    show dotZ (fun _ => (0, 0)) l m = (0, 0)
    clear h
    induction m with
    | zero => rfl
    | succ m ih =>
      show addZ (dotZ _ l m) (mulZ (0, 0) (l m)) = _
      rw [ih]
      unfold addZ mulZ
      refine Prod.ext ?_ ?_ <;> (dsimp only; rw [Int.zero_mul, Int.zero_mul]; rfl)
  | succ k ih =>
    show dotZ (fun j => if j = ix k then addZ (accZ ix v k j) (v k) else accZ ix v k j) l m = _
    rw [dot_put, if_pos (h k (by omega)), ih fun j hj => h j (by omega)]
    rfl

theorem acc_le {ix : Nat → Nat} {v : Nat → Int × Int} {M : Nat} {k : Nat} (h : ∀ j, j < k → (v j).1.natAbs ≤ M ∧ (v j).2.natAbs ≤ M) (j : Nat) : (accZ ix v k j).1.natAbs ≤ k * M ∧ (accZ ix v k j).2.natAbs ≤ k * M := by
  induction k with
  | zero => exact ⟨Nat.zero_le _, Nat.zero_le _⟩
  | succ k ih =>
    have i1 := ih fun j hj => h j (by omega)
    have i2 := h k (by omega)
    rw [Nat.add_mul, Nat.one_mul]
    show (if j = ix k then addZ (accZ ix v k j) (v k) else accZ ix v k j).1.natAbs ≤ _ ∧ (if j = ix k then addZ (accZ ix v k j) (v k) else accZ ix v k j).2.natAbs ≤ _
    split
    · unfold addZ
      dsimp only
      omega
    · omega

theorem part_le {d : Int × Int} {q1 q2 q3 q4 : Int} {C D : Nat} (h : d.1.natAbs ≤ D ∧ d.2.natAbs ≤ D) (h1 : q1.natAbs ≤ C) (h2 : q2.natAbs ≤ C) (h3 : q3.natAbs ≤ C) (h4 : q4.natAbs ≤ C) :
    (d.1 + (q1 + q2)).natAbs ≤ D + 2 * C ∧ (d.2 + (q4 - q3)).natAbs ≤ D + 2 * C := by omega

theorem dot_le {a b : Nat → Int × Int} {A B m : Nat} (ha : ∀ j, j < m → (a j).1.natAbs ≤ A ∧ (a j).2.natAbs ≤ A) (hb : ∀ j, j < m → (b j).1.natAbs ≤ B ∧ (b j).2.natAbs ≤ B) :
    (dotZ a b m).1.natAbs ≤ m * (2 * (A * B)) ∧ (dotZ a b m).2.natAbs ≤ m * (2 * (A * B)) := by
  induction m with
  | zero => exact ⟨Nat.zero_le _, Nat.zero_le _⟩
  | succ m ih =>
    have i1 := ih (fun j hj => ha j (by omega)) (fun j hj => hb j (by omega))
    obtain ⟨a1, a2⟩ := ha m (by omega)
    obtain ⟨b1, b2⟩ := hb m (by omega)
    have p1 := prod_le a1 b1
    have p2 := prod_le a2 b2
    have p3 := prod_le a1 b2
    have p4 := prod_le a2 b1
    rw [Nat.add_mul, Nat.one_mul]
    show (addZ (dotZ a b m) (mulZ (a m) (b m))).1.natAbs ≤ _ ∧ (addZ (dotZ a b m) (mulZ (a m) (b m))).2.natAbs ≤ _
    unfold addZ mulZ
    dsimp only
    generalize (a m).1 * (b m).1 = q1 at *
    generalize (a m).2 * (b m).2 = q2 at *
    generalize (a m).1 * (b m).2 = q3 at *
    generalize (a m).2 * (b m).1 = q4 at *
    generalize A * B = C at *
    generalize m * (2 * C) = D at *
    exact part_le i1 p1 p2 p3 p4
end Go.Proofs.YtfnbcpeipoobkaaGreat

namespace Go.Proofs.YtfnbcpeipoobkaaGreat
open Go.RowKit

theorem bits32 (b : Nat) (w : World) : (callFunc 92 #[.float .f64 b]).run (barP Tryz.prog) w = .ok (.value (.int .u64 b)) w := by
  rw [run_callFunc_extern (e := Extern.MathFloatBits.float64bits) Bar.func92 (by kernel_rfl) (by kernel_rfl) (by kernel_rfl) (by kernel_rfl)]
  rfl

theorem from31 (n : Int) (w : World) : (callFunc 91 #[.int .u64 n]).run (barP Tryz.prog) w = .ok (.value (.float .f64 n.toNat)) w := by
  rw [run_callFunc_extern (e := Extern.MathFloatBits.float64frombits) Bar.func91 (by kernel_rfl) (by kernel_rfl) (by kernel_rfl) (by kernel_rfl)]
  rfl

def cv (a : Nat × Nat) : Value := .complex .f64 a.1 a.2

/-- Block g is a row of n complex numbers, f i at place i. -/
def Row (w : World) (g n : Nat) (f : Nat → Nat × Nat) : Prop := ∃ cur, w.heap[g]? = some (.cells cur 28 (0, 0)) ∧ n ≤ cur.size ∧ ∀ i, i < n → cur[i]? = some (cv (f i))

theorem row_at {w : World} {g n : Nat} {f : Nat → Nat × Nat} (h : Row w g n f) {i : Nat} (hi : i < n) : w.cell? ⟨g, i, none⟩ = some (cv (f i)) := by
  obtain ⟨cur, h1, h2, h3⟩ := h
  rw [cell_of_row w g i cur _ (0, 0) h1]
  exact h3 i hi

theorem row_frozen {w : World} {g n : Nat} {f : Nat → Nat × Nat} (h : Row w g n f) (i : Nat) : w.frozen? ⟨g, i, none⟩ = false := by
  obtain ⟨cur, h1, h2, h3⟩ := h
  exact frozen_of_row w g i cur _ h1

theorem row_lt {w : World} {g n : Nat} {f : Nat → Nat × Nat} (h : Row w g n f) : g < w.heap.size := by
  obtain ⟨cur, h1, h2, h3⟩ := h
  exact (Array.getElem?_eq_some_iff.1 h1).1

theorem row_ext {w : World} {g n : Nat} {f f' : Nat → Nat × Nat} (h : Row w g n f) (he : ∀ i, i < n → f i = f' i) : Row w g n f' := by
  obtain ⟨cur, h1, h2, h3⟩ := h
  exact ⟨cur, h1, h2, fun i hi => by rw [← he i hi]; exact h3 i hi⟩

theorem row_keep {w w' : World} {g n : Nat} {f : Nat → Nat × Nat} (h : Row w g n f) (hb : w'.heap[g]? = w.heap[g]?) : Row w' g n f := by
  obtain ⟨cur, h1, h2, h3⟩ := h
  exact ⟨cur, by rw [hb]; exact h1, h2, h3⟩

theorem row_grown {w w' : World} {g n : Nat} {f : Nat → Nat × Nat} {r : Option Nat} (h : Row w g n f) (hg : w.grownBy w' r) (hr : some g ≠ r) : Row w' g n f := row_keep h (hg.block g (row_lt h) hr)
theorem row_below {w w' : World} {g n B : Nat} {f : Nat → Nat × Nat} (h : Row w g n f) (hg : Below B w w') (hr : g < B) : Row w' g n f := row_keep h (hg.block g hr)

def upd (f : Nat → Nat × Nat) (k : Nat) (v : Nat × Nat) : Nat → Nat × Nat := fun i => if i = k then v else f i

theorem row_set {w : World} {g n : Nat} {f : Nat → Nat × Nat} (h : Row w g n f) (k : Nat) (v : Nat × Nat) : Row (w.setCell ⟨g, k, none⟩ (cv v)) g n (upd f k v) := by
  obtain ⟨cur, h1, h2, h3⟩ := h
  refine ⟨cur.setIfInBounds k (cv v), heap_setCell_same w g k cur _ _ h1, by simpa using h2, fun i hi => ?_⟩
  unfold upd
  by_cases c : i = k
  · subst c
    rw [if_pos rfl, Array.getElem?_setIfInBounds_self_of_lt (by omega)]
  · rw [if_neg c, Array.getElem?_setIfInBounds_ne (by omega)]
    exact h3 i hi

theorem row_made {w w' : World} {g n : Nat} {z : Value} {xs : List Value} (h : w'.ownsRow w.heap.size 28 1 (.slice (some ⟨g, 0, none⟩) n n) n xs) (f : Nat → Nat × Nat) (hx : ∀ i, i < n → xs[i]? = some z) (hz : ∀ i, i < n → z = cv (f i)) : Row w' g n f := by
  rcases h.2 with ⟨h', _⟩ | ⟨g', cap, cur, h', _, hg, _, _, hcs, htake⟩
  · simp at h'
  · simp only [Value.slice.injEq, Option.some.injEq, Addr.mk.injEq, and_true, true_and] at h'
    obtain ⟨rfl, rfl⟩ := h'
    refine ⟨cur, hg, by omega, fun i hi => ?_⟩
    have h3 := hx i hi
    rw [← htake, List.getElem?_take, if_pos (by omega), hz i hi] at h3
    simpa using h3

theorem grown_refl (w : World) (r : Option Nat) : w.grownBy w r := ⟨rfl, rfl, rfl, Nat.le_refl _, fun _ _ _ => rfl⟩
theorem grown_trans {a b c : World} {r : Option Nat} (h : a.grownBy b r) (k : b.grownBy c r) : a.grownBy c r :=
  ⟨k.os.trans h.os, k.tape.trans h.tape, k.output.trans h.output, Nat.le_trans h.size k.size, fun i hi hr => (k.block i (Nat.lt_of_lt_of_le hi h.size) hr).trans (h.block i hi hr)⟩
theorem grown_set (w : World) (g k : Nat) (u : Value) : w.grownBy (w.setCell ⟨g, k, none⟩ u) (some g) :=
  ⟨rfl, rfl, rfl, by simp [World.setCell], fun i _ hr => Below.heap_setCell _ _ _ _ (fun e => hr (by rw [e]))⟩
theorem grown_below' {w w' : World} {g B : Nat} (h : w.grownBy w' (some g)) (hg : B ≤ g) (hB : B ≤ w.heap.size) : Below B w w' := (Below.refl _ _).grown h hB (fun k hk => by cases hk; exact hg)
theorem below_grown {w w' : World} {r : Option Nat} (h : Below w.heap.size w w') : w.grownBy w' r := ⟨h.os, h.tape, h.output, h.size, fun k hk _ => h.block k hk⟩

theorem store_complex {P : Program} {w : World} {a : Addr} {m : Mode} (k : FloatKind) (x y : Nat) : (store a (.complex k x y) m).run P w = stored P w a (.complex k x y) m := run_store P w a _ m rfl
theorem row_drew {w : World} {g n : Nat} {f : Nat → Nat × Nat} (h : Row w g n f) : Row w.drew g n f := h
theorem grown_below {w w' : World} (h : w.grownBy w' none) : Below w.heap.size w w' := (Below.refl _ _).grown h (Nat.le_refl _) (fun k hk => by cases hk)
theorem infoC : ((barP Tryz.prog).info? 28).map (fun i => (i.zero, i.size, i.bytes)) = some (some (.complex .f64 0 0), 1, 16) := by kernel_rfl
theorem zeros_get (n i : Nat) (hi : i < n) : (madeCells #[Value.complex .f64 0 0] n).toList[i]? = some (.complex .f64 0 0) := by
  rw [toList_madeCells_one, List.getElem?_replicate, if_pos (by omega)]

set_option maxRecDepth 100000 in
set_option maxHeartbeats 400000 in
theorem addAny {a b r : Nat × Nat} (h : AddTo a b r) (w : World) :
    Calls (barP Tryz.prog) 33 #[.complex .f64 a.1 a.2, .complex .f64 b.1 b.2] w fun e w' => e = .returned (.complex .f64 r.1 r.2) ∧ w' = w := by
  obtain ⟨a1, a2⟩ := a
  obtain ⟨b1, b2⟩ := b
  obtain ⟨r1, r2⟩ := r
  have k1 := fun (w : World) t => run_float_arith (P := (barP Tryz.prog)) w .add t .f64 a1 b1 r1 h.one
  have k2 := fun (w : World) t => run_float_arith (P := (barP Tryz.prog)) w .add t .f64 a2 b2 r2 h.two
  clear h
  go_enter Bar.func33, Bar.ntmps33
  go_wp2_with (first | (go_at_call 65; go_enter Bar.func65, Bar.ntmps65) | (go_at_call 70; go_enter Bar.func70, Bar.ntmps70))
  go_ret
  exact ⟨rfl, rfl⟩

end Go.Proofs.YtfnbcpeipoobkaaGreat
