/- The document's own Cmp, Across, Bins, Index. -/
import Derived.Test.YtkjjhllmedkfhaaDB
namespace Go.Proofs.Ytkjjhllmedkfhaa
open Go.RowKit

structure Dir64 (a : Int × Int) : Prop where
  one : I64 a.1
  two : I64 a.2

theorem okD_bounds {P Q : Int} (h : okD P Q = true) : P.natAbs ≤ 16 ∧ 0 ≤ Q ∧ Q ≤ 16 := by
  unfold okD at h
  simp only [decide_eq_true_eq] at h
  exact ⟨h.2.2.1, h.1, h.2.1⟩

theorem checkS_ok {P Q : Int} (h : okD P Q = true) : checkS P Q = 0 := by unfold checkS; rw [if_pos h]
theorem checkS_bad {P Q : Int} (h : okD P Q = false) : checkS P Q = 60 := by unfold checkS; rw [if_neg (by rw [h]; decide)]

theorem prod_small {x y : Int} (hx : x.natAbs ≤ 16) (hy : y.natAbs ≤ 16) : (x * y).natAbs ≤ 256 := by
  rw [Int.natAbs_mul]
  exact Nat.mul_le_mul hx hy

theorem two_cells (w : World) (a b : Value) (t : TypeId) {w' : World} (hb : Below (w.heap.size + 1) (w.alloc (.cells #[a, b] t)) w') : w'.cell? ⟨w.heap.size, 0, none⟩ = some a ∧ w'.cell? ⟨w.heap.size, 1, none⟩ = some b := by
  refine ⟨?_, ?_⟩
  · rw [hb.cell (p := ⟨w.heap.size, 0, none⟩) (Nat.lt_succ_self _)]; simp [go_sem]
  · rw [hb.cell (p := ⟨w.heap.size, 1, none⟩) (Nat.lt_succ_self _)]; simp [go_sem]

set_option maxHeartbeats 3200000 in
theorem cmpAny {a b : Int × Int} (ha : Dir64 a) (hb : Dir64 b) (w : World) :
    Calls Try.prog 17 #[dirV a, dirV b] w fun e w' => e = .returned (.int .i64 (cmpS a b)) ∧ Below w.heap.size w w' := by
  obtain ⟨P, Q⟩ := a
  obtain ⟨R, S⟩ := b
  have k1 := hide (fun w => checkAny ha.one ha.two w)
  have k2 := hide (fun w => checkAny hb.one hb.two w)
  unfold dirV at k1 k2 ⊢
  dsimp only at k1 k2 ⊢
  clear ha hb
  cases c1 : okD P Q
  · have e1 := checkS_bad c1
    have hS : Hid (cmpS (P, Q) (R, S) = 0) := by show _ = _; unfold cmpS; rw [c1]; rfl
    rw [e1] at k1
    generalize cmpS (P, Q) (R, S) = r at hS ⊢
    clear c1 k2 e1
    go_enter Try.func17, Try.ntmps17
    go_wp2_with fail
    refine (unhide k1 _).mono ?_
    rintro e w1 ⟨rfl, hb1⟩
    have hB : Hid (Below w.heap.size w w1) := (((Below.refl _ _).alloc (Nat.le_refl _) _).alloc (by simp) _).trans (hb1.mono (by simp; omega))
    clear hb1
    go_wp2_with fail
    go_ret
    exact ⟨by rw [unhide hS]; rfl, unhide hB⟩
  · have e1 := checkS_ok c1
    rw [e1] at k1
    cases c2 : okD R S
    · have e2 := checkS_bad c2
      have hS : Hid (cmpS (P, Q) (R, S) = 0) := by show _ = _; unfold cmpS; rw [c1, c2]; rfl
      rw [e2] at k2
      generalize cmpS (P, Q) (R, S) = r at hS ⊢
      clear c1 c2 e1 e2
      go_enter Try.func17, Try.ntmps17
      go_wp2_with fail
      refine (unhide k1 _).mono ?_
      rintro e w1 ⟨rfl, hb1⟩
      have hB : Hid (Below w.heap.size w w1) := (((Below.refl _ _).alloc (Nat.le_refl _) _).alloc (by simp) _).trans (hb1.mono (by simp; omega))
      have x3 : w1.cell? ⟨w.heap.size + 1, 0, none⟩ = some (.int .i64 R) := by rw [hb1.cell (by simp)]; simp [go_sem]
      have x4 : w1.cell? ⟨w.heap.size + 1, 1, none⟩ = some (.int .i64 S) := by rw [hb1.cell (by simp)]; simp [go_sem]
      clear hb1
      go_wp2_with fail
      refine (unhide k2 _).mono ?_
      rintro e w2 ⟨rfl, hb2⟩
      have hB2 : Hid (Below w.heap.size w w2) := (unhide hB).trans (hb2.mono (unhide hB).size)
      clear hb2
      go_wp2_with fail
      go_ret
      exact ⟨by rw [unhide hS]; rfl, unhide hB2⟩
    · have e2 := checkS_ok c2
      rw [e2] at k2
      obtain ⟨p1, p2, p3⟩ := okD_bounds c1
      obtain ⟨p4, p5, p6⟩ := okD_bounds c2
      have m1 := prod_small (x := P) (y := S) p1 (by omega)
      have m2 := prod_small (x := Q) (y := R) (by omega) p4
      have hS : Hid (cmpS (P, Q) (R, S) = if 0 < P * S - Q * R then -1 else if P * S - Q * R < 0 then 1 else 0) := by show _ = _; unfold cmpS crossS; rw [c1, c2]; rfl
      have n1 : IntKind.i64.wrap (P * S) = P * S := by rw [IntKind.wrap_i64]; omega
      have n2 : IntKind.i64.wrap (Q * R) = Q * R := by rw [IntKind.wrap_i64]; omega
      generalize cmpS (P, Q) (R, S) = r at hS ⊢
      generalize hX : P * S = X at *
      generalize hY : Q * R = Y at *
      have hc : ((Y < X) = True ∧ r = -1) ∨ ((Y < X) = False ∧ (X - Y < 0) = True ∧ r = 1) ∨ ((Y < X) = False ∧ (X - Y < 0) = False ∧ r = 0) := by
        have h := unhide hS
        by_cases d1 : 0 < X - Y
        · rw [if_pos d1] at h
          exact Or.inl ⟨by simp; omega, h⟩
        · by_cases d2 : X - Y < 0
          · rw [if_neg d1, if_pos d2] at h
            exact Or.inr (Or.inl ⟨by simp; omega, by simp; omega, h⟩)
          · rw [if_neg d1, if_neg d2] at h
            exact Or.inr (Or.inr ⟨by simp; omega, by simp; omega, h⟩)
      clear c1 c2 e1 e2 hS p1 p2 p3 p4 p5 p6
      have r1 : -256 ≤ X ∧ X ≤ 256 := by omega
      have r2 : -256 ≤ Y ∧ Y ≤ 256 := by omega
      have n3 : IntKind.i64.wrap (X - Y) = X - Y := by rw [IntKind.wrap_i64]; omega
      go_enter Try.func17, Try.ntmps17
      go_wp2_with fail
      refine (unhide k1 _).mono ?_
      rintro e w1 ⟨rfl, hb1⟩
      have hB : Hid (Below w.heap.size w w1) := (((Below.refl _ _).alloc (Nat.le_refl _) _).alloc (by simp) _).trans (hb1.mono (by simp; omega))
      have x1 : w1.cell? ⟨w.heap.size, 0, none⟩ = some (.int .i64 P) := by rw [hb1.cell (by simp; omega)]; simp [go_sem]
      have x2 : w1.cell? ⟨w.heap.size, 1, none⟩ = some (.int .i64 Q) := by rw [hb1.cell (by simp; omega)]; simp [go_sem]
      have x3 : w1.cell? ⟨w.heap.size + 1, 0, none⟩ = some (.int .i64 R) := by rw [hb1.cell (by simp)]; simp [go_sem]
      have x4 : w1.cell? ⟨w.heap.size + 1, 1, none⟩ = some (.int .i64 S) := by rw [hb1.cell (by simp)]; simp [go_sem]
      have hz : Hid (w.heap.size + 1 < w1.heap.size) := by
        have := hb1.size
        simp at this
        show _ < _
        omega
      clear hb1
      go_wp2_with fail
      refine (unhide k2 _).mono ?_
      rintro e w2 ⟨rfl, hb2⟩
      have hB2 : Hid (Below w.heap.size w w2) := (unhide hB).trans (hb2.mono (unhide hB).size)
      have z := unhide hz
      have x1 := (hb2.cell (p := ⟨w.heap.size, 0, none⟩) (by show w.heap.size < _; omega)).trans x1
      have x2 := (hb2.cell (p := ⟨w.heap.size, 1, none⟩) (by show w.heap.size < _; omega)).trans x2
      have x3 := (hb2.cell (p := ⟨w.heap.size + 1, 0, none⟩) z).trans x3
      have x4 := (hb2.cell (p := ⟨w.heap.size + 1, 1, none⟩) z).trans x4
      clear hb2 z
      rcases hc with ⟨d1, d2⟩ | ⟨d1, d2, d3⟩ | ⟨d1, d2, d3⟩
      all_goals
        go_wp2_with fail
        go_ret
        refine ⟨?_, unhide hB2⟩
        first | rw [d2] | rw [d3]
        rfl

/-- The direction across; how many lines; the first line's number; a cell's line. -/
def acrossS (a : Int × Int) : (Int × Int) × Int := if okD a.1 a.2 then normalS (-a.2) a.1 else ((0, 0), 60)
def binsS (n : Int) (a : Int × Int) : Int × Int := if n < 1 ∨ 64 < n then (0, 1) else if okD a.1 a.2 then ((n - 1) * (a.1.natAbs + a.2) + 1, 0) else (0, 60)
def startS (n : Int) (a : Int × Int) : Int := (if a.1 < 0 then 0 else a.1) * (n - 1)
def indexS (n : Int) (a : Int × Int) (x y : Int) : Int × Int := if (binsS n a).2 ≠ 0 then (0, (binsS n a).2) else if x < 0 ∨ n ≤ x ∨ y < 0 ∨ n ≤ y then (0, 1) else (a.2 * x - a.1 * y + startS n a, 0)

theorem neg_i64 {x : Int} (h1 : 0 ≤ x) (h2 : x ≤ 16) : I64 (-x) := by unfold I64; omega

set_option maxHeartbeats 3200000 in
theorem acrossAny {a : Int × Int} (ha : Dir64 a) (w : World) :
    Calls Try.prog 13 #[dirV a] w fun e w' => e = .returned (.tuple #[dirV (acrossS a).1, .int .i64 (acrossS a).2]) ∧ Below w.heap.size w w' := by
  obtain ⟨P, Q⟩ := a
  have k1 := hide (fun w => checkAny ha.one ha.two w)
  unfold dirV at k1
  unfold acrossS
  dsimp only at k1 ⊢
  cases c1 : okD P Q
  · rw [checkS_bad c1] at k1
    rw [if_neg (by decide)]
    unfold dirV
    clear c1 ha
    go_enter Try.func13, Try.ntmps13
    go_wp2_with fail
    refine (unhide k1 _).mono ?_
    rintro e w1 ⟨rfl, hb1⟩
    have hB : Hid (Below w.heap.size w w1) := (((Below.refl _ _).alloc (Nat.le_refl _) _).alloc (by simp) _).trans (hb1.mono (by simp; omega))
    have b1 : w1.cell? ⟨w.heap.size + 1, 0, none⟩ = some (.int .i64 0) := by rw [hb1.cell (by simp)]; simp [go_sem]
    have b2 : w1.cell? ⟨w.heap.size + 1, 1, none⟩ = some (.int .i64 0) := by rw [hb1.cell (by simp)]; simp [go_sem]
    have b3 : w1.frozen? ⟨w.heap.size + 1, 0, none⟩ = false := by rw [hb1.frozen (by simp)]; simp [go_sem]
    have b4 : w1.frozen? ⟨w.heap.size + 1, 1, none⟩ = false := by rw [hb1.frozen (by simp)]; simp [go_sem]
    clear hb1
    go_wp2_with fail
    refine bodyPost_ret (results_two_tmp (P := Try.prog) rfl _ _ (w.heap.size + 1) (.int .i64 0) (.int .i64 0) (.int .i64 60) _ rfl rfl (by simp [go_sem, b1]) (by simp [go_sem, b2]) Try.underlying23 rfl (by kernel_rfl)) rfl ?_
    exact ⟨rfl, ((unhide hB).setCell (by simp) _).setCell (by simp) _⟩
  · rw [checkS_ok c1] at k1
    rw [if_pos rfl]
    obtain ⟨p1, p2, p3⟩ := okD_bounds c1
    have k2 := hide (fun w => normalAny (neg_i64 p2 p3) ha.one w)
    generalize normalS (-Q) P = r at k2 ⊢
    obtain ⟨⟨r1, r2⟩, r3⟩ := r
    unfold dirV at k2 ⊢
    dsimp only at k2 ⊢
    clear c1 ha p1
    go_enter Try.func13, Try.ntmps13
    go_wp2_with fail
    refine (unhide k1 _).mono ?_
    rintro e w1 ⟨rfl, hb1⟩
    have hB : Hid (Below w.heap.size w w1) := (((Below.refl _ _).alloc (Nat.le_refl _) _).alloc (by simp) _).trans (hb1.mono (by simp; omega))
    have x1 : w1.cell? ⟨w.heap.size, 0, none⟩ = some (.int .i64 P) := by rw [hb1.cell (by simp; omega)]; simp [go_sem]
    have x2 : w1.cell? ⟨w.heap.size, 1, none⟩ = some (.int .i64 Q) := by rw [hb1.cell (by simp; omega)]; simp [go_sem]
    have b1 : w1.cell? ⟨w.heap.size + 1, 0, none⟩ = some (.int .i64 0) := by rw [hb1.cell (by simp)]; simp [go_sem]
    have b2 : w1.cell? ⟨w.heap.size + 1, 1, none⟩ = some (.int .i64 0) := by rw [hb1.cell (by simp)]; simp [go_sem]
    have b3 : w1.frozen? ⟨w.heap.size + 1, 0, none⟩ = false := by rw [hb1.frozen (by simp)]; simp [go_sem]
    have b4 : w1.frozen? ⟨w.heap.size + 1, 1, none⟩ = false := by rw [hb1.frozen (by simp)]; simp [go_sem]
    have hz : Hid (w.heap.size + 1 < w1.heap.size) := by
      have := hb1.size
      simp at this
      show _ < _
      omega
    clear hb1
    go_wp2_with fail
    refine (unhide k2 _).mono ?_
    rintro e w2 ⟨rfl, hb2⟩
    have hB2 : Hid (Below w.heap.size w w2) := (unhide hB).trans (hb2.mono (unhide hB).size)
    have b1 := (hb2.cell (p := ⟨w.heap.size + 1, 0, none⟩) (unhide hz)).trans b1
    have b2 := (hb2.cell (p := ⟨w.heap.size + 1, 1, none⟩) (unhide hz)).trans b2
    have b3 := (hb2.frozen (p := ⟨w.heap.size + 1, 0, none⟩) (unhide hz)).trans b3
    have b4 := (hb2.frozen (p := ⟨w.heap.size + 1, 1, none⟩) (unhide hz)).trans b4
    clear hb2
    go_wp2_with fail
    refine bodyPost_ret (results_two_tmp (P := Try.prog) rfl _ _ (w.heap.size + 1) (.int .i64 r1) (.int .i64 r2) (.int .i64 r3) _ rfl rfl (by simp [go_sem, b1]) (by simp [go_sem, b2]) Try.underlying23 rfl (by kernel_rfl)) rfl ?_
    exact ⟨rfl, ((unhide hB2).setCell (by simp) _).setCell (by simp) _⟩
end Go.Proofs.Ytkjjhllmedkfhaa
