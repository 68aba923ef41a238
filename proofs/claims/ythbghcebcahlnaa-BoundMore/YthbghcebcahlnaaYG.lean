/- A sound grid is told as such. -/
import Derived.Test.YthbghcebcahlnaaYC
namespace Go.Proofs.Ythbghcebcahlnaa
open Go.RowKit

def gridV (n : Nat) (g c : Nat) : Value := .agg #[.int .i64 n, .slice (some ⟨g, 0, none⟩) (n * n : Nat) c]

theorem square_le {n : Nat} (h : n ≤ 64) : n * n ≤ 4096 := Nat.mul_le_mul h h

set_option maxHeartbeats 400000 in
theorem gridSide {n : Nat} (h1 : 1 ≤ n) (h2 : n ≤ 64) (w : World) :
    Calls (barP Try.prog) 38 #[.int .i64 n] w fun e w' => e = .returned (.bool true) ∧ w' = w := by
  have q1 : (1 ≤ (n : Int)) = True := by simp; omega
  have q2 : ((n : Int) ≤ 64) = True := by simp; omega
  go_enter Bar.func38, Bar.ntmps38
  go_wp2_with fail
  go_ret
  exact ⟨rfl, rfl⟩

set_option maxHeartbeats 1600000 in
theorem soundAny {n g c m : Nat} {f : Nat → Nat × Nat} {z : Nat → Int × Int} (w : World) (h1 : 1 ≤ n) (h2 : n ≤ 64) (hR : Row w g (n * n) f) (hz : ∀ j, j < n * n → Cell (f j) (z j) m) (hm : m ≤ 1048576) :
    Calls (barP Try.prog) 22 #[gridV n g c] w fun e w' => e = .returned (.bool true) ∧ Below w.heap.size w w' := by
  have hq := square_le h2
  have kS := hide fun w => gridSide h1 h2 w
  unfold gridV
  obtain ⟨M, hM⟩ : ∃ M, n * n = M := ⟨_, rfl⟩
  have q5 : (n : Int) * (n : Int) = (M : Int) := by rw [← hM, Int.natCast_mul]
  rw [hM] at hR hz hq ⊢
  have q6 : IntKind.i64.wrap (M : Int) = M := by rw [IntKind.wrap_i64]; omega
  have hR := hide hR
  have hz := hide hz
  clear hM
  go_enter Bar.func22, Bar.ntmps22
  go_wp2_with (first | (go_at_call 38; refine (unhide kS _).mono ?_; rintro e w' ⟨rfl, rfl⟩))
  go_loopw [23] (fun iv wr => ∃ i : Nat, i ≤ M ∧ iv = .int .i64 i ∧ w.alloc (.cells #[.int .i64 n, .slice (some ⟨g, 0, none⟩) M c] 27) = wr) (fun iv _ => M - (intOf iv).toNat)
  case atStart => exact ⟨0, Nat.zero_le _, rfl, rfl⟩
  case round =>
    obtain ⟨i, hi, rfl, rfl⟩ := hrel
    by_cases hc : i < M
    · have p1 : ((i : Int) < (M : Int)) = True := by simp; omega
      have hR1 := row_below (unhide hR) ((Below.refl _ w).alloc (Nat.le_refl _) (.cells #[.int .i64 n, .slice (some ⟨g, 0, none⟩) M c] 27)) (row_lt (unhide hR))
      have c1 := row_at hR1 hc
      have f1 := row_frozen hR1 i
      have k := hide fun w => valueAny (unhide hz i hc) hm w
      clear hR1
      go_wp2_with (first | (go_at_call 39; refine (unhide k _).mono ?_; rintro e w' ⟨rfl, rfl⟩))
      go_roundw
      case rel => exact ⟨i + 1, by omega, by simp, trivial⟩
      case measure => simp [intOf]; omega
    · have e : i = M := by omega
      subst e
      have p1 : ((i : Int) < (i : Int)) = False := by simp
      go_wp2_with fail
      go_ret
      exact ⟨rfl, (Below.refl _ _).alloc (Nat.le_refl _) _⟩

set_option maxHeartbeats 800000 in
theorem gridCheck {n g c m : Nat} {f : Nat → Nat × Nat} {z : Nat → Int × Int} (w : World) (h1 : 1 ≤ n) (h2 : n ≤ 64) (hR : Row w g (n * n) f) (hz : ∀ j, j < n * n → Cell (f j) (z j) m) (hm : m ≤ 1048576) :
    Calls (barP Try.prog) 13 #[gridV n g c] w fun e w' => e = .returned (.int .i64 0) ∧ Below w.heap.size w w' := by
  have hB := (Below.refl _ w).alloc (Nat.le_refl _) (.cells #[.int .i64 n, .slice (some ⟨g, 0, none⟩) (n * n : Nat) c] 27)
  have k := hide (soundAny (c := c) _ h1 h2 (row_below hR hB (row_lt hR)) hz hm)
  have hB := hide hB
  clear hR hz hm h1 h2
  unfold gridV at *
  generalize n * n = M at *
  go_enter Bar.func13, Bar.ntmps13
  go_wp2_with fail
  refine (unhide k).mono ?_
  rintro e w' ⟨rfl, hw⟩
  have hB2 : Hid (Below w.heap.size w w') := (unhide hB).trans (hw.mono (by simp))
  clear hw
  go_wp2_with fail
  go_ret
  exact ⟨rfl, unhide hB2⟩
end Go.Proofs.Ythbghcebcahlnaa
