/- The sum of products with conjugates. -/
import Derived.Test.YtjmdlgekheehgaaYR
namespace Go.Proofs.Ytjmdlgekheehgaa
open Go.RowKit

set_option maxHeartbeats 1600000 in
/-- SCAFFOLD: package ray's own. -/
theorem dotAny {ga gb m ca cb A B : Nat} {fa fb : Nat → Nat × Nat} {za zb : Nat → Int × Int} (w : World) (ha : Row w ga m fa) (hb : Row w gb m fb)
    (ia : ∀ j, j < m → IC (fa j) (za j)) (ib : ∀ j, j < m → IC (fb j) (zb j))
    (la : ∀ j, j < m → (za j).1.natAbs ≤ A ∧ (za j).2.natAbs ≤ A) (lb : ∀ j, j < m → (zb j).1.natAbs ≤ B ∧ (zb j).2.natAbs ≤ B) (hAB : A * B ≤ 1073741824) (hm : m ≤ 4096) :
    Calls Try.prog 8 #[.slice (some ⟨ga, 0, none⟩) m ca, .slice (some ⟨gb, 0, none⟩) m cb] w fun e w' =>
      (∃ r s : Nat, e = .returned (.tuple #[.complex .f64 r s, .int .i64 0]) ∧ IC (r, s) (dotZ za zb m)) ∧ Below w.heap.size w w' := by
  have hA := hide ha
  have hB := hide hb
  have hla := hide la
  have hlb := hide lb
  have hia := hide ia
  have hib := hide ib
  have hab := hide hAB
  clear ha hb la lb ia ib hAB
  go_enter Try.func8, Try.ntmps8
  go_wp2_with fail
  go_loopw [6, 16] (fun sv iv wr => ∃ (i : Nat) (r s : Nat), i ≤ m ∧ sv = .complex .f64 r s ∧ iv = .int .i64 i ∧ Hid (IC (r, s) (dotZ za zb i)) ∧ w = wr) (fun _ iv _ => m - (intOf iv).toNat)
  case atStart => exact ⟨0, 0, 0, Nat.zero_le _, rfl, rfl, ic_zero, rfl⟩
  case round =>
    obtain ⟨i, r, s, hi, rfl, rfl, hs, rfl⟩ := hrel
    by_cases c : i < m
    · have q1 : ((i : Int) < (m : Int)) = True := by simp; omega
      have c1 := row_at (unhide hA) c
      have c2 := row_at (unhide hB) c
      have f1 := row_frozen (unhide hA) i
      have f2 := row_frozen (unhide hB) i
      obtain ⟨x1, hx1⟩ : ∃ x, fa i = x := ⟨_, rfl⟩
      obtain ⟨x2, hx2⟩ : ∃ x, fb i = x := ⟨_, rfl⟩
      have i1 := unhide hia i c
      have i2 := unhide hib i c
      have l1 := unhide hla i c
      have l2 := unhide hlb i c
      have d0 := dot_le (m := i) (fun j hj => unhide hla j (by omega)) (fun j hj => unhide hlb j (by omega))
      have d1 := dot_le (m := i + 1) (fun j hj => unhide hla j (by omega)) (fun j hj => unhide hlb j (by omega))
      have hbd : (i + 1) * (2 * (A * B)) ≤ 4096 * (2 * 1073741824) := Nat.mul_le_mul (by omega) (Nat.mul_le_mul_left _ (unhide hab))
      obtain ⟨mr, ms, hM, hI⟩ := ic_mul i1 i2 l1.1 l1.2 l2.1 l2.2 (by have := unhide hab; omega)
      obtain ⟨t, hT, hIt, _, _⟩ := ic_add (unhide hs) hI (Nat.lt_of_le_of_lt d1.1 (by omega)) (Nat.lt_of_le_of_lt d1.2 (by omega))
      rw [hx1] at hM c1
      rw [hx2] at hM c2
      obtain ⟨p1, p2⟩ := x1
      obtain ⟨p3, p4⟩ := x2
      obtain ⟨t1, t2⟩ := t
      unfold cv at c1 c2
      have k1 := hide fun w => addAny hT w
      have k2 := hide fun w => mulAny hM w
      have hIt := hide hIt
      clear hT hM d0 d1 hbd hI hx1 hx2 i1 i2 l1 l2 hs
      go_wp2_with (first
        | (go_at_call 17; refine (conjAny _ _ _).mono ?_; rintro e w' ⟨rfl, rfl⟩)
        | (go_at_call 16; refine (unhide k2 _).mono ?_; rintro e w' ⟨rfl, rfl⟩)
        | (go_at_call 15; refine (unhide k1 _).mono ?_; rintro e w' ⟨rfl, rfl⟩))
      go_roundw
      case rel => exact ⟨i + 1, t1, t2, by omega, rfl, by simp, hIt, trivial⟩
      case measure => simp [intOf]; omega
    · have e : i = m := by omega
      subst e
      have q1 : ((i : Int) < (i : Int)) = False := by simp
      go_wp2_with fail
      go_ret2
      exact ⟨⟨r, s, rfl, unhide hs⟩, Below.refl _ _⟩
end Go.Proofs.Ytjmdlgekheehgaa
