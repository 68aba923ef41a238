/- The size of a difference. -/
import Derived.Test.YtgbffbikieikdaaAB
namespace Go.Proofs.Ytgbffbikieikdaa
open Go.RowKit Fl Ieee

/-- The greater of two. -/
def maxB (A B : Nat) : Nat := if (FloatKind.f64.format.order A B == some .lt) = true then B else A

set_option maxHeartbeats 800000 in
theorem sizeAny (a b A B : Nat) (w : World) (la : a < 18446744073709551616) (lb : b < 18446744073709551616) (hA : a % 9223372036854775808 = A) (hB : b % 9223372036854775808 = B)
    (oa : FloatKind.f64.format.order A A = some .eq) (ob : FloatKind.f64.format.order B B = some .eq) :
    Calls Try.prog 28 #[.complex .f64 a b] w fun e w' => e = .returned (.float .f64 (maxB A B)) ∧ w' = w := by
  have c1 := hide fun w => absAny a w la
  have c2 := hide fun w => absAny b w lb
  rw [hA] at c1
  rw [hB] at c2
  clear hA hB la lb
  cases hc : (FloatKind.f64.format.order A B == some .lt)
  · have hm : maxB A B = A := by unfold maxB; rw [hc]; rfl
    rw [hm]
    clear hm
    go_enter Try.func28, Try.ntmps28
    go_wp2_with (first | (go_at_call 36; refine (unhide c1 _).mono ?_; rintro e w' ⟨rfl, rfl⟩) | (go_at_call 36; refine (unhide c2 _).mono ?_; rintro e w' ⟨rfl, rfl⟩))
    go_ret
    exact ⟨rfl, rfl⟩
  · have hm : maxB A B = B := by unfold maxB; rw [hc]; rfl
    rw [hm]
    clear hm
    go_enter Try.func28, Try.ntmps28
    go_wp2_with (first | (go_at_call 36; refine (unhide c1 _).mono ?_; rintro e w' ⟨rfl, rfl⟩) | (go_at_call 36; refine (unhide c2 _).mono ?_; rintro e w' ⟨rfl, rfl⟩))
    go_ret
    exact ⟨rfl, rfl⟩

set_option maxHeartbeats 800000 in
theorem farAny (r s x y d e : Nat) (w : World) (h1 : floatBits .sub .f64 r x = some d) (h2 : floatBits .sub .f64 s y = some e)
    (od : FloatKind.f64.format.order (d % 9223372036854775808) (d % 9223372036854775808) = some .eq) (oe : FloatKind.f64.format.order (e % 9223372036854775808) (e % 9223372036854775808) = some .eq) :
    Calls Try.prog 16 #[.complex .f64 r s, .complex .f64 x y] w fun e' w' => e' = .returned (.float .f64 (maxB (d % 9223372036854775808) (e % 9223372036854775808))) ∧ w' = w := by
  have hz := hide fun w => sizeAny d e _ _ w (Ieee.Format.sub_lt _ h1) (Ieee.Format.sub_lt _ h2) rfl rfl od oe
  have k1 := fun (w : World) t => run_float_arith (P := Try.prog) w .sub t .f64 r x d h1
  have k2 := fun (w : World) t => run_float_arith (P := Try.prog) w .sub t .f64 s y e h2
  clear h1 h2 od oe
  generalize maxB (d % 9223372036854775808) (e % 9223372036854775808) = A at *
  go_enter Try.func16, Try.ntmps16
  go_wp2_with (first | (go_at_call 28; refine (unhide hz _).mono ?_; rintro e' w' ⟨rfl, rfl⟩) | go_in)
  go_ret
  exact ⟨rfl, rfl⟩
end Go.Proofs.Ytgbffbikieikdaa
