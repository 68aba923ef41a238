/- The last statement's walk. -/
import Derived.Test.YtedpnanjldifkaaNC
import Derived.Test.YtedpnanjldifkaaW8
namespace Go.Proofs.Ytedpnanjldifkaa
open Go.RowKit

theorem andNot63 (b : Nat) (hb : b < 18446744073709551616) : (bits .andNot .u64 (b : Int) 9223372036854775808).toNat = b % 9223372036854775808 := by
  rw [u64_andNot (b : Int) 9223372036854775808 (by omega) (by omega) (by omega) (by omega), Int.toNat_natCast, Int.toNat_natCast]
  exact Nat.and_two_pow_sub_one_eq_mod b 63

set_option maxHeartbeats 400000 in
theorem abs20 (b : Nat) (w : World) (hb : b < 18446744073709551616) :
    Calls Try.prog 20 #[.float .f64 b] w fun e w' => e = .returned (.float .f64 (b % 9223372036854775808)) ∧ w' = w := by
  have k1 := bits32
  have k2 := from31
  go_enter Try.func20, Try.ntmps20
  go_wp2
  go_ret
  exact ⟨by rw [andNot63 b hb]; rfl, rfl⟩

set_option maxHeartbeats 800000 in
theorem size29 (a b A B : Nat) (w : World) (la : a < 18446744073709551616) (lb : b < 18446744073709551616) (hA : a % 9223372036854775808 = A) (hB : b % 9223372036854775808 = B)
    (oa : FloatKind.f64.format.order A A = some .eq) (ob : FloatKind.f64.format.order B B = some .eq) :
    Calls Try.prog 29 #[.complex .f64 a b] w fun e w' => (e = .returned (.float .f64 A) ∨ e = .returned (.float .f64 B)) ∧ w' = w := by
  have c1 := hide fun w => abs20 a w la
  have c2 := hide fun w => abs20 b w lb
  rw [hA] at c1
  rw [hB] at c2
  clear hA hB la lb
  cases hc : (FloatKind.f64.format.order A B == some .lt)
  · go_enter Try.func29, Try.ntmps29
    go_wp2_with (first | (go_at_call 20; refine (unhide c1 _).mono ?_; rintro e w' ⟨rfl, rfl⟩) | (go_at_call 20; refine (unhide c2 _).mono ?_; rintro e w' ⟨rfl, rfl⟩))
    go_ret
    exact ⟨.inl rfl, rfl⟩
  · go_enter Try.func29, Try.ntmps29
    go_wp2_with (first | (go_at_call 20; refine (unhide c1 _).mono ?_; rintro e w' ⟨rfl, rfl⟩) | (go_at_call 20; refine (unhide c2 _).mono ?_; rintro e w' ⟨rfl, rfl⟩))
    go_ret
    exact ⟨.inr rfl, rfl⟩

set_option maxHeartbeats 800000 in
theorem far18 (r s x y d e : Nat) (w : World) (h1 : floatBits .sub .f64 r x = some d) (h2 : floatBits .sub .f64 s y = some e)
    (od : FloatKind.f64.format.order (d % 9223372036854775808) (d % 9223372036854775808) = some .eq) (oe : FloatKind.f64.format.order (e % 9223372036854775808) (e % 9223372036854775808) = some .eq) :
    Calls Try.prog 18 #[.complex .f64 r s, .complex .f64 x y] w fun e' w' => (e' = .returned (.float .f64 (d % 9223372036854775808)) ∨ e' = .returned (.float .f64 (e % 9223372036854775808))) ∧ w' = w := by
  have hz := hide fun w => size29 d e _ _ w (Ieee.Format.sub_lt _ h1) (Ieee.Format.sub_lt _ h2) rfl rfl od oe
  have k1 := fun (w : World) t => run_float_arith (P := Try.prog) w .sub t .f64 r x d h1
  have k2 := fun (w : World) t => run_float_arith (P := Try.prog) w .sub t .f64 s y e h2
  clear h1 h2 od oe
  generalize d % 9223372036854775808 = A at *
  generalize e % 9223372036854775808 = B at *
  go_enter Try.func18, Try.ntmps18
  go_wp2_with (first | (go_at_call 29; refine (unhide hz _).mono ?_; rintro e' w' ⟨rfl | rfl, rfl⟩) | go_in)
  · go_ret
    exact ⟨.inl rfl, rfl⟩
  · go_ret
    exact ⟨.inr rfl, rfl⟩
end Go.Proofs.Ytedpnanjldifkaa
