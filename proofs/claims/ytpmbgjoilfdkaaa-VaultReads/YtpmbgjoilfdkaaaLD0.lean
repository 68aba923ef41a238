/- How many bytes the program's words have. -/
import Derived.Test.YtpmbgjoilfdkaaaM4
import Derived.Lib.BitFns
namespace Go.Proofs.Ytpmbgjoilfdkaaa
open Go.RowKit Fl Ieee

set_option maxRecDepth 100000 in
set_option maxHeartbeats 4000000 in
theorem len64_all (x : Int) (hx : x = 18446744073709551615) (w : World) : Calls Try.prog 86 #[.int .u64 x] w fun r w' => r = .returned (.int .i64 64) ∧ w' = w := by
  have q1 : ((4294967296 : Int) ≤ x) = True := by simp; omega
  have q2 : ((65536 : Int) ≤ x / 4294967296) = True := by simp; omega
  have q3 : ((256 : Int) ≤ x / 4294967296 / 65536) = True := by simp; omega
  have HX := hide hx
  clear hx
  go_enter Try.func86, Try.ntmps86
  go_wp2
  go_ret
  have hx := unhide HX
  refine ⟨congrArg Ending.returned (congrArg (Value.int IntKind.i64) ?_), rfl⟩
  rw [Lib.len8_of (x / 4294967296 / 65536 / 256 % 256) (by omega) (by omega)]
  have e : (x / 4294967296 / 65536 / 256 % 256).toNat = 255 := by omega
  rw [e]
  decide +kernel
set_option maxRecDepth 100000 in
set_option maxHeartbeats 4000000 in
theorem len64_half (x : Int) (hx : x = 4294967295) (w : World) : Calls Try.prog 86 #[.int .u64 x] w fun r w' => r = .returned (.int .i64 32) ∧ w' = w := by
  have q1 : ((4294967296 : Int) ≤ x) = False := by simp; omega
  have q2 : ((65536 : Int) ≤ x) = True := by simp; omega
  have q3 : ((256 : Int) ≤ x / 65536) = True := by simp; omega
  have HX := hide hx
  clear hx
  go_enter Try.func86, Try.ntmps86
  go_wp2
  go_ret
  have hx := unhide HX
  refine ⟨congrArg Ending.returned (congrArg (Value.int IntKind.i64) ?_), rfl⟩
  rw [Lib.len8_of (x / 65536 / 256 % 256) (by omega) (by omega)]
  have e : (x / 65536 / 256 % 256).toNat = 255 := by omega
  rw [e]
  decide +kernel

set_option maxRecDepth 100000 in
set_option maxHeartbeats 1600000 in
theorem bytesOf64 (w : World) : Calls Try.prog 75 #[] w fun r w' => r = .returned (.int .i64 8) ∧ w' = w := by
  have k := hide (len64_all 18446744073709551615 rfl)
  go_enter Try.func75, Try.ntmps75
  go_wp2_with fail
  refine (unhide k _).mono ?_
  rintro e w' ⟨rfl, rfl⟩
  go_wp2_with fail
  go_ret
  exact ⟨rfl, rfl⟩
set_option maxRecDepth 100000 in
set_option maxHeartbeats 1600000 in
theorem bytesOf32 (w : World) : Calls Try.prog 77 #[] w fun r w' => r = .returned (.int .i64 4) ∧ w' = w := by
  have k := hide (len64_half 4294967295 rfl)
  go_enter Try.func77, Try.ntmps77
  go_wp2_with fail
  refine (unhide k _).mono ?_
  rintro e w' ⟨rfl, rfl⟩
  go_wp2_with fail
  go_ret
  exact ⟨rfl, rfl⟩

end Go.Proofs.Ytpmbgjoilfdkaaa
