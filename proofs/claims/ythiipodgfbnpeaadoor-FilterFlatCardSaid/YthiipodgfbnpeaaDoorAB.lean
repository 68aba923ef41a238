/- The size of a float64. -/
import Derived.Test.YthiipodgfbnpeaaDoorR5
import Derived.Test.YthiipodgfbnpeaaDoorLB
namespace Go.Proofs.YthiipodgfbnpeaaDoor
open Go.RowKit Fl Ieee

theorem andNot63 (b : Nat) (hb : b < 18446744073709551616) : (bits .andNot .u64 (b : Int) 9223372036854775808).toNat = b % 9223372036854775808 := by
  rw [u64_andNot (b : Int) 9223372036854775808 (by omega) (by omega) (by omega) (by omega), Int.toNat_natCast, Int.toNat_natCast]
  exact Nat.and_two_pow_sub_one_eq_mod b 63

set_option maxHeartbeats 400000 in
theorem absAny (b : Nat) (w : World) (hb : b < 18446744073709551616) :
    Calls Tryd.prog 73 #[.float .f64 b] w fun e w' => e = .returned (.float .f64 (b % 9223372036854775808)) ∧ w' = w := by
  have k1 := bits32
  have k2 := from31
  go_enter Tryd.func73, Tryd.ntmps73
  go_wp2
  go_ret
  exact ⟨by rw [andNot63 b hb]; rfl, rfl⟩
end Go.Proofs.YthiipodgfbnpeaaDoor
