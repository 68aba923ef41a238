/- What the calls of package cx give: sums, differences, products, plain parts; as bits. -/
import Derived.Test.YtpngfadhahdigabRows
import Derived.Test.YtpngfadhahdigabFl
import Derived.WalkKit
import Derived.WalkSpells
import Derived.WalkLawsBesides
namespace Go.Proofs.Ytpngfadhahdigab
open Go.RowKit

set_option maxHeartbeats 400000 in
theorem add_any (a b c d r s : Nat) (w : World) (h : floatBits .add .f64 a c = some r) (h' : floatBits .add .f64 b d = some s) :
    Calls Try.prog 6 #[.complex .f64 a b, .complex .f64 c d] w fun e w' => e = .returned (.complex .f64 r s) ∧ w' = w := by
  have hm := fun (w : World) t => run_float_arith (P := Try.prog) w .add t .f64 a c r h
  have hm' := fun (w : World) t => run_float_arith (P := Try.prog) w .add t .f64 b d s h'
  clear h h'
  go_enter Try.func6, Try.ntmps6
  go_wp2
  go_ret
  exact ⟨rfl, rfl⟩

set_option maxHeartbeats 400000 in
theorem sub_any (a b c d r s : Nat) (w : World) (h : floatBits .sub .f64 a c = some r) (h' : floatBits .sub .f64 b d = some s) :
    Calls Try.prog 7 #[.complex .f64 a b, .complex .f64 c d] w fun e w' => e = .returned (.complex .f64 r s) ∧ w' = w := by
  have hm := fun (w : World) t => run_float_arith (P := Try.prog) w .sub t .f64 a c r h
  have hm' := fun (w : World) t => run_float_arith (P := Try.prog) w .sub t .f64 b d s h'
  clear h h'
  go_enter Try.func7, Try.ntmps7
  go_wp2
  go_ret
  exact ⟨rfl, rfl⟩

set_option maxHeartbeats 400000 in
theorem mul_any (a b c d ac bd ad bc r s : Nat) (w : World) (h1 : floatBits .mul .f64 a c = some ac) (h2 : floatBits .mul .f64 b d = some bd)
    (h3 : floatBits .mul .f64 a d = some ad) (h4 : floatBits .mul .f64 b c = some bc) (h5 : floatBits .sub .f64 ac bd = some r) (h6 : floatBits .add .f64 ad bc = some s) :
    Calls Try.prog 8 #[.complex .f64 a b, .complex .f64 c d] w fun e w' => e = .returned (.complex .f64 r s) ∧ w' = w := by
  have k1 := fun (w : World) t => run_float_arith (P := Try.prog) w .mul t .f64 a c ac h1
  have k2 := fun (w : World) t => run_float_arith (P := Try.prog) w .mul t .f64 b d bd h2
  have k3 := fun (w : World) t => run_float_arith (P := Try.prog) w .mul t .f64 a d ad h3
  have k4 := fun (w : World) t => run_float_arith (P := Try.prog) w .mul t .f64 b c bc h4
  have k5 := fun (w : World) t => run_float_arith (P := Try.prog) w .sub t .f64 ac bd r h5
  have k6 := fun (w : World) t => run_float_arith (P := Try.prog) w .add t .f64 ad bc s h6
  clear h1 h2 h3 h4 h5 h6
  go_enter Try.func8, Try.ntmps8
  go_wp2
  go_ret
  exact ⟨rfl, rfl⟩

def plainB (a : Nat) : Nat := if FloatKind.f64.format.order a 0 == some .eq then 0 else a

set_option maxHeartbeats 400000 in
theorem plain1_any (a : Nat) (w : World) :
    Calls Try.prog 18 #[.float .f64 a] w fun e w' => e = .returned (.float .f64 (plainB a)) ∧ w' = w := by
  by_cases h : (FloatKind.f64.format.order a 0 == some .eq) = true
  · have hp : plainB a = 0 := by unfold plainB; rw [if_pos h]
    rw [hp]; clear hp
    go_enter Try.func18, Try.ntmps18
    go_wp2
    go_ret
    exact ⟨rfl, rfl⟩
  · have hp : plainB a = a := by unfold plainB; rw [if_neg h]
    rw [hp]; clear hp
    rw [Bool.not_eq_true] at h
    go_enter Try.func18, Try.ntmps18
    go_wp2
    go_ret
    exact ⟨rfl, rfl⟩

set_option maxHeartbeats 400000 in
theorem plain_any (a b : Nat) (w : World) :
    Calls Try.prog 9 #[.complex .f64 a b] w fun e w' => e = .returned (.complex .f64 (plainB a) (plainB b)) ∧ w' = w := by
  go_enter Try.func9, Try.ntmps9
  go_wp2_with (first | (go_at_call 18; refine (plain1_any _ _).mono ?_; rintro e w' ⟨rfl, rfl⟩) | go_in)
  go_ret
  exact ⟨rfl, rfl⟩

set_option maxHeartbeats 400000 in
theorem number_any (a b : Int) (w : World) :
    Calls Try.prog 5 #[.agg #[.int .i32 a, .int .i32 b]] w fun e w' => e = .returned (.complex .f64 (floatOfInt .f64 (a / 128)) (floatOfInt .f64 (b / 128))) ∧ w' = w.alloc (.cells #[.int .i32 a, .int .i32 b] 22) := by
  go_enter Try.func5, Try.ntmps5
  go_wp2
  go_ret
  exact ⟨rfl, rfl⟩
end Go.Proofs.Ytpngfadhahdigab
