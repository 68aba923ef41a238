/- What the small calls give, as bits: products, plain parts, turns, square roots, the halving of a step. -/
import Derived.Test.YthiipodgfbnpeaaDoorRows
import Derived.Test.YthiipodgfbnpeaaDoorP0
import Derived.Test.YthiipodgfbnpeaaDoorI
import Derived.Test.YthiipodgfbnpeaaDoorS
import Derived.Laws.BitsLemmas
import Derived.Laws.BitsAllLaws
namespace Go.Proofs.YthiipodgfbnpeaaDoor
open Go.RowKit

theorem bits32 (b : Nat) (w : World) : (callFunc 51 #[.float .f64 b]).run Tryd.prog w = .ok (.value (.int .u64 b)) w := by
  rw [run_callFunc_extern (e := Extern.MathFloatBits.float64bits) Tryd.func51 (by kernel_rfl) (by kernel_rfl) (by kernel_rfl) (by kernel_rfl)]
  rfl

theorem from31 (n : Int) (w : World) : (callFunc 50 #[.int .u64 n]).run Tryd.prog w = .ok (.value (.float .f64 n.toNat)) w := by
  rw [run_callFunc_extern (e := Extern.MathFloatBits.float64frombits) Tryd.func50 (by kernel_rfl) (by kernel_rfl) (by kernel_rfl) (by kernel_rfl)]
  rfl

theorem sqrt44 (b r : Nat) (h : FloatKind.f64.format.sqrt b = some r) (w : World) : (callFunc 47 #[.float .f64 b]).run Tryd.prog w = .ok (.value (.float .f64 r)) w := by
  rw [run_callFunc_extern (e := Extern.MathSqrt.sqrt) Tryd.func47 (by kernel_rfl) (by kernel_rfl) (by kernel_rfl) (by kernel_rfl)]
  have key : (Extern.MathSqrt.sqrt #[.float .f64 b]).run Tryd.prog w = .ok (.float .f64 r) w := by
    show ((match FloatKind.f64.format.sqrt b with
      | some r => pure (.float .f64 r)
      | none => do pure (.float .f64 (← choose (.nanBits .f64 b b)))) : Sem Value).run Tryd.prog w = _
    rw [h]
    rfl
  rw [key]
  rfl

set_option maxHeartbeats 400000 in
theorem sqrt_any (b r : Nat) (h : FloatKind.f64.format.sqrt b = some r) (w : World) :
    Calls Tryd.prog 35 #[.float .f64 b] w fun e w' => e = .returned (.float .f64 r) ∧ w' = w := by
  have k := sqrt44 b r h
  clear h
  go_enter Tryd.func35, Tryd.ntmps35
  go_wp2
  go_ret
  exact ⟨rfl, rfl⟩

set_option maxHeartbeats 400000 in
theorem plain42 (a : Nat) (w : World) :
    Calls Tryd.prog 34 #[.float .f64 a] w fun e w' => e = .returned (.float .f64 (plainB a)) ∧ w' = w := by
  by_cases h : (FloatKind.f64.format.order a 0 == some .eq) = true
  · have hp : plainB a = 0 := by unfold plainB; rw [if_pos h]
    rw [hp]; clear hp
    go_enter Tryd.func34, Tryd.ntmps34
    go_wp2
    go_ret
    exact ⟨rfl, rfl⟩
  · have hp : plainB a = a := by unfold plainB; rw [if_neg h]
    rw [hp]; clear hp
    rw [Bool.not_eq_true] at h
    go_enter Tryd.func34, Tryd.ntmps34
    go_wp2
    go_ret
    exact ⟨rfl, rfl⟩

set_option maxHeartbeats 400000 in
theorem plain34 (a b : Nat) (w : World) :
    Calls Tryd.prog 19 #[.complex .f64 a b] w fun e w' => e = .returned (.complex .f64 (plainB a) (plainB b)) ∧ w' = w := by
  go_enter Tryd.func19, Tryd.ntmps19
  go_wp2_with (first | (go_at_call 34; refine (plain42 _ _).mono ?_; rintro e w' ⟨rfl, rfl⟩) | go_in)
  go_ret
  exact ⟨rfl, rfl⟩

set_option maxHeartbeats 400000 in
theorem turn35 (a b : Nat) (w : World) :
    Calls Tryd.prog 38 #[.complex .f64 a b, .int .i64 1] w fun e w' => e = .returned (.complex .f64 (negB b) a) ∧ w' = w := by
  have k1 := bits32
  have k2 := from31
  go_enter Tryd.func38, Tryd.ntmps38
  go_wp2
  go_ret
  exact ⟨rfl, rfl⟩

set_option maxHeartbeats 400000 in
theorem mul45 {a b c d r s : Nat} (h : MulTo a b c d r s) (w : World) :
    Calls Tryd.prog 58 #[.complex .f64 a b, .complex .f64 c d] w fun e w' => e = .returned (.complex .f64 r s) ∧ w' = w := by
  obtain ⟨ac, bd, ad, bc, h1, h2, h3, h4, h5, h6⟩ := h.ex
  have k1 := fun (w : World) t => run_float_arith (P := Tryd.prog) w .mul t .f64 a c ac h1
  have k2 := fun (w : World) t => run_float_arith (P := Tryd.prog) w .mul t .f64 b d bd h2
  have k3 := fun (w : World) t => run_float_arith (P := Tryd.prog) w .mul t .f64 a d ad h3
  have k4 := fun (w : World) t => run_float_arith (P := Tryd.prog) w .mul t .f64 b c bc h4
  have k5 := fun (w : World) t => run_float_arith (P := Tryd.prog) w .sub t .f64 ac bd r h5
  have k6 := fun (w : World) t => run_float_arith (P := Tryd.prog) w .add t .f64 ad bc s h6
  clear h1 h2 h3 h4 h5 h6 h
  go_enter Tryd.func58, Tryd.ntmps58
  go_wp2
  go_ret
  exact ⟨rfl, rfl⟩

set_option maxHeartbeats 400000 in
theorem halved_any {c s c' s' : Nat} (h : HalfTo c s c' s') (w : World) :
    Calls Tryd.prog 36 #[.complex .f64 c s] w fun e w' => e = .returned (.complex .f64 c' s') ∧ w' = w := by
  obtain ⟨t, x, d, h1, h2, h3, h4, h5⟩ := h.ex
  have k1 := fun (w : World) y => run_float_arith (P := Tryd.prog) w .add y .f64 _ c t h1
  have k2 := fun (w : World) y => run_float_arith (P := Tryd.prog) w .mul y .f64 _ t x h2
  have k3 := fun (w : World) y => run_float_arith (P := Tryd.prog) w .mul y .f64 _ c' d h4
  have k4 := fun (w : World) y => run_float_arith (P := Tryd.prog) w .quo y .f64 s d s' h5
  have hs := hide (sqrt_any x c' h3)
  clear h1 h2 h3 h4 h5 h
  go_enter Tryd.func36, Tryd.ntmps36
  go_wp2_with (first | (go_at_call 35; refine (unhide hs _).mono ?_; rintro e w' ⟨rfl, rfl⟩))
  go_ret
  exact ⟨rfl, rfl⟩
end Go.Proofs.YthiipodgfbnpeaaDoor
