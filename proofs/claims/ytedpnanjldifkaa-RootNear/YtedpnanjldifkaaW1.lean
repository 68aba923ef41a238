/- What the small calls give, as bits: products, plain parts, turns, square roots, the halving of a step. -/
import Derived.Test.YtedpnanjldifkaaRows
import Derived.Test.YtedpnanjldifkaaT
import Derived.WalkKit
import Derived.WalkSpells
import Derived.WalkLawsBesides
namespace Go.Proofs.Ytedpnanjldifkaa
open Go.RowKit

theorem hide {p : Prop} (h : p) : Hid p := h
theorem unhide {p : Prop} (h : Hid p) : p := h

theorem bits32 (b : Nat) (w : World) : (callFunc 32 #[.float .f64 b]).run Try.prog w = .ok (.value (.int .u64 b)) w := by
  rw [run_callFunc_extern (e := Extern.MathFloatBits.float64bits) Try.func32 (by kernel_rfl) (by kernel_rfl) (by kernel_rfl) (by kernel_rfl)]
  rfl

theorem from31 (n : Int) (w : World) : (callFunc 31 #[.int .u64 n]).run Try.prog w = .ok (.value (.float .f64 n.toNat)) w := by
  rw [run_callFunc_extern (e := Extern.MathFloatBits.float64frombits) Try.func31 (by kernel_rfl) (by kernel_rfl) (by kernel_rfl) (by kernel_rfl)]
  rfl

theorem sqrt44 (b r : Nat) (h : FloatKind.f64.format.sqrt b = some r) (w : World) : (callFunc 44 #[.float .f64 b]).run Try.prog w = .ok (.value (.float .f64 r)) w := by
  rw [run_callFunc_extern (e := Extern.MathSqrt.sqrt) Try.func44 (by kernel_rfl) (by kernel_rfl) (by kernel_rfl) (by kernel_rfl)]
  have key : (Extern.MathSqrt.sqrt #[.float .f64 b]).run Try.prog w = .ok (.float .f64 r) w := by
    show ((match FloatKind.f64.format.sqrt b with
      | some r => pure (.float .f64 r)
      | none => do pure (.float .f64 (← choose (.nanBits .f64 b b)))) : Sem Value).run Try.prog w = _
    rw [h]
    rfl
  rw [key]
  rfl

set_option maxHeartbeats 400000 in
theorem sqrt_any (b r : Nat) (h : FloatKind.f64.format.sqrt b = some r) (w : World) :
    Calls Try.prog 36 #[.float .f64 b] w fun e w' => e = .returned (.float .f64 r) ∧ w' = w := by
  have k := sqrt44 b r h
  clear h
  go_enter Try.func36, Try.ntmps36
  go_wp2
  go_ret
  exact ⟨rfl, rfl⟩

def negB (b : Nat) : Nat := (bits .xor .u64 (b : Int) 9223372036854775808).toNat
def turnP (a : Nat × Nat) : Nat × Nat := (plainB (negB a.2), plainB a.1)

set_option maxHeartbeats 400000 in
theorem plain27 (a : Nat) (w : World) :
    Calls Try.prog 27 #[.float .f64 a] w fun e w' => e = .returned (.float .f64 (plainB a)) ∧ w' = w := by
  by_cases h : (FloatKind.f64.format.order a 0 == some .eq) = true
  · have hp : plainB a = 0 := by unfold plainB; rw [if_pos h]
    rw [hp]; clear hp
    go_enter Try.func27, Try.ntmps27
    go_wp2
    go_ret
    exact ⟨rfl, rfl⟩
  · have hp : plainB a = a := by unfold plainB; rw [if_neg h]
    rw [hp]; clear hp
    rw [Bool.not_eq_true] at h
    go_enter Try.func27, Try.ntmps27
    go_wp2
    go_ret
    exact ⟨rfl, rfl⟩

set_option maxHeartbeats 400000 in
theorem plain42 (a : Nat) (w : World) :
    Calls Try.prog 42 #[.float .f64 a] w fun e w' => e = .returned (.float .f64 (plainB a)) ∧ w' = w := by
  by_cases h : (FloatKind.f64.format.order a 0 == some .eq) = true
  · have hp : plainB a = 0 := by unfold plainB; rw [if_pos h]
    rw [hp]; clear hp
    go_enter Try.func42, Try.ntmps42
    go_wp2
    go_ret
    exact ⟨rfl, rfl⟩
  · have hp : plainB a = a := by unfold plainB; rw [if_neg h]
    rw [hp]; clear hp
    rw [Bool.not_eq_true] at h
    go_enter Try.func42, Try.ntmps42
    go_wp2
    go_ret
    exact ⟨rfl, rfl⟩

set_option maxHeartbeats 400000 in
theorem plain15 (a b : Nat) (w : World) :
    Calls Try.prog 15 #[.complex .f64 a b] w fun e w' => e = .returned (.complex .f64 (plainB a) (plainB b)) ∧ w' = w := by
  go_enter Try.func15, Try.ntmps15
  go_wp2_with (first | (go_at_call 27; refine (plain27 _ _).mono ?_; rintro e w' ⟨rfl, rfl⟩) | go_in)
  go_ret
  exact ⟨rfl, rfl⟩

set_option maxHeartbeats 400000 in
theorem plain34 (a b : Nat) (w : World) :
    Calls Try.prog 34 #[.complex .f64 a b] w fun e w' => e = .returned (.complex .f64 (plainB a) (plainB b)) ∧ w' = w := by
  go_enter Try.func34, Try.ntmps34
  go_wp2_with (first | (go_at_call 42; refine (plain42 _ _).mono ?_; rintro e w' ⟨rfl, rfl⟩) | go_in)
  go_ret
  exact ⟨rfl, rfl⟩

set_option maxHeartbeats 400000 in
theorem turn35 (a b : Nat) (w : World) :
    Calls Try.prog 35 #[.complex .f64 a b, .int .i64 1] w fun e w' => e = .returned (.complex .f64 (negB b) a) ∧ w' = w := by
  have k1 := bits32
  have k2 := from31
  go_enter Try.func35, Try.ntmps35
  go_wp2
  go_ret
  exact ⟨rfl, rfl⟩

set_option maxHeartbeats 400000 in
theorem turn17 (a b : Nat) (w : World) :
    Calls Try.prog 17 #[.complex .f64 a b, .int .i64 1] w fun e w' => e = .returned (.complex .f64 (negB b) a) ∧ w' = w := by
  have k1 := bits32
  have k2 := from31
  have k3 : bits .and .i64 1 3 = 1 := by decide +kernel
  go_enter Try.func17, Try.ntmps17
  go_wp2
  clear k3
  refine wp_loop_rounds 2 ?_
  rw [rounds_succ]
  go_wp2
  rw [rounds_succ]
  go_wp2
  go_ret
  exact ⟨rfl, rfl⟩

set_option maxHeartbeats 400000 in
theorem conj16 (a b : Nat) (w : World) :
    Calls Try.prog 16 #[.complex .f64 a b] w fun e w' => e = .returned (.complex .f64 a (negB b)) ∧ w' = w := by
  have k1 := bits32
  have k2 := from31
  go_enter Try.func16, Try.ntmps16
  go_wp2
  go_ret
  exact ⟨rfl, rfl⟩

/-- What a product of two complex numbers comes to, part by part. -/
structure MulTo (a b c d r s : Nat) : Prop where
  ex : ∃ ac bd ad bc, floatBits .mul .f64 a c = some ac ∧ floatBits .mul .f64 b d = some bd ∧ floatBits .mul .f64 a d = some ad ∧ floatBits .mul .f64 b c = some bc ∧ floatBits .sub .f64 ac bd = some r ∧ floatBits .add .f64 ad bc = some s

theorem mulTo_of_mulP {a b c : Nat × Nat} (h : mulP a b = some c) : ∃ r s, MulTo a.1 a.2 b.1 b.2 r s ∧ c = (plainB r, plainB s) := by
  unfold mulP at h
  split at h
  · rename_i ac bd ad bc h1 h2 h3 h4
    split at h
    · rename_i r s h5 h6
      exact ⟨r, s, ⟨ac, bd, ad, bc, h1, h2, h3, h4, h5, h6⟩, (Option.some.inj h).symm⟩
    · cases h
  · cases h

set_option maxHeartbeats 400000 in
theorem mul45 {a b c d r s : Nat} (h : MulTo a b c d r s) (w : World) :
    Calls Try.prog 45 #[.complex .f64 a b, .complex .f64 c d] w fun e w' => e = .returned (.complex .f64 r s) ∧ w' = w := by
  obtain ⟨ac, bd, ad, bc, h1, h2, h3, h4, h5, h6⟩ := h.ex
  have k1 := fun (w : World) t => run_float_arith (P := Try.prog) w .mul t .f64 a c ac h1
  have k2 := fun (w : World) t => run_float_arith (P := Try.prog) w .mul t .f64 b d bd h2
  have k3 := fun (w : World) t => run_float_arith (P := Try.prog) w .mul t .f64 a d ad h3
  have k4 := fun (w : World) t => run_float_arith (P := Try.prog) w .mul t .f64 b c bc h4
  have k5 := fun (w : World) t => run_float_arith (P := Try.prog) w .sub t .f64 ac bd r h5
  have k6 := fun (w : World) t => run_float_arith (P := Try.prog) w .add t .f64 ad bc s h6
  clear h1 h2 h3 h4 h5 h6 h
  go_enter Try.func45, Try.ntmps45
  go_wp2
  go_ret
  exact ⟨rfl, rfl⟩

set_option maxHeartbeats 400000 in
theorem mul19 {a b c d r s : Nat} (h : MulTo a b c d r s) (w : World) :
    Calls Try.prog 19 #[.complex .f64 a b, .complex .f64 c d] w fun e w' => e = .returned (.complex .f64 r s) ∧ w' = w := by
  obtain ⟨ac, bd, ad, bc, h1, h2, h3, h4, h5, h6⟩ := h.ex
  have k1 := fun (w : World) t => run_float_arith (P := Try.prog) w .mul t .f64 a c ac h1
  have k2 := fun (w : World) t => run_float_arith (P := Try.prog) w .mul t .f64 b d bd h2
  have k3 := fun (w : World) t => run_float_arith (P := Try.prog) w .mul t .f64 a d ad h3
  have k4 := fun (w : World) t => run_float_arith (P := Try.prog) w .mul t .f64 b c bc h4
  have k5 := fun (w : World) t => run_float_arith (P := Try.prog) w .sub t .f64 ac bd r h5
  have k6 := fun (w : World) t => run_float_arith (P := Try.prog) w .add t .f64 ad bc s h6
  clear h1 h2 h3 h4 h5 h6 h
  go_enter Try.func19, Try.ntmps19
  go_wp2
  go_ret
  exact ⟨rfl, rfl⟩

/-- The halving of a step, as the chapter says it. -/
structure HalfTo (c s c' s' : Nat) : Prop where
  ex : ∃ t h d, floatBits .add .f64 4607182418800017408 c = some t ∧ floatBits .mul .f64 4602678819172646912 t = some h ∧ FloatKind.f64.format.sqrt h = some c' ∧
    floatBits .mul .f64 4611686018427387904 c' = some d ∧ floatBits .quo .f64 s d = some s'

def halfB (c s c' s' : Nat) : Bool :=
  match floatBits .add .f64 4607182418800017408 c with
  | some t => match floatBits .mul .f64 4602678819172646912 t with
    | some h => FloatKind.f64.format.sqrt h == some c' && (match floatBits .mul .f64 4611686018427387904 c' with
      | some d => floatBits .quo .f64 s d == some s'
      | none => false)
    | none => false
  | none => false

theorem halfTo_of {c s c' s' : Nat} (h : halfB c s c' s' = true) : HalfTo c s c' s' := by
  unfold halfB at h
  split at h
  · rename_i t h1
    split at h
    · rename_i x h2
      rw [Bool.and_eq_true] at h
      obtain ⟨h3, h4⟩ := h
      split at h4
      · rename_i d h5
        exact ⟨t, x, d, h1, h2, eq_of_beq h3, h5, eq_of_beq h4⟩
      · cases h4
    · cases h
  · cases h

theorem halfB_ok : ∀ j < 10, halfB (st j).1 (st j).2 (st (j + 1)).1 (st (j + 1)).2 = true := by decide +kernel
theorem half_ok (j : Nat) (h : j < 10) : HalfTo (st j).1 (st j).2 (st (j + 1)).1 (st (j + 1)).2 := halfTo_of (halfB_ok j h)
theorem sqrt_half : FloatKind.f64.format.sqrt 4602678819172646912 = some 4604544271217802189 := by decide +kernel

set_option maxHeartbeats 400000 in
theorem halved_any {c s c' s' : Nat} (h : HalfTo c s c' s') (w : World) :
    Calls Try.prog 37 #[.complex .f64 c s] w fun e w' => e = .returned (.complex .f64 c' s') ∧ w' = w := by
  obtain ⟨t, x, d, h1, h2, h3, h4, h5⟩ := h.ex
  have k1 := fun (w : World) y => run_float_arith (P := Try.prog) w .add y .f64 _ c t h1
  have k2 := fun (w : World) y => run_float_arith (P := Try.prog) w .mul y .f64 _ t x h2
  have k3 := fun (w : World) y => run_float_arith (P := Try.prog) w .mul y .f64 _ c' d h4
  have k4 := fun (w : World) y => run_float_arith (P := Try.prog) w .quo y .f64 s d s' h5
  have hs := hide (sqrt_any x c' h3)
  clear h1 h2 h3 h4 h5 h
  go_enter Try.func37, Try.ntmps37
  go_wp2_with (first | (go_at_call 36; refine (unhide hs _).mono ?_; rintro e w' ⟨rfl, rfl⟩))
  go_ret
  exact ⟨rfl, rfl⟩
end Go.Proofs.Ytedpnanjldifkaa
