/- The fixed fact that the statement asks first. -/
import Derived.Test.YtpngfadhahdigabW3
import Derived.Deep.QuietTactic
import Derived.BigQuiet
namespace Go.Proofs.Ytpngfadhahdigab
open Go.RowKit

theorem build42 (a b : Int) (w : World) : (Instr.build 42 #[(0, .int .u64 a), (1, .int .u64 b)]).run Try.prog w = .ok (.agg #[.int .u64 a, .int .u64 b]) w := run_build w 42 _ _ (by kernel_rfl)
theorem eq42 (a b c d : Int) (w : World) : (Op.equalIn 10000 42 (.agg #[.int .u64 a, .int .u64 b]) (.agg #[.int .u64 c, .int .u64 d])).run Try.prog w = .ok (a == c && b == d) w := by
  have u3 := Try.underlying41
  have a3 := Try.isAgg41
  have z3 := Try.sizeOf41
  rw [show (10000 : Nat) = 9999 + 1 from rfl, Op.equalIn]
  simp only [Sem.run_bind, run_underlying Try.underlying42, Result.andThen_ok]
  simp only [Std.Legacy.Range.forIn_eq_forIn_range', Std.Legacy.Range.size, Nat.sub_zero, Nat.add_sub_cancel, Nat.div_one, List.range'_succ, List.range'_zero, List.forIn_cons, List.forIn_nil]
  go_simp
  by_cases h1 : a = c <;> by_cases h2 : b = d <;> simp [h1, h2]

attribute [local go_sem] build42 eq42

set_option maxHeartbeats 400000 in
theorem read_one (w : World) :
    Calls Try.prog 11 #[.string oneText] w fun e w' => e = .returned (.tuple #[.complex .f64 4607182418800017408 0, .int .i64 0]) ∧ Below w.heap.size w w' := by
  have k1 := from21
  go_enter Try.func11, Try.ntmps11
  go_wp2_with fail
  refine (readBits_one _).mono ?_
  rintro e w1 ⟨rfl, hb1⟩
  go_wp2_with fail
  go_quiet (fail)
  go_wp2
  go_ret2
  exact ⟨rfl, below_drewN (hb1.alloc hb1.size _) _⟩

theorem ord1 : FloatKind.f64.format.order 4607182418800017408 4607182418800017408 = some .eq := by decide +kernel
theorem ord0 : FloatKind.f64.format.order 0 0 = some .eq := by decide +kernel
theorem ord2 : FloatKind.f64.format.order 4611686018427387904 4611686018427387904 = some .eq := by decide +kernel

set_option maxHeartbeats 400000 in
theorem bitsOf_any (a b : Nat) (w : World) :
    Calls Try.prog 22 #[.complex .f64 a b] w fun e w' => e = .returned (.agg #[.int .u64 a, .int .u64 b]) ∧ Below w.heap.size w w' := by
  have k1 := bits28
  go_enter Try.func22, Try.ntmps22
  go_wp2
  exact bodyPost_ret (v := .agg #[.int .u64 a, .int .u64 b]) (by simp [results, Try.results22, go_sem]) rfl
    ⟨rfl, (Below.refl _ _).alloc (Nat.le_refl _) _⟩

set_option maxHeartbeats 400000 in
theorem same_any (a b c d : Nat) (w : World) (ha : FloatKind.f64.format.order a a = some .eq) (hb : FloatKind.f64.format.order b b = some .eq) (hc : FloatKind.f64.format.order c c = some .eq) (hd : FloatKind.f64.format.order d d = some .eq) :
    Calls Try.prog 12 #[.complex .f64 a b, .complex .f64 c d] w fun e w' => e = .returned (.bool ((a : Int) == (c : Int) && (b : Int) == (d : Int))) ∧ Below w.heap.size w w' := by
  go_enter Try.func12, Try.ntmps12
  go_wp2_with (first | (go_at_call 22; refine (bitsOf_any _ _ _).mono ?_; rintro e w1 ⟨rfl, hb1⟩) | go_in)
  go_ret
  exact ⟨rfl, Below.trans ‹Below w.heap.size w _› (hb1.mono (‹Below w.heap.size w _›).size)⟩

theorem same_11 (w : World) : Calls Try.prog 12 #[.complex .f64 4607182418800017408 0, .complex .f64 4607182418800017408 0] w fun e w' => e = .returned (.bool true) ∧ Below w.heap.size w w' :=
  same_any _ _ _ _ w ord1 ord0 ord1 ord0
theorem same_12 (w : World) : Calls Try.prog 12 #[.complex .f64 4607182418800017408 0, .complex .f64 4611686018427387904 0] w fun e w' => e = .returned (.bool false) ∧ Below w.heap.size w w' :=
  same_any _ _ _ _ w ord1 ord0 ord2 ord0

theorem m13 : floatBits .mul .f64 4607182418800017408 4613937818241073152 = some 4613937818241073152 := by decide +kernel
theorem m24 : floatBits .mul .f64 4611686018427387904 4616189618054758400 = some 4620693217682128896 := by decide +kernel
theorem m14 : floatBits .mul .f64 4607182418800017408 4616189618054758400 = some 4616189618054758400 := by decide +kernel
theorem m23 : floatBits .mul .f64 4611686018427387904 4613937818241073152 = some 4618441417868443648 := by decide +kernel
theorem s38 : floatBits .sub .f64 4613937818241073152 4620693217682128896 = some 13840687554816376832 := by decide +kernel
theorem a46 : floatBits .add .f64 4616189618054758400 4618441417868443648 = some 4621819117588971520 := by decide +kernel
theorem a11 : floatBits .add .f64 4607182418800017408 4607182418800017408 = some 4611686018427387904 := by decide +kernel
theorem a00 : floatBits .add .f64 0 0 = some 0 := by decide +kernel
theorem ord5 : FloatKind.f64.format.order 13840687554816376832 13840687554816376832 = some .eq := by decide +kernel
theorem ord10 : FloatKind.f64.format.order 4621819117588971520 4621819117588971520 = some .eq := by decide +kernel

set_option maxHeartbeats 400000 in
theorem alive_any (w : World) :
    Calls Try.prog 4 #[] w fun e w' => e = .returned (.bool true) ∧ Below w.heap.size w w' := by
  have ht : (⟨#[51, 102, 102, 48, 48, 48, 48, 48, 48, 48, 48, 48, 48, 48, 48, 48, 48, 48, 48, 48, 48, 48, 48, 48, 48, 48, 48, 48, 48, 48, 48, 48]⟩ : ByteArray) = oneText := rfl
  have o5 := ord5
  have o10 := ord10
  have o2 := ord2
  have o0 := ord0
  go_enter Try.func4, Try.ntmps4
  go_wp2_with fail
  refine (read_one _).mono ?_
  rintro e w1 ⟨rfl, hb1⟩
  go_wp2_with fail
  refine (same_11 _).mono ?_
  rintro e w2 ⟨rfl, hb2⟩
  go_wp2_with fail
  refine (same_12 _).mono ?_
  rintro e w3 ⟨rfl, hb3⟩
  go_wp2_with fail
  refine (mul_any _ _ _ _ _ _ _ _ _ _ _ m13 m24 m14 m23 s38 a46).mono ?_
  rintro e w4 ⟨rfl, rfl⟩
  go_wp2_with fail
  refine (add_any _ _ _ _ _ _ _ a11 a00).mono ?_
  rintro e w4 ⟨rfl, rfl⟩
  go_wp2_with fail
  go_ret
  exact ⟨rfl, hb1.trans ((hb2.mono hb1.size).trans (hb3.mono (Nat.le_trans hb1.size hb2.size)))⟩
end Go.Proofs.Ytpngfadhahdigab
