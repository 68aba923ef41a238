/- The fixed fact that each statement asks first; that two numbers of the same bits are the same. -/
import Derived.Test.YtedpnanjldifkaaW6
namespace Go.Proofs.Ytedpnanjldifkaa
open Go.RowKit

set_option maxHeartbeats 400000 in
theorem same26 (a : Nat) (w : World) :
    Calls Try.prog 26 #[.float .f64 a, .float .f64 a] w fun e w' => e = .returned (.bool true) ∧ w' = w := by
  have k1 := bits32
  go_enter Try.func26, Try.ntmps26
  go_wp2
  go_ret
  exact ⟨rfl, rfl⟩

set_option maxHeartbeats 400000 in
theorem same10 (a b : Nat) (w : World) :
    Calls Try.prog 10 #[.complex .f64 a b, .complex .f64 a b] w fun e w' => e = .returned (.bool true) ∧ w' = w := by
  go_enter Try.func10, Try.ntmps10
  go_wp2_with (first | (go_at_call 26; refine (same26 _ _).mono ?_; rintro e w' ⟨rfl, rfl⟩))
  go_ret
  exact ⟨rfl, rfl⟩

theorem ord8 : Ord 8 512 := ⟨3, by decide, rfl, rfl⟩
theorem full_1024 : full 1024 = (0, 4607182418800017408) := by decide +kernel
theorem full_512 : full 512 = (4604544271217802189, 4604544271217802189) := by decide +kernel

theorem root41 (w : World) : Calls Try.prog 8 #[.int .i64 4, .int .i64 1] w fun e w' => e = .returned (.tuple #[.complex .f64 0 4607182418800017408, .int .i64 0]) ∧ Below w.heap.size w w' := by
  have h := root_yes ord4 1 w
  rw [show ((1 : Int) % ((4 : Nat) : Int)).toNat * 1024 = 1024 from rfl, full_1024] at h
  exact h
theorem root81 (w : World) : Calls Try.prog 8 #[.int .i64 8, .int .i64 1] w fun e w' => e = .returned (.tuple #[.complex .f64 4604544271217802189 4604544271217802189, .int .i64 0]) ∧ Below w.heap.size w w' := by
  have h := root_yes ord8 1 w
  rw [show ((1 : Int) % ((8 : Nat) : Int)).toNat * 512 = 512 from rfl, full_512] at h
  exact h

theorem o0 : FloatKind.f64.format.order 0 0 = some .eq := by decide +kernel
theorem o1 : FloatKind.f64.format.order 4607182418800017408 4607182418800017408 = some .eq := by decide +kernel
theorem oh : FloatKind.f64.format.order 4604544271217802189 4604544271217802189 = some .eq := by decide +kernel
theorem og : FloatKind.f64.format.order 4604544271217802189 4604480259023595110 = some .gt := by decide +kernel

set_option maxHeartbeats 800000 in
theorem alive_any (w : World) :
    Calls Try.prog 7 #[] w fun e w' => e = .returned (.bool true) ∧ Below w.heap.size w w' := by
  have h0 := o0
  have h1 := o1
  have h2 := oh
  have h3 := og
  go_enter Try.func7, Try.ntmps7
  go_wp2_with fail
  refine (root41 _).mono ?_
  rintro e w1 ⟨rfl, hb1⟩
  go_wp2_with fail
  refine (root81 _).mono ?_
  rintro e w2 ⟨rfl, hb2⟩
  go_wp2_with fail
  go_ret
  exact ⟨rfl, hb1.trans (hb2.mono hb1.size)⟩
end Go.Proofs.Ytedpnanjldifkaa
