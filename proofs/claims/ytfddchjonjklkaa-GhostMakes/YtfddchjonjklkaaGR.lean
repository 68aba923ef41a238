/- Sums, differences, plain parts, sameness as the document's own package has them. -/
import Derived.Test.YtfddchjonjklkaaYR
import Derived.Test.YtfddchjonjklkaaGU
namespace Go.Proofs.Ytfddchjonjklkaa
open Go.RowKit Fl

structure SubTo (a b r : Nat × Nat) : Prop where
  one : floatBits .sub .f64 a.1 b.1 = some r.1
  two : floatBits .sub .f64 a.2 b.2 = some r.2

theorem ic_sub {a b : Nat × Nat} {x y : Int × Int} (ha : IC a x) (hb : IC b y) (h1 : (x.1 - y.1).natAbs < 2 ^ 53) (h2 : (x.2 - y.2).natAbs < 2 ^ 53) : ∃ r : Nat × Nat, SubTo a b r ∧ IC r (x.1 - y.1, x.2 - y.2) ∧ r.1 < 18446744073709551616 ∧ r.2 < 18446744073709551616 := by
  obtain ⟨r, e1, i1⟩ := iv_sub ha.one hb.one h1
  obtain ⟨s, e2, i2⟩ := iv_sub ha.two hb.two h2
  exact ⟨(r, s), ⟨e1, e2⟩, ⟨i1, i2⟩, Ieee.Format.sub_lt _ e1, Ieee.Format.sub_lt _ e2⟩

set_option maxHeartbeats 400000 in
theorem radd {a b r : Nat × Nat} (h : AddTo a b r) (w : World) :
    Calls Try.prog 18 #[.complex .f64 a.1 a.2, .complex .f64 b.1 b.2] w fun e w' => e = .returned (.complex .f64 r.1 r.2) ∧ w' = w := by
  obtain ⟨a1, a2⟩ := a
  obtain ⟨b1, b2⟩ := b
  obtain ⟨r1, r2⟩ := r
  have k1 := fun (w : World) t => run_float_arith (P := Try.prog) w .add t .f64 a1 b1 r1 h.one
  have k2 := fun (w : World) t => run_float_arith (P := Try.prog) w .add t .f64 a2 b2 r2 h.two
  clear h
  go_enter Try.func18, Try.ntmps18
  go_wp2
  go_ret
  exact ⟨rfl, rfl⟩

set_option maxHeartbeats 400000 in
theorem rsub {a b r : Nat × Nat} (h : SubTo a b r) (w : World) :
    Calls Try.prog 19 #[.complex .f64 a.1 a.2, .complex .f64 b.1 b.2] w fun e w' => e = .returned (.complex .f64 r.1 r.2) ∧ w' = w := by
  obtain ⟨a1, a2⟩ := a
  obtain ⟨b1, b2⟩ := b
  obtain ⟨r1, r2⟩ := r
  have k1 := fun (w : World) t => run_float_arith (P := Try.prog) w .sub t .f64 a1 b1 r1 h.one
  have k2 := fun (w : World) t => run_float_arith (P := Try.prog) w .sub t .f64 a2 b2 r2 h.two
  clear h
  go_enter Try.func19, Try.ntmps19
  go_wp2
  go_ret
  exact ⟨rfl, rfl⟩

set_option maxHeartbeats 400000 in
theorem rplain1 (a : Nat) (w : World) :
    Calls Try.prog 29 #[.float .f64 a] w fun e w' => e = .returned (.float .f64 (plainB a)) ∧ w' = w := by
  by_cases h : (FloatKind.f64.format.order a 0 == some .eq) = true
  · have hp : plainB a = 0 := by unfold plainB; rw [if_pos h]
    rw [hp]; clear hp
    go_enter Try.func29, Try.ntmps29
    go_wp2
    go_ret
    exact ⟨rfl, rfl⟩
  · have hp : plainB a = a := by unfold plainB; rw [if_neg h]
    rw [hp]; clear hp
    rw [Bool.not_eq_true] at h
    go_enter Try.func29, Try.ntmps29
    go_wp2
    go_ret
    exact ⟨rfl, rfl⟩

set_option maxHeartbeats 400000 in
theorem rplain (a b : Nat) (w : World) :
    Calls Try.prog 20 #[.complex .f64 a b] w fun e w' => e = .returned (.complex .f64 (plainB a) (plainB b)) ∧ w' = w := by
  go_enter Try.func20, Try.ntmps20
  go_wp2_with (first | (go_at_call 29; refine (rplain1 _ _).mono ?_; rintro e w' ⟨rfl, rfl⟩) | go_in)
  go_ret
  exact ⟨rfl, rfl⟩

set_option maxHeartbeats 400000 in
theorem rsame (a b : Nat) (w : World) :
    Calls Try.prog 30 #[.complex .f64 a b, .complex .f64 a b] w fun e w' => e = .returned (.bool true) ∧ w' = w := by
  have k1 := bits32
  go_enter Try.func30, Try.ntmps30
  go_wp2
  go_ret
  exact ⟨rfl, rfl⟩

set_option maxHeartbeats 1600000 in
theorem rsameList {n ga gb ca cb : Nat} {f : Nat → Nat × Nat} (w : World) (hA : Row w ga n f) (hB : Row w gb n f) (hn : n ≤ 4096) :
    Calls Try.prog 21 #[.slice (some ⟨ga, 0, none⟩) n ca, .slice (some ⟨gb, 0, none⟩) n cb] w fun e w' => e = .returned (.bool true) ∧ Below w.heap.size w w' := by
  have cA := hide fun i (hi : i < n) => row_at hA hi
  have cB := hide fun i (hi : i < n) => row_at hB hi
  clear hA hB
  go_enter Try.func21, Try.ntmps21
  go_wp2_with fail
  go_loopw [5] (fun iv wr => ∃ i : Nat, i ≤ n ∧ iv = .int .i64 i ∧ Hid (wr.heap = w.heap) ∧ Hid (Below w.heap.size w wr)) (fun iv _ => n - (intOf iv).toNat)
  case atStart => exact ⟨0, Nat.zero_le _, rfl, rfl, Below.refl _ _⟩
  case round =>
    obtain ⟨i, hi, rfl, hh, hB⟩ := hrel
    by_cases hc : i < n
    · have q1 : ((i : Int) < (n : Int)) = True := by simp; omega
      have c1 := (cell_heap (unhide hh) _).trans (unhide cA i hc)
      have c2 := (cell_heap (unhide hh) _).trans (unhide cB i hc)
      generalize f i = p at c1 c2
      obtain ⟨p1, p2⟩ := p
      unfold cv at c1 c2
      dsimp only at c1 c2
      go_wp2_with fail
      go_quiet (first | (go_at_call 30; with_reducible refine Calls.quiet_of_same (rsame _ _ _)))
      go_wp2_with fail
      exact ⟨⟨i + 1, by omega, by go_num, unhide hh, ⟨(unhide hB).os, (unhide hB).tape, (unhide hB).output, (unhide hB).size, (unhide hB).block⟩⟩, by simp [intOf]; omega⟩
    · have e : i = n := by omega
      subst e
      have q1 : ((i : Int) < (i : Int)) = False := by simp
      go_wp2_with fail
      go_ret
      exact ⟨rfl, unhide hB⟩
end Go.Proofs.Ytfddchjonjklkaa
