/- The statement's own walk: every comparison says yes. -/
import Derived.Test.YtpngfadhahdigabW4
import Derived.Deep.RegionHeld3
namespace Go.Proofs.Ytpngfadhahdigab
open Go.RowKit

/-- What a product of two complex numbers comes to, part by part. -/
structure MulTo (a b c d r s : Nat) : Prop where
  ex : ∃ ac bd ad bc, floatBits .mul .f64 a c = some ac ∧ floatBits .mul .f64 b d = some bd ∧ floatBits .mul .f64 a d = some ad ∧ floatBits .mul .f64 b c = some bc ∧ floatBits .sub .f64 ac bd = some r ∧ floatBits .add .f64 ad bc = some s

structure AddTo (a b c d r s : Nat) : Prop where
  one : floatBits .add .f64 a c = some r
  two : floatBits .add .f64 b d = some s

structure SubTo (a b c d r s : Nat) : Prop where
  one : floatBits .sub .f64 a c = some r
  two : floatBits .sub .f64 b d = some s

theorem mulTo_calls {a b c d r s : Nat} (h : MulTo a b c d r s) (w : World) : Calls Try.prog 8 #[.complex .f64 a b, .complex .f64 c d] w fun e w' => e = .returned (.complex .f64 r s) ∧ w' = w := by
  obtain ⟨ac, bd, ad, bc, h1, h2, h3, h4, h5, h6⟩ := h.ex
  exact mul_any a b c d ac bd ad bc r s w h1 h2 h3 h4 h5 h6
theorem addTo_calls {a b c d r s : Nat} (h : AddTo a b c d r s) (w : World) : Calls Try.prog 6 #[.complex .f64 a b, .complex .f64 c d] w fun e w' => e = .returned (.complex .f64 r s) ∧ w' = w :=
  add_any a b c d r s w h.one h.two
theorem subTo_calls {a b c d r s : Nat} (h : SubTo a b c d r s) (w : World) : Calls Try.prog 7 #[.complex .f64 a b, .complex .f64 c d] w fun e w' => e = .returned (.complex .f64 r s) ∧ w' = w :=
  sub_any a b c d r s w h.one h.two

theorem mulTo_run {a b c d r s : Nat} (h : MulTo a b c d r s) (w : World) (t : TypeId) : (binOp .mul t (.complex .f64 a b) (.complex .f64 c d)).run Try.prog w = .ok (.complex .f64 r s) w := by
  obtain ⟨ac, bd, ad, bc, h1, h2, h3, h4, h5, h6⟩ := h.ex
  exact run_complex_mul w t a b c d r s (by simp [cMulBits, h1, h2, h3, h4, h5, h6])
theorem addTo_run {a b c d r s : Nat} (h : AddTo a b c d r s) (w : World) (t : TypeId) : (binOp .add t (.complex .f64 a b) (.complex .f64 c d)).run Try.prog w = .ok (.complex .f64 r s) w :=
  run_complex_sum w .add (Or.inl rfl) t .f64 a b c d r s (by simp [cSumBits, h.one, h.two])
theorem subTo_run {a b c d r s : Nat} (h : SubTo a b c d r s) (w : World) (t : TypeId) : (binOp .sub t (.complex .f64 a b) (.complex .f64 c d)).run Try.prog w = .ok (.complex .f64 r s) w :=
  run_complex_sum w .sub (Or.inr rfl) t .f64 a b c d r s (by simp [cSumBits, h.one, h.two])

def EqB (a b : Nat) : Prop := FloatKind.f64.format.order a b = some .eq

structure WholeTo (a b : Nat) (most : Int) : Prop where
  say : ∀ w, Calls Try.prog 10 #[.complex .f64 (plainB a) (plainB b), .int .i64 most] w fun e w' => e = .returned (.bool true) ∧ w' = w

theorem keepA {w : World} {o : Obj} {a : Addr} {v : Value} (h : w.cell? a = some v) : (w.alloc o).cell? a = some v :=
  (Below.cell (Below.alloc (Below.refl w.heap.size w) (Nat.le_refl _) o) (World.block_lt_of_cell? w a h)).trans h
theorem keepD {w : World} {a : Addr} {v : Value} (h : w.cell? a = some v) : w.drew.cell? a = some v := h

set_option maxHeartbeats 4000000 in
theorem ring_walk (a0 a1 b0 b1 c0 c1 : Int) (X0 X1 Y0 Y1 Z0 Z1 s0 s1 d0 d1 p0 p1 t0 t1 u0 u1 v0 v1 q0 q1 g0 g1 h0 h1 : Nat) (w : World)
    (eX0 : floatOfInt .f64 (a0 / 128) = X0) (eX1 : floatOfInt .f64 (a1 / 128) = X1) (eY0 : floatOfInt .f64 (b0 / 128) = Y0) (eY1 : floatOfInt .f64 (b1 / 128) = Y1)
    (eZ0 : floatOfInt .f64 (c0 / 128) = Z0) (eZ1 : floatOfInt .f64 (c1 / 128) = Z1)
    (hs : AddTo X0 X1 Y0 Y1 s0 s1) (hd : SubTo X0 X1 Y0 Y1 d0 d1) (hp : MulTo X0 X1 Y0 Y1 p0 p1) (ht : AddTo s0 s1 Z0 Z1 t0 t1) (hu : AddTo Y0 Y1 Z0 Z1 u0 u1)
    (hv : AddTo X0 X1 u0 u1 v0 v1) (hq : MulTo X0 X1 u0 u1 q0 q1) (hg : MulTo X0 X1 Z0 Z1 g0 g1) (hh : AddTo p0 p1 g0 g1 h0 h1)
    (os0 : EqB s0 s0) (os1 : EqB s1 s1) (od0 : EqB d0 d0) (od1 : EqB d1 d1) (op0 : EqB p0 p0) (op1 : EqB p1 p1) (ot0 : EqB t0 v0) (ot1 : EqB t1 v1) (oq0 : EqB q0 h0) (oq1 : EqB q1 h1)
    (wp : WholeTo p0 p1 4503599627370496) (ws : WholeTo s0 s1 67108864) (wd : WholeTo d0 d1 67108864) :
    Calls Try.prog 3 #[.agg #[.int .i32 a0, .int .i32 a1], .agg #[.int .i32 b0, .int .i32 b1], .agg #[.int .i32 c0, .int .i32 c1]] w
      fun e w' => e = .returned (.bool true) ∧ Below w.heap.size w w' := by
  have rs := addTo_run hs
  have rd := subTo_run hd
  have rp := mulTo_run hp
  unfold EqB at *
  go_enter Try.func3, Try.ntmps3
  go_wp2_with fail
  refine (alive_any _).mono ?_
  rintro e w1 ⟨rfl, hb1⟩
  have q0 : w1.cell? ⟨w.heap.size, 0, none⟩ = some (.int .i32 a0) := by rw [hb1.cell (by simp; try omega)]; simp [go_sem]
  have q1 : w1.cell? ⟨w.heap.size, 1, none⟩ = some (.int .i32 a1) := by rw [hb1.cell (by simp; try omega)]; simp [go_sem]
  have q2 : w1.cell? ⟨w.heap.size + 1, 0, none⟩ = some (.int .i32 b0) := by rw [hb1.cell (by simp; try omega)]; simp [go_sem]
  have q3 : w1.cell? ⟨w.heap.size + 1, 1, none⟩ = some (.int .i32 b1) := by rw [hb1.cell (by simp; try omega)]; simp [go_sem]
  have q4 : w1.cell? ⟨w.heap.size + 1 + 1, 0, none⟩ = some (.int .i32 c0) := by rw [hb1.cell (by simp; try omega)]; simp [go_sem]
  have q5 : w1.cell? ⟨w.heap.size + 1 + 1, 1, none⟩ = some (.int .i32 c1) := by rw [hb1.cell (by simp; try omega)]; simp [go_sem]
  go_wp2_with fail
  go_region_held3 (fun w' => w'.cell? ⟨w.heap.size, 0, none⟩ = some (.int .i32 a0) ∧ w'.cell? ⟨w.heap.size, 1, none⟩ = some (.int .i32 a1) ∧
      w'.cell? ⟨w.heap.size + 1, 0, none⟩ = some (.int .i32 b0) ∧ w'.cell? ⟨w.heap.size + 1, 1, none⟩ = some (.int .i32 b1) ∧
      w'.cell? ⟨w.heap.size + 1 + 1, 0, none⟩ = some (.int .i32 c0) ∧ w'.cell? ⟨w.heap.size + 1 + 1, 1, none⟩ = some (.int .i32 c1)) (simp (maxDischargeDepth := 10) [*, World.cell?_alloc_some])
    (first | (go_at_call 5; refine (number_any _ _ _).mono ?_; rintro e w' ⟨rfl, rfl⟩))
  go_wp2_with fail
  refine (addTo_calls hs _).mono ?_
  rintro e w' ⟨rfl, rfl⟩
  go_wp2_with fail
  refine (subTo_calls hd _).mono ?_
  rintro e w' ⟨rfl, rfl⟩
  go_wp2_with fail
  refine (mulTo_calls hp _).mono ?_
  rintro e w' ⟨rfl, rfl⟩
  go_wp2_with fail
  refine (addTo_calls hs _).mono ?_
  rintro e w' ⟨rfl, rfl⟩
  go_wp2_with fail
  refine (addTo_calls ht _).mono ?_
  rintro e w' ⟨rfl, rfl⟩
  go_wp2_with fail
  refine (addTo_calls hu _).mono ?_
  rintro e w' ⟨rfl, rfl⟩
  go_wp2_with fail
  refine (addTo_calls hv _).mono ?_
  rintro e w' ⟨rfl, rfl⟩
  go_wp2_with fail
  refine (addTo_calls hu _).mono ?_
  rintro e w' ⟨rfl, rfl⟩
  go_wp2_with fail
  refine (mulTo_calls hq _).mono ?_
  rintro e w' ⟨rfl, rfl⟩
  go_wp2_with fail
  refine (mulTo_calls hp _).mono ?_
  rintro e w' ⟨rfl, rfl⟩
  go_wp2_with fail
  refine (mulTo_calls hg _).mono ?_
  rintro e w' ⟨rfl, rfl⟩
  go_wp2_with fail
  refine (addTo_calls hh _).mono ?_
  rintro e w' ⟨rfl, rfl⟩
  go_wp2_with fail
  refine (mulTo_calls hp _).mono ?_
  rintro e w' ⟨rfl, rfl⟩
  go_wp2_with fail
  refine (plain_any _ _ _).mono ?_
  rintro e w' ⟨rfl, rfl⟩
  go_wp2_with fail
  refine (wp.say _).mono ?_
  rintro e w' ⟨rfl, rfl⟩
  go_wp2_with fail
  refine (addTo_calls hs _).mono ?_
  rintro e w' ⟨rfl, rfl⟩
  go_wp2_with fail
  refine (plain_any _ _ _).mono ?_
  rintro e w' ⟨rfl, rfl⟩
  go_wp2_with fail
  refine (ws.say _).mono ?_
  rintro e w' ⟨rfl, rfl⟩
  go_wp2_with fail
  refine (subTo_calls hd _).mono ?_
  rintro e w' ⟨rfl, rfl⟩
  go_wp2_with fail
  refine (plain_any _ _ _).mono ?_
  rintro e w' ⟨rfl, rfl⟩
  go_wp2_with fail
  refine (wd.say _).mono ?_
  rintro e w' ⟨rfl, rfl⟩
  go_wp2_with fail
  go_ret
  refine ⟨rfl, ?_⟩
  have hb0 : Below w.heap.size w w1 := (((((Below.refl w.heap.size w).alloc (Nat.le_refl _) _).alloc (by simp) _).alloc (by simp; omega) _)).trans (hb1.mono (by simp; omega))
  exact Below.drew (((hb0.alloc hb0.size _).alloc (by simp; exact Nat.le_succ_of_le hb0.size) _).alloc (by simp; exact Nat.le_succ_of_le (Nat.le_succ_of_le hb0.size)) _)
end Go.Proofs.Ytpngfadhahdigab
