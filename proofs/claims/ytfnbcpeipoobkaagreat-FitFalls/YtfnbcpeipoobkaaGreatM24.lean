/- math.Abs, math.Ldexp downwards, cx.Scale. (Laid by program: ld.py.) Complex numbers whose parts are whole numbers of some 2 to the -s: sums, differences, scaled ones. Whole numbers: what cx.Whole tells; a sound grid. A sound grid is told as such. -/
import Derived.Test.YtfnbcpeipoobkaaGreatM20
import Derived.Test.YtfnbcpeipoobkaaGreatM23
namespace Go.Proofs.YtfnbcpeipoobkaaGreat
open Go.RowKit Fl Ieee
attribute [local go_sem] store_complex

theorem fv_abs {b : Nat} {v : Int} (h : FV b v) : FV (b % 9223372036854775808) (v.natAbs : Int) := by
  obtain ⟨s, m, k, e, rfl⟩ := h
  refine ⟨false, m, k, read_mod b s m _ e, ?_⟩
  rw [signed_natAbs, signed_eq]
  rfl
theorem fv_self {a : Nat} {x : Int} (ha : FV a x) : FloatKind.f64.format.order a a = some .eq := by
  rw [show FloatKind.f64.format.order a a = _ from fv_order ha ha, Int.compare_eq_eq.2 rfl]
theorem and_low (k : Int) (t : Nat) (m : Int) (ht : t ≤ 12) (hm : (BitVec.ofInt 64 m).toNat = 2 ^ t - 1) : bits .and .i64 k m = k % ((2 ^ t : Nat) : Int) := by
  have key : (BitVec.ofInt 64 k &&& BitVec.ofInt 64 m).toNat = (k % ((2 ^ 64 : Nat) : Int)).toNat % 2 ^ t := by
    rw [BitVec.toNat_and, BitVec.toNat_ofInt, hm, Nat.and_two_pow_sub_one_eq_mod]
  show IntKind.i64.wrap ((BitVec.ofInt 64 k &&& BitVec.ofInt 64 m).toNat : Nat) = _
  rw [key, IntKind.wrap_i64]
  have : t = 0 ∨ t = 1 ∨ t = 2 ∨ t = 3 ∨ t = 4 ∨ t = 5 ∨ t = 6 ∨ t = 7 ∨ t = 8 ∨ t = 9 ∨ t = 10 ∨ t = 11 ∨ t = 12 := by omega
  rcases this with rfl | rfl | rfl | rfl | rfl | rfl | rfl | rfl | rfl | rfl | rfl | rfl | rfl <;> omega
/-- What a float64 scaled down by 2^p comes to. -/
def LdTo (p b r : Nat) : Prop := ∀ w : World, Calls (barP Tryz.prog) 73 #[.float .f64 b, .int .i64 (-(p : Int))] w fun e w' => e = .returned (.float .f64 r) ∧ w' = w

set_option maxRecDepth 100000 in
set_option maxHeartbeats 800000 in
theorem cloAny {p a r g : Nat} (h : LdTo p a r) (w : World) (hc : w.cell? ⟨g, 0, none⟩ = some (.int .i64 (-(p : Int)))) :
    Calls (barP Tryz.prog) 72 #[.float .f64 a, .pointer (some ⟨g, 0, none⟩)] w fun e w' => e = .returned (.float .f64 r) ∧ w' = w := by
  have k := hide h
  clear h
  go_enter Bar.func72, Bar.ntmps72
  go_wp2_with (first | (go_at_call 73; refine (unhide k _).mono ?_; rintro e w' ⟨rfl, rfl⟩))
  go_ret
  exact ⟨rfl, rfl⟩

set_option maxRecDepth 100000 in
set_option maxHeartbeats 1600000 in
theorem eachAny {p : Nat} {a1 a2 r1 r2 g : Nat} (h1 : LdTo p a1 r1) (h2 : LdTo p a2 r2) (w : World) (hc : w.cell? ⟨g, 0, none⟩ = some (.int .i64 (-(p : Int)))) :
    Calls (barP Tryz.prog) 71 #[.complex .f64 a1 a2, .func (.func 72) #[] #[.pointer (some ⟨g, 0, none⟩)]] w fun e w' => e = .returned (.complex .f64 r1 r2) ∧ w' = w := by
  have k1 := hide (cloAny h1 w hc)
  have k2 := hide (cloAny h2 w hc)
  clear h1 h2
  go_enter Bar.func71, Bar.ntmps71
  go_wp2_with fail
  refine (unhide k1).mono ?_
  rintro e w' ⟨rfl, rfl⟩
  go_wp2_with fail
  refine (unhide k2).mono ?_
  rintro e w'' ⟨rfl, rfl⟩
  go_wp2_with fail
  go_ret
  exact ⟨rfl, rfl⟩

set_option maxRecDepth 100000 in
set_option maxHeartbeats 1600000 in
theorem scaleAny {p : Nat} (hp : p ≤ 12) {a r : Nat × Nat} (h1 : LdTo p a.1 r.1) (h2 : LdTo p a.2 r.2) (w : World) :
    Calls (barP Tryz.prog) 34 #[.complex .f64 a.1 a.2, .int .i64 (-(p : Int))] w fun e w' => e = .returned (.complex .f64 r.1 r.2) ∧ Below w.heap.size w w' := by
  have k := hide (fun w hc => eachAny (g := w.heap.size - 1) h1 h2 w hc)
  have kk : Hid (∀ o, o = Obj.cells #[.int .i64 (-(p : Int))] 3 → Calls (barP Tryz.prog) 71 #[.complex .f64 a.1 a.2, .func (.func 72) #[] #[.pointer (some ⟨w.heap.size, 0, none⟩)]] (w.alloc o) fun e w' => e = .returned (.complex .f64 r.1 r.2) ∧ w' = w.alloc o) :=
    fun o ho => eachAny h1 h2 (w.alloc o) (by subst ho; simp [go_sem])
  clear h1 h2 k
  obtain ⟨a1, a2⟩ := a
  obtain ⟨r1, r2⟩ := r
  have hm1 : (-(p : Int) < -2200) = False := by simp; omega
  have hm2 : ((2200 : Int) < -(p : Int)) = False := by simp
  go_enter Bar.func34, Bar.ntmps34
  go_wp2_with fail
  refine (unhide kk _ rfl).mono ?_
  rintro e w' ⟨rfl, rfl⟩
  go_wp2_with fail
  go_ret
  exact ⟨rfl, (Below.refl _ _).alloc (Nat.le_refl _) _⟩



theorem andNot63b (b : Nat) (hb : b < 18446744073709551616) : (bits .andNot .u64 (b : Int) 9223372036854775808).toNat = b % 9223372036854775808 := by
  rw [u64_andNot (b : Int) 9223372036854775808 (by omega) (by omega) (by omega) (by omega), Int.toNat_natCast, Int.toNat_natCast]
  exact Nat.and_two_pow_sub_one_eq_mod b 63

set_option maxRecDepth 100000 in
set_option maxHeartbeats 400000 in
theorem absAny (b : Nat) (w : World) (hb : b < 18446744073709551616) :
    Calls (barP Tryz.prog) 69 #[.float .f64 b] w fun e w' => e = .returned (.float .f64 (b % 9223372036854775808)) ∧ w' = w := by
  have k1 := bits32
  have k2 := from31
  go_enter Bar.func69, Bar.ntmps69
  go_wp2
  go_ret
  exact ⟨by rw [andNot63b b hb]; rfl, rfl⟩


set_option maxRecDepth 100000 in
set_option maxHeartbeats 400000 in
theorem isInfNo (b : Nat) (hb : b < 18446744073709551616) (ho : (FloatKind.f64.format.order (b % 9223372036854775808) 9218868437227405311 == some .gt) = false) (w : World) :
    Calls (barP Tryz.prog) 99 #[.float .f64 b, .int .i64 0] w fun e w' => e = .returned (.bool false) ∧ w' = w := by
  have ha := hide (absAny b w hb)
  generalize b % 9223372036854775808 = a at ha ho
  go_enter Bar.func99, Bar.ntmps99
  go_wp2_with (first | (go_at_call 69; refine (unhide ha).mono ?_; rintro e w' ⟨rfl, rfl⟩))
  go_ret
  exact ⟨rfl, rfl⟩

set_option maxRecDepth 100000 in
set_option maxHeartbeats 400000 in
theorem isNaNNo (b : Nat) (ho : FloatKind.f64.format.order b b = some .eq) (w : World) :
    Calls (barP Tryz.prog) 31 #[.float .f64 b] w fun e w' => e = .returned (.bool false) ∧ w' = w := by
  go_enter Bar.func31, Bar.ntmps31
  go_wp2
  go_ret
  exact ⟨rfl, rfl⟩

set_option maxRecDepth 100000 in
set_option maxHeartbeats 400000 in
theorem normAny (b : Nat) (hb : b < 18446744073709551616) (ho : (FloatKind.f64.format.order (b % 9223372036854775808) 4503599627370496 == some .lt) = false) (w : World) :
    Calls (barP Tryz.prog) 100 #[.float .f64 b] w fun e w' => e = .returned (.tuple #[.float .f64 b, .int .i64 0]) ∧ w' = w := by
  have ha := hide (absAny b w hb)
  generalize b % 9223372036854775808 = a at ha ho
  go_enter Bar.func100, Bar.ntmps100
  go_wp2_with (first | (go_at_call 69; refine (unhide ha).mono ?_; rintro e w' ⟨rfl, rfl⟩))
  go_ret2
  exact ⟨rfl, rfl⟩

set_option maxRecDepth 100000 in
set_option maxHeartbeats 400000 in
theorem normLow (b r : Nat) (hb : b < 18446744073709551616) (ho : (FloatKind.f64.format.order (b % 9223372036854775808) 4503599627370496 == some .lt) = true) (hr : floatBits .mul .f64 b 4841369599423283200 = some r) (w : World) :
    Calls (barP Tryz.prog) 100 #[.float .f64 b] w fun e w' => e = .returned (.tuple #[.float .f64 r, .int .i64 (-52)]) ∧ w' = w := by
  have ha := hide (absAny b w hb)
  have k := fun (w : World) t => run_float_arith (P := (barP Tryz.prog)) w .mul t .f64 b _ r hr
  generalize b % 9223372036854775808 = a at ha ho
  clear hr
  go_enter Bar.func100, Bar.ntmps100
  go_wp2_with (first | (go_at_call 69; refine (unhide ha).mono ?_; rintro e w' ⟨rfl, rfl⟩))
  go_ret2
  exact ⟨rfl, rfl⟩

theorem and_2047 {s e : Nat} (he : e < 2048) : bits .and .i64 ((s * 2048 + e : Nat) : Int) 2047 = e := by
  rw [and_low _ 11 2047 (by decide) (by decide)]
  omega

theorem andNot_exp {r s e m : Nat} (hr : r = s * 9223372036854775808 + e * 4503599627370496 + m) (hs : s < 2) (he : e < 2048) (hm : m < 4503599627370496) :
    bits .andNot .u64 (r : Int) 9218868437227405312 = ((s * 9223372036854775808 + m : Nat) : Int) := by
  rw [u64_andNot (r : Int) 9218868437227405312 (by omega) (by omega) (by omega) (by omega), Int.toNat_natCast, ← clear_exp hs he hm, hr]
  rfl

theorem or_exp {s e m : Nat} (hs : s < 2) (he : e < 2048) (hm : m < 4503599627370496) :
    bits .or .u64 ((s * 9223372036854775808 + m : Nat) : Int) ((e * 4503599627370496 : Nat) : Int) = ((s * 9223372036854775808 + e * 4503599627370496 + m : Nat) : Int) := by
  rw [u64_or _ _ (by omega) (by omega) (by omega) (by omega), Int.toNat_natCast, Int.toNat_natCast, lay_exp hs he hm]

/-- What stands ahead of the exponent's reckoning. -/
structure Ahead (b r : Nat) (n0 : Int) : Prop where
  zero : (FloatKind.f64.format.order b 0 == some .eq) = false
  inf : ∀ w, Calls (barP Tryz.prog) 99 #[.float .f64 b, .int .i64 0] w fun e w' => e = .returned (.bool false) ∧ w' = w
  nan : ∀ w, Calls (barP Tryz.prog) 31 #[.float .f64 b] w fun e w' => e = .returned (.bool false) ∧ w' = w
  norm : ∀ w, Calls (barP Tryz.prog) 100 #[.float .f64 b] w fun e w' => e = .returned (.tuple #[.float .f64 r, .int .i64 n0]) ∧ w' = w

set_option maxRecDepth 100000 in
set_option maxHeartbeats 1600000 in
theorem walkIn {b r p U Y X e t : Nat} {n0 : Int} (h : Ahead b r n0) (hp : p ≤ 12) (hn : n0 = 0 ∨ n0 = -52) (hU : U < 4096) (he : e ≤ 2046) (f1 : (r : Int) / 4503599627370496 = U) (f2 : bits .and .i64 (U : Int) 2047 = e)
    (f3 : bits .andNot .u64 (r : Int) 9218868437227405312 = Y) (hE1 : 1 ≤ (e : Int) - p + n0) (f4 : bits .or .u64 (Y : Int) ((-(p : Int) + n0 + ((e : Int) - 1023) + 1023) * 4503599627370496) = X) (ht : floatBits .mul .f64 4607182418800017408 X = some t) (w : World) :
    Calls (barP Tryz.prog) 94 #[.float .f64 b, .int .i64 (-(p : Int))] w fun e w' => e = .returned (.float .f64 t) ∧ w' = w := by
  have h0 := h.zero
  have c1 := hide (h.inf)
  have c2 := hide (h.nan)
  have c3 := hide (h.norm)
  have k1 := bits32
  have k2 := from31
  have k := fun (w : World) y => run_float_arith (P := (barP Tryz.prog)) w .mul y .f64 _ _ t ht
  clear h ht
  go_enter Bar.func94, Bar.ntmps94
  go_wp2_with fail
  refine (unhide c1 _).mono ?_
  rintro e w' ⟨rfl, rfl⟩
  go_wp2_with fail
  refine (unhide c2 _).mono ?_
  rintro e w' ⟨rfl, rfl⟩
  go_wp2_with fail
  refine (unhide c3 _).mono ?_
  rintro e w' ⟨rfl, rfl⟩
  go_wp2_with fail
  go_ret
  exact ⟨rfl, rfl⟩

set_option maxRecDepth 100000 in
set_option maxHeartbeats 1600000 in
theorem walkLow {b r p U Y X e t : Nat} {n0 : Int} (h : Ahead b r n0) (hU : U < 4096) (he : e ≤ 2046) (f1 : (r : Int) / 4503599627370496 = U) (f2 : bits .and .i64 (U : Int) 2047 = e)
    (f3 : bits .andNot .u64 (r : Int) 9218868437227405312 = Y) (hE1 : (e : Int) - p + n0 ≤ 0) (hE2 : -52 ≤ (e : Int) - p + n0) (f4 : bits .or .u64 (Y : Int) ((-(p : Int) + n0 + ((e : Int) - 1023) + 53 + 1023) * 4503599627370496) = X) (ht : floatBits .mul .f64 4368491638549381120 X = some t) (w : World) :
    Calls (barP Tryz.prog) 94 #[.float .f64 b, .int .i64 (-(p : Int))] w fun e w' => e = .returned (.float .f64 t) ∧ w' = w := by
  have h0 := h.zero
  have c1 := hide (h.inf)
  have c2 := hide (h.nan)
  have c3 := hide (h.norm)
  have k1 := bits32
  have k2 := from31
  have k := fun (w : World) y => run_float_arith (P := (barP Tryz.prog)) w .mul y .f64 _ _ t ht
  clear h ht
  go_enter Bar.func94, Bar.ntmps94
  go_wp2_with fail
  refine (unhide c1 _).mono ?_
  rintro e w' ⟨rfl, rfl⟩
  go_wp2_with fail
  refine (unhide c2 _).mono ?_
  rintro e w' ⟨rfl, rfl⟩
  go_wp2_with fail
  refine (unhide c3 _).mono ?_
  rintro e w' ⟨rfl, rfl⟩
  go_wp2_with fail
  go_ret
  exact ⟨rfl, rfl⟩

set_option maxRecDepth 100000 in
set_option maxHeartbeats 400000 in
theorem copyAny {r Y X : Nat} (f3 : bits .and .u64 (r : Int) 9223372036854775808 = Y) (f4 : bits .or .u64 0 (Y : Int) = X) (w : World) :
    Calls (barP Tryz.prog) 101 #[.float .f64 0, .float .f64 r] w fun e w' => e = .returned (.float .f64 X) ∧ w' = w := by
  have k1 := bits32
  have k2 := from31
  have f5 : bits .andNot .u64 0 9223372036854775808 = 0 := by decide +kernel
  go_enter Bar.func101, Bar.ntmps101
  go_wp2
  go_ret
  exact ⟨rfl, rfl⟩

set_option maxRecDepth 100000 in
set_option maxHeartbeats 1600000 in
theorem walkOut {b r p U Y e t : Nat} {n0 : Int} (h : Ahead b r n0) (hp : p ≤ 12) (hn : n0 = 0 ∨ n0 = -52) (hU : U < 4096) (he : e ≤ 2046) (f1 : (r : Int) / 4503599627370496 = U) (f2 : bits .and .i64 (U : Int) 2047 = e)
    (hE1 : (e : Int) - p + n0 < -52) (f3 : bits .and .u64 (r : Int) 9223372036854775808 = Y) (f4 : bits .or .u64 0 (Y : Int) = t) (w : World) :
    Calls (barP Tryz.prog) 94 #[.float .f64 b, .int .i64 (-(p : Int))] w fun e w' => e = .returned (.float .f64 t) ∧ w' = w := by
  have h0 := h.zero
  have c1 := hide (h.inf)
  have c2 := hide (h.nan)
  have c3 := hide (h.norm)
  have k1 := bits32
  have k2 := from31
  have c4 := hide (copyAny f3 f4)
  clear h f3 f4
  go_enter Bar.func94, Bar.ntmps94
  go_wp2_with fail
  refine (unhide c1 _).mono ?_
  rintro e w' ⟨rfl, rfl⟩
  go_wp2_with fail
  refine (unhide c2 _).mono ?_
  rintro e w' ⟨rfl, rfl⟩
  go_wp2_with fail
  refine (unhide c3 _).mono ?_
  rintro e w' ⟨rfl, rfl⟩
  go_wp2_with fail
  refine (unhide c4 _).mono ?_
  rintro e w' ⟨rfl, rfl⟩
  go_wp2_with fail
  go_ret
  exact ⟨rfl, rfl⟩

set_option maxRecDepth 100000 in
set_option maxHeartbeats 1600000 in
theorem walkZero {b p : Nat} (h0 : (FloatKind.f64.format.order b 0 == some .eq) = true) (w : World) :
    Calls (barP Tryz.prog) 94 #[.float .f64 b, .int .i64 (-(p : Int))] w fun e w' => e = .returned (.float .f64 b) ∧ w' = w := by
  go_enter Bar.func94, Bar.ntmps94
  go_wp2_with fail
  go_ret
  exact ⟨rfl, rfl⟩

set_option maxRecDepth 100000 in
set_option maxHeartbeats 400000 in
theorem ldTo_of {p b r : Nat} (h : ∀ w, Calls (barP Tryz.prog) 94 #[.float .f64 b, .int .i64 (-(p : Int))] w fun e w' => e = .returned (.float .f64 r) ∧ w' = w) : LdTo p b r := by
  intro w
  have c := hide h
  clear h
  go_enter Bar.func73, Bar.ntmps73
  go_wp2_with (first | (go_at_call 94; refine (unhide c _).mono ?_; rintro e w' ⟨rfl, rfl⟩))
  go_ret
  exact ⟨rfl, rfl⟩

theorem and_sign {r s e m : Nat} (hr : r = s * 9223372036854775808 + e * 4503599627370496 + m) (hs : s < 2) (he : e < 2048) (hm : m < 4503599627370496) : bits .and .u64 (r : Int) 9223372036854775808 = ((s * 9223372036854775808 : Nat) : Int) := by
  rw [u64_and (r : Int) 9223372036854775808 (by omega) (by omega) (by omega) (by omega), Int.toNat_natCast]
  have h1 : (r &&& 9223372036854775808) / 2 ^ 63 = r / 2 ^ 63 &&& 9223372036854775808 / 2 ^ 63 := Nat.and_div_two_pow
  have h2 : (r &&& 9223372036854775808) % 2 ^ 63 = r % 2 ^ 63 &&& 9223372036854775808 % 2 ^ 63 := Nat.and_mod_two_pow
  rw [show r / 2 ^ 63 = s by omega, show (9223372036854775808 : Nat) / 2 ^ 63 = 1 by decide, Nat.and_one_is_mod, Nat.mod_eq_of_lt hs] at h1
  rw [show (9223372036854775808 : Nat) % 2 ^ 63 = 0 by decide, Nat.and_zero] at h2
  show ((r &&& 9223372036854775808 : Nat) : Int) = _
  generalize r &&& 9223372036854775808 = y at h1 h2 ⊢
  omega

theorem or_sign {s : Nat} (hs : s < 2) : bits .or .u64 0 ((s * 9223372036854775808 : Nat) : Int) = ((s * 9223372036854775808 : Nat) : Int) := by
  rcases (by omega : s = 0 ∨ s = 1) with rfl | rfl <;> decide +kernel

theorem fv_sign {s : Nat} (hs : s < 2) : FV (s * 9223372036854775808) 0 := by
  rcases (by omega : s = 0 ∨ s = 1) with rfl | rfl
  · rw [Nat.zero_mul]; exact fv_nought2
  · rw [Nat.one_mul]; exact fv_nought2'

/-- The scaling of a number whose fields are known. -/
theorem ld_core {b r p s e m q : Nat} {V n0 : Int} (h : Ahead b r n0) (N : Normal r V s e m) (hp : p ≤ 12) (hn : n0 = 0 ∨ n0 = -52) (hq : (q : Int) = p - n0) :
    ∃ t R, LdTo p b t ∧ t < 18446744073709551616 ∧ FV t R ∧ Near1 V R q := by
  obtain ⟨hr, hs, he1, he2, hm, hV⟩ := N
  have f1 : (r : Int) / 4503599627370496 = ((s * 2048 + e : Nat) : Int) := by omega
  have f2 := and_2047 (s := s) (show e < 2048 by omega)
  have f3 := andNot_exp hr hs (show e < 2048 by omega) hm
  by_cases c1 : q + 1 ≤ e
  · obtain ⟨E, hE⟩ : ∃ E, e = E + q := ⟨e - q, by omega⟩
    obtain ⟨t, ht, ft⟩ := one_times (e := E) hs (by omega) (by omega) hm
    have f4 := or_exp hs (show E < 2048 by omega) hm
    rw [show ((E * 4503599627370496 : Nat) : Int) = (-(p : Int) + n0 + ((e : Int) - 1023) + 1023) * 4503599627370496 by omega] at f4
    refine ⟨t, _, ldTo_of (walkIn h hp hn (by omega) he2 f1 f2 f3 (by omega) f4 ht), of_decide_eq_true (floatBits_wf ht), ft, ?_⟩
    rw [hV, show e - 1 = (E - 1) + q by omega, signed_pow]
    unfold Near1
    rw [Int.sub_self]
    exact Nat.zero_le _
  · by_cases c2 : q ≤ e + 52
    · obtain ⟨E, hE⟩ : ∃ E, e + 53 = E + q := ⟨e + 53 - q, by omega⟩
      obtain ⟨t, R, ht, ft, hR⟩ := small_times (e := E) hs (by omega) (by omega) hm
      have f4 := or_exp hs (show E < 2048 by omega) hm
      rw [show ((E * 4503599627370496 : Nat) : Int) = (-(p : Int) + n0 + ((e : Int) - 1023) + 53 + 1023) * 4503599627370496 by omega] at f4
      refine ⟨t, R, ldTo_of (walkLow h (by omega) he2 f1 f2 f3 (by omega) (by omega) f4 ht), of_decide_eq_true (floatBits_wf ht), ft, ?_⟩
      have hX : signed (s == 1) (4503599627370496 + m) (E - 1) * ((2 ^ q : Nat) : Int) = V * ((2 ^ 53 : Nat) : Int) := by
        rw [hV, ← signed_pow, ← signed_pow]
        congr 1
        omega
      unfold Near1 at hR ⊢
      generalize signed (s == 1) (4503599627370496 + m) (E - 1) = X at hR hX
      have h1 : (R * ((2 ^ 53 : Nat) : Int) - X) * ((2 ^ q : Nat) : Int) = (R * ((2 ^ q : Nat) : Int) - V) * ((2 ^ 53 : Nat) : Int) := by
        rw [Int.sub_mul, Int.sub_mul, hX]
        generalize ((2 ^ 53 : Nat) : Int) = G
        generalize ((2 ^ q : Nat) : Int) = H
        grind
      have h2 := congrArg Int.natAbs h1
      rw [Int.natAbs_mul, Int.natAbs_mul, Int.natAbs_natCast, Int.natAbs_natCast] at h2
      have h3 := Nat.mul_le_mul_right (2 ^ q) hR
      rw [Nat.mul_assoc, h2, ← Nat.mul_assoc, Nat.mul_comm (2 ^ 53)] at h3
      exact Nat.le_of_mul_le_mul_right h3 (by decide)
    · refine ⟨s * 9223372036854775808, 0, ldTo_of (walkOut h hp hn (by omega) he2 f1 f2 (by omega) (and_sign hr hs (by omega) hm) (or_sign hs)), by omega, fv_sign hs, ?_⟩
      unfold Near1
      rw [Int.zero_mul, Int.zero_sub, Int.natAbs_neg, hV, signed_natAbs]
      have h1 : (2 : Nat) ^ (53 + (e - 1)) ≤ 2 ^ (q - 1) := Nat.pow_le_pow_right (by decide) (by omega)
      rw [Nat.pow_add] at h1
      have h2 : (4503599627370496 + m) * 2 ^ (e - 1) ≤ 2 ^ 53 * 2 ^ (e - 1) := Nat.mul_le_mul_right _ (by omega)
      have h3 : 2 ^ q = 2 ^ (q - 1) * 2 := by rw [← Nat.pow_succ]; congr 1; omega
      rw [h3]
      generalize (4503599627370496 + m) * 2 ^ (e - 1) = A at h2 ⊢
      generalize 2 ^ 53 * 2 ^ (e - 1) = B at h1 h2
      omega

/-- The scaling of any finite number. -/
theorem ld_any {b p : Nat} {Z : Int} (hp : p ≤ 12) (hb : b < 18446744073709551616) (h : FV b Z) (hZ : Z.natAbs < 2 ^ 2000) : ∃ t R, LdTo p b t ∧ t < 18446744073709551616 ∧ FV t R ∧ Near1 Z R p := by
  by_cases hz : Z = 0
  · subst hz
    refine ⟨b, 0, ldTo_of (walkZero (by rw [show FloatKind.f64.format.order b 0 = _ from fv_order h fv_nought2]; rfl)), hb, h, ?_⟩
    unfold Near1
    rw [Int.zero_mul]
    exact Nat.zero_le _
  · obtain ⟨M, fM, hM⟩ := fv_most
    have a1 : (FloatKind.f64.format.order b 0 == some .eq) = false := by
      rw [show FloatKind.f64.format.order b 0 = _ from fv_order h fv_nought2]
      have : compare Z 0 ≠ .eq := fun e => hz (Int.compare_eq_eq.1 e)
      generalize compare Z 0 = o at this
      cases o <;> first | rfl | exact absurd rfl this
    have a2 : (FloatKind.f64.format.order (b % 9223372036854775808) 9218868437227405311 == some .gt) = false := by
      rw [show FloatKind.f64.format.order (b % 9223372036854775808) 9218868437227405311 = _ from fv_order (fv_abs h) fM]
      have hlt : (Z.natAbs : Int) < M := Int.lt_of_lt_of_le (Int.ofNat_lt.2 hZ) hM
      rw [Int.compare_eq_lt.2 hlt]
      rfl
    by_cases hc : 4503599627370496 ≤ Z.natAbs
    · have a3 : (FloatKind.f64.format.order (b % 9223372036854775808) 4503599627370496 == some .lt) = false := by
        rw [show FloatKind.f64.format.order (b % 9223372036854775808) 4503599627370496 = _ from fv_order (fv_abs h) fv_least]
        have : compare (Z.natAbs : Int) 4503599627370496 ≠ .lt := fun e => by have := Int.compare_eq_lt.1 e; omega
        generalize compare (Z.natAbs : Int) 4503599627370496 = o at this
        cases o <;> first | rfl | exact absurd rfl this
      obtain ⟨s, e, m, N⟩ := normal_of h hb hc
      exact ld_core ⟨a1, isInfNo b hb a2, isNaNNo b (fv_self h), normAny b hb a3⟩ N hp (.inl rfl) (by omega)
    · have a3 : (FloatKind.f64.format.order (b % 9223372036854775808) 4503599627370496 == some .lt) = true := by
        rw [show FloatKind.f64.format.order (b % 9223372036854775808) 4503599627370496 = _ from fv_order (fv_abs h) fv_least, Int.compare_eq_lt.2 (by omega)]
        rfl
      obtain ⟨q, hq⟩ : ∃ q, q = 1074 := ⟨_, rfl⟩
      obtain ⟨t, ht⟩ : ∃ t, t = 1126 := ⟨_, rfl⟩
      have hN : (Z * 4503599627370496).natAbs = Z.natAbs * 2 ^ 52 := by rw [Int.natAbs_mul]; rfl
      obtain ⟨r, er, fr⟩ := mul_fv (z := Z * 4503599627370496) q hq h (fv_p52 t ht) (by
        rw [show t = 52 + q by omega, Int.pow_add, ← Int.mul_assoc]; rfl) hN (by omega) (by
        have : Z.natAbs.log2 ≤ 52 := log2_le_of_lt (by omega)
        omega)
      have hw : r < 18446744073709551616 := of_decide_eq_true (floatBits_wf (op := .mul) (k := .f64) er)
      obtain ⟨s, e, m, N⟩ := normal_of fr hw (by rw [hN]; omega)
      obtain ⟨u, R, h1, h2, h3, h4⟩ := ld_core (q := p + 52) ⟨a1, isInfNo b hb a2, isNaNNo b (fv_self h), normLow b r hb a3 er⟩ N hp (.inr rfl) (by omega)
      refine ⟨u, R, h1, h2, h3, ?_⟩
      unfold Near1 at h4 ⊢
      rw [Nat.pow_add, Int.natCast_mul, ← Int.mul_assoc, show Z * 4503599627370496 = Z * ((2 ^ 52 : Nat) : Int) by rfl, ← Int.sub_mul, Int.natAbs_mul, Int.natAbs_natCast, ← Nat.mul_assoc] at h4
      exact Nat.le_of_mul_le_mul_right h4 (by decide)

theorem lt_2000 {a q U : Nat} (hU : U = 2000) (ha : a < 2 ^ 60) (hq : q ≤ 1074) : a * 2 ^ q < 2 ^ U := by
  have e : 2 ^ 60 * 2 ^ q ≤ 2 ^ U := by
    rw [← Nat.pow_add]
    exact Nat.pow_le_pow_right (by decide) (by omega)
  exact Nat.lt_of_lt_of_le (Nat.mul_lt_mul_of_pos_right ha (Nat.two_pow_pos _)) e
theorem dv_ld {s b p : Nat} {k : Int} (hp : p ≤ 12) (hb : b < 18446744073709551616) (h : DV s b k) (hk : k.natAbs < 2 ^ 60) (hs : s + p ≤ 1074) : ∃ t, LdTo p b t ∧ t < 18446744073709551616 ∧ DV (s + p) t k := by
  obtain ⟨q, hq, h⟩ := h
  have hz : ∀ U, U = 2000 → (k * 2 ^ q).natAbs < 2 ^ U := fun U hU => by rw [natAbs_scale]; exact lt_2000 hU hk (by omega)
  obtain ⟨t, R, h1, h2, h3, h4⟩ := ld_any hp hb h (hz 2000 rfl)
  refine ⟨t, h1, h2, q - p, by omega, ?_⟩
  have e1 : k * 2 ^ q = k * 2 ^ (q - p) * ((2 ^ p : Nat) : Int) := by
    have : ((2 ^ p : Nat) : Int) = (2 : Int) ^ p := by push_cast; rfl
    rw [this, Int.mul_assoc, ← Int.pow_add, show q - p + p = q by omega]
  unfold Near1 at h4
  rw [e1, ← Int.sub_mul, Int.natAbs_mul] at h4
  have e2 : (((2 ^ p : Nat) : Int)).natAbs = 2 ^ p := rfl
  rw [e2] at h4
  have hz0 : (R - k * 2 ^ (q - p)).natAbs = 0 := by
    refine Nat.eq_zero_of_not_pos fun hc => ?_
    have h5 : 1 * 2 ^ p ≤ (R - k * 2 ^ (q - p)).natAbs * 2 ^ p := Nat.mul_le_mul_right _ hc
    have := Nat.two_pow_pos p
    omega
  have : R = k * 2 ^ (q - p) := by omega
  rw [← this]
  exact h3
end Go.Proofs.YtfnbcpeipoobkaaGreat

namespace Go.Proofs.YtfnbcpeipoobkaaGreat
open Go.RowKit Fl Ieee

structure DC (s : Nat) (b : Nat × Nat) (z : Int × Int) : Prop where
  one : DV s b.1 z.1
  two : DV s b.2 z.2
  lt1 : b.1 < 18446744073709551616
  lt2 : b.2 < 18446744073709551616
/-- Not above so much. -/
def Sm (M : Nat) (z : Int × Int) : Prop := z.1.natAbs ≤ M ∧ z.2.natAbs ≤ M
theorem Sm.mono {M M' : Nat} {z : Int × Int} (h : Sm M z) (hM : M ≤ M') : Sm M' z := ⟨Nat.le_trans h.1 hM, Nat.le_trans h.2 hM⟩
def subZ (a b : Int × Int) : Int × Int := (a.1 - b.1, a.2 - b.2)
theorem dc_zero {s : Nat} (h : s ≤ 1074) : DC s (0, 0) (0, 0) := ⟨dv_zero h, dv_zero h, by decide, by decide⟩
theorem some_lt {op : BinOp} {a b r : Nat} (h : floatBits op .f64 a b = some r) : r < 18446744073709551616 := of_decide_eq_true (floatBits_wf h)
theorem dc_add {s : Nat} {a b : Nat × Nat} {x y : Int × Int} (ha : DC s a x) (hb : DC s b y) {M : Nat} (hM : M < 2 ^ 53) (h : Sm M (addZ x y)) : ∃ r, AddTo a b r ∧ DC s r (addZ x y) := by
  obtain ⟨r1, e1, d1⟩ := dv_add ha.one hb.one (Nat.lt_of_le_of_lt h.1 hM)
  obtain ⟨r2, e2, d2⟩ := dv_add ha.two hb.two (Nat.lt_of_le_of_lt h.2 hM)
  have e1 : floatBits .add .f64 a.1 b.1 = some r1 := e1
  have e2 : floatBits .add .f64 a.2 b.2 = some r2 := e2
  exact ⟨(r1, r2), ⟨e1, e2⟩, d1, d2, some_lt e1, some_lt e2⟩
structure SubTo (a b r : Nat × Nat) : Prop where
  one : floatBits .sub .f64 a.1 b.1 = some r.1
  two : floatBits .sub .f64 a.2 b.2 = some r.2
theorem dc_sub {s : Nat} {a b : Nat × Nat} {x y : Int × Int} (ha : DC s a x) (hb : DC s b y) {M : Nat} (hM : M < 2 ^ 53) (h : Sm M (subZ x y)) : ∃ r, SubTo a b r ∧ DC s r (subZ x y) := by
  obtain ⟨r1, e1, d1⟩ := dv_sub ha.one hb.one (Nat.lt_of_le_of_lt h.1 hM)
  obtain ⟨r2, e2, d2⟩ := dv_sub ha.two hb.two (Nat.lt_of_le_of_lt h.2 hM)
  have e1 : floatBits .sub .f64 a.1 b.1 = some r1 := e1
  have e2 : floatBits .sub .f64 a.2 b.2 = some r2 := e2
  exact ⟨(r1, r2), ⟨e1, e2⟩, d1, d2, some_lt e1, some_lt e2⟩
set_option maxRecDepth 100000 in
set_option maxHeartbeats 400000 in
theorem subAny {a b r : Nat × Nat} (h : SubTo a b r) (w : World) :
    Calls (barP Tryz.prog) 29 #[.complex .f64 a.1 a.2, .complex .f64 b.1 b.2] w fun e w' => e = .returned (.complex .f64 r.1 r.2) ∧ w' = w := by
  obtain ⟨a1, a2⟩ := a
  obtain ⟨b1, b2⟩ := b
  obtain ⟨r1, r2⟩ := r
  have k1 := fun (w : World) t => run_float_arith (P := (barP Tryz.prog)) w .sub t .f64 a1 b1 r1 h.one
  have k2 := fun (w : World) t => run_float_arith (P := (barP Tryz.prog)) w .sub t .f64 a2 b2 r2 h.two
  clear h
  go_enter Bar.func29, Bar.ntmps29
  go_wp2_with (first | (go_at_call 65; go_enter Bar.func65, Bar.ntmps65) | (go_at_call 66; go_enter Bar.func66, Bar.ntmps66))
  go_ret
  exact ⟨rfl, rfl⟩
theorem dc_up {s : Nat} {b : Nat × Nat} {z : Int × Int} (d : Nat) (h : DC s b z) (hs : s + d ≤ 1074) : DC (s + d) b (z.1 * 2 ^ d, z.2 * 2 ^ d) := ⟨dv_up d h.one hs, dv_up d h.two hs, h.lt1, h.lt2⟩
/-- Scaled down. -/
theorem dc_scale {s p : Nat} {a : Nat × Nat} {z : Int × Int} (hp : p ≤ 12) (h : DC s a z) {M : Nat} (hM : M < 2 ^ 60) (hz : Sm M z) (hs : s + p ≤ 1074) : ∃ r, DC (s + p) r z ∧
    ∀ w : World, Calls (barP Tryz.prog) 34 #[.complex .f64 a.1 a.2, .int .i64 (-(p : Int))] w fun e w' => e = .returned (.complex .f64 r.1 r.2) ∧ Below w.heap.size w w' := by
  obtain ⟨r1, l1, t1, d1⟩ := dv_ld hp h.lt1 h.one (Nat.lt_of_le_of_lt hz.1 hM) hs
  obtain ⟨r2, l2, t2, d2⟩ := dv_ld hp h.lt2 h.two (Nat.lt_of_le_of_lt hz.2 hM) hs
  exact ⟨(r1, r2), ⟨d1, d2, t1, t2⟩, fun w => scaleAny hp l1 l2 w⟩
end Go.Proofs.YtfnbcpeipoobkaaGreat

namespace Go.Proofs.YtfnbcpeipoobkaaGreat
open Go.RowKit

theorem arch31 (b : Nat) (s : Bool) (m : Nat) (p : Int) (h : FloatKind.f64.decode b = .number s m p) (w : World) :
    (callFunc 105 #[.float .f64 b]).run (barP Tryz.prog) w = .ok (.value (.float .f64 (FloatKind.f64.encode ((FloatKind.f64.decode b).integral .zero)))) w := by
  rw [run_callFunc_extern (e := Extern.MathFloor.toIntegral "math.archTrunc" .zero) Bar.func105 (by kernel_rfl) (by kernel_rfl) (by kernel_rfl) (by kernel_rfl)]
  have key : (Extern.MathFloor.toIntegral "math.archTrunc" .zero #[.float .f64 b]).run (barP Tryz.prog) w = .ok (.float .f64 (FloatKind.f64.encode ((FloatKind.f64.decode b).integral .zero))) w := by
    unfold Extern.MathFloor.toIntegral
    unfold Extern.MathFloor.toIntegral.match_2
    rw [dif_pos (by rfl)]
    dsimp only [Extern.MathFloor.toIntegral._sparseCasesOn_2, Extern.MathFloor.toIntegral._sparseCasesOn_3, Array.getLit, List.getElem_toArray, List.getElem_cons_zero]
    rw [h]
    rfl
  rw [key]
  rfl

theorem andNot63 (b : Nat) (hb : b < 18446744073709551616) : (bits .andNot .u64 (b : Int) 9223372036854775808).toNat = b % 9223372036854775808 := by
  rw [u64_andNot (b : Int) 9223372036854775808 (by omega) (by omega) (by omega) (by omega), Int.toNat_natCast, Int.toNat_natCast]
  exact Nat.and_two_pow_sub_one_eq_mod b 63

set_option maxRecDepth 100000 in
set_option maxHeartbeats 400000 in
theorem abs_any (b : Nat) (w : World) (hb : b < 18446744073709551616) :
    Calls (barP Tryz.prog) 69 #[.float .f64 b] w fun e w' => e = .returned (.float .f64 (b % 9223372036854775808)) ∧ w' = w := by
  have k1 := bits32
  have k2 := from31
  go_enter Bar.func69, Bar.ntmps69
  go_wp2
  go_ret
  exact ⟨by rw [andNot63 b hb]; rfl, rfl⟩

set_option maxRecDepth 100000 in
set_option maxHeartbeats 400000 in
theorem trunc_any (b : Nat) (s : Bool) (m : Nat) (p : Int) (h : FloatKind.f64.decode b = .number s m p) (w : World) :
    Calls (barP Tryz.prog) 104 #[.float .f64 b] w fun e w' => e = .returned (.float .f64 (FloatKind.f64.encode ((FloatKind.f64.decode b).integral .zero))) ∧ w' = w := by
  have k := arch31 b s m p h
  clear h
  go_enter Bar.func104, Bar.ntmps104
  go_wp2
  go_ret
  exact ⟨rfl, rfl⟩

set_option maxRecDepth 100000 in
set_option maxHeartbeats 400000 in
theorem signbit_any (b : Nat) (hb : b = 0) (w : World) :
    Calls (barP Tryz.prog) 103 #[.float .f64 b] w fun e w' => e = .returned (.bool false) ∧ w' = w := by
  subst hb
  have k1 := bits32
  go_enter Bar.func103, Bar.ntmps103
  go_wp2
  go_ret
  exact ⟨rfl, rfl⟩

theorem gt0 {b : Nat} {n : Int} (hv : Fl.IV b n) (h : n ≠ 0) : (FloatKind.f64.format.order b 0 == some .eq) = false := by
  rw [show FloatKind.f64.format.order b 0 = _ from Fl.iv_order hv Fl.iv_zero, beq_eq_false_iff_ne]
  intro c
  exact h (Int.compare_eq_eq.1 (Option.some.inj c))

theorem eq0 {b : Nat} (hv : Fl.IV b 0) : (FloatKind.f64.format.order b 0 == some .eq) = true := by
  rw [show FloatKind.f64.format.order b 0 = _ from Fl.iv_order hv Fl.iv_zero]
  rfl

set_option maxRecDepth 100000 in
set_option maxHeartbeats 400000 in
theorem wholePart_any (b : Nat) (n most : Int) (w : World) (hb : b < 18446744073709551616) (hv : Fl.IV b n) (h0 : n = 0 → b = 0) (hn : n.natAbs ≤ most) (hm : most ≤ 9007199254740991) :
    Calls (barP Tryz.prog) 95 #[.float .f64 b, .int .i64 most] w fun e w' => e = .returned (.bool true) ∧ w' = w := by
  have ha := Fl.iv_abs hv
  have hlt : (FloatKind.f64.format.order (b % 9223372036854775808) 4890909195324358656 == some .lt) = true := by
    rw [show FloatKind.f64.format.order (b % 9223372036854775808) 4890909195324358656 = _ from Fl.iv_order ha Fl.iv_bound63,
      show compare (n.natAbs : Int) 9223372036854775808 = .lt from Int.compare_eq_lt.2 (by omega)]
    rfl
  have hs : n.natAbs < 2 ^ 53 := by omega
  have ht := Fl.iv_trunc ha (by rw [Int.natAbs_natCast]; exact hs)
  have hi := Fl.iv_toInt ha
  obtain ⟨q, hq, s, m, k, hd, _⟩ := ha
  have hne : (FloatKind.f64.format.order (FloatKind.f64.encode ((FloatKind.f64.decode (b % 9223372036854775808)).integral .zero)) (b % 9223372036854775808) != some .eq) = false := by
    rw [show FloatKind.f64.format.order _ (b % 9223372036854775808) = _ from Fl.iv_order ht (Fl.iv_abs hv)]
    simp
  have hc : floatToIntVal .f64 (b % 9223372036854775808) .i64 = some (n.natAbs : Int) := by
    unfold floatToIntVal
    rw [hi]
    dsimp only
    rw [if_pos ⟨by show -9223372036854775808 ≤ _; omega, by show _ ≤ 9223372036854775807; omega⟩]
  have hcv := fun (w : World) => run_convert_float_int (P := (barP Tryz.prog)) w 29 2 .f64 .i64 (b % 9223372036854775808) n.natAbs (by kernel_rfl) (by kernel_rfl) hc
  have hd' : FloatKind.f64.decode (b % 9223372036854775808) = .number s m (-1074 + (k : Int)) := hd
  have htr := trunc_any _ _ _ _ hd'
  clear hd hd' hc hi ht hs hq
  generalize FloatKind.f64.encode ((FloatKind.f64.decode (b % 9223372036854775808)).integral .zero) = T at *
  have hab := fun w => abs_any b w hb
  generalize b % 9223372036854775808 = B at *
  by_cases hz : n = 0
  · have hsb := fun w => signbit_any b (h0 hz) w
    have ho : (FloatKind.f64.format.order b 0 == some .eq) = true := by
      rw [h0 hz]; rfl
    have hA := hide hab
    have hT := hide htr
    have hS := hide hsb
    clear hab htr hsb hz h0
    go_enter Bar.func95, Bar.ntmps95
    go_wp2_with (first | (go_at_call 103; refine (unhide hS _).mono ?_; rintro e w' ⟨rfl, rfl⟩) | (go_at_call 69; refine (unhide hA _).mono ?_; rintro e w' ⟨rfl, rfl⟩) | (go_at_call 104; refine (unhide hT _).mono ?_; rintro e w' ⟨rfl, rfl⟩))
    go_ret
    exact ⟨rfl, rfl⟩
  · have ho := gt0 hv hz
    have hA := hide hab
    have hT := hide htr
    clear hab htr hz h0
    go_enter Bar.func95, Bar.ntmps95
    go_wp2_with (first | (go_at_call 69; refine (unhide hA _).mono ?_; rintro e w' ⟨rfl, rfl⟩) | (go_at_call 104; refine (unhide hT _).mono ?_; rintro e w' ⟨rfl, rfl⟩))
    go_ret
    exact ⟨rfl, rfl⟩

set_option maxRecDepth 100000 in
set_option maxHeartbeats 400000 in
theorem whole_any (a b : Nat) (n k most : Int) (w : World) (ha : a < 18446744073709551616) (hv : Fl.IV a n) (h0 : n = 0 → a = 0) (hn : n.natAbs ≤ most)
    (hb : b < 18446744073709551616) (hv' : Fl.IV b k) (h0' : k = 0 → b = 0) (hn' : k.natAbs ≤ most) (hm : most ≤ 9007199254740991) :
    Calls (barP Tryz.prog) 74 #[.complex .f64 a b, .int .i64 most] w fun e w' => e = .returned (.bool true) ∧ w' = w := by
  have h1 := hide fun w => wholePart_any a n most w ha hv h0 hn hm
  have h2 := hide fun w => wholePart_any b k most w hb hv' h0' hn' hm
  clear hv hv' h0 h0' hn hn' ha hb hm
  go_enter Bar.func74, Bar.ntmps74
  go_wp2_with fail
  refine (unhide h1 _).mono ?_
  rintro e w' ⟨rfl, rfl⟩
  go_wp2_with fail
  refine (unhide h2 _).mono ?_
  rintro e w' ⟨rfl, rfl⟩
  go_wp2_with fail
  go_ret
  exact ⟨rfl, rfl⟩

set_option maxRecDepth 100000 in
set_option maxHeartbeats 400000 in
theorem valueAny {b : Nat × Nat} {z : Int × Int} {m : Nat} (h : Cell b z m) (hm : m ≤ 1048576) (w : World) :
    Calls (barP Tryz.prog) 36 #[cv b] w fun e w' => e = .returned (.bool true) ∧ w' = w := by
  have k := hide fun w => whole_any b.1 b.2 z.1 z.2 1048576 w h.lt1 h.ic.one h.z1 (by have := h.le1; omega) h.lt2 h.ic.two h.z2 (by have := h.le2; omega) (by decide)
  unfold cv
  clear h hm
  go_enter Bar.func36, Bar.ntmps36
  go_wp2_with fail
  refine (unhide k _).mono ?_
  rintro e w' ⟨rfl, rfl⟩
  go_wp2_with fail
  go_ret
  exact ⟨rfl, rfl⟩
end Go.Proofs.YtfnbcpeipoobkaaGreat

namespace Go.Proofs.YtfnbcpeipoobkaaGreat
open Go.RowKit

def gridV (n : Nat) (g c : Nat) : Value := .agg #[.int .i64 n, .slice (some ⟨g, 0, none⟩) (n * n : Nat) c]

theorem square_le {n : Nat} (h : n ≤ 64) : n * n ≤ 4096 := Nat.mul_le_mul h h

set_option maxRecDepth 100000 in
set_option maxHeartbeats 400000 in
theorem gridSide {n : Nat} (h1 : 1 ≤ n) (h2 : n ≤ 64) (w : World) :
    Calls (barP Tryz.prog) 35 #[.int .i64 n] w fun e w' => e = .returned (.bool true) ∧ w' = w := by
  have q1 : (1 ≤ (n : Int)) = True := by simp; omega
  have q2 : ((n : Int) ≤ 64) = True := by simp; omega
  go_enter Bar.func35, Bar.ntmps35
  go_wp2_with fail
  go_ret
  exact ⟨rfl, rfl⟩

set_option maxRecDepth 100000 in
set_option maxHeartbeats 1600000 in
theorem soundAny {n g c m : Nat} {f : Nat → Nat × Nat} {z : Nat → Int × Int} (w : World) (h1 : 1 ≤ n) (h2 : n ≤ 64) (hR : Row w g (n * n) f) (hz : ∀ j, j < n * n → Cell (f j) (z j) m) (hm : m ≤ 1048576) :
    Calls (barP Tryz.prog) 17 #[gridV n g c] w fun e w' => e = .returned (.bool true) ∧ Below w.heap.size w w' := by
  have hq := square_le h2
  have kS := hide fun w => gridSide h1 h2 w
  unfold gridV
  obtain ⟨M, hM⟩ : ∃ M, n * n = M := ⟨_, rfl⟩
  have q5 : (n : Int) * (n : Int) = (M : Int) := by rw [← hM, Int.natCast_mul]
  rw [hM] at hR hz hq ⊢
  have q6 : IntKind.i64.wrap (M : Int) = M := by rw [IntKind.wrap_i64]; omega
  have hR := hide hR
  have hz := hide hz
  clear hM
  go_enter Bar.func17, Bar.ntmps17
  go_wp2_with (first | (go_at_call 35; refine (unhide kS _).mono ?_; rintro e w' ⟨rfl, rfl⟩))
  go_loopw [23] (fun iv wr => ∃ i : Nat, i ≤ M ∧ iv = .int .i64 i ∧ w.alloc (.cells #[.int .i64 n, .slice (some ⟨g, 0, none⟩) M c] 27) = wr) (fun iv _ => M - (intOf iv).toNat)
  case atStart => exact ⟨0, Nat.zero_le _, rfl, rfl⟩
  case round =>
    obtain ⟨i, hi, rfl, rfl⟩ := hrel
    by_cases hc : i < M
    · have p1 : ((i : Int) < (M : Int)) = True := by simp; omega
      have hR1 := row_below (unhide hR) ((Below.refl _ w).alloc (Nat.le_refl _) (.cells #[.int .i64 n, .slice (some ⟨g, 0, none⟩) M c] 27)) (row_lt (unhide hR))
      have c1 := row_at hR1 hc
      have f1 := row_frozen hR1 i
      have k := hide fun w => valueAny (unhide hz i hc) hm w
      clear hR1
      go_wp2_with (first | (go_at_call 36; refine (unhide k _).mono ?_; rintro e w' ⟨rfl, rfl⟩))
      go_roundw
      case rel => exact ⟨i + 1, by omega, by simp, trivial⟩
      case measure => simp [intOf]; omega
    · have e : i = M := by omega
      subst e
      have p1 : ((i : Int) < (i : Int)) = False := by simp
      go_wp2_with fail
      go_ret
      exact ⟨rfl, (Below.refl _ _).alloc (Nat.le_refl _) _⟩

set_option maxRecDepth 100000 in
set_option maxHeartbeats 800000 in
theorem gridCheck {n g c m : Nat} {f : Nat → Nat × Nat} {z : Nat → Int × Int} (w : World) (h1 : 1 ≤ n) (h2 : n ≤ 64) (hR : Row w g (n * n) f) (hz : ∀ j, j < n * n → Cell (f j) (z j) m) (hm : m ≤ 1048576) :
    Calls (barP Tryz.prog) 9 #[gridV n g c] w fun e w' => e = .returned (.int .i64 0) ∧ Below w.heap.size w w' := by
  have hB := (Below.refl _ w).alloc (Nat.le_refl _) (.cells #[.int .i64 n, .slice (some ⟨g, 0, none⟩) (n * n : Nat) c] 27)
  have k := hide (soundAny (c := c) _ h1 h2 (row_below hR hB (row_lt hR)) hz hm)
  have hB := hide hB
  clear hR hz hm h1 h2
  unfold gridV at *
  generalize n * n = M at *
  go_enter Bar.func9, Bar.ntmps9
  go_wp2_with fail
  refine (unhide k).mono ?_
  rintro e w' ⟨rfl, hw⟩
  have hB2 : Hid (Below w.heap.size w w') := (unhide hB).trans (hw.mono (by simp))
  clear hw
  go_wp2_with fail
  go_ret
  exact ⟨rfl, unhide hB2⟩
end Go.Proofs.YtfnbcpeipoobkaaGreat
