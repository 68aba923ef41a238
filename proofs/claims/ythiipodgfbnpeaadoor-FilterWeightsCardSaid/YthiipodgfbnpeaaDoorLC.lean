/- math.Ldexp downwards: the scaling of a finite number. -/
import Derived.Test.YthiipodgfbnpeaaDoorR9
import Derived.Test.YthiipodgfbnpeaaDoorLB
import Derived.Test.YthiipodgfbnpeaaDoorAB
namespace Go.Proofs.YthiipodgfbnpeaaDoor
open Go.RowKit Fl Ieee

set_option maxHeartbeats 400000 in
theorem isInfNo (b : Nat) (hb : b < 18446744073709551616) (ho : (FloatKind.f64.format.order (b % 9223372036854775808) 9218868437227405311 == some .gt) = false) (w : World) :
    Calls Tryd.prog 65 #[.float .f64 b, .int .i64 0] w fun e w' => e = .returned (.bool false) ∧ w' = w := by
  have ha := hide (absAny b w hb)
  generalize b % 9223372036854775808 = a at ha ho
  go_enter Tryd.func65, Tryd.ntmps65
  go_wp2_with (first | (go_at_call 73; refine (unhide ha).mono ?_; rintro e w' ⟨rfl, rfl⟩))
  go_ret
  exact ⟨rfl, rfl⟩

set_option maxHeartbeats 400000 in
theorem isNaNNo (b : Nat) (ho : FloatKind.f64.format.order b b = some .eq) (w : World) :
    Calls Tryd.prog 66 #[.float .f64 b] w fun e w' => e = .returned (.bool false) ∧ w' = w := by
  go_enter Tryd.func66, Tryd.ntmps66
  go_wp2
  go_ret
  exact ⟨rfl, rfl⟩

set_option maxHeartbeats 400000 in
theorem normAny (b : Nat) (hb : b < 18446744073709551616) (ho : (FloatKind.f64.format.order (b % 9223372036854775808) 4503599627370496 == some .lt) = false) (w : World) :
    Calls Tryd.prog 67 #[.float .f64 b] w fun e w' => e = .returned (.tuple #[.float .f64 b, .int .i64 0]) ∧ w' = w := by
  have ha := hide (absAny b w hb)
  generalize b % 9223372036854775808 = a at ha ho
  go_enter Tryd.func67, Tryd.ntmps67
  go_wp2_with (first | (go_at_call 73; refine (unhide ha).mono ?_; rintro e w' ⟨rfl, rfl⟩))
  go_ret2
  exact ⟨rfl, rfl⟩

set_option maxHeartbeats 400000 in
theorem normLow (b r : Nat) (hb : b < 18446744073709551616) (ho : (FloatKind.f64.format.order (b % 9223372036854775808) 4503599627370496 == some .lt) = true) (hr : floatBits .mul .f64 b 4841369599423283200 = some r) (w : World) :
    Calls Tryd.prog 67 #[.float .f64 b] w fun e w' => e = .returned (.tuple #[.float .f64 r, .int .i64 (-52)]) ∧ w' = w := by
  have ha := hide (absAny b w hb)
  have k := fun (w : World) t => run_float_arith (P := Tryd.prog) w .mul t .f64 b _ r hr
  generalize b % 9223372036854775808 = a at ha ho
  clear hr
  go_enter Tryd.func67, Tryd.ntmps67
  go_wp2_with (first | (go_at_call 73; refine (unhide ha).mono ?_; rintro e w' ⟨rfl, rfl⟩))
  go_ret2
  exact ⟨rfl, rfl⟩

theorem and_2047 {s e : Nat} (he : e < 2048) : bits .and .i64 ((s * 2048 + e : Nat) : Int) 2047 = e := by
  rw [and_low _ 11 2047 (by decide) (by decide)]
  omega

theorem andNot_exp {r s e m : Nat} (hr : r = s * 9223372036854775808 + e * 4503599627370496 + m) (hs : s < 2) (he : e < 2048) (hm : m < 4503599627370496) :
    bits .andNot .u64 (r : Int) 9218868437227405312 = ((s * 9223372036854775808 + m : Nat) : Int) := by
  rw [u64_andNot (r : Int) 9218868437227405312 (by omega) (by omega) (by omega) (by omega), Int.toNat_natCast, ← clear_exp hs he hm, hr]
  rfl

theorem or_exp {s e m : Nat} (hs : s < 2) (he : e < 2048) (hm : m < 4503599627370496) :
    bits .or .u64 ((s * 9223372036854775808 + m : Nat) : Int) ((e * 4503599627370496 : Nat) : Int) = ((s * 9223372036854775808 + e * 4503599627370496 + m : Nat) : Int) := by
  rw [u64_or _ _ (by omega) (by omega) (by omega) (by omega), Int.toNat_natCast, Int.toNat_natCast, lay_exp hs he hm]

/-- What stands ahead of the exponent's reckoning. -/
structure Ahead (b r : Nat) (n0 : Int) : Prop where
  zero : (FloatKind.f64.format.order b 0 == some .eq) = false
  inf : ∀ w, Calls Tryd.prog 65 #[.float .f64 b, .int .i64 0] w fun e w' => e = .returned (.bool false) ∧ w' = w
  nan : ∀ w, Calls Tryd.prog 66 #[.float .f64 b] w fun e w' => e = .returned (.bool false) ∧ w' = w
  norm : ∀ w, Calls Tryd.prog 67 #[.float .f64 b] w fun e w' => e = .returned (.tuple #[.float .f64 r, .int .i64 n0]) ∧ w' = w

set_option maxHeartbeats 1600000 in
theorem walkIn {b r p U Y X e t : Nat} {n0 : Int} (h : Ahead b r n0) (hp : p ≤ 12) (hn : n0 = 0 ∨ n0 = -52) (hU : U < 4096) (he : e ≤ 2046) (f1 : (r : Int) / 4503599627370496 = U) (f2 : bits .and .i64 (U : Int) 2047 = e)
    (f3 : bits .andNot .u64 (r : Int) 9218868437227405312 = Y) (hE1 : 1 ≤ (e : Int) - p + n0) (f4 : bits .or .u64 (Y : Int) ((-(p : Int) + n0 + ((e : Int) - 1023) + 1023) * 4503599627370496) = X) (ht : floatBits .mul .f64 4607182418800017408 X = some t) (w : World) :
    Calls Tryd.prog 61 #[.float .f64 b, .int .i64 (-(p : Int))] w fun e w' => e = .returned (.float .f64 t) ∧ w' = w := by
  have h0 := h.zero
  have c1 := hide (h.inf)
  have c2 := hide (h.nan)
  have c3 := hide (h.norm)
  have k1 := bits32
  have k2 := from31
  have k := fun (w : World) y => run_float_arith (P := Tryd.prog) w .mul y .f64 _ _ t ht
  clear h ht
  go_enter Tryd.func61, Tryd.ntmps61
  go_wp2_with fail
  refine (unhide c1 _).mono ?_
  rintro e w' ⟨rfl, rfl⟩
  go_wp2_with fail
  refine (unhide c2 _).mono ?_
  rintro e w' ⟨rfl, rfl⟩
  go_wp2_with fail
  refine (unhide c3 _).mono ?_
  rintro e w' ⟨rfl, rfl⟩
  go_wp2_with fail
  go_ret
  exact ⟨rfl, rfl⟩

set_option maxHeartbeats 1600000 in
theorem walkLow {b r p U Y X e t : Nat} {n0 : Int} (h : Ahead b r n0) (hU : U < 4096) (he : e ≤ 2046) (f1 : (r : Int) / 4503599627370496 = U) (f2 : bits .and .i64 (U : Int) 2047 = e)
    (f3 : bits .andNot .u64 (r : Int) 9218868437227405312 = Y) (hE1 : (e : Int) - p + n0 ≤ 0) (hE2 : -52 ≤ (e : Int) - p + n0) (f4 : bits .or .u64 (Y : Int) ((-(p : Int) + n0 + ((e : Int) - 1023) + 53 + 1023) * 4503599627370496) = X) (ht : floatBits .mul .f64 4368491638549381120 X = some t) (w : World) :
    Calls Tryd.prog 61 #[.float .f64 b, .int .i64 (-(p : Int))] w fun e w' => e = .returned (.float .f64 t) ∧ w' = w := by
  have h0 := h.zero
  have c1 := hide (h.inf)
  have c2 := hide (h.nan)
  have c3 := hide (h.norm)
  have k1 := bits32
  have k2 := from31
  have k := fun (w : World) y => run_float_arith (P := Tryd.prog) w .mul y .f64 _ _ t ht
  clear h ht
  go_enter Tryd.func61, Tryd.ntmps61
  go_wp2_with fail
  refine (unhide c1 _).mono ?_
  rintro e w' ⟨rfl, rfl⟩
  go_wp2_with fail
  refine (unhide c2 _).mono ?_
  rintro e w' ⟨rfl, rfl⟩
  go_wp2_with fail
  refine (unhide c3 _).mono ?_
  rintro e w' ⟨rfl, rfl⟩
  go_wp2_with fail
  go_ret
  exact ⟨rfl, rfl⟩

set_option maxHeartbeats 400000 in
theorem copyAny {r Y X : Nat} (f3 : bits .and .u64 (r : Int) 9223372036854775808 = Y) (f4 : bits .or .u64 0 (Y : Int) = X) (w : World) :
    Calls Tryd.prog 68 #[.float .f64 0, .float .f64 r] w fun e w' => e = .returned (.float .f64 X) ∧ w' = w := by
  have k1 := bits32
  have k2 := from31
  have f5 : bits .andNot .u64 0 9223372036854775808 = 0 := by decide +kernel
  go_enter Tryd.func68, Tryd.ntmps68
  go_wp2
  go_ret
  exact ⟨rfl, rfl⟩

set_option maxHeartbeats 1600000 in
theorem walkOut {b r p U Y e t : Nat} {n0 : Int} (h : Ahead b r n0) (hp : p ≤ 12) (hn : n0 = 0 ∨ n0 = -52) (hU : U < 4096) (he : e ≤ 2046) (f1 : (r : Int) / 4503599627370496 = U) (f2 : bits .and .i64 (U : Int) 2047 = e)
    (hE1 : (e : Int) - p + n0 < -52) (f3 : bits .and .u64 (r : Int) 9223372036854775808 = Y) (f4 : bits .or .u64 0 (Y : Int) = t) (w : World) :
    Calls Tryd.prog 61 #[.float .f64 b, .int .i64 (-(p : Int))] w fun e w' => e = .returned (.float .f64 t) ∧ w' = w := by
  have h0 := h.zero
  have c1 := hide (h.inf)
  have c2 := hide (h.nan)
  have c3 := hide (h.norm)
  have k1 := bits32
  have k2 := from31
  have c4 := hide (copyAny f3 f4)
  clear h f3 f4
  go_enter Tryd.func61, Tryd.ntmps61
  go_wp2_with fail
  refine (unhide c1 _).mono ?_
  rintro e w' ⟨rfl, rfl⟩
  go_wp2_with fail
  refine (unhide c2 _).mono ?_
  rintro e w' ⟨rfl, rfl⟩
  go_wp2_with fail
  refine (unhide c3 _).mono ?_
  rintro e w' ⟨rfl, rfl⟩
  go_wp2_with fail
  refine (unhide c4 _).mono ?_
  rintro e w' ⟨rfl, rfl⟩
  go_wp2_with fail
  go_ret
  exact ⟨rfl, rfl⟩

set_option maxHeartbeats 1600000 in
theorem walkZero {b p : Nat} (h0 : (FloatKind.f64.format.order b 0 == some .eq) = true) (w : World) :
    Calls Tryd.prog 61 #[.float .f64 b, .int .i64 (-(p : Int))] w fun e w' => e = .returned (.float .f64 b) ∧ w' = w := by
  go_enter Tryd.func61, Tryd.ntmps61
  go_wp2_with fail
  go_ret
  exact ⟨rfl, rfl⟩

set_option maxHeartbeats 400000 in
theorem ldTo_of {p b r : Nat} (h : ∀ w, Calls Tryd.prog 61 #[.float .f64 b, .int .i64 (-(p : Int))] w fun e w' => e = .returned (.float .f64 r) ∧ w' = w) : LdTo p b r := by
  intro w
  have c := hide h
  clear h
  go_enter Tryd.func57, Tryd.ntmps57
  go_wp2_with (first | (go_at_call 61; refine (unhide c _).mono ?_; rintro e w' ⟨rfl, rfl⟩))
  go_ret
  exact ⟨rfl, rfl⟩

theorem and_sign {r s e m : Nat} (hr : r = s * 9223372036854775808 + e * 4503599627370496 + m) (hs : s < 2) (he : e < 2048) (hm : m < 4503599627370496) : bits .and .u64 (r : Int) 9223372036854775808 = ((s * 9223372036854775808 : Nat) : Int) := by
  rw [u64_and (r : Int) 9223372036854775808 (by omega) (by omega) (by omega) (by omega), Int.toNat_natCast]
  have h1 : (r &&& 9223372036854775808) / 2 ^ 63 = r / 2 ^ 63 &&& 9223372036854775808 / 2 ^ 63 := Nat.and_div_two_pow
  have h2 : (r &&& 9223372036854775808) % 2 ^ 63 = r % 2 ^ 63 &&& 9223372036854775808 % 2 ^ 63 := Nat.and_mod_two_pow
  rw [show r / 2 ^ 63 = s by omega, show (9223372036854775808 : Nat) / 2 ^ 63 = 1 by decide, Nat.and_one_is_mod, Nat.mod_eq_of_lt hs] at h1
  rw [show (9223372036854775808 : Nat) % 2 ^ 63 = 0 by decide, Nat.and_zero] at h2
  show ((r &&& 9223372036854775808 : Nat) : Int) = _
  generalize r &&& 9223372036854775808 = y at h1 h2 ⊢
  omega

theorem or_sign {s : Nat} (hs : s < 2) : bits .or .u64 0 ((s * 9223372036854775808 : Nat) : Int) = ((s * 9223372036854775808 : Nat) : Int) := by
  rcases (by omega : s = 0 ∨ s = 1) with rfl | rfl <;> decide +kernel

theorem fv_sign {s : Nat} (hs : s < 2) : FV (s * 9223372036854775808) 0 := by
  rcases (by omega : s = 0 ∨ s = 1) with rfl | rfl
  · rw [Nat.zero_mul]; exact fv_nought
  · rw [Nat.one_mul]; exact fv_nought'

/-- The scaling of a number whose fields are known. -/
theorem ld_core {b r p s e m q : Nat} {V n0 : Int} (h : Ahead b r n0) (N : Normal r V s e m) (hp : p ≤ 12) (hn : n0 = 0 ∨ n0 = -52) (hq : (q : Int) = p - n0) :
    ∃ t R, LdTo p b t ∧ t < 18446744073709551616 ∧ FV t R ∧ Near1 V R q := by
  obtain ⟨hr, hs, he1, he2, hm, hV⟩ := N
  have f1 : (r : Int) / 4503599627370496 = ((s * 2048 + e : Nat) : Int) := by omega
  have f2 := and_2047 (s := s) (show e < 2048 by omega)
  have f3 := andNot_exp hr hs (show e < 2048 by omega) hm
  by_cases c1 : q + 1 ≤ e
  · obtain ⟨E, hE⟩ : ∃ E, e = E + q := ⟨e - q, by omega⟩
    obtain ⟨t, ht, ft⟩ := one_times (e := E) hs (by omega) (by omega) hm
    have f4 := or_exp hs (show E < 2048 by omega) hm
    rw [show ((E * 4503599627370496 : Nat) : Int) = (-(p : Int) + n0 + ((e : Int) - 1023) + 1023) * 4503599627370496 by omega] at f4
    refine ⟨t, _, ldTo_of (walkIn h hp hn (by omega) he2 f1 f2 f3 (by omega) f4 ht), of_decide_eq_true (floatBits_wf ht), ft, ?_⟩
    rw [hV, show e - 1 = (E - 1) + q by omega, signed_pow]
    unfold Near1
    rw [Int.sub_self]
    exact Nat.zero_le _
  · by_cases c2 : q ≤ e + 52
    · obtain ⟨E, hE⟩ : ∃ E, e + 53 = E + q := ⟨e + 53 - q, by omega⟩
      obtain ⟨t, R, ht, ft, hR⟩ := small_times (e := E) hs (by omega) (by omega) hm
      have f4 := or_exp hs (show E < 2048 by omega) hm
      rw [show ((E * 4503599627370496 : Nat) : Int) = (-(p : Int) + n0 + ((e : Int) - 1023) + 53 + 1023) * 4503599627370496 by omega] at f4
      refine ⟨t, R, ldTo_of (walkLow h (by omega) he2 f1 f2 f3 (by omega) (by omega) f4 ht), of_decide_eq_true (floatBits_wf ht), ft, ?_⟩
      have hX : signed (s == 1) (4503599627370496 + m) (E - 1) * ((2 ^ q : Nat) : Int) = V * ((2 ^ 53 : Nat) : Int) := by
        rw [hV, ← signed_pow, ← signed_pow]
        congr 1
        omega
      unfold Near1 at hR ⊢
      generalize signed (s == 1) (4503599627370496 + m) (E - 1) = X at hR hX
      have h1 : (R * ((2 ^ 53 : Nat) : Int) - X) * ((2 ^ q : Nat) : Int) = (R * ((2 ^ q : Nat) : Int) - V) * ((2 ^ 53 : Nat) : Int) := by
        rw [Int.sub_mul, Int.sub_mul, hX]
        generalize ((2 ^ 53 : Nat) : Int) = G
        generalize ((2 ^ q : Nat) : Int) = H
        grind
      have h2 := congrArg Int.natAbs h1
      rw [Int.natAbs_mul, Int.natAbs_mul, Int.natAbs_natCast, Int.natAbs_natCast] at h2
      have h3 := Nat.mul_le_mul_right (2 ^ q) hR
      rw [Nat.mul_assoc, h2, ← Nat.mul_assoc, Nat.mul_comm (2 ^ 53)] at h3
      exact Nat.le_of_mul_le_mul_right h3 (by decide)
    · refine ⟨s * 9223372036854775808, 0, ldTo_of (walkOut h hp hn (by omega) he2 f1 f2 (by omega) (and_sign hr hs (by omega) hm) (or_sign hs)), by omega, fv_sign hs, ?_⟩
      unfold Near1
      rw [Int.zero_mul, Int.zero_sub, Int.natAbs_neg, hV, signed_natAbs]
      have h1 : (2 : Nat) ^ (53 + (e - 1)) ≤ 2 ^ (q - 1) := Nat.pow_le_pow_right (by decide) (by omega)
      rw [Nat.pow_add] at h1
      have h2 : (4503599627370496 + m) * 2 ^ (e - 1) ≤ 2 ^ 53 * 2 ^ (e - 1) := Nat.mul_le_mul_right _ (by omega)
      have h3 : 2 ^ q = 2 ^ (q - 1) * 2 := by rw [← Nat.pow_succ]; congr 1; omega
      rw [h3]
      generalize (4503599627370496 + m) * 2 ^ (e - 1) = A at h2 ⊢
      generalize 2 ^ 53 * 2 ^ (e - 1) = B at h1 h2
      omega

/-- The scaling of any finite number. -/
theorem ld_any {b p : Nat} {Z : Int} (hp : p ≤ 12) (hb : b < 18446744073709551616) (h : FV b Z) (hZ : Z.natAbs < 2 ^ 2000) : ∃ t R, LdTo p b t ∧ t < 18446744073709551616 ∧ FV t R ∧ Near1 Z R p := by
  by_cases hz : Z = 0
  · subst hz
    refine ⟨b, 0, ldTo_of (walkZero (by rw [show FloatKind.f64.format.order b 0 = _ from fv_order h fv_nought]; rfl)), hb, h, ?_⟩
    unfold Near1
    rw [Int.zero_mul]
    exact Nat.zero_le _
  · obtain ⟨M, fM, hM⟩ := fv_most
    have a1 : (FloatKind.f64.format.order b 0 == some .eq) = false := by
      rw [show FloatKind.f64.format.order b 0 = _ from fv_order h fv_nought]
      have : compare Z 0 ≠ .eq := fun e => hz (Int.compare_eq_eq.1 e)
      generalize compare Z 0 = o at this
      cases o <;> first | rfl | exact absurd rfl this
    have a2 : (FloatKind.f64.format.order (b % 9223372036854775808) 9218868437227405311 == some .gt) = false := by
      rw [show FloatKind.f64.format.order (b % 9223372036854775808) 9218868437227405311 = _ from fv_order (fv_abs h) fM]
      have hlt : (Z.natAbs : Int) < M := Int.lt_of_lt_of_le (Int.ofNat_lt.2 hZ) hM
      rw [Int.compare_eq_lt.2 hlt]
      rfl
    by_cases hc : 4503599627370496 ≤ Z.natAbs
    · have a3 : (FloatKind.f64.format.order (b % 9223372036854775808) 4503599627370496 == some .lt) = false := by
        rw [show FloatKind.f64.format.order (b % 9223372036854775808) 4503599627370496 = _ from fv_order (fv_abs h) fv_least]
        have : compare (Z.natAbs : Int) 4503599627370496 ≠ .lt := fun e => by have := Int.compare_eq_lt.1 e; omega
        generalize compare (Z.natAbs : Int) 4503599627370496 = o at this
        cases o <;> first | rfl | exact absurd rfl this
      obtain ⟨s, e, m, N⟩ := normal_of h hb hc
      exact ld_core ⟨a1, isInfNo b hb a2, isNaNNo b (fv_self h), normAny b hb a3⟩ N hp (.inl rfl) (by omega)
    · have a3 : (FloatKind.f64.format.order (b % 9223372036854775808) 4503599627370496 == some .lt) = true := by
        rw [show FloatKind.f64.format.order (b % 9223372036854775808) 4503599627370496 = _ from fv_order (fv_abs h) fv_least, Int.compare_eq_lt.2 (by omega)]
        rfl
      obtain ⟨q, hq⟩ : ∃ q, q = 1074 := ⟨_, rfl⟩
      obtain ⟨t, ht⟩ : ∃ t, t = 1126 := ⟨_, rfl⟩
      have hN : (Z * 4503599627370496).natAbs = Z.natAbs * 2 ^ 52 := by rw [Int.natAbs_mul]; rfl
      obtain ⟨r, er, fr⟩ := mul_fv (z := Z * 4503599627370496) q hq h (fv_p52 t ht) (by
        rw [show t = 52 + q by omega, Int.pow_add, ← Int.mul_assoc]; rfl) hN (by omega) (by
        have : Z.natAbs.log2 ≤ 52 := log2_le_of_lt (by omega)
        omega)
      have hw : r < 18446744073709551616 := of_decide_eq_true (floatBits_wf (op := .mul) (k := .f64) er)
      obtain ⟨s, e, m, N⟩ := normal_of fr hw (by rw [hN]; omega)
      obtain ⟨u, R, h1, h2, h3, h4⟩ := ld_core (q := p + 52) ⟨a1, isInfNo b hb a2, isNaNNo b (fv_self h), normLow b r hb a3 er⟩ N hp (.inr rfl) (by omega)
      refine ⟨u, R, h1, h2, h3, ?_⟩
      unfold Near1 at h4 ⊢
      rw [Nat.pow_add, Int.natCast_mul, ← Int.mul_assoc, show Z * 4503599627370496 = Z * ((2 ^ 52 : Nat) : Int) by rfl, ← Int.sub_mul, Int.natAbs_mul, Int.natAbs_natCast, ← Nat.mul_assoc] at h4
      exact Nat.le_of_mul_le_mul_right h4 (by decide)
end Go.Proofs.YthiipodgfbnpeaaDoor
