/- Whole numbers: what the program's Whole tells of any number. -/
import Derived.Test.YtpmbgjoilfdkaaaM3
namespace Go.Proofs.Ytpmbgjoilfdkaaa
open Go.RowKit Fl Ieee

theorem iv_one {b : Nat} {n n' : Int} (h : IV b n) (h' : IV b n') : n = n' := by
  obtain ⟨q1, h1, f1⟩ := h
  obtain ⟨q2, h2, f2⟩ := h'
  obtain rfl : q1 = q2 := by omega
  have hp : (0 : Int) < 2 ^ q1 := Int.pow_pos (by decide)
  exact Int.eq_of_mul_eq_mul_right (Int.ne_of_gt hp) (fv_unique f1 f2)
theorem zero_bits {b : Nat} (h : FV b 0) : b % 9223372036854775808 = 0 := by
  obtain ⟨s, m, k, e, hv⟩ := h
  have hm : m = 0 := by
    have := congrArg Int.natAbs hv
    rw [signed_natAbs] at this
    have h2 := Nat.two_pow_pos k
    rcases Nat.mul_eq_zero.1 this with h | h
    · exact h
    · omega
  subst hm
  unfold Format.read at e
  dsimp only at e
  rw [sw, bn, ir, lp] at e
  by_cases c0 : b % 9223372036854775808 < 4503599627370496
  · rw [if_pos c0] at e
    injection e
  · rw [if_neg c0] at e
    by_cases c1 : b % 9223372036854775808 < 9218868437227405312
    · rw [if_pos c1] at e
      injection e with _ e2
      omega
    · rw [if_neg c1] at e
      split at e <;> cases e
theorem big_iv {b : Nat} {s : Bool} {m k : Nat} (e : double.read b = .number s m (-1074 + (k : Int))) (q : Nat) (hq : q = 1074) (hk : q ≤ k) : IV b (signed s m (k - q)) :=
  ⟨q, hq, s, m, k, e, by rw [← signed_split, Nat.sub_add_cancel hk]⟩
theorem iv_back {b : Nat} {v n : Int} (h : FV b v) (h' : IV (b % 9223372036854775808) n) : ∃ n', IV b n' := by
  obtain ⟨q, hq, f⟩ := h'
  have e := fv_unique (fv_abs h) f
  have hv : v = n * 2 ^ q ∨ v = (-n) * 2 ^ q := by
    rw [Int.neg_mul, ← e]
    omega
  rcases hv with hv | hv
  · exact ⟨n, q, hq, hv ▸ h⟩
  · exact ⟨-n, q, hq, hv ▸ h⟩
theorem order_sym {a b : Nat} {x y : Int} (ha : FV a x) (hb : FV b y) : (double.order a b = some .eq) ↔ (double.order b a = some .eq) := by
  rw [fv_order ha hb, fv_order hb ha]
  constructor
  · intro h; rw [Int.compare_eq_eq.1 (Option.some.inj h), Int.compare_eq_eq.2 rfl]
  · intro h; rw [Int.compare_eq_eq.1 (Option.some.inj h), Int.compare_eq_eq.2 rfl]
theorem fv_63 (q : Nat) (hq : q = 1074) : FV 4890909195324358656 (9223372036854775808 * 2 ^ q) := by
  obtain ⟨q', hq', h⟩ := iv_bound63
  obtain rfl : q' = q := by omega
  exact h

/-- What decides whether a part is whole. -/
theorem part_any {b M : Nat} (hb : b < 18446744073709551616) (hM : M < 2 ^ 53) :
    (b = 9223372036854775808 ∧ ¬ Wh M b) ∨ (b = 0 ∧ Wh M b) ∨
    ((double.order b 0 == some .eq) = false ∧ (double.order (b % 9223372036854775808) 4890909195324358656 == some .lt) = false ∧ ¬ Wh M b) ∨
    ((double.order b 0 == some .eq) = false ∧ (double.order (b % 9223372036854775808) 4890909195324358656 == some .lt) = true ∧ (∃ s m p, double.read (b % 9223372036854775808) = .number s m p) ∧
      (((double.order (truncB (b % 9223372036854775808)) (b % 9223372036854775808) != some .eq) = true ∧ ¬ Wh M b) ∨
       ((double.order (truncB (b % 9223372036854775808)) (b % 9223372036854775808) != some .eq) = false ∧ ∃ N : Nat, floatToIntVal .f64 (b % 9223372036854775808) .i64 = some (N : Int) ∧ (N ≤ M ↔ Wh M b)))) := by
  obtain ⟨q, hq⟩ : ∃ q, q = 1074 := ⟨_, rfl⟩
  have hp := Nat.two_pow_pos q
  rcases read_any (b := b) with ⟨s, m, k, e, hm, hk⟩ | ⟨s, e⟩ | ⟨s, f, e⟩
  · have hv := fv_of e
    have hvk : (signed s m k).natAbs = m * 2 ^ k := signed_natAbs s m k
    have hiv := fun h => big_iv e q hq h
    generalize signed s m k = v at hv hvk
    by_cases hz : v = 0
    · subst hz
      have hzb := zero_bits hv
      by_cases c : b = 0
      · exact .inr (.inl ⟨c, (wh_zero hv).2 c⟩)
      · exact .inl ⟨by omega, fun h => c ((wh_zero hv).1 h)⟩
    · have h0 : (double.order b 0 == some .eq) = false := by
        rw [fv_order hv fv_nought, beq_eq_false_iff_ne]
        intro c
        exact hz (Int.compare_eq_eq.1 (Option.some.inj c))
      by_cases hlt : (v.natAbs : Int) < 9223372036854775808 * 2 ^ q
      · have h1 : (double.order (b % 9223372036854775808) 4890909195324358656 == some .lt) = true := by
          rw [fv_order (fv_abs hv) (fv_63 q hq), Int.compare_eq_lt.2 hlt]
          rfl
        refine .inr (.inr (.inr ⟨h0, h1, ⟨_, _, _, read_mod b s m _ e⟩, ?_⟩))
        by_cases hI : ∃ n, IV b n
        · obtain ⟨n, hn⟩ := hI
          have hab := iv_abs hn
          have hti := iv_toInt hab
          have hn63 : n.natAbs < 9223372036854775808 := by
            obtain ⟨q', hq', f⟩ := hn
            obtain rfl : q' = q := by omega
            have ev := fv_unique hv f
            rw [ev, natAbs_scale] at hlt
            have h2 : (n.natAbs : Int) * 2 ^ q' < 9223372036854775808 * 2 ^ q' := by
              rw [Int.natCast_mul, Int.natCast_pow] at hlt
              exact hlt
            have := Int.lt_of_mul_lt_mul_right h2 (Int.le_of_lt (Int.pow_pos (by decide)))
            omega
          have hn0 : n ≠ 0 := by
            rintro rfl
            obtain ⟨q', hq', f⟩ := hn
            rw [Int.zero_mul] at f
            exact hz (fv_unique hv f)
          cases hne : (double.order (truncB (b % 9223372036854775808)) (b % 9223372036854775808) != some .eq)
          · refine .inr ⟨rfl, n.natAbs, ?_, ?_⟩
            · unfold floatToIntVal
              rw [hti]
              dsimp only
              rw [if_pos ⟨by show -9223372036854775808 ≤ _; omega, by show _ ≤ 9223372036854775807; omega⟩]
            · constructor
              · intro h; exact ⟨n, hn, fun h => absurd h hn0, h⟩
              · rintro ⟨n', hn', _, h⟩
                rw [iv_one hn hn']
                exact h
          · refine .inl ⟨rfl, ?_⟩
            rintro ⟨n', hn', _, h⟩
            obtain rfl := iv_one hn hn'
            have hs : n.natAbs < 2 ^ 53 := by omega
            have ht := iv_trunc hab (by rw [Int.natAbs_natCast]; exact hs)
            rw [show double.order (truncB (b % 9223372036854775808)) (b % 9223372036854775808) = _ from iv_order ht hab] at hne
            simp at hne
        · refine .inl ⟨?_, fun ⟨n, hn, _⟩ => hI ⟨n, hn⟩⟩
          have hkq : k < q := by
            by_cases c : q ≤ k
            · exact absurd ⟨_, hiv c⟩ hI
            · omega
          have hN : v.natAbs / 2 ^ q < 2 ^ 53 := by
            rw [hvk]
            refine (Nat.div_lt_iff_lt_mul hp).2 ?_
            have h3 : m * 2 ^ k ≤ m * 2 ^ q := Nat.mul_le_mul_left _ (Nat.pow_le_pow_right (by decide) (by omega))
            have h4 : m * 2 ^ q < 2 ^ 53 * 2 ^ q := Nat.mul_lt_mul_of_pos_right (by rw [p53]; exact hm) hp
            omega
          have hB := fv_abs hv
          have hNB : ((v.natAbs : Int)).natAbs / 2 ^ q < 2 ^ 53 := by rw [Int.natAbs_natCast]; exact hN
          have hno : ¬ double.order (b % 9223372036854775808) (truncB (b % 9223372036854775808)) = some .eq := fun h => by
            obtain ⟨n, hn⟩ := (whole_trunc hB q hq hNB).1 h
            exact hI (iv_back hv hn)
          obtain ⟨s', hs'⟩ := trunc_fv hB q hq
          obtain ⟨q', hq', hT⟩ := nearest_iv s' _ hNB
          rw [← hs'] at hT
          rw [bne_iff_ne]
          exact fun h => hno ((order_sym hT hB).1 h)
      · refine .inr (.inr (.inl ⟨h0, ?_, ?_⟩))
        · rw [fv_order (fv_abs hv) (fv_63 q hq), beq_eq_false_iff_ne]
          intro c
          exact hlt (Int.compare_eq_lt.1 (Option.some.inj c))
        · rintro ⟨n, ⟨q', hq', f⟩, _, hle⟩
          obtain rfl : q' = q := by omega
          refine hlt ?_
          rw [fv_unique hv f, natAbs_scale, Int.natCast_mul, Int.natCast_pow]
          refine Int.mul_lt_mul_of_pos_right ?_ (Int.pow_pos (by decide))
          rw [p53] at hM
          omega
  · have hw : ¬ Wh M b := wh_not e (by intro _ _ _ h; cases h)
    refine .inr (.inr (.inl ⟨?_, ?_, hw⟩))
    · show ((double.read b).order (double.read 0) == _) = _
      rw [e, show double.read 0 = .number false 0 (-1074) by decide +kernel]
      cases s <;> decide
    · rw [inf_bits e]
      decide +kernel
  · have hw : ¬ Wh M b := wh_not e (by intro _ _ _ h; cases h)
    obtain ⟨f', hf⟩ := nan_bits e
    refine .inr (.inr (.inl ⟨?_, ?_, hw⟩))
    · show ((double.read b).order _ == _) = _
      rw [e]
      rfl
    · show ((double.read _).order _ == _) = _
      rw [hf]
      rfl

set_option maxRecDepth 100000 in
set_option maxHeartbeats 400000 in
theorem signbit_set (w : World) : Calls Try.prog 90 #[.float .f64 9223372036854775808] w fun e w' => e = .returned (.bool true) ∧ w' = w := by
  have k1 := bits32
  go_enter Try.func90, Try.ntmps90
  go_wp2
  go_ret
  refine ⟨?_, rfl⟩
  show Ending.returned (Value.bool (decide (wrap64 9223372036854775808 < 0))) = _
  rw [show decide (wrap64 9223372036854775808 < 0) = true by kernel_rfl]

set_option maxRecDepth 100000 in
set_option maxHeartbeats 1600000 in
theorem wholePartAll (b M : Nat) (hb : b < 18446744073709551616) (hM : M < 2 ^ 53) (w : World) :
    Calls Try.prog 85 #[.float .f64 b, .int .i64 M] w fun r w' => ∃ t : Bool, r = .returned (.bool t) ∧ (t = true ↔ Wh M b) ∧ w' = w := by
  rcases part_any hb hM with ⟨rfl, hw⟩ | ⟨rfl, hw⟩ | ⟨h0, h1, hw⟩ | ⟨h0, h1, ⟨s, m, p, hr⟩, h2⟩
  · have hS := hide signbit_set
    have ho : (FloatKind.f64.format.order 9223372036854775808 0 == some .eq) = true := by kernel_rfl
    have W := hide hw
    clear hw hM hb
    go_enter Try.func85, Try.ntmps85
    go_wp2_with (first | (go_at_call 90; refine (unhide hS _).mono ?_; rintro e w' ⟨rfl, rfl⟩))
    go_ret
    exact ⟨false, rfl, ⟨fun h => absurd h (by decide), fun h => absurd h (unhide W)⟩, rfl⟩
  · refine (wholePart_any 0 0 M w (by decide) iv_zero (fun _ => rfl) (by simp) (by rw [p53] at hM; omega)).mono ?_
    rintro e w' ⟨rfl, rfl⟩
    exact ⟨true, rfl, ⟨fun _ => hw, fun _ => rfl⟩, rfl⟩
  · have hA := hide fun w => abs_any b w hb
    have o0 : (FloatKind.f64.format.order b 0 == some .eq) = false := h0
    have o1 : (FloatKind.f64.format.order (b % 9223372036854775808) 4890909195324358656 == some .lt) = false := h1
    have W := hide hw
    clear h0 h1 hw hM
    generalize b % 9223372036854775808 = B at *
    go_enter Try.func85, Try.ntmps85
    go_wp2_with (first | (go_at_call 87; refine (unhide hA _).mono ?_; rintro e w' ⟨rfl, rfl⟩))
    go_ret
    exact ⟨false, rfl, ⟨fun h => absurd h (by decide), fun h => absurd h (unhide W)⟩, rfl⟩
  · have hA := hide fun w => abs_any b w hb
    have hT := hide fun w => trunc_any (b % 9223372036854775808) s m p hr w
    have o0 : (FloatKind.f64.format.order b 0 == some .eq) = false := h0
    have o1 : (FloatKind.f64.format.order (b % 9223372036854775808) 4890909195324358656 == some .lt) = true := h1
    have eT : FloatKind.f64.encode ((FloatKind.f64.decode (b % 9223372036854775808)).integral .zero) = truncB (b % 9223372036854775808) := rfl
    rw [eT] at hT
    clear h0 h1 hr eT
    generalize truncB (b % 9223372036854775808) = T at *
    generalize b % 9223372036854775808 = B at *
    rcases h2 with ⟨h2, hw⟩ | ⟨h2, N, hc, hw⟩
    · have o2 : (FloatKind.f64.format.order T B != some .eq) = true := h2
      have W := hide hw
      clear h2 hw hM
      go_enter Try.func85, Try.ntmps85
      go_wp2_with (first | (go_at_call 87; refine (unhide hA _).mono ?_; rintro e w' ⟨rfl, rfl⟩) | (go_at_call 88; refine (unhide hT _).mono ?_; rintro e w' ⟨rfl, rfl⟩))
      go_ret
      exact ⟨false, rfl, ⟨fun h => absurd h (by decide), fun h => absurd h (unhide W)⟩, rfl⟩
    · have o2 : (FloatKind.f64.format.order T B != some .eq) = false := h2
      have hcv := fun (w : World) => run_convert_float_int (P := Try.prog) w 47 2 .f64 .i64 B N (by kernel_rfl) (by kernel_rfl) hc
      have W := hide hw
      clear h2 hw hM hc
      go_enter Try.func85, Try.ntmps85
      go_wp2_with (first | (go_at_call 87; refine (unhide hA _).mono ?_; rintro e w' ⟨rfl, rfl⟩) | (go_at_call 88; refine (unhide hT _).mono ?_; rintro e w' ⟨rfl, rfl⟩))
      go_ret
      refine ⟨_, rfl, ?_, rfl⟩
      rw [← unhide W]
      simp

set_option maxRecDepth 100000 in
set_option maxHeartbeats 800000 in
theorem cxWholeAll (x y M : Nat) (hx : x < 18446744073709551616) (hy : y < 18446744073709551616) (hM : M < 2 ^ 53) (w : World) :
    Calls Try.prog 71 #[.complex .f64 x y, .int .i64 M] w fun r w' => ∃ t : Bool, r = .returned (.bool t) ∧ (t = true ↔ Wh M x ∧ Wh M y) ∧ w' = w := by
  have k1 := hide (wholePartAll x M hx hM)
  have k2 := hide (wholePartAll y M hy hM)
  clear hM
  go_enter Try.func71, Try.ntmps71
  go_wp2_with fail
  refine (unhide k1 _).mono ?_
  rintro e w3 ⟨t3, rfl, h3, hw⟩
  obtain rfl := hw.symm
  have H3 := hide h3
  clear h3 k1
  cases t3
  · go_wp2_with fail
    go_ret
    exact ⟨false, rfl, ⟨fun h => absurd h (by decide), fun h => (unhide H3).2 h.1⟩, rfl⟩
  · go_wp2_with fail
    refine (unhide k2 _).mono ?_
    rintro e w4 ⟨t4, rfl, h4, hw⟩
    obtain rfl := hw.symm
    have H4 := hide h4
    clear h4 k2
    go_wp2_with fail
    go_ret
    exact ⟨t4, rfl, ⟨fun h => ⟨(unhide H3).1 (by trivial), (unhide H4).1 h⟩, fun h => (unhide H4).2 h.2⟩, rfl⟩
end Go.Proofs.Ytpmbgjoilfdkaaa
