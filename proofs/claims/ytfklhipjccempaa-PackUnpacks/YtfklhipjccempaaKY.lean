/- Whole numbers: the document's Whole. -/
import Derived.Test.YtfklhipjccempaaKX
namespace Go.Proofs.Ytfklhipjccempaa
open Go.RowKit Fl Ieee

theorem archInf (b : Nat) (s : Bool) (h : FloatKind.f64.decode b = .infinity s) (w : World) :
    (callFunc 58 #[.float .f64 b]).run Try.prog w = .ok (.value (.float .f64 (truncB b))) w := by
  rw [run_callFunc_extern (e := Extern.MathFloor.toIntegral "math.archTrunc" .zero) Try.func58 (by kernel_rfl) (by kernel_rfl) (by kernel_rfl) (by kernel_rfl)]
  have key : (Extern.MathFloor.toIntegral "math.archTrunc" .zero #[.float .f64 b]).run Try.prog w = .ok (.float .f64 (truncB b)) w := by
    unfold Extern.MathFloor.toIntegral
    unfold Extern.MathFloor.toIntegral.match_2
    rw [dif_pos (by rfl)]
    dsimp only [Extern.MathFloor.toIntegral._sparseCasesOn_2, Extern.MathFloor.toIntegral._sparseCasesOn_3, Array.getLit, List.getElem_toArray, List.getElem_cons_zero]
    unfold truncB
    rw [h]
    rfl
  rw [key]
  rfl

set_option maxHeartbeats 400000 in
theorem trunc_inf (b : Nat) (s : Bool) (h : FloatKind.f64.decode b = .infinity s) (w : World) :
    Calls Try.prog 55 #[.float .f64 b] w fun e w' => e = .returned (.float .f64 (truncB b)) ∧ w' = w := by
  have k := archInf b s h
  clear h
  go_enter Try.func55, Try.ntmps55
  go_wp2
  go_ret
  exact ⟨rfl, rfl⟩

/-- What Trunc may answer. -/
def TrOk (b : Nat) (x : Nat) : Prop := (∃ s f, double.read b = .nan s f) ∨ x = truncB b
theorem trunc_all (b : Nat) (w : World) : Calls Try.prog 55 #[.float .f64 b] w fun e w' => ∃ x d, e = .returned (.float .f64 x) ∧ TrOk b x ∧ w' = w.drewN d := by
  rcases read_any (b := b) with ⟨s, m, k, e, hm, hk⟩ | ⟨s, e⟩ | ⟨s, f, e⟩
  · exact (trunc_any b s m _ e w).mono fun _ _ ⟨h1, h2⟩ => ⟨_, 0, h1, .inr rfl, h2⟩
  · exact (trunc_inf b s e w).mono fun _ _ ⟨h1, h2⟩ => ⟨_, 0, h1, .inr rfl, h2⟩
  · exact (trunc_nan b s f e w).mono fun _ _ ⟨x, d, h1, h2⟩ => ⟨x, d, h1, .inl ⟨s, f, e⟩, h2⟩

theorem wh_zero {M b : Nat} (h : FV b 0) : Wh M b ↔ b = 0 := by
  constructor
  · rintro ⟨n, ⟨q, hq, hf⟩, h0, _⟩
    have e := fv_unique h hf
    have hp : (0 : Int) < 2 ^ q := Int.pow_pos (by decide)
    refine h0 ?_
    rcases Int.mul_eq_zero.1 e.symm with h | h
    · exact h
    · omega
  · rintro rfl
    exact ⟨0, iv_zero, fun _ => rfl, Nat.zero_le _⟩

theorem wh_not {M b : Nat} {d : Datum} (h : double.read b = d) (hd : ∀ s m p, d ≠ .number s m p) : ¬ Wh M b := by
  rintro ⟨n, ⟨q, hq, s, m, k, e, _⟩, _⟩
  rw [h] at e
  exact hd _ _ _ e

theorem part_cases {b M : Nat} (hM : M < 2 ^ 53) (h0 : (double.order b 0 == some .eq) = false) (x : Nat) (hx : TrOk b x) :
    ((double.order b x == some .eq) = false ∧ ¬ Wh M b) ∨ ((double.order b x == some .eq) = true ∧ ∃ o, double.order (b % 9223372036854775808) (floatOfInt .f64 (M : Int)) = some o ∧ (o ≠ .gt ↔ Wh M b)) := by
  obtain ⟨q, hq⟩ : ∃ q, q = 1074 := ⟨_, rfl⟩
  rcases read_any (b := b) with ⟨s, m, k, e, hm, hk⟩ | ⟨s, e⟩ | ⟨s, f, e⟩
  · have hv := fv_of e
    generalize signed s m k = v at hv
    have hx' : x = truncB b := by
      rcases hx with ⟨s', f', h⟩ | h
      · rw [e] at h; cases h
      · exact h
    subst hx'
    by_cases hN : v.natAbs / 2 ^ q < 2 ^ 53
    · by_cases ho : double.order b (truncB b) = some .eq
      · obtain ⟨n, hn⟩ := (whole_trunc hv q hq hN).1 ho
        refine Or.inr ⟨by rw [ho]; rfl, _, iv_le hn hM, ?_⟩
        constructor
        · intro hg
          refine ⟨n, hn, fun hz => ?_, ?_⟩
          · subst hz
            rw [show double.order b 0 = _ from iv_order hn iv_zero] at h0
            exact absurd h0 (by decide)
          · by_cases c : n.natAbs ≤ M
            · exact c
            · exact absurd (Int.compare_eq_gt.2 (by omega)) hg
        · rintro ⟨n', hn', _, hle⟩ hg
          have hg' := Int.compare_eq_gt.1 hg
          obtain ⟨q1, h1, f1⟩ := hn
          obtain ⟨q2, h2, f2⟩ := hn'
          obtain rfl : q1 = q2 := by omega
          have e3 := fv_unique f1 f2
          have hp : (0 : Int) < 2 ^ q1 := Int.pow_pos (by decide)
          have e4 : n = n' := Int.eq_of_mul_eq_mul_right (Int.ne_of_gt hp) e3
          subst e4
          omega
      · refine Or.inl ⟨by rw [beq_eq_false_iff_ne]; exact ho, ?_⟩
        rintro ⟨n, hn, _⟩
        exact ho ((whole_trunc hv q hq hN).2 ⟨n, hn⟩)
    · obtain ⟨hg, hw⟩ := fv_big hv q hq hN hM
      by_cases ho : double.order b (truncB b) = some .eq
      · exact Or.inr ⟨by rw [ho]; rfl, _, hg, ⟨fun h => absurd rfl h, fun h => absurd h hw⟩⟩
      · exact Or.inl ⟨by rw [beq_eq_false_iff_ne]; exact ho, hw⟩
  · have hw : ¬ Wh M b := wh_not e (by intro _ _ _ h; cases h)
    by_cases ho : double.order b x = some .eq
    · refine Or.inr ⟨by rw [ho]; rfl, .gt, ?_, ⟨fun h => absurd rfl h, fun h => absurd h hw⟩⟩
      obtain ⟨_, _, s', m', k', e', _⟩ := iv_ofInt (M : Int) (by rw [Int.natAbs_natCast]; exact hM)
      rw [inf_bits e]
      show (double.read _).order (double.read _) = _
      rw [e', show double.read 9218868437227405312 = .infinity false by decide +kernel]
      rfl
    · exact Or.inl ⟨by rw [beq_eq_false_iff_ne]; exact ho, hw⟩
  · refine Or.inl ⟨?_, wh_not e (by intro _ _ _ h; cases h)⟩
    show ((double.read b).order _ == _) = _
    rw [e]
    rfl

set_option maxHeartbeats 800000 in
theorem refWholePart (b M : Nat) (hb : b < 18446744073709551616) (hM : M < 2 ^ 53) (w : World) :
    Calls Try.prog 49 #[.float .f64 b, .int .i64 M] w fun r w' => ∃ (t : Bool) (d : Nat), r = .returned (.bool t) ∧ (t = true ↔ Wh M b) ∧ w' = w.drewN d := by
  have k1 := bits32
  by_cases h0 : double.order b 0 = some .eq
  · have hz : FV b 0 := by
      rcases read_any (b := b) with ⟨s, m, k, e, hm, hk⟩ | ⟨s, e⟩ | ⟨s, f, e⟩
      · have hv := fv_of e
        rw [fv_order hv fv_nought] at h0
        rw [Int.compare_eq_eq.1 (Option.some.inj h0)] at hv
        exact hv
      · exfalso
        have : (double.read b).order (double.read 0) = some .eq := h0
        rw [e, show double.read 0 = .number false 0 (-1074) by decide +kernel] at this
        cases s <;> exact absurd this (by decide)
      · exfalso
        have : (double.read b).order (double.read 0) = some .eq := h0
        rw [e] at this
        cases this
    have hW : Hid ((((b : Int) == 0) = true) ↔ Wh M b) := by
      show _ ↔ _
      rw [wh_zero hz]
      simp
    have ho : (FloatKind.f64.format.order b 0 == some .eq) = true := by rw [show FloatKind.f64.format.order b 0 = some .eq from h0]; rfl
    clear hz h0
    go_enter Try.func49, Try.ntmps49
    go_wp2
    go_ret
    exact ⟨_, 0, rfl, unhide hW, rfl⟩
  · have h0' : (FloatKind.f64.format.order b 0 == some .eq) = false := by rw [beq_eq_false_iff_ne]; exact h0
    have hC := hide (fun x hx => part_cases (x := x) hM h0' hx)
    have hA := hide fun w => abs_any b w hb
    have hT := hide (trunc_all b)
    clear h0 hM
    generalize b % 9223372036854775808 = B at *
    go_enter Try.func49, Try.ntmps49
    go_wp2_with fail
    refine (unhide hT _).mono ?_
    rintro e w1 ⟨x, d, rfl, hx, rfl⟩
    rcases unhide hC x hx with ⟨ho, hw⟩ | ⟨ho, o, ho2, hw⟩
    · have ho' : (FloatKind.f64.format.order b x == some .eq) = false := ho
      have hW := hide hw
      clear hw ho hC
      go_wp2_with fail
      go_ret
      exact ⟨false, d, rfl, ⟨fun h => absurd h (by decide), fun h => absurd h (unhide hW)⟩, rfl⟩
    · have ho' : (FloatKind.f64.format.order b x == some .eq) = true := ho
      have hW := hide hw
      have ho3 : FloatKind.f64.format.order B (floatOfInt .f64 (M : Int)) = some o := ho2
      clear hw ho hC ho2
      go_wp2_with (first | (go_at_call 54; refine (unhide hA _).mono ?_; rintro e w' ⟨rfl, rfl⟩))
      go_ret
      trace_state
      refine ⟨_, d, rfl, ?_, rfl⟩
      rw [← unhide hW]
      cases o <;> simp
end Go.Proofs.Ytfklhipjccempaa
