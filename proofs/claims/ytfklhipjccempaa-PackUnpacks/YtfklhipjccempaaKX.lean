/- Whole numbers: what the document's Whole tells of any number. -/
import Derived.Test.YtfklhipjccempaaKW
import Derived.Deep.Draws
namespace Go.Proofs.Ytfklhipjccempaa
open Go.RowKit Fl Ieee

theorem inf_bits {b : Nat} {s : Bool} (h : double.read b = .infinity s) : b % 9223372036854775808 = 9218868437227405312 := by
  unfold Format.read at h
  dsimp only at h
  rw [sw, bn, ir, lp] at h
  by_cases c0 : b % 9223372036854775808 < 4503599627370496
  · rw [if_pos c0] at h; cases h
  · rw [if_neg c0] at h
    by_cases c1 : b % 9223372036854775808 < 9218868437227405312
    · rw [if_pos c1] at h; cases h
    · rw [if_neg c1] at h
      by_cases c2 : b % 9223372036854775808 = 9218868437227405312
      · exact c2
      · rw [if_neg c2] at h; cases h
theorem nan_bits {b : Nat} {s : Bool} {f : Nat} (h : double.read b = .nan s f) : ∃ f', double.read (b % 9223372036854775808) = .nan false f' := by
  unfold Format.read at h ⊢
  dsimp only at h ⊢
  rw [sw, bn, ir, lp] at h ⊢
  have e1 : b % 9223372036854775808 / 9223372036854775808 % 2 = 0 := by omega
  have e2 : b % 9223372036854775808 % 9223372036854775808 = b % 9223372036854775808 := by omega
  rw [e1, e2]
  by_cases c0 : b % 9223372036854775808 < 4503599627370496
  · rw [if_pos c0] at h; cases h
  · rw [if_neg c0] at h
    by_cases c1 : b % 9223372036854775808 < 9218868437227405312
    · rw [if_pos c1] at h; cases h
    · rw [if_neg c1] at h
      by_cases c2 : b % 9223372036854775808 = 9218868437227405312
      · rw [if_pos c2] at h; cases h
      · rw [if_neg c0, if_neg c1, if_neg c2]
        exact ⟨_, rfl⟩

theorem fv_max (j : Nat) (hj : j = 2045) : FV 9218868437227405311 (signed false 9007199254740991 j) := ⟨false, 9007199254740991, j, by subst hj; decide +kernel, rfl⟩
theorem not_above {b : Nat} {s : Bool} {m k : Nat} (h : double.read b = .number s m (-1074 + (k : Int))) (hm : m < 9007199254740992) (hk : k ≤ 2045) : (double.order (b % 9223372036854775808) 9218868437227405311 == some .gt) = false := by
  obtain ⟨j, hj⟩ : ∃ j, j = 2045 := ⟨_, rfl⟩
  rw [fv_order (fv_abs (fv_of h)) (fv_max j hj), beq_eq_false_iff_ne]
  intro c
  have h1 := Int.compare_eq_gt.1 (Option.some.inj c)
  rw [signed_natAbs, signed_eq, if_neg (by decide)] at h1
  have h2 : m * 2 ^ k ≤ 9007199254740991 * 2 ^ j := Nat.mul_le_mul (by omega) (Nat.pow_le_pow_right (by decide) (by omega))
  exact absurd (Int.ofNat_lt.1 h1) (by omega)

set_option maxHeartbeats 400000 in
theorem isInf_any (b : Nat) (hb : b < 18446744073709551616) (w : World) :
    Calls Try.prog 48 #[.float .f64 b, .int .i64 0] w fun r w' => ∃ t : Bool, r = .returned (.bool t) ∧ (t = true ↔ ∃ s, double.read b = .infinity s) ∧ w' = w := by
  have hA := hide fun w => abs_any b w hb
  have hd : ∃ t : Bool, Hid (t = true ↔ ∃ s, double.read b = .infinity s) ∧ (FloatKind.f64.format.order (b % 9223372036854775808) 9218868437227405311 == some .gt) = t := by
    rcases read_any (b := b) with ⟨s, m, k, e, hm, hk⟩ | ⟨s, e⟩ | ⟨s, f, e⟩
    · exact ⟨false, ⟨fun h => absurd h (by decide), fun ⟨s', h⟩ => by rw [e] at h; cases h⟩, not_above e hm hk⟩
    · refine ⟨true, ⟨fun _ => ⟨s, e⟩, fun _ => rfl⟩, ?_⟩
      rw [inf_bits e]
      decide +kernel
    · obtain ⟨f', hf⟩ := nan_bits e
      refine ⟨false, ⟨fun h => absurd h (by decide), fun ⟨s', h⟩ => by rw [e] at h; cases h⟩, ?_⟩
      show ((double.read _).order _ == _) = _
      rw [hf]
      rfl
  obtain ⟨t, ht, ho⟩ := hd
  generalize b % 9223372036854775808 = B at *
  go_enter Try.func48, Try.ntmps48
  go_wp2_with (first | (go_at_call 54; refine (unhide hA _).mono ?_; rintro e w' ⟨rfl, rfl⟩))
  go_ret
  exact ⟨t, rfl, unhide ht, rfl⟩

theorem archNan (b : Nat) (s : Bool) (f : Nat) (h : FloatKind.f64.decode b = .nan s f) (w : World) :
    ∃ x d, (callFunc 58 #[.float .f64 b]).run Try.prog w = .ok (.value (.float .f64 x)) (w.drewN d) := by
  rw [run_callFunc_extern (e := Extern.MathFloor.toIntegral "math.archTrunc" .zero) Try.func58 (by kernel_rfl) (by kernel_rfl) (by kernel_rfl) (by kernel_rfl)]
  have key : ∃ x d, (Extern.MathFloor.toIntegral "math.archTrunc" .zero #[.float .f64 b]).run Try.prog w = .ok (.float .f64 x) (w.drewN d) := by
    unfold Extern.MathFloor.toIntegral
    unfold Extern.MathFloor.toIntegral.match_2
    rw [dif_pos (by rfl)]
    dsimp only [Extern.MathFloor.toIntegral._sparseCasesOn_2, Extern.MathFloor.toIntegral._sparseCasesOn_3, Array.getLit, List.getElem_toArray, List.getElem_cons_zero]
    rw [h]
    dsimp only
    by_cases c : FloatKind.f64.format.quiet f = f
    · rw [if_pos c]
      exact ⟨_, 0, rfl⟩
    · rw [if_neg c]
      exact ⟨_, 1, rfl⟩
  obtain ⟨x, d, hk⟩ := key
  rw [hk]
  exact ⟨x, d, rfl⟩

set_option maxHeartbeats 400000 in
theorem trunc_nan (b : Nat) (s : Bool) (f : Nat) (h : FloatKind.f64.decode b = .nan s f) (w : World) :
    Calls Try.prog 55 #[.float .f64 b] w fun e w' => ∃ x d, e = .returned (.float .f64 x) ∧ w' = w.drewN d := by
  obtain ⟨x, d, k⟩ := archNan b s f h w
  clear h
  go_enter Try.func55, Try.ntmps55
  go_wp2
  go_ret
  exact ⟨x, d, rfl, rfl⟩
end Go.Proofs.Ytfklhipjccempaa
