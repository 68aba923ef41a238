/- Numbers made narrow: what the document's Narrow tells of any number. -/
import Derived.Test.YtfklhipjccempaaKF
import Derived.Test.YtfklhipjccempaaKY
namespace Go.Proofs.Ytfklhipjccempaa
open Go.RowKit Fl Ieee

/-- x is the narrow r made wide, and r is x made narrow. -/
def Nar (x r : Nat) : Prop := floatToFloatBits .f64 x .f32 = some r ∧ floatToFloatBits .f32 r .f64 = some x

theorem conv_part {P : Program} (s k : FloatKind) (x : Nat) (w : World) : ∃ r d, (Conv.floatToFloat s x k).run P w = .ok (.float k r) (w.drewN d) ∧ ∀ r', floatToFloatBits s x k = some r' → r = r' := by
  cases h : floatToFloatBits s x k with
  | some r => exact ⟨r, 0, run_floatToFloat w h, fun r' e => Option.some.inj e⟩
  | none =>
    unfold floatToFloatBits at h
    split at h
    · cases h
    · rename_i ne
      split at h
      · rename_i sg f he
        refine ⟨(Question.nanConv k x).cut (w.tape w.drawn (.nanConv k x)), 1, ?_, fun r' e => by cases e⟩
        simp [Conv.floatToFloat, ne, he, Question.forced]
        rfl
      · cases h
      · rename_i sg m e he
        split at h
        · rename_i ho
          refine ⟨(Question.floatToFloat x).cut (w.tape w.drawn (.floatToFloat x)), 1, ?_, fun r' e => by cases e⟩
          simp [Conv.floatToFloat, ne, he, ho, Question.forced]
          rfl
        · cases h

theorem nan_cut (t : Nat) : ∃ s f, double.read (t % 2 * 2 ^ 63 + 0x7ff0000000000000 + 1 + t / 2 % (2 ^ 52 - 1)) = .nan s f := by
  have e1 : (t % 2 * 2 ^ 63 + 0x7ff0000000000000 + 1 + t / 2 % (2 ^ 52 - 1)) % 9223372036854775808 = 0x7ff0000000000000 + 1 + t / 2 % (2 ^ 52 - 1) := by omega
  unfold Format.read
  dsimp only
  rw [sw, bn, ir, lp, e1, if_neg (by omega), if_neg (by omega), if_neg (by omega)]
  exact ⟨_, _, rfl⟩

/-- A narrow number made wide: as reckoned, or a NaN. -/
theorem conv_wide {P : Program} (c : Nat) (w : World) : ∃ r d, (Conv.floatToFloat .f32 c .f64).run P w = .ok (.float .f64 r) (w.drewN d) ∧ (floatToFloatBits .f32 c .f64 = some r ∨ (floatToFloatBits .f32 c .f64 = none ∧ r < 18446744073709551616 ∧ ∃ s f, double.read r = .nan s f)) := by
  cases h : floatToFloatBits .f32 c .f64 with
  | some r => exact ⟨r, 0, run_floatToFloat w h, .inl rfl⟩
  | none =>
    rcases read_any1 (c := c) with ⟨s, m, k, e, hm, hk⟩ | ⟨s, e⟩ | ⟨s, f, e⟩
    · rw [wide_some e hm hk] at h
      cases h
    · unfold floatToFloatBits at h
      rw [if_neg (by decide), show FloatKind.f32.decode c = _ from e] at h
      cases h
    · refine ⟨_, 1, ?_, .inr ⟨rfl, by omega, nan_cut (w.tape w.drawn (.nanConv .f64 c))⟩⟩
      simp [Conv.floatToFloat, show FloatKind.f32.decode c = _ from e, Question.forced, Question.cut]
      rfl

theorem run_narrow (x y : Nat) (w : World) : ∃ r1 r2 d, (convert 34 46 (.complex .f64 x y)).run Try.prog w = .ok (.complex .f32 r1 r2) (w.drewN d) ∧ (∀ r, floatToFloatBits .f64 x .f32 = some r → r1 = r) ∧ (∀ r, floatToFloatBits .f64 y .f32 = some r → r2 = r) := by
  obtain ⟨r1, d1, e1, h1⟩ := conv_part (P := Try.prog) .f64 .f32 x w
  obtain ⟨r2, d2, e2, h2⟩ := conv_part (P := Try.prog) .f64 .f32 y (w.drewN d1)
  refine ⟨r1, r2, d1 + d2, ?_, h1, h2⟩
  simp [convert, run_underlying Try.underlying34, run_underlying Try.underlying46, Conv.complexToComplex, e1, e2]

theorem run_wide (x y : Nat) (w : World) : ∃ r1 r2 d, (convert 46 34 (.complex .f32 x y)).run Try.prog w = .ok (.complex .f64 r1 r2) (w.drewN d) ∧
    (floatToFloatBits .f32 x .f64 = some r1 ∨ (floatToFloatBits .f32 x .f64 = none ∧ r1 < 18446744073709551616 ∧ ∃ s f, double.read r1 = .nan s f)) ∧ (floatToFloatBits .f32 y .f64 = some r2 ∨ (floatToFloatBits .f32 y .f64 = none ∧ r2 < 18446744073709551616 ∧ ∃ s f, double.read r2 = .nan s f)) := by
  obtain ⟨r1, d1, e1, h1⟩ := conv_wide (P := Try.prog) x w
  obtain ⟨r2, d2, e2, h2⟩ := conv_wide (P := Try.prog) y (w.drewN d1)
  refine ⟨r1, r2, d1 + d2, ?_, h1, h2⟩
  simp [convert, run_underlying Try.underlying34, run_underlying Try.underlying46, Conv.complexToComplex, e1, e2]

theorem nar_part {x r w : Nat} (hx : ∀ s f, double.read x ≠ .nan s f) (h1 : ∀ r', floatToFloatBits .f64 x .f32 = some r' → r = r') (h2 : floatToFloatBits .f32 r .f64 = some w ∨ (floatToFloatBits .f32 r .f64 = none ∧ w < 18446744073709551616 ∧ ∃ s f, double.read w = .nan s f)) :
    w = x ↔ Nar x r := by
  constructor
  · intro e
    subst e
    have hw : floatToFloatBits .f32 r .f64 = some w := by
      rcases h2 with h | ⟨_, _, s, f, h⟩
      · exact h
      · exact absurd h (hx s f)
    cases hc : floatToFloatBits .f64 w .f32 with
    | none => exact absurd hw (wide_not hc)
    | some r' =>
      obtain rfl := h1 r' hc
      exact ⟨hc, hw⟩
  · rintro ⟨_, h⟩
    rcases h2 with h' | ⟨h', _⟩
    · rw [h'] at h
      exact Option.some.inj h
    · rw [h'] at h
      cases h
theorem nar_no {x : Nat} {s : Bool} {f : Nat} (h : double.read x = .nan s f) (r : Nat) : ¬ Nar x r := by
  rintro ⟨h1, _⟩
  unfold floatToFloatBits at h1
  rw [if_neg (by decide), show FloatKind.f64.decode x = _ from h] at h1
  cases h1
end Go.Proofs.Ytfklhipjccempaa
