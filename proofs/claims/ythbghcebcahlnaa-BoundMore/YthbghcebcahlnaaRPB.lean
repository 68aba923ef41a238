/- Bounds drawn together: lines, sweeps, and what is left. -/
import Derived.Test.YthbghcebcahlnaaRPA
namespace Go.Proofs.Ythbghcebcahlnaa
open Go.RowKit

/-- One is within the other, about the grid; nothing that any line allows is lost. -/
structure Drawn (M : Nat) (g : Nat → Int) (lines : List (List Nat × Int)) (lo hi lo' hi' : Nat → Int) : Prop where
  abt : Abt M g lo' hi'
  ins : Within M lo' hi' lo hi
  most : ∀ l h, Stable lines l h → Within M l h lo hi → Within M l h lo' hi'
theorem Drawn.refl {M : Nat} {g : Nat → Int} {lines : List (List Nat × Int)} {lo hi : Nat → Int} (h : Abt M g lo hi) : Drawn M g lines lo hi lo hi := ⟨h, fun _ _ => ⟨Int.le_refl _, Int.le_refl _⟩, fun _ _ _ hw => hw⟩
theorem Drawn.trans {M : Nat} {g : Nat → Int} {lines : List (List Nat × Int)} {lo hi lo1 hi1 lo2 hi2 : Nat → Int} (h : Drawn M g lines lo hi lo1 hi1) (k : Drawn M g lines lo1 hi1 lo2 hi2) : Drawn M g lines lo hi lo2 hi2 :=
  ⟨k.abt, fun i hi => by have h1 := h.ins i hi; have h2 := k.ins i hi; omega, fun l h' hs hw => k.most l h' hs (h.most l h' hs hw)⟩
/-- All lines are the grid's own. -/
def Owns (M : Nat) (g : Nat → Int) (lines : List (List Nat × Int)) : Prop := ∀ L, L ∈ lines → Own M g L
theorem Owns.ok {M : Nat} {g : Nat → Int} {lines : List (List Nat × Int)} (h : Owns M g lines) : LinesOk M lines := fun L hL => ⟨(h L hL).nd, (h L hL).ins⟩
/-- The line is allowed as it stands. -/
def Fine1 (L : List Nat × Int) (lo hi : Nat → Int) (c : Nat) : Prop := lowAt L hi c ≤ lo c ∧ hi c ≤ lowAt L lo c
theorem dK_own {M : Nat} {g : Nat → Int} {lines : List (List Nat × Int)} (hO : Owns M g lines) {L : List Nat × Int} (hL : L ∈ lines) {lo hi : Nat → Int} (hA : Abt M g lo hi) : ∀ k, k ≤ L.1.length →
    ∃ d, dK L.2 L.1 ⟨sumK lo L.1 L.1.length, sumK hi L.1 L.1.length, false, lo, hi⟩ k = some d ∧ d.least = sumL d.lo L.1 ∧ d.most = sumL d.hi L.1 ∧ Drawn M g lines lo hi d.lo d.hi ∧ (d.ch = false → d.lo = lo ∧ d.hi = hi ∧ ∀ j, j < k → Fine1 L lo hi (L.1.getD j 0))
  | 0, _ => by
    have hn := (hO L hL).len
    have hi' := (hO L hL).ins
    refine ⟨_, rfl, sumK_all (by omega) fun c hc => ?_, sumK_all (by omega) fun c hc => ?_, Drawn.refl hA, fun _ => ⟨rfl, rfl, fun j hj => by omega⟩⟩
    · have := hA c (hi' c hc); omega
    · have := hA c (hi' c hc); omega
  | k + 1, hk => by
    obtain ⟨s, hs, h1, h2, hD, hf⟩ := dK_own hO hL hA k (by omega)
    have hp := getD_mem (show k < L.1.length by omega)
    obtain ⟨d, hd, e1, e2, q1, q2, hA2, hc⟩ := dStep_own (hO L hL) hp hD.abt h1 h2
    refine ⟨d, ?_, q1, q2, hD.trans ⟨hA2, fun i hi => ?_, fun l h hst hw => ?_⟩, fun hch => ?_⟩
    · show (dK _ _ _ k).bind _ = _
      rw [hs]
      exact hd
    · rw [e1, e2]
      unfold setI
      split
      · next e => rw [e]; omega
      · exact ⟨Int.le_refl _, Int.le_refl _⟩
    · rw [e1, e2]
      exact step_within hO.ok hL hp hst hw
    · obtain ⟨c1, c2, c3, c4, c5⟩ := hc hch
      obtain ⟨f1, f2, f3⟩ := hf c1
      refine ⟨c2.trans f1, c3.trans f2, fun j hj => ?_⟩
      by_cases e : j = k
      · subst e
        rw [f1, f2] at c4 c5
        exact ⟨c4, c5⟩
      · exact f3 j (by omega)
/-- One line. -/
theorem draw_own {M : Nat} {g : Nat → Int} {lines : List (List Nat × Int)} (hO : Owns M g lines) {L : List Nat × Int} (hL : L ∈ lines) {lo hi : Nat → Int} (hA : Abt M g lo hi) :
    ∃ d, drawS L.1 L.2 lo hi = some d ∧ Drawn M g lines lo hi d.lo d.hi ∧ (d.ch = false → d.lo = lo ∧ d.hi = hi ∧ ∀ c, c ∈ L.1 → Fine1 L lo hi c) := by
  obtain ⟨d, hd, _, _, hD, hf⟩ := dK_own hO hL hA _ (Nat.le_refl _)
  refine ⟨d, hd, hD, fun hc => ?_⟩
  obtain ⟨f1, f2, f3⟩ := hf hc
  refine ⟨f1, f2, fun c hc => ?_⟩
  obtain ⟨j, hj, rfl⟩ := List.getElem_of_mem hc
  have := f3 j hj
  rwa [List.getD_eq_getElem?_getD, List.getElem?_eq_getElem hj] at this
/-- One sweep. -/
theorem sweep_own {M : Nat} {g : Nat → Int} {lines : List (List Nat × Int)} (hO : Owns M g lines) {lo hi : Nat → Int} (hA : Abt M g lo hi) : ∀ k, k ≤ lines.length →
    ∃ s, swKp lines ⟨false, lo, hi⟩ k = some s ∧ Drawn M g lines lo hi s.lo s.hi ∧ (s.ch = false → s.lo = lo ∧ s.hi = hi ∧ ∀ j, j < k → ∀ c, c ∈ (lines.getD j ([], 0)).1 → Fine1 (lines.getD j ([], 0)) lo hi c)
  | 0, _ => ⟨_, rfl, Drawn.refl hA, fun _ => ⟨rfl, rfl, fun j hj => by omega⟩⟩
  | k + 1, hk => by
    obtain ⟨s, hs, hD, hf⟩ := sweep_own hO hA k (by omega)
    have hm : lines.getD k ([], 0) ∈ lines := by
      rw [List.getD_eq_getElem?_getD, List.getElem?_eq_getElem (by omega)]
      exact List.getElem_mem _
    obtain ⟨d, hd, hD2, hf2⟩ := draw_own hO hm hD.abt
    refine ⟨⟨s.ch || d.ch, d.lo, d.hi⟩, ?_, hD.trans hD2, fun hc => ?_⟩
    · show (swKp _ _ k).bind _ = _
      rw [hs]
      show swStepP _ s = _
      unfold swStepP
      rw [hd]
      rfl
    · have hc : (s.ch || d.ch) = false := hc
      rw [Bool.or_eq_false_iff] at hc
      obtain ⟨f1, f2, f3⟩ := hf hc.1
      obtain ⟨k1, k2, k3⟩ := hf2 hc.2
      refine ⟨k1.trans f1, k2.trans f2, fun j hj => ?_⟩
      by_cases e : j = k
      · subst e
        rw [f1, f2] at k3
        exact k3
      · exact f3 j (by omega)
/-- The states, sweep by sweep. -/
def stK (lines : List (List Nat × Int)) (lo hi : Nat → Int) : Nat → SS
  | 0 => ⟨true, lo, hi⟩
  | t + 1 => (swKp lines ⟨false, (stK lines lo hi t).lo, (stK lines lo hi t).hi⟩ lines.length).getD ⟨true, lo, hi⟩
theorem stK_own {M : Nat} {g : Nat → Int} {lines : List (List Nat × Int)} (hO : Owns M g lines) {lo hi : Nat → Int} (hA : Abt M g lo hi) : ∀ t, Drawn M g lines lo hi (stK lines lo hi t).lo (stK lines lo hi t).hi
  | 0 => Drawn.refl hA
  | t + 1 => by
    have ih := stK_own hO hA t
    obtain ⟨s, hs, hD, _⟩ := sweep_own hO ih.abt _ (Nat.le_refl _)
    unfold stK
    rw [hs]
    exact ih.trans hD
theorem stK_step {M : Nat} {g : Nat → Int} {lines : List (List Nat × Int)} (hO : Owns M g lines) {lo hi : Nat → Int} (hA : Abt M g lo hi) (t : Nat) : swKp lines ⟨false, (stK lines lo hi t).lo, (stK lines lo hi t).hi⟩ lines.length = some (stK lines lo hi (t + 1)) ∧
    ((stK lines lo hi (t + 1)).ch = false → Stable lines (stK lines lo hi (t + 1)).lo (stK lines lo hi (t + 1)).hi) := by
  obtain ⟨s, hs, hD, hf⟩ := sweep_own hO (stK_own hO hA t).abt _ (Nat.le_refl _)
  have e : stK lines lo hi (t + 1) = s := by
    show (swKp _ _ _).getD _ = s
    rw [hs]
    rfl
  rw [e]
  refine ⟨hs, fun hc => ?_⟩
  obtain ⟨f1, f2, f3⟩ := hf hc
  rw [f1, f2]
  refine stable_of fun L hL c hc => ?_
  obtain ⟨j, hj, rfl⟩ := List.getElem_of_mem hL
  have := f3 j hj
  rw [List.getD_eq_getElem?_getD, List.getElem?_eq_getElem hj] at this
  exact this c hc
/-- ████ The sweeps of a grid's own lines: they settle at the widest bounds that every line allows, or they are too few. ████ -/
theorem sweeps_own {M : Nat} {g : Nat → Int} {lines : List (List Nat × Int)} (hO : Owns M g lines) {lo hi : Nat → Int} (hA : Abt M g lo hi) :
    (∃ T, T ≤ 511 ∧ States lines T (stK lines lo hi) ∧ Great M lines lo hi (stK lines lo hi (T + 1)).lo (stK lines lo hi (T + 1)).hi ∧ Abt M g (stK lines lo hi (T + 1)).lo (stK lines lo hi (T + 1)).hi) ∨ StatesF lines (stK lines lo hi) := by
  have key : ∀ n, (∃ T, T < n ∧ (∀ t, t < T → (stK lines lo hi (t + 1)).ch = true) ∧ (stK lines lo hi (T + 1)).ch = false) ∨ ∀ t, t < n → (stK lines lo hi (t + 1)).ch = true := by
    intro n
    induction n with
    | zero => exact .inr fun t ht => by omega
    | succ n ih =>
      rcases ih with ⟨T, h1, h2, h3⟩ | h
      · exact .inl ⟨T, by omega, h2, h3⟩
      · cases e : (stK lines lo hi (n + 1)).ch with
        | false => exact .inl ⟨n, by omega, h, e⟩
        | true =>
          refine .inr fun t ht => ?_
          by_cases et : t = n
          · rw [et]; exact e
          · exact h t (by omega)
  rcases key 512 with ⟨T, h1, h2, h3⟩ | h
  · have hD := stK_own hO hA (T + 1)
    exact .inl ⟨T, by omega, ⟨fun t _ => (stK_step hO hA t).1, h2, h3⟩, ⟨(stK_step hO hA T).2 h3, hD.ins, hD.most⟩, hD.abt⟩
  · exact .inr ⟨fun t _ => (stK_step hO hA t).1, h⟩
end Go.Proofs.Ythbghcebcahlnaa
