/- What the child does at the group. -/
import Derived.Test.YthbghcebcahlnaaRU
set_option linter.unusedSectionVars false
namespace Go.Proofs.Ythbghcebcahlnaa
open Go Go.Conc
variable {P : Program} {F : Array Func} [Inhabited Junk]

/-- How far the child has come. p: 0 ahead of its release, 1 released, 2 it has met a waiter (the count stands at 1), 3 the count stands at 0. d: how deaf. -/
structure KS where
  p : Nat
  d : Nat
section
variable (P : Program) (ty : TypeId) (Wg : Nat)
/-- The child's way to where it only leaves. -/
def Chi : Nat → KS → Goroutine → Prop
  | 0, _, _ => False
  | n + 1, s, g => g.status = .running ∧
    ((∀ w st sm, GrpAt ty Wg w st sm → ∃ g', stepG P false g w = .go g' w #[] ∧ Chi n s g') ∨
     (s.p = 0 ∧ s.d = 0 ∧ ∃ g', (∀ w, stepG P false g w = .go g' w #[mkE (.releaseMerge (sA Wg))]) ∧ Chi n ⟨1, 0⟩ g') ∨
     (s.p = 1 ∧ ∃ g', (∀ w, stepG P false g w = .go g' w #[mkE .disable]) ∧ Chi n ⟨1, s.d + 1⟩ g') ∨
     (s.p = 1 ∧ 0 < s.d ∧ ∃ g1 g2, (∀ w, GrpAt ty Wg w 4294967296 0 → stepG P false g w = .go g1 (w.setCell (sA Wg) (.int .u64 0)) #[rdE (sA Wg), wrE (sA Wg)]) ∧ (∃ q, QuitsD P q s.d g1) ∧ (∀ w, GrpAt ty Wg w 4294967297 0 → stepG P false g w = .go g2 (w.setCell (sA Wg) (.int .u64 1)) #[rdE (sA Wg), wrE (sA Wg)]) ∧ Chi n ⟨2, s.d⟩ g2) ∨
     (s.p = 2 ∧ 0 < s.d ∧ ∃ g', (∀ w, GrpAt ty Wg w 1 0 → stepG P false g w = .go g' w #[rdE (sA Wg)]) ∧ Chi n s g') ∨
     (s.p = 2 ∧ 0 < s.d ∧ ∃ g', (∀ w, GrpAt ty Wg w 1 0 → stepG P false g w = .go g' (w.setCell (sA Wg) (.int .u64 0)) #[wrE (sA Wg)]) ∧ Chi n ⟨3, s.d⟩ g') ∨
     (s.p = 3 ∧ 0 < s.d ∧ mayWake P g = true ∧ ∃ g', (∀ w, GrpAt ty Wg w 0 0 → stepG P false g w = .go g' (w.setCell (mA Wg) (.int .u32 1)) (semEvents (mA Wg))) ∧ g'.status = .running ∧ ∃ q, QuitsD P q s.d g'))
end
/-- Which cells the group has where the child stands so; does the caller wait? -/
def Fits1 (s : KS) (c : CS) (st sm : Int) : Prop := sm = 0 ∧ ((s.p ≤ 1 ∧ ((st = 4294967296 ∧ c.p = 0 ∧ c.k = false) ∨ (st = 4294967297 ∧ c.p = 1))) ∨ (s.p = 2 ∧ st = 1 ∧ c.p = 1) ∨ (s.p = 3 ∧ st = 0 ∧ c.p = 1))
/-- What the child may list behind its release. -/
def Ev1 (Wg : Nat) (d : Nat) (es : Array Event) : Prop := ∀ j e, es[j]? = some e → MemAct.ofEvent e ≠ .mark (.release (sA Wg)) ∧ ((MemAct.ofEvent e).touch? = none ∨ ((∃ a wr, e = ⟨.cell a, wr, true⟩ ∧ a.block = Wg) ∧ 0 < deafBehind d (es.extract 0 j)))
theorem ev1_nil (Wg d : Nat) : Ev1 Wg d #[] := fun j e h => by simp at h
theorem ev1_mark (Wg d : Nat) (m : Mark) (h : (MemAct.mark m).touch? = none) (hr : m ≠ .release (sA Wg)) : Ev1 Wg d #[mkE m] := fun j e he => by
  have : e = mkE m := by
    have := Array.mem_iff_getElem?.2 ⟨j, he⟩
    simpa using this
  rw [this]
  exact ⟨by simpa [mkE, MemAct.ofEvent] using hr, .inl h⟩
theorem not_rel (Wg : Nat) (a : Addr) (wr : Bool) : MemAct.ofEvent ⟨.cell a, wr, true⟩ ≠ .mark (.release (sA Wg)) := by cases wr <;> simp [MemAct.ofEvent]
theorem ev1_one (Wg d i : Nat) (wr : Bool) (hd : 0 < d) : Ev1 Wg d #[⟨.cell ⟨Wg, i, none⟩, wr, true⟩] := fun j e he => by
  obtain ⟨hj, hx⟩ := Array.getElem?_eq_some_iff.1 he
  have hj : j < 1 := by simpa using hj
  obtain rfl : j = 0 := by omega
  have : e = ⟨.cell ⟨Wg, i, none⟩, wr, true⟩ := by simpa using hx.symm
  exact ⟨by rw [this]; exact not_rel _ _ _, .inr ⟨⟨_, _, this, rfl⟩, by simpa [deafBehind] using hd⟩⟩
theorem ev1_two (Wg d i : Nat) (a b : Bool) (hd : 0 < d) : Ev1 Wg d #[⟨.cell ⟨Wg, i, none⟩, a, true⟩, ⟨.cell ⟨Wg, i, none⟩, b, true⟩] := fun j e he => by
  obtain ⟨hj, hx⟩ := Array.getElem?_eq_some_iff.1 he
  have hj : j < 2 := by simpa using hj
  match j, hj with
  | 0, _ =>
    have h0 : e = ⟨.cell ⟨Wg, i, none⟩, a, true⟩ := by simpa using hx.symm
    exact ⟨by rw [h0]; exact not_rel _ _ _, .inr ⟨⟨_, _, h0, rfl⟩, by simpa [deafBehind] using hd⟩⟩
  | 1, _ =>
    have h0 : e = ⟨.cell ⟨Wg, i, none⟩, b, true⟩ := by simpa using hx.symm
    exact ⟨by rw [h0]; exact not_rel _ _ _, .inr ⟨⟨_, _, h0, rfl⟩, by simpa [deafBehind] using hd⟩⟩
theorem ev1_sem (Wg d i : Nat) : Ev1 Wg d (semEvents ⟨Wg, i, none⟩) := fun j e he => by
  unfold semEvents at *
  obtain ⟨hj, hx⟩ := Array.getElem?_eq_some_iff.1 he
  have hj : j < 4 := by simpa using hj
  match j, hj with
  | 0, _ =>
    have h0 : e = ⟨.mark .disable, false, true⟩ := by simpa using hx.symm
    rw [h0]
    exact ⟨by simp [MemAct.ofEvent], .inl rfl⟩
  | 1, _ =>
    have h0 : e = ⟨.cell ⟨Wg, i, none⟩, false, true⟩ := by simpa using hx.symm
    exact ⟨by rw [h0]; exact not_rel _ _ _, .inr ⟨⟨_, _, h0, rfl⟩, by simp [deafBehind]⟩⟩
  | 2, _ =>
    have h0 : e = ⟨.cell ⟨Wg, i, none⟩, true, true⟩ := by simpa using hx.symm
    exact ⟨by rw [h0]; exact not_rel _ _ _, .inr ⟨⟨_, _, h0, rfl⟩, by simp [deafBehind]⟩⟩
  | 3, _ =>
    have h0 : e = ⟨.mark .enable, false, true⟩ := by simpa using hx.symm
    rw [h0]
    exact ⟨by simp [MemAct.ofEvent], .inl rfl⟩

/-- ONE STEP OF THE CHILD's. -/
theorem chi_step {ty : TypeId} {Wg : Nat} {n : Nat} {s : KS} {c : CS} {g : Goroutine} (h : Chi P ty Wg n s g) {w v : World} {st sm : Int} (hw : GrpAt ty Wg v st sm) (hf : Fits1 s c st sm) (hS : Sib P (fun x => x = Wg) w v) :
    g.status = .running ∧ ∃ g' v' es st' sm', stepG P false g v = .go g' v' es ∧ GrpAt ty Wg v' st' sm' ∧ Sib P (fun x => x = Wg) w v' ∧ (v'.os = v.os ∧ v'.output = v.output ∧ v'.tape = v.tape) ∧
      ((∃ n' s', n' < n ∧ Chi P ty Wg n' s' g' ∧ Fits1 s' c st' sm' ∧ deafBehind s.d es = s'.d ∧ ((s.p = 0 ∧ s'.p = 0 ∧ es = #[]) ∨ (s.p = 0 ∧ s.d = 0 ∧ s'.p = 1 ∧ es = #[mkE (.releaseMerge (sA Wg))]) ∨ (1 ≤ s.p ∧ 1 ≤ s'.p ∧ Ev1 Wg s.d es))) ∨
       (1 ≤ s.p ∧ (∃ q, QuitsD P q (deafBehind s.d es) g') ∧ Ev1 Wg s.d es ∧ ((st' = 0 ∧ sm' = 0 ∧ c.p = 0) ∨ (st' = 0 ∧ sm' = 1 ∧ c.p = 1 ∧ mayWake P g = true ∧ g'.status = .running)))) := by
  cases n with
  | zero => exact h.elim
  | succ n =>
    obtain ⟨hr, h⟩ := h
    refine ⟨hr, ?_⟩
    have same : v.os = v.os ∧ v.output = v.output ∧ v.tape = v.tape := ⟨rfl, rfl, rfl⟩
    rcases h with h0 | ⟨hp, hd, g', h1, h2⟩ | ⟨hp, g', h1, h2⟩ | ⟨hp, hd, g1, g2, h1, h2, h3, h4⟩ | ⟨hp, hd, g', h1, h2⟩ | ⟨hp, hd, g', h1, h2⟩ | ⟨hp, hd, hmw, g', h1, h2, h3⟩
    · obtain ⟨g', h1, h2⟩ := h0 v st sm hw
      refine ⟨g', v, #[], st, sm, h1, hw, hS, same, .inl ⟨n, s, Nat.lt_succ_self n, h2, hf, rfl, ?_⟩⟩
      rcases Nat.eq_zero_or_pos s.p with e | e
      · exact .inl ⟨e, e, rfl⟩
      · exact .inr (.inr ⟨e, e, ev1_nil _ _⟩)
    · refine ⟨g', v, _, st, sm, h1 v, hw, hS, same, .inl ⟨n, ⟨1, 0⟩, Nat.lt_succ_self n, h2, ⟨hf.1, ?_⟩, by rw [hd]; rfl, .inr (.inl ⟨hp, hd, rfl, rfl⟩)⟩⟩
      rcases hf.2 with ⟨_, x⟩ | ⟨x, _⟩ | ⟨x, _⟩
      · exact .inl ⟨Nat.le_refl _, x⟩
      · omega
      · omega
    · refine ⟨g', v, _, st, sm, h1 v, hw, hS, same, .inl ⟨n, ⟨1, s.d + 1⟩, Nat.lt_succ_self n, h2, ⟨hf.1, ?_⟩, rfl, .inr (.inr ⟨by omega, Nat.le_refl _, ev1_mark _ _ _ rfl (by simp)⟩)⟩⟩
      rcases hf.2 with ⟨_, x⟩ | ⟨x, _⟩ | ⟨x, _⟩
      · exact .inl ⟨Nat.le_refl _, x⟩
      · omega
      · omega
    · obtain ⟨rfl, ⟨_, ⟨rfl, c1, c2⟩ | ⟨rfl, c1⟩⟩ | ⟨x, _⟩ | ⟨x, _⟩⟩ := hf
      · exact ⟨g1, _, _, 0, 0, h1 v hw, grp_set0 hw _, sib_grp hS hw 0 _, setCell_os _ _ _, .inr ⟨by omega, h2, ev1_two _ _ 0 false true hd, .inl ⟨rfl, rfl, c1⟩⟩⟩
      · exact ⟨g2, _, _, 1, 0, h3 v hw, grp_set0 hw _, sib_grp hS hw 0 _, setCell_os _ _ _, .inl ⟨n, ⟨2, s.d⟩, Nat.lt_succ_self n, h4, ⟨rfl, .inr (.inl ⟨rfl, rfl, c1⟩)⟩, rfl, .inr (.inr ⟨by omega, by show 1 ≤ 2; decide, ev1_two _ _ 0 false true hd⟩)⟩⟩
      · omega
      · omega
    · obtain ⟨rfl, ⟨x, _⟩ | ⟨_, rfl, c1⟩ | ⟨x, _⟩⟩ := hf
      · omega
      · exact ⟨g', v, _, 1, 0, h1 v hw, hw, hS, same, .inl ⟨n, s, Nat.lt_succ_self n, h2, ⟨rfl, .inr (.inl ⟨hp, rfl, c1⟩)⟩, rfl, .inr (.inr ⟨by omega, by omega, ev1_one _ _ 0 false hd⟩)⟩⟩
      · omega
    · obtain ⟨rfl, ⟨x, _⟩ | ⟨_, rfl, c1⟩ | ⟨x, _⟩⟩ := hf
      · omega
      · exact ⟨g', _, _, 0, 0, h1 v hw, grp_set0 hw _, sib_grp hS hw 0 _, setCell_os _ _ _, .inl ⟨n, ⟨3, s.d⟩, Nat.lt_succ_self n, h2, ⟨rfl, .inr (.inr ⟨rfl, rfl, c1⟩)⟩, rfl, .inr (.inr ⟨by omega, by show 1 ≤ 3; decide, ev1_one _ _ 0 true hd⟩)⟩⟩
      · omega
    · obtain ⟨rfl, ⟨x, _⟩ | ⟨x, _⟩ | ⟨_, rfl, c1⟩⟩ := hf
      · omega
      · omega
      · exact ⟨g', _, _, 0, 1, h1 v hw, grp_set1 hw _, sib_grp hS hw 1 _, setCell_os _ _ _, .inr ⟨by omega, by rw [deaf_sem]; exact h3, ev1_sem _ _ 1, .inr ⟨rfl, rfl, c1, hmw, h2⟩⟩⟩
end Go.Proofs.Ythbghcebcahlnaa
