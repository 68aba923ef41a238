/- What the caller and the child do at the group: scripts. -/
import Derived.Test.YthbghcebcahlnaaRT
import Derived.Conc.MarkLaws
import Derived.Conc.Starve
set_option linter.unusedSectionVars false
namespace Go.Proofs.Ythbghcebcahlnaa
open Go Go.Conc
variable {P : Program} {F : Array Func} [Inhabited Junk]

/-- The group's two cells. -/
def GrpAt (ty : TypeId) (Wg : Nat) (w : World) (st sm : Int) : Prop := w.heap[Wg]? = some (.cells #[.int .u64 st, .int .u32 sm] ty)
def sA (Wg : Nat) : Addr := ⟨Wg, 0, none⟩
def mA (Wg : Nat) : Addr := ⟨Wg, 1, none⟩
theorem grp_at {ty : TypeId} {Wg : Nat} {w : World} {st sm : Int} (h : GrpAt ty Wg w st sm) (d : Nat) : GrpAt ty Wg (w.at d) st sm := h
theorem grp_set0 {ty : TypeId} {Wg : Nat} {w : World} {st sm : Int} (h : GrpAt ty Wg w st sm) (x : Int) : GrpAt ty Wg (w.setCell (sA Wg) (.int .u64 x)) x sm := heap_setCell_same w Wg 0 _ _ _ h
theorem grp_set1 {ty : TypeId} {Wg : Nat} {w : World} {st sm : Int} (h : GrpAt ty Wg w st sm) (x : Int) : GrpAt ty Wg (w.setCell (mA Wg) (.int .u32 x)) st x := heap_setCell_same w Wg 1 _ _ _ h
theorem setCell_os (w : World) (a : Addr) (v : Value) : (w.setCell a v).os = w.os ∧ (w.setCell a v).output = w.output ∧ (w.setCell a v).tape = w.tape := by
  unfold World.setCell
  split <;> exact ⟨rfl, rfl, rfl⟩
theorem sib_grp {ty : TypeId} {Wg : Nat} {w v : World} {st sm : Int} (hs : Sib P (fun x => x = Wg) w v) (h : GrpAt ty Wg v st sm) (i : Nat) (x : Value) : Sib P (fun x => x = Wg) w (v.setCell ⟨Wg, i, none⟩ x) := by
  have e := heap_setCell_same v Wg i _ _ x h
  refine ⟨?_, fun r hr => ?_, fun r hr => ?_, hs.kind, hs.env⟩
  · have h1 := World.size_setCell v ⟨Wg, i, none⟩ x
    rw [h1]; exact hs.size
  · rw [heap_setCell_other _ _ _ _ (by show r ≠ Wg; exact hr)]
    exact hs.like r hr
  · subst hr
    obtain ⟨c, ty', h1, h2⟩ := hs.veil r rfl
    have h3 : v.heap[r]? = some (.cells #[.int .u64 st, .int .u32 sm] ty) := h
    rw [h2] at h3
    cases h3
    exact ⟨_, _, h1, e⟩

def rdE (a : Addr) : Event := ⟨.cell a, false, true⟩
def wrE (a : Addr) : Event := ⟨.cell a, true, true⟩
def mkE (m : Mark) : Event := ⟨.mark m, false, true⟩

/-- How far the caller has come. p: 0 not registered (k: it knows that the count is 0), 1 registered, 2 joined but not yet acquired, 3 past. d: how deaf. -/
structure CS where
  p : Nat
  k : Bool
  d : Nat

section
variable (P : Program) (ty : TypeId) (Wg : Nat) (End : Goroutine → Prop)
/-- The caller's way, within so many steps of its own: each step the same in every world that has the group's cells so. -/
def Cal : Nat → CS → Goroutine → Prop
  | 0, s, g => s.p = 3 ∧ End g
  | n + 1, s, g => (s.p = 3 ∧ End g) ∨ (g.status = .running ∧
    ((∀ w st sm, GrpAt ty Wg w st sm → ∃ g', stepG P true g w = .go g' w #[] ∧ Cal n s g') ∨
     (s.p = 0 ∧ ∃ g', (∀ w, stepG P true g w = .go g' w #[mkE .disable]) ∧ Cal n ⟨0, s.k, s.d + 1⟩ g') ∨
     (s.p = 0 ∧ ∃ g1 g2, (∀ w, GrpAt ty Wg w 0 0 → stepG P true g w = .go g2 w #[rdE (sA Wg)]) ∧ Cal n ⟨2, true, s.d⟩ g2 ∧ (s.k = false → (∀ w, GrpAt ty Wg w 4294967296 0 → stepG P true g w = .go g1 w #[rdE (sA Wg)]) ∧ Cal n ⟨0, false, s.d⟩ g1)) ∨
     (s.p = 0 ∧ ∃ g1 g2, (∀ w, GrpAt ty Wg w 0 0 → stepG P true g w = .go g2 w #[rdE (sA Wg)]) ∧ Cal n ⟨0, true, s.d⟩ g2 ∧ (s.k = false → (∀ w, GrpAt ty Wg w 4294967296 0 → stepG P true g w = .go g1 (w.setCell (sA Wg) (.int .u64 4294967297)) #[rdE (sA Wg), wrE (sA Wg)]) ∧ Cal n ⟨1, true, s.d⟩ g1)) ∨
     (s.p = 1 ∧ ∃ g', (∀ w, stepG P true g w = .go g' w #[mkE (.write (mA Wg))]) ∧ Cal n s g') ∨
     (s.p = 1 ∧ ∃ g', g.offers = none ∧ (∀ w st, GrpAt ty Wg w st 0 → stepG P true g w = .go { g with status := .blocked } w #[]) ∧ (∀ w, GrpAt ty Wg w 0 1 → stepG P true g w = .go g' (w.setCell (mA Wg) (.int .u32 0)) (semEvents (mA Wg))) ∧ Cal n ⟨2, true, s.d⟩ g') ∨
     (s.p = 2 ∧ ∃ g', (∀ w, GrpAt ty Wg w 0 0 → stepG P true g w = .go g' w #[rdE (sA Wg)]) ∧ Cal n s g') ∨
     (s.p = 2 ∧ ∃ g', (∀ w, stepG P true g w = .go g' w #[mkE .enable]) ∧ Cal n ⟨2, true, s.d - 1⟩ g') ∨
     (s.p = 2 ∧ s.d = 0 ∧ ∃ g', (∀ w, stepG P true g w = .go g' w #[mkE (.acquire (sA Wg))]) ∧ Cal n ⟨3, true, 0⟩ g')))
end
/-- Which cells the group may have where the caller stands so. -/
def Fits0 (s : CS) (st sm : Int) : Prop := (s.p = 0 ∧ sm = 0 ∧ (st = 0 ∨ (st = 4294967296 ∧ s.k = false))) ∨ (s.p = 1 ∧ (sm = 0 ∨ (st = 0 ∧ sm = 1))) ∨ (s.p = 2 ∧ st = 0 ∧ sm = 0)
/-- What becomes of both by a step of the caller's. -/
def Next0 (s : CS) (st sm : Int) (s' : CS) (st' sm' : Int) : Prop :=
  (s.p = 0 ∧ s'.p = 0 ∧ sm = 0 ∧ st' = st ∧ sm' = 0 ∧ (st = 4294967296 → s'.k = false)) ∨
  (s.p = 0 ∧ s'.p = 1 ∧ st = 4294967296 ∧ sm = 0 ∧ st' = 4294967297 ∧ sm' = 0) ∨
  (s.p = 0 ∧ s'.p = 2 ∧ st = 0 ∧ sm = 0 ∧ st' = 0 ∧ sm' = 0) ∨
  (s.p = 1 ∧ s'.p = 1 ∧ st' = st ∧ sm' = sm) ∨
  (s.p = 1 ∧ s'.p = 2 ∧ st = 0 ∧ sm = 1 ∧ st' = 0 ∧ sm' = 0) ∨
  (s.p = 2 ∧ s'.p = 2 ∧ st' = 0 ∧ sm' = 0) ∨
  (s.p = 2 ∧ s'.p = 3 ∧ s.d = 0 ∧ s'.d = 0 ∧ st' = 0 ∧ sm' = 0)
/-- It stands blocked at the semaphore, and will try again. -/
def Blk (P : Program) (ty : TypeId) (Wg : Nat) (End : Goroutine → Prop) (n : Nat) (s : CS) (a : Goroutine) : Prop := ∃ g, a = { g with status := .blocked } ∧ g.status = .running ∧ g.offers = none ∧ s.p = 1 ∧ Cal P ty Wg End n s g

/-- What the caller may list. -/
def Ev0 (Wg : Nat) (e : Event) : Prop := (∀ x, (MemAct.ofEvent e).touch? = some x → Veil (fun x => x = Wg) x.loc ∧ x.kind ≠ .plain) ∧ MemAct.ofEvent e ≠ .mark (.release (sA Wg))
theorem ev0_cell (Wg i : Nat) (wr : Bool) : Ev0 Wg ⟨.cell ⟨Wg, i, none⟩, wr, true⟩ := by
  refine ⟨fun x hx => ?_, by cases wr <;> simp [MemAct.ofEvent]⟩
  cases wr <;> simp [MemAct.ofEvent, MemAct.touch?] at hx <;> subst hx <;> exact ⟨⟨_, rfl, rfl⟩, by simp⟩
theorem ev0_mark (Wg : Nat) (m : Mark) (h : (MemAct.mark m).touch? = none) (hr : m ≠ .release (sA Wg)) : Ev0 Wg (mkE m) := by
  refine ⟨fun x hx => ?_, by simpa [mkE, MemAct.ofEvent] using hr⟩
  have : (MemAct.ofEvent (mkE m)).touch? = none := h
  rw [this] at hx
  cases hx
theorem ev0_write (Wg i : Nat) : Ev0 Wg (mkE (.write ⟨Wg, i, none⟩)) := by
  refine ⟨fun x hx => ?_, by simp [mkE, MemAct.ofEvent]⟩
  simp [mkE, MemAct.ofEvent, MemAct.touch?] at hx
  subst hx
  exact ⟨⟨_, rfl, rfl⟩, by simp⟩
theorem ev0_sem (Wg i : Nat) : ∀ e ∈ semEvents ⟨Wg, i, none⟩, Ev0 Wg e := by
  intro e he
  simp [semEvents] at he
  rcases he with rfl | rfl | rfl | rfl
  · exact ev0_mark Wg .disable rfl (by simp)
  · exact ev0_cell Wg i false
  · exact ev0_cell Wg i true
  · exact ev0_mark Wg .enable rfl (by simp)
theorem deaf_sem (d : Nat) (a : Addr) : deafBehind d (semEvents a) = d := by simp [deafBehind, semEvents]

/-- ONE STEP OF THE CALLER's. -/
theorem cal_step {ty : TypeId} {Wg : Nat} {End : Goroutine → Prop} {n : Nat} {s : CS} {g : Goroutine} (h : Cal P ty Wg End n s g) (hs : s.p ≠ 3) {w v : World} {st sm : Int} (hw : GrpAt ty Wg v st sm) (hf : Fits0 s st sm) (hS : Sib P (fun x => x = Wg) w v) :
    g.status = .running ∧ ∃ g' v' es s' st' sm', stepG P true g v = .go g' v' es ∧ ((Blk P ty Wg End n s' g' ∧ s' = s ∧ sm = 0 ∧ v' = v ∧ es = #[]) ∨ ∃ n', n' < n ∧ Cal P ty Wg End n' s' g') ∧ GrpAt ty Wg v' st' sm' ∧ Sib P (fun x => x = Wg) w v' ∧ Next0 s st sm s' st' sm' ∧ (v'.os = v.os ∧ v'.output = v.output ∧ v'.tape = v.tape) ∧
      deafBehind s.d es = s'.d ∧ (∀ e ∈ es, Ev0 Wg e) ∧ (s'.p = 3 → es = #[mkE (.acquire (sA Wg))]) := by
  cases n with
  | zero => exact absurd h.1 hs
  | succ n =>
    have hall := h
    rcases h with h | ⟨hr, h⟩
    · exact absurd h.1 hs
    refine ⟨hr, ?_⟩
    have same : v.os = v.os ∧ v.output = v.output ∧ v.tape = v.tape := ⟨rfl, rfl, rfl⟩
    have none_ : ∀ e ∈ (#[] : Array Event), Ev0 Wg e := by simp
    have one : ∀ {x : Event}, Ev0 Wg x → ∀ e ∈ #[x], Ev0 Wg e := fun hx e he => by simp at he; rw [he]; exact hx
    have stay : Next0 s st sm s st sm := by
      rcases hf with ⟨h1, h2, h3⟩ | ⟨h1, h2⟩ | ⟨h1, h2, h3⟩
      · refine .inl ⟨h1, h1, h2, rfl, h2, fun e => ?_⟩
        rcases h3 with h3 | h3
        · rw [h3] at e; cases e
        · exact h3.2
      · exact .inr (.inr (.inr (.inl ⟨h1, h1, rfl, rfl⟩)))
      · exact .inr (.inr (.inr (.inr (.inr (.inl ⟨h1, h1, h2, h3⟩)))))
    rcases h with h0 | ⟨hp, g', h1, h2⟩ | ⟨hp, g1, g2, h1, h2, h3⟩ | ⟨hp, g1, g2, h1, h2, h3⟩ | ⟨hp, g', h1, h2⟩ | ⟨hp, g', h0, h1, h2, h3⟩ | ⟨hp, g', h1, h2⟩ | ⟨hp, g', h1, h2⟩ | ⟨hp, hd, g', h1, h2⟩
    · obtain ⟨g', h1, h2⟩ := h0 v st sm hw
      exact ⟨g', v, #[], s, st, sm, h1, .inr ⟨n, Nat.lt_succ_self n, h2⟩, hw, hS, stay, same, rfl, none_, fun e => absurd e hs⟩
    · refine ⟨g', v, _, ⟨0, s.k, s.d + 1⟩, st, sm, h1 v, .inr ⟨n, Nat.lt_succ_self n, h2⟩, hw, hS, ?_, same, rfl, one (ev0_mark Wg .disable rfl (by simp)), fun e => by cases e⟩
      rcases stay with x | x | x | x | x | x | x
      · exact .inl ⟨x.1, rfl, x.2.2.1, rfl, x.2.2.1, x.2.2.2.2.2⟩
      all_goals (exfalso; have := x.1; have := x.2.1; omega)
    · rcases hf with ⟨_, f2, f3⟩ | ⟨f1, _⟩ | ⟨f1, _⟩
      · subst f2
        rcases f3 with rfl | ⟨rfl, hk⟩
        · exact ⟨g2, v, _, ⟨2, true, s.d⟩, 0, 0, h1 v hw, .inr ⟨n, Nat.lt_succ_self n, h2⟩, hw, hS, .inr (.inr (.inl ⟨hp, rfl, rfl, rfl, rfl, rfl⟩)), same, rfl, one (ev0_cell Wg 0 false), fun e => by cases e⟩
        · obtain ⟨h4, h5⟩ := h3 hk
          exact ⟨g1, v, _, ⟨0, false, s.d⟩, 4294967296, 0, h4 v hw, .inr ⟨n, Nat.lt_succ_self n, h5⟩, hw, hS, .inl ⟨hp, rfl, rfl, rfl, rfl, fun _ => rfl⟩, same, rfl, one (ev0_cell Wg 0 false), fun e => by cases e⟩
      · omega
      · omega
    · rcases hf with ⟨_, f2, f3⟩ | ⟨f1, _⟩ | ⟨f1, _⟩
      · subst f2
        rcases f3 with rfl | ⟨rfl, hk⟩
        · exact ⟨g2, v, _, ⟨0, true, s.d⟩, 0, 0, h1 v hw, .inr ⟨n, Nat.lt_succ_self n, h2⟩, hw, hS, .inl ⟨hp, rfl, rfl, rfl, rfl, fun e => by cases e⟩, same, rfl, one (ev0_cell Wg 0 false), fun e => by cases e⟩
        · obtain ⟨h4, h5⟩ := h3 hk
          refine ⟨g1, _, _, ⟨1, true, s.d⟩, 4294967297, 0, h4 v hw, .inr ⟨n, Nat.lt_succ_self n, h5⟩, grp_set0 hw _, sib_grp hS hw 0 _, .inr (.inl ⟨hp, rfl, rfl, rfl, rfl, rfl⟩), setCell_os _ _ _, rfl, fun e he => ?_, fun e => by cases e⟩
          simp at he
          rcases he with rfl | rfl
          · exact ev0_cell Wg 0 false
          · exact ev0_cell Wg 0 true
      · omega
      · omega
    · exact ⟨g', v, _, s, st, sm, h1 v, .inr ⟨n, Nat.lt_succ_self n, h2⟩, hw, hS, stay, same, rfl, one (ev0_write Wg 1), fun e => absurd e hs⟩
    · rcases hf with ⟨f1, _⟩ | ⟨_, rfl | ⟨rfl, rfl⟩⟩ | ⟨f1, _⟩
      · omega
      · exact ⟨_, v, #[], s, st, 0, h1 v st hw, .inl ⟨⟨g, rfl, hr, h0, hp, hall⟩, rfl, rfl, rfl, rfl⟩, hw, hS, stay, same, rfl, none_, fun e => absurd e hs⟩
      · exact ⟨g', _, _, ⟨2, true, s.d⟩, 0, 0, h2 v hw, .inr ⟨n, Nat.lt_succ_self n, h3⟩, grp_set1 hw _, sib_grp hS hw 1 _, .inr (.inr (.inr (.inr (.inl ⟨hp, rfl, rfl, rfl, rfl, rfl⟩)))), setCell_os _ _ _, deaf_sem _ _, ev0_sem Wg 1, fun e => by cases e⟩
      · omega
    · rcases hf with ⟨f1, _⟩ | ⟨f1, _⟩ | ⟨_, rfl, rfl⟩
      · omega
      · omega
      · exact ⟨g', v, _, s, 0, 0, h1 v hw, .inr ⟨n, Nat.lt_succ_self n, h2⟩, hw, hS, stay, same, rfl, one (ev0_cell Wg 0 false), fun e => absurd e hs⟩
    · rcases hf with ⟨f1, _⟩ | ⟨f1, _⟩ | ⟨_, rfl, rfl⟩
      · omega
      · omega
      · exact ⟨g', v, _, ⟨2, true, s.d - 1⟩, 0, 0, h1 v, .inr ⟨n, Nat.lt_succ_self n, h2⟩, hw, hS, .inr (.inr (.inr (.inr (.inr (.inl ⟨hp, rfl, rfl, rfl⟩))))), same, rfl, one (ev0_mark Wg .enable rfl (by simp)), fun e => by cases e⟩
    · rcases hf with ⟨f1, _⟩ | ⟨f1, _⟩ | ⟨_, rfl, rfl⟩
      · omega
      · omega
      · exact ⟨g', v, _, ⟨3, true, 0⟩, 0, 0, h1 v, .inr ⟨n, Nat.lt_succ_self n, h2⟩, hw, hS, .inr (.inr (.inr (.inr (.inr (.inr ⟨hp, rfl, hd, rfl, rfl, rfl⟩))))), same, by rw [hd]; rfl, one (ev0_mark Wg (.acquire (sA Wg)) rfl (by simp)), fun _ => rfl⟩
end Go.Proofs.Ythbghcebcahlnaa
