/- The trace of a fork and a join in which the child touches whatever is not the group's. What the caller and the child do at the group: scripts. What the child does at the group. -/
import Derived.Test.YtfnbcpeipoobkaaGreatM8
import Derived.Conc.JoinBase
import Derived.Conc.MarkLaws
import Derived.Conc.Starve
set_option linter.unusedSectionVars false
namespace Go.Proofs.YtfnbcpeipoobkaaGreat
open Go Go.Conc

section
variable (V : Nat → Prop) (ad : Addr)
/-- What holds of the trace between the go statement and the caller's acquire. -/
structure TI (t : Trace) : Prop where
  nr : ∀ said, ¬ Race said t
  k1 : ∀ i a, touchAt t i = some a → a.loc.isMemory = true → ¬ Veil V a.loc → Knows t 1 i
  k0 : ∀ i a, touchAt t i = some a → a.loc.isMemory = true → Knows t 0 i ∨ Veil V a.loc ∨ t.g? i = some 1
  quiet : Quiet (Veil V) t
  norel : NoRelease ad t
/-- What the two may do: the group's cells not plainly, the word on them the caller's; all else the child's. -/
def OpOk (g : Nat) (op : MemOp) : Prop := op.g = g ∧ (∀ x, op.act.touch? = some x → (Veil V x.loc ∧ x.kind ≠ .plain ∧ (x.kind = .said → g = 0)) ∨ (¬ Veil V x.loc ∧ g = 1)) ∧ op.act ≠ .mark (.release ad)
end
section
variable {V : Nat → Prop} {ad : Addr} {t u : Trace} {g : Nat}
theorem g_new {i : Nat} {op : MemOp} (h : (t ++ u)[i]? = some op) : (t ++ u).g? i = some op.g := by simp [Trace.g?, h]
theorem TI.app (h : TI V ad t) (hg : g = 0 ∨ g = 1) (hu : ∀ op ∈ u, OpOk V ad g op) : TI V ad (t ++ u) := by
  refine ⟨fun said => noRace_append (h.nr said) (fun op hop => (hu op hop).1) fun i a ha op hop b hb hc => ?_, fun i a ha hm hv => ?_, fun i a ha hm => ?_, ?_, ?_⟩
  · rcases (hu op hop).2.1 b hb with ⟨k1, k2, k3⟩ | ⟨k1, rfl⟩
    · exact h.quiet.known k1 k2 k3 i a ha hc
    · exact h.k1 i a ha hc.2.1 (by rw [hc.1]; exact k1)
  · obtain ⟨x, hx, hxa⟩ := touch_of ha
    rcases getElem?_append_cases hx with ⟨_, hx'⟩ | ⟨_, hxu⟩
    · exact (h.k1 i a (by rw [touchAt_of hx']; exact hxa) hm hv).app u
    · rcases (hu x hxu).2.1 a hxa with ⟨k1, _⟩ | ⟨_, rfl⟩
      · exact absurd k1 hv
      · have := knows_own hx
        rwa [(hu x hxu).1] at this
  · obtain ⟨x, hx, hxa⟩ := touch_of ha
    rcases getElem?_append_cases hx with ⟨hi, hx'⟩ | ⟨_, hxu⟩
    · rcases h.k0 i a (by rw [touchAt_of hx']; exact hxa) hm with k | k | k
      · exact .inl (k.app u)
      · exact .inr (.inl k)
      · exact .inr (.inr (by rw [g?_old hi]; exact k))
    · rcases hg with rfl | rfl
      · have := knows_own hx
        rw [(hu x hxu).1] at this
        exact .inl this
      · exact .inr (.inr (by rw [g_new hx, (hu x hxu).1]))
  · refine h.quiet.app fun op hop x hx hs => ?_
    rcases (hu op hop).2.1 x hx with ⟨_, k2, k3⟩ | ⟨k1, _⟩
    · exact ⟨k2, fun e => (hu op hop).1.trans (k3 e)⟩
    · exact absurd hs k1
  · exact h.norel.app fun op hop => (hu op hop).2.2

/-- THE CHILD HAS SAID ITS RELEASE. -/
structure Rel (V : Nat → Prop) (ad : Addr) (t : Trace) (r : Nat) : Prop where
  rel : Released ad t r
  late : ∀ i a, touchAt t i = some a → t.g? i = some 1 → ¬ Veil V a.loc → i ≤ r
theorem Rel.app0 {r : Nat} (h : Rel V ad t r) (hu : ∀ op ∈ u, op.g = 0) : Rel V ad (t ++ u) r := by
  refine ⟨h.rel.app0 hu, fun i a ha hg hv => ?_⟩
  obtain ⟨x, hx, hxa⟩ := touch_of ha
  rcases getElem?_append_cases hx with ⟨hi, hx'⟩ | ⟨_, hxu⟩
  · exact h.late i a (by rw [touchAt_of hx']; exact hxa) (by rw [← g?_old (u := u) hi]; exact hg) hv
  · rw [g_new hx, hu x hxu] at hg
    cases hg
/-- The child's step behind its release: it names no place, or touches the group's atomically, deaf. -/
theorem Rel.app1 {r : Nat} (h : Rel V ad t r) (fn : FuncId) (pos : String) (es : Array Event)
    (hes : ∀ j e, es[j]? = some e → (MemAct.ofEvent e).touch? = none ∨ ((∃ a wr, e = ⟨.cell a, wr, true⟩ ∧ V a.block) ∧ 0 < deafBehind (Deaf t 1) (es.extract 0 j))) : Rel V ad (t ++ MemOp.ofEvents 1 fn pos es) r := by
  refine ⟨h.rel.app1 fn pos es fun j e he => (hes j e he).imp id fun ⟨⟨a, wr, e1, _⟩, h2⟩ => ⟨⟨a, wr, e1⟩, h2⟩, fun i a ha hg hv => ?_⟩
  obtain ⟨x, hx, hxa⟩ := touch_of ha
  rcases getElem?_append_cases hx with ⟨hi, hx'⟩ | ⟨_, hxu⟩
  · exact h.late i a (by rw [touchAt_of hx']; exact hxa) (by rw [← g?_old hi]; exact hg) hv
  · obtain ⟨e, he, rfl⟩ := Go.Conc.mem_ofEvents hxu
    obtain ⟨j, hj⟩ := Array.mem_iff_getElem?.1 he
    rcases hes j e hj with h0 | ⟨⟨a', wr, rfl, hV⟩, _⟩
    · have hxa : (MemAct.ofEvent e).touch? = some a := hxa
      rw [h0] at hxa
      cases hxa
    · exfalso
      refine hv ⟨a', ?_, hV⟩
      have hxa : (MemAct.ofEvent ⟨.cell a', wr, true⟩).touch? = some a := hxa
      cases wr <;> simp [MemAct.ofEvent, MemAct.touch?] at hxa <;> rw [← hxa]
/-- The release itself. -/
theorem Rel.new (hd : Deaf t 1 = 0) (fn : FuncId) (pos : String) : Rel V ad (t ++ MemOp.ofEvents 1 fn pos #[⟨.mark (.releaseMerge ad), false, true⟩]) t.size := by
  have e1 : MemOp.ofEvents 1 fn pos #[⟨.mark (.releaseMerge ad), false, true⟩] = #[{ g := 1, fn, pos, act := .mark (.releaseMerge ad) }] := by rw [ofEvents_eq]; simp [MemAct.ofEvent]
  rw [e1]
  have hy : (t ++ #[({ g := 1, fn, pos, act := .mark (.releaseMerge ad) } : MemOp)])[t.size]? = some { g := 1, fn, pos, act := .mark (.releaseMerge ad) } := by simp
  refine ⟨⟨by rw [act?_of hy], by simp [Trace.g?], ⟨1, by simp [Trace.g?], by rw [deaf_old (Nat.le_refl _)]; exact hd⟩, fun i hi hg => ?_⟩, fun i a ha hg hv => ?_⟩
  · obtain ⟨op, ho, _⟩ := Option.map_eq_some_iff.1 hg
    have := lt_size_of_getElem? ho
    simp at this
    omega
  · obtain ⟨op, ho, _⟩ := Option.map_eq_some_iff.1 hg
    have := lt_size_of_getElem? ho
    simp at this
    omega

theorem bound_act (x : MemAct) : ∃ B, x.low B := by
  cases x with
  | access e =>
    obtain ⟨loc, wr, sy⟩ := e
    cases loc with
    | cell a => exact ⟨a.block + 1, Nat.lt_succ_self _⟩
    | obj r => exact ⟨r + 1, Nat.lt_succ_self _⟩
    | _ => exact ⟨0, trivial⟩
  | mark m => cases m <;> first | exact ⟨0, trivial⟩ | exact ⟨_, Nat.lt_succ_self _⟩
  | go _ => exact ⟨0, trivial⟩
  | start => exact ⟨0, trivial⟩
  | _ => exact ⟨_, Nat.lt_succ_self _⟩
theorem bound_trace (l : List MemOp) : ∃ B, ∀ op ∈ l, op.act.low B := by
  induction l with
  | nil => exact ⟨0, by simp⟩
  | cons x l ih =>
    obtain ⟨B, h⟩ := ih
    obtain ⟨B', h'⟩ := bound_act x.act
    refine ⟨max B B', fun op hop => ?_⟩
    rcases List.mem_cons.1 hop with rfl | hop
    · exact MemAct.low_mono (Nat.le_max_right _ _) h'
    · exact MemAct.low_mono (Nat.le_max_left _ _) (h op hop)

/-- ████ BEHIND THE CALLER's ACQUIRE: ALL IS HANDED OVER. ████ -/
theorem TI.past (h : TI V ad t) {r q : Nat} (hr : Rel V ad t r) (hq : t.act? q = some (.mark (.acquire ad))) (hg : t.g? q = some 0) (hh : t.heard q) (hrq : r < q) (hd : Deaf t 0 = 0) (htwo : ∀ i g, t.g? i = some g → g = 0 ∨ g = 1) : ∃ B, Past (Veil V) B t := by
  obtain ⟨B, hB⟩ := bound_trace t.toList
  have edge : HappensBefore t r q := .single (.inr ⟨.marked hrq (.inr hr.rel.act) hq (fun k _ _ => h.norel k), hr.rel.heard, hh⟩)
  have upto : ∀ i, t.g? i = some 1 → i ≤ r → i = r ∨ HappensBefore t i q := fun i hi hle => by
    rcases Nat.lt_or_ge i r with hlt | hge
    · exact .inr (.trans (.single (.inl ⟨hlt, 1, hi, hr.rel.g⟩)) edge)
    · exact .inl (by omega)
  obtain ⟨z, hz, hzg⟩ := Option.map_eq_some_iff.1 hg
  refine ⟨B, h.nr, fun i a ha hm => ?_, fun i g hig hne hc => ?_, hd, fun op hop => hB op (by simpa using hop)⟩
  · rcases h.k0 i a ha hm with k | k | k
    · exact .inl k
    · obtain ⟨x, hx, hxa⟩ := touch_of ha
      obtain ⟨q1, q2⟩ := h.quiet i x a hx hxa k
      rcases hk : a.kind with _ | _ | _
      · exact absurd hk q1
      · exact .inr ⟨k, rfl⟩
      · have := knows_own hx
        rw [q2 hk] at this
        exact .inl this
    · by_cases hv : Veil V a.loc
      · obtain ⟨x, hx, hxa⟩ := touch_of ha
        obtain ⟨q1, q2⟩ := h.quiet i x a hx hxa hv
        rcases hk : a.kind with _ | _ | _
        · exact absurd hk q1
        · exact .inr ⟨hv, rfl⟩
        · have := knows_own hx
          rw [q2 hk] at this
          exact .inl this
      · refine .inl ⟨q, z, hz, hzg, .inr ?_⟩
        rcases upto i k (hr.late i a ha k hv) with e | e
        · rw [e]; exact edge
        · exact e
  · have h1 : g = 1 := (htwo i g hig).resolve_left hne
    subst h1
    have hle : i ≤ r := Nat.le_of_not_lt fun hlt => hr.rel.after i hlt hig hc
    rcases upto i hig hle with e | e
    · exact ⟨q, hg, by rw [e]; exact edge⟩
    · exact ⟨q, hg, e⟩

/-- AT THE go STATEMENT. -/
theorem TI.init {x y : MemOp} (h0 : ∀ op ∈ t, op.g = 0) (hq : Quiet (Veil V) t) (hn : NoRelease ad t) (hd : Deaf t 0 = 0) (hx : x.g = 0 ∧ x.act = .go 1) (hy : y.g = 1 ∧ y.act = .start) :
    TI V ad ((t.push x).push y) ∧ Deaf ((t.push x).push y) 0 = 0 ∧ (∀ j, 1 ≤ j → Deaf ((t.push x).push y) j = 0) ∧ ∀ i g, Trace.g? ((t.push x).push y) i = some g → g = 0 ∨ g = 1 := by
  have e : (t.push x).push y = t ++ #[x, y] := by apply Array.toList_inj.1; simp
  rw [e]
  have ex : (t ++ #[x, y])[t.size]? = some x := by simp
  have ey : (t ++ #[x, y])[t.size + 1]? = some y := by simp
  have still : ∀ op ∈ (#[x, y] : Trace), op.act.touch? = none := by
    intro op ho; simp at ho; rcases ho with rfl | rfl
    · rw [hx.2]; rfl
    · rw [hy.2]; rfl
  have step : ∀ (g : Nat), Deaf (t ++ #[x, y]) g = Deaf t g := fun g => by
    have := Deaf_append t g [x, y]
    simp only [List.foldl_cons, List.foldl_nil] at this
    have ex' : ∀ d, deafStep g d x = d := fun d => by unfold deafStep; rw [hx.2]
    have ey' : ∀ d, deafStep g d y = d := fun d => by unfold deafStep; rw [hy.2]
    rw [ex', ey'] at this
    exact this
  have d1 : ∀ j, 1 ≤ j → Deaf t j = 0 := fun j hj => by
    have := Deaf_other #[] (g := j) (g' := 0) (by omega) t h0
    simpa [Deaf, Trace.deaf] using this
  have hgo : (t ++ #[x, y]).heard t.size := ⟨0, by rw [g_new ex, hx.1], by rw [deaf_old (Nat.le_refl _)]; exact hd⟩
  have hst : (t ++ #[x, y]).heard (t.size + 1) := ⟨1, by rw [g_new ey, hy.1], by
    have e2 : t ++ #[x, y] = (t ++ #[x]) ++ #[y] := by apply Array.toList_inj.1; simp
    have hs : (t ++ #[x]).size = t.size + 1 := by simp
    rw [e2, ← hs, deaf_old (Nat.le_refl _)]
    have := Deaf_other #[] (g := 1) (g' := 0) (by decide) (t ++ #[x]) (fun op ho => (Array.mem_append.1 ho).elim (h0 op) (fun q => by simp at q; subst q; exact hx.1))
    simpa [Deaf, Trace.deaf] using this⟩
  have edge : HappensBefore (t ++ #[x, y]) t.size (t.size + 1) := .single (.inr ⟨.spawn (child := 1) (by rw [act?_of ex, hx.2]) (by rw [act?_of ey, hy.2]) (by rw [g_new ey, hy.1]), hgo, hst⟩)
  have n0 : ∀ said, ¬ Race said (#[] : Trace) := fun said => by
    rintro ⟨i, j, _, ⟨a, b, ha, _⟩, _⟩
    simp [Trace.act?] at ha
  refine ⟨⟨fun said => ?_, fun i a ha hm hv => ?_, fun i a ha hm => ?_, ?_, ?_⟩, by rw [step]; exact hd, fun j hj => by rw [step]; exact d1 j hj, fun i g hi => ?_⟩
  · have n1 : ¬ Race said (#[] ++ t) := noRace_append (n0 said) h0 (fun i a ha => by simp [touchAt, Trace.act?] at ha)
    have n2 : ¬ Race said (#[] ++ t ++ #[x]) := noRace_append (g := 0) n1 (by intro op ho; simp at ho; subst ho; exact hx.1) (fun i a _ op ho b hb => by simp at ho; subst ho; rw [hx.2] at hb; cases hb)
    have n3 : ¬ Race said (#[] ++ t ++ #[x] ++ #[y]) := noRace_append (g := 1) n2 (by intro op ho; simp at ho; subst ho; exact hy.1) (fun i a _ op ho b hb => by simp at ho; subst ho; rw [hy.2] at hb; cases hb)
    have e3 : #[] ++ t ++ #[x] ++ #[y] = t ++ #[x, y] := by apply Array.toList_inj.1; simp
    rw [← e3]; exact n3
  · obtain ⟨z, hz, hza⟩ := touch_of ha
    rcases getElem?_append_cases hz with ⟨hi, hz'⟩ | ⟨_, hzu⟩
    · exact ⟨t.size + 1, y, ey, hy.1, .inr ((hb_po hi hz ex ((h0 z (mem_of_getElem? hz')).trans hx.1.symm)).trans edge)⟩
    · rw [still z hzu] at hza; cases hza
  · obtain ⟨z, hz, hza⟩ := touch_of ha
    rcases getElem?_append_cases hz with ⟨hi, hz'⟩ | ⟨_, hzu⟩
    · have := knows_own hz
      rw [h0 z (mem_of_getElem? hz')] at this
      exact .inl this
    · rw [still z hzu] at hza; cases hza
  · exact hq.app fun op hop z hz => by rw [still op hop] at hz; cases hz
  · exact hn.app fun op hop e4 => by
      simp at hop
      rcases hop with rfl | rfl
      · rw [hx.2] at e4; cases e4
      · rw [hy.2] at e4; cases e4
  · obtain ⟨op, ho, rfl⟩ := Option.map_eq_some_iff.1 hi
    rcases getElem?_append_cases ho with ⟨_, ho'⟩ | ⟨_, hou⟩
    · exact .inl (h0 op (mem_of_getElem? ho'))
    · simp at hou
      rcases hou with rfl | rfl
      · exact .inl hx.1
      · exact .inr hy.1
end
end Go.Proofs.YtfnbcpeipoobkaaGreat

set_option linter.unusedSectionVars false
namespace Go.Proofs.YtfnbcpeipoobkaaGreat
open Go Go.Conc
variable {P : Program} {F : Array Func} [Inhabited Junk]

/-- The group's two cells. -/
def GrpAt (ty : TypeId) (Wg : Nat) (w : World) (st sm : Int) : Prop := w.heap[Wg]? = some (.cells #[.int .u64 st, .int .u32 sm] ty)
def sA (Wg : Nat) : Addr := ⟨Wg, 0, none⟩
def mA (Wg : Nat) : Addr := ⟨Wg, 1, none⟩
theorem grp_at {ty : TypeId} {Wg : Nat} {w : World} {st sm : Int} (h : GrpAt ty Wg w st sm) (d : Nat) : GrpAt ty Wg (w.at d) st sm := h
theorem grp_set0 {ty : TypeId} {Wg : Nat} {w : World} {st sm : Int} (h : GrpAt ty Wg w st sm) (x : Int) : GrpAt ty Wg (w.setCell (sA Wg) (.int .u64 x)) x sm := heap_setCell_same w Wg 0 _ _ _ h
theorem grp_set1 {ty : TypeId} {Wg : Nat} {w : World} {st sm : Int} (h : GrpAt ty Wg w st sm) (x : Int) : GrpAt ty Wg (w.setCell (mA Wg) (.int .u32 x)) st x := heap_setCell_same w Wg 1 _ _ _ h
theorem setCell_os (w : World) (a : Addr) (v : Value) : (w.setCell a v).os = w.os ∧ (w.setCell a v).output = w.output ∧ (w.setCell a v).tape = w.tape := by
  unfold World.setCell
  split <;> exact ⟨rfl, rfl, rfl⟩
theorem sib_grp {ty : TypeId} {Wg : Nat} {w v : World} {st sm : Int} (hs : Sib P (fun x => x = Wg) w v) (h : GrpAt ty Wg v st sm) (i : Nat) (x : Value) : Sib P (fun x => x = Wg) w (v.setCell ⟨Wg, i, none⟩ x) := by
  have e := heap_setCell_same v Wg i _ _ x h
  refine ⟨?_, fun r hr => ?_, fun r hr => ?_, hs.kind, hs.env⟩
  · have h1 := World.size_setCell v ⟨Wg, i, none⟩ x
    rw [h1]; exact hs.size
  · rw [heap_setCell_other _ _ _ _ (by show r ≠ Wg; exact hr)]
    exact hs.like r hr
  · subst hr
    obtain ⟨c, ty', h1, h2⟩ := hs.veil r rfl
    have h3 : v.heap[r]? = some (.cells #[.int .u64 st, .int .u32 sm] ty) := h
    rw [h2] at h3
    cases h3
    exact ⟨_, _, h1, e⟩

def rdE (a : Addr) : Event := ⟨.cell a, false, true⟩
def wrE (a : Addr) : Event := ⟨.cell a, true, true⟩
def mkE (m : Mark) : Event := ⟨.mark m, false, true⟩

/-- How far the caller has come. p: 0 not registered (k: it knows that the count is 0), 1 registered, 2 joined but not yet acquired, 3 past. d: how deaf. -/
structure CS where
  p : Nat
  k : Bool
  d : Nat

section
variable (P : Program) (ty : TypeId) (Wg : Nat) (End : Goroutine → Prop)
/-- The caller's way, within so many steps of its own: each step the same in every world that has the group's cells so. -/
def Cal : Nat → CS → Goroutine → Prop
  | 0, s, g => s.p = 3 ∧ End g
  | n + 1, s, g => (s.p = 3 ∧ End g) ∨ (g.status = .running ∧
    ((∀ w st sm, GrpAt ty Wg w st sm → ∃ g', stepG P true g w = .go g' w #[] ∧ Cal n s g') ∨
     (s.p = 0 ∧ ∃ g', (∀ w, stepG P true g w = .go g' w #[mkE .disable]) ∧ Cal n ⟨0, s.k, s.d + 1⟩ g') ∨
     (s.p = 0 ∧ ∃ g1 g2, (∀ w, GrpAt ty Wg w 0 0 → stepG P true g w = .go g2 w #[rdE (sA Wg)]) ∧ Cal n ⟨2, true, s.d⟩ g2 ∧ (s.k = false → (∀ w, GrpAt ty Wg w 4294967296 0 → stepG P true g w = .go g1 w #[rdE (sA Wg)]) ∧ Cal n ⟨0, false, s.d⟩ g1)) ∨
     (s.p = 0 ∧ ∃ g1 g2, (∀ w, GrpAt ty Wg w 0 0 → stepG P true g w = .go g2 w #[rdE (sA Wg)]) ∧ Cal n ⟨0, true, s.d⟩ g2 ∧ (s.k = false → (∀ w, GrpAt ty Wg w 4294967296 0 → stepG P true g w = .go g1 (w.setCell (sA Wg) (.int .u64 4294967297)) #[rdE (sA Wg), wrE (sA Wg)]) ∧ Cal n ⟨1, true, s.d⟩ g1)) ∨
     (s.p = 1 ∧ ∃ g', (∀ w, stepG P true g w = .go g' w #[mkE (.write (mA Wg))]) ∧ Cal n s g') ∨
     (s.p = 1 ∧ ∃ g', g.offers = none ∧ (∀ w st, GrpAt ty Wg w st 0 → stepG P true g w = .go { g with status := .blocked } w #[]) ∧ (∀ w, GrpAt ty Wg w 0 1 → stepG P true g w = .go g' (w.setCell (mA Wg) (.int .u32 0)) (semEvents (mA Wg))) ∧ Cal n ⟨2, true, s.d⟩ g') ∨
     (s.p = 2 ∧ ∃ g', (∀ w, GrpAt ty Wg w 0 0 → stepG P true g w = .go g' w #[rdE (sA Wg)]) ∧ Cal n s g') ∨
     (s.p = 2 ∧ ∃ g', (∀ w, stepG P true g w = .go g' w #[mkE .enable]) ∧ Cal n ⟨2, true, s.d - 1⟩ g') ∨
     (s.p = 2 ∧ s.d = 0 ∧ ∃ g', (∀ w, stepG P true g w = .go g' w #[mkE (.acquire (sA Wg))]) ∧ Cal n ⟨3, true, 0⟩ g')))
end
/-- Which cells the group may have where the caller stands so. -/
def Fits0 (s : CS) (st sm : Int) : Prop := (s.p = 0 ∧ sm = 0 ∧ (st = 0 ∨ (st = 4294967296 ∧ s.k = false))) ∨ (s.p = 1 ∧ (sm = 0 ∨ (st = 0 ∧ sm = 1))) ∨ (s.p = 2 ∧ st = 0 ∧ sm = 0)
/-- What becomes of both by a step of the caller's. -/
def Next0 (s : CS) (st sm : Int) (s' : CS) (st' sm' : Int) : Prop :=
  (s.p = 0 ∧ s'.p = 0 ∧ sm = 0 ∧ st' = st ∧ sm' = 0 ∧ (st = 4294967296 → s'.k = false)) ∨
  (s.p = 0 ∧ s'.p = 1 ∧ st = 4294967296 ∧ sm = 0 ∧ st' = 4294967297 ∧ sm' = 0) ∨
  (s.p = 0 ∧ s'.p = 2 ∧ st = 0 ∧ sm = 0 ∧ st' = 0 ∧ sm' = 0) ∨
  (s.p = 1 ∧ s'.p = 1 ∧ st' = st ∧ sm' = sm) ∨
  (s.p = 1 ∧ s'.p = 2 ∧ st = 0 ∧ sm = 1 ∧ st' = 0 ∧ sm' = 0) ∨
  (s.p = 2 ∧ s'.p = 2 ∧ st' = 0 ∧ sm' = 0) ∨
  (s.p = 2 ∧ s'.p = 3 ∧ s.d = 0 ∧ s'.d = 0 ∧ st' = 0 ∧ sm' = 0)
/-- It stands blocked at the semaphore, and will try again. -/
def Blk (P : Program) (ty : TypeId) (Wg : Nat) (End : Goroutine → Prop) (n : Nat) (s : CS) (a : Goroutine) : Prop := ∃ g, a = { g with status := .blocked } ∧ g.status = .running ∧ g.offers = none ∧ s.p = 1 ∧ Cal P ty Wg End n s g

/-- What the caller may list. -/
def Ev0 (Wg : Nat) (e : Event) : Prop := (∀ x, (MemAct.ofEvent e).touch? = some x → Veil (fun x => x = Wg) x.loc ∧ x.kind ≠ .plain) ∧ MemAct.ofEvent e ≠ .mark (.release (sA Wg))
theorem ev0_cell (Wg i : Nat) (wr : Bool) : Ev0 Wg ⟨.cell ⟨Wg, i, none⟩, wr, true⟩ := by
  refine ⟨fun x hx => ?_, by cases wr <;> simp [MemAct.ofEvent]⟩
  cases wr <;> simp [MemAct.ofEvent, MemAct.touch?] at hx <;> subst hx <;> exact ⟨⟨_, rfl, rfl⟩, by simp⟩
theorem ev0_mark (Wg : Nat) (m : Mark) (h : (MemAct.mark m).touch? = none) (hr : m ≠ .release (sA Wg)) : Ev0 Wg (mkE m) := by
  refine ⟨fun x hx => ?_, by simpa [mkE, MemAct.ofEvent] using hr⟩
  have : (MemAct.ofEvent (mkE m)).touch? = none := h
  rw [this] at hx
  cases hx
theorem ev0_write (Wg i : Nat) : Ev0 Wg (mkE (.write ⟨Wg, i, none⟩)) := by
  refine ⟨fun x hx => ?_, by simp [mkE, MemAct.ofEvent]⟩
  simp [mkE, MemAct.ofEvent, MemAct.touch?] at hx
  subst hx
  exact ⟨⟨_, rfl, rfl⟩, by simp⟩
theorem ev0_sem (Wg i : Nat) : ∀ e ∈ semEvents ⟨Wg, i, none⟩, Ev0 Wg e := by
  intro e he
  simp [semEvents] at he
  rcases he with rfl | rfl | rfl | rfl
  · exact ev0_mark Wg .disable rfl (by simp)
  · exact ev0_cell Wg i false
  · exact ev0_cell Wg i true
  · exact ev0_mark Wg .enable rfl (by simp)
theorem deaf_sem (d : Nat) (a : Addr) : deafBehind d (semEvents a) = d := by simp [deafBehind, semEvents]

/-- ONE STEP OF THE CALLER's. -/
theorem cal_step {ty : TypeId} {Wg : Nat} {End : Goroutine → Prop} {n : Nat} {s : CS} {g : Goroutine} (h : Cal P ty Wg End n s g) (hs : s.p ≠ 3) {w v : World} {st sm : Int} (hw : GrpAt ty Wg v st sm) (hf : Fits0 s st sm) (hS : Sib P (fun x => x = Wg) w v) :
    g.status = .running ∧ ∃ g' v' es s' st' sm', stepG P true g v = .go g' v' es ∧ ((Blk P ty Wg End n s' g' ∧ s' = s ∧ sm = 0 ∧ v' = v ∧ es = #[]) ∨ ∃ n', n' < n ∧ Cal P ty Wg End n' s' g') ∧ GrpAt ty Wg v' st' sm' ∧ Sib P (fun x => x = Wg) w v' ∧ Next0 s st sm s' st' sm' ∧ (v'.os = v.os ∧ v'.output = v.output ∧ v'.tape = v.tape) ∧
      deafBehind s.d es = s'.d ∧ (∀ e ∈ es, Ev0 Wg e) ∧ (s'.p = 3 → es = #[mkE (.acquire (sA Wg))]) := by
  cases n with
  | zero => exact absurd h.1 hs
  | succ n =>
    have hall := h
    rcases h with h | ⟨hr, h⟩
    · exact absurd h.1 hs
    refine ⟨hr, ?_⟩
    have same : v.os = v.os ∧ v.output = v.output ∧ v.tape = v.tape := ⟨rfl, rfl, rfl⟩
    have none_ : ∀ e ∈ (#[] : Array Event), Ev0 Wg e := by simp
    have one : ∀ {x : Event}, Ev0 Wg x → ∀ e ∈ #[x], Ev0 Wg e := fun hx e he => by simp at he; rw [he]; exact hx
    have stay : Next0 s st sm s st sm := by
      rcases hf with ⟨h1, h2, h3⟩ | ⟨h1, h2⟩ | ⟨h1, h2, h3⟩
      · refine .inl ⟨h1, h1, h2, rfl, h2, fun e => ?_⟩
        rcases h3 with h3 | h3
        · rw [h3] at e; cases e
        · exact h3.2
      · exact .inr (.inr (.inr (.inl ⟨h1, h1, rfl, rfl⟩)))
      · exact .inr (.inr (.inr (.inr (.inr (.inl ⟨h1, h1, h2, h3⟩)))))
    rcases h with h0 | ⟨hp, g', h1, h2⟩ | ⟨hp, g1, g2, h1, h2, h3⟩ | ⟨hp, g1, g2, h1, h2, h3⟩ | ⟨hp, g', h1, h2⟩ | ⟨hp, g', h0, h1, h2, h3⟩ | ⟨hp, g', h1, h2⟩ | ⟨hp, g', h1, h2⟩ | ⟨hp, hd, g', h1, h2⟩
    · obtain ⟨g', h1, h2⟩ := h0 v st sm hw
      exact ⟨g', v, #[], s, st, sm, h1, .inr ⟨n, Nat.lt_succ_self n, h2⟩, hw, hS, stay, same, rfl, none_, fun e => absurd e hs⟩
    · refine ⟨g', v, _, ⟨0, s.k, s.d + 1⟩, st, sm, h1 v, .inr ⟨n, Nat.lt_succ_self n, h2⟩, hw, hS, ?_, same, rfl, one (ev0_mark Wg .disable rfl (by simp)), fun e => by cases e⟩
      rcases stay with x | x | x | x | x | x | x
      · exact .inl ⟨x.1, rfl, x.2.2.1, rfl, x.2.2.1, x.2.2.2.2.2⟩
      all_goals (exfalso; have := x.1; have := x.2.1; omega)
    · rcases hf with ⟨_, f2, f3⟩ | ⟨f1, _⟩ | ⟨f1, _⟩
      · subst f2
        rcases f3 with rfl | ⟨rfl, hk⟩
        · exact ⟨g2, v, _, ⟨2, true, s.d⟩, 0, 0, h1 v hw, .inr ⟨n, Nat.lt_succ_self n, h2⟩, hw, hS, .inr (.inr (.inl ⟨hp, rfl, rfl, rfl, rfl, rfl⟩)), same, rfl, one (ev0_cell Wg 0 false), fun e => by cases e⟩
        · obtain ⟨h4, h5⟩ := h3 hk
          exact ⟨g1, v, _, ⟨0, false, s.d⟩, 4294967296, 0, h4 v hw, .inr ⟨n, Nat.lt_succ_self n, h5⟩, hw, hS, .inl ⟨hp, rfl, rfl, rfl, rfl, fun _ => rfl⟩, same, rfl, one (ev0_cell Wg 0 false), fun e => by cases e⟩
      · omega
      · omega
    · rcases hf with ⟨_, f2, f3⟩ | ⟨f1, _⟩ | ⟨f1, _⟩
      · subst f2
        rcases f3 with rfl | ⟨rfl, hk⟩
        · exact ⟨g2, v, _, ⟨0, true, s.d⟩, 0, 0, h1 v hw, .inr ⟨n, Nat.lt_succ_self n, h2⟩, hw, hS, .inl ⟨hp, rfl, rfl, rfl, rfl, fun e => by cases e⟩, same, rfl, one (ev0_cell Wg 0 false), fun e => by cases e⟩
        · obtain ⟨h4, h5⟩ := h3 hk
          refine ⟨g1, _, _, ⟨1, true, s.d⟩, 4294967297, 0, h4 v hw, .inr ⟨n, Nat.lt_succ_self n, h5⟩, grp_set0 hw _, sib_grp hS hw 0 _, .inr (.inl ⟨hp, rfl, rfl, rfl, rfl, rfl⟩), setCell_os _ _ _, rfl, fun e he => ?_, fun e => by cases e⟩
          simp at he
          rcases he with rfl | rfl
          · exact ev0_cell Wg 0 false
          · exact ev0_cell Wg 0 true
      · omega
      · omega
    · exact ⟨g', v, _, s, st, sm, h1 v, .inr ⟨n, Nat.lt_succ_self n, h2⟩, hw, hS, stay, same, rfl, one (ev0_write Wg 1), fun e => absurd e hs⟩
    · rcases hf with ⟨f1, _⟩ | ⟨_, rfl | ⟨rfl, rfl⟩⟩ | ⟨f1, _⟩
      · omega
      · exact ⟨_, v, #[], s, st, 0, h1 v st hw, .inl ⟨⟨g, rfl, hr, h0, hp, hall⟩, rfl, rfl, rfl, rfl⟩, hw, hS, stay, same, rfl, none_, fun e => absurd e hs⟩
      · exact ⟨g', _, _, ⟨2, true, s.d⟩, 0, 0, h2 v hw, .inr ⟨n, Nat.lt_succ_self n, h3⟩, grp_set1 hw _, sib_grp hS hw 1 _, .inr (.inr (.inr (.inr (.inl ⟨hp, rfl, rfl, rfl, rfl, rfl⟩)))), setCell_os _ _ _, deaf_sem _ _, ev0_sem Wg 1, fun e => by cases e⟩
      · omega
    · rcases hf with ⟨f1, _⟩ | ⟨f1, _⟩ | ⟨_, rfl, rfl⟩
      · omega
      · omega
      · exact ⟨g', v, _, s, 0, 0, h1 v hw, .inr ⟨n, Nat.lt_succ_self n, h2⟩, hw, hS, stay, same, rfl, one (ev0_cell Wg 0 false), fun e => absurd e hs⟩
    · rcases hf with ⟨f1, _⟩ | ⟨f1, _⟩ | ⟨_, rfl, rfl⟩
      · omega
      · omega
      · exact ⟨g', v, _, ⟨2, true, s.d - 1⟩, 0, 0, h1 v, .inr ⟨n, Nat.lt_succ_self n, h2⟩, hw, hS, .inr (.inr (.inr (.inr (.inr (.inl ⟨hp, rfl, rfl, rfl⟩))))), same, rfl, one (ev0_mark Wg .enable rfl (by simp)), fun e => by cases e⟩
    · rcases hf with ⟨f1, _⟩ | ⟨f1, _⟩ | ⟨_, rfl, rfl⟩
      · omega
      · omega
      · exact ⟨g', v, _, ⟨3, true, 0⟩, 0, 0, h1 v, .inr ⟨n, Nat.lt_succ_self n, h2⟩, hw, hS, .inr (.inr (.inr (.inr (.inr (.inr ⟨hp, rfl, hd, rfl, rfl, rfl⟩))))), same, by rw [hd]; rfl, one (ev0_mark Wg (.acquire (sA Wg)) rfl (by simp)), fun _ => rfl⟩
end Go.Proofs.YtfnbcpeipoobkaaGreat

set_option linter.unusedSectionVars false
namespace Go.Proofs.YtfnbcpeipoobkaaGreat
open Go Go.Conc
variable {P : Program} {F : Array Func} [Inhabited Junk]

/-- How far the child has come. p: 0 ahead of its release, 1 released, 2 it has met a waiter (the count stands at 1), 3 the count stands at 0. d: how deaf. -/
structure KS where
  p : Nat
  d : Nat
section
variable (P : Program) (ty : TypeId) (Wg : Nat)
/-- The child's way to where it only leaves. -/
def Chi : Nat → KS → Goroutine → Prop
  | 0, _, _ => False
  | n + 1, s, g => g.status = .running ∧
    ((∀ w st sm, GrpAt ty Wg w st sm → ∃ g', stepG P false g w = .go g' w #[] ∧ Chi n s g') ∨
     (s.p = 0 ∧ s.d = 0 ∧ ∃ g', (∀ w, stepG P false g w = .go g' w #[mkE (.releaseMerge (sA Wg))]) ∧ Chi n ⟨1, 0⟩ g') ∨
     (s.p = 1 ∧ ∃ g', (∀ w, stepG P false g w = .go g' w #[mkE .disable]) ∧ Chi n ⟨1, s.d + 1⟩ g') ∨
     (s.p = 1 ∧ 0 < s.d ∧ ∃ g1 g2, (∀ w, GrpAt ty Wg w 4294967296 0 → stepG P false g w = .go g1 (w.setCell (sA Wg) (.int .u64 0)) #[rdE (sA Wg), wrE (sA Wg)]) ∧ (∃ q, QuitsD P q s.d g1) ∧ (∀ w, GrpAt ty Wg w 4294967297 0 → stepG P false g w = .go g2 (w.setCell (sA Wg) (.int .u64 1)) #[rdE (sA Wg), wrE (sA Wg)]) ∧ Chi n ⟨2, s.d⟩ g2) ∨
     (s.p = 2 ∧ 0 < s.d ∧ ∃ g', (∀ w, GrpAt ty Wg w 1 0 → stepG P false g w = .go g' w #[rdE (sA Wg)]) ∧ Chi n s g') ∨
     (s.p = 2 ∧ 0 < s.d ∧ ∃ g', (∀ w, GrpAt ty Wg w 1 0 → stepG P false g w = .go g' (w.setCell (sA Wg) (.int .u64 0)) #[wrE (sA Wg)]) ∧ Chi n ⟨3, s.d⟩ g') ∨
     (s.p = 3 ∧ 0 < s.d ∧ mayWake P g = true ∧ ∃ g', (∀ w, GrpAt ty Wg w 0 0 → stepG P false g w = .go g' (w.setCell (mA Wg) (.int .u32 1)) (semEvents (mA Wg))) ∧ g'.status = .running ∧ ∃ q, QuitsD P q s.d g'))
end
/-- Which cells the group has where the child stands so; does the caller wait? -/
def Fits1 (s : KS) (c : CS) (st sm : Int) : Prop := sm = 0 ∧ ((s.p ≤ 1 ∧ ((st = 4294967296 ∧ c.p = 0 ∧ c.k = false) ∨ (st = 4294967297 ∧ c.p = 1))) ∨ (s.p = 2 ∧ st = 1 ∧ c.p = 1) ∨ (s.p = 3 ∧ st = 0 ∧ c.p = 1))
/-- What the child may list behind its release. -/
def Ev1 (Wg : Nat) (d : Nat) (es : Array Event) : Prop := ∀ j e, es[j]? = some e → MemAct.ofEvent e ≠ .mark (.release (sA Wg)) ∧ ((MemAct.ofEvent e).touch? = none ∨ ((∃ a wr, e = ⟨.cell a, wr, true⟩ ∧ a.block = Wg) ∧ 0 < deafBehind d (es.extract 0 j)))
theorem ev1_nil (Wg d : Nat) : Ev1 Wg d #[] := fun j e h => by simp at h
theorem ev1_mark (Wg d : Nat) (m : Mark) (h : (MemAct.mark m).touch? = none) (hr : m ≠ .release (sA Wg)) : Ev1 Wg d #[mkE m] := fun j e he => by
  have : e = mkE m := by
    have := Array.mem_iff_getElem?.2 ⟨j, he⟩
    simpa using this
  rw [this]
  exact ⟨by simpa [mkE, MemAct.ofEvent] using hr, .inl h⟩
theorem not_rel (Wg : Nat) (a : Addr) (wr : Bool) : MemAct.ofEvent ⟨.cell a, wr, true⟩ ≠ .mark (.release (sA Wg)) := by cases wr <;> simp [MemAct.ofEvent]
theorem ev1_one (Wg d i : Nat) (wr : Bool) (hd : 0 < d) : Ev1 Wg d #[⟨.cell ⟨Wg, i, none⟩, wr, true⟩] := fun j e he => by
  obtain ⟨hj, hx⟩ := Array.getElem?_eq_some_iff.1 he
  have hj : j < 1 := by simpa using hj
  obtain rfl : j = 0 := by omega
  have : e = ⟨.cell ⟨Wg, i, none⟩, wr, true⟩ := by simpa using hx.symm
  exact ⟨by rw [this]; exact not_rel _ _ _, .inr ⟨⟨_, _, this, rfl⟩, by simpa [deafBehind] using hd⟩⟩
theorem ev1_two (Wg d i : Nat) (a b : Bool) (hd : 0 < d) : Ev1 Wg d #[⟨.cell ⟨Wg, i, none⟩, a, true⟩, ⟨.cell ⟨Wg, i, none⟩, b, true⟩] := fun j e he => by
  obtain ⟨hj, hx⟩ := Array.getElem?_eq_some_iff.1 he
  have hj : j < 2 := by simpa using hj
  match j, hj with
  | 0, _ =>
    have h0 : e = ⟨.cell ⟨Wg, i, none⟩, a, true⟩ := by simpa using hx.symm
    exact ⟨by rw [h0]; exact not_rel _ _ _, .inr ⟨⟨_, _, h0, rfl⟩, by simpa [deafBehind] using hd⟩⟩
  | 1, _ =>
    have h0 : e = ⟨.cell ⟨Wg, i, none⟩, b, true⟩ := by simpa using hx.symm
    exact ⟨by rw [h0]; exact not_rel _ _ _, .inr ⟨⟨_, _, h0, rfl⟩, by simpa [deafBehind] using hd⟩⟩
theorem ev1_sem (Wg d i : Nat) : Ev1 Wg d (semEvents ⟨Wg, i, none⟩) := fun j e he => by
  unfold semEvents at *
  obtain ⟨hj, hx⟩ := Array.getElem?_eq_some_iff.1 he
  have hj : j < 4 := by simpa using hj
  match j, hj with
  | 0, _ =>
    have h0 : e = ⟨.mark .disable, false, true⟩ := by simpa using hx.symm
    rw [h0]
    exact ⟨by simp [MemAct.ofEvent], .inl rfl⟩
  | 1, _ =>
    have h0 : e = ⟨.cell ⟨Wg, i, none⟩, false, true⟩ := by simpa using hx.symm
    exact ⟨by rw [h0]; exact not_rel _ _ _, .inr ⟨⟨_, _, h0, rfl⟩, by simp [deafBehind]⟩⟩
  | 2, _ =>
    have h0 : e = ⟨.cell ⟨Wg, i, none⟩, true, true⟩ := by simpa using hx.symm
    exact ⟨by rw [h0]; exact not_rel _ _ _, .inr ⟨⟨_, _, h0, rfl⟩, by simp [deafBehind]⟩⟩
  | 3, _ =>
    have h0 : e = ⟨.mark .enable, false, true⟩ := by simpa using hx.symm
    rw [h0]
    exact ⟨by simp [MemAct.ofEvent], .inl rfl⟩

/-- ONE STEP OF THE CHILD's. -/
theorem chi_step {ty : TypeId} {Wg : Nat} {n : Nat} {s : KS} {c : CS} {g : Goroutine} (h : Chi P ty Wg n s g) {w v : World} {st sm : Int} (hw : GrpAt ty Wg v st sm) (hf : Fits1 s c st sm) (hS : Sib P (fun x => x = Wg) w v) :
    g.status = .running ∧ ∃ g' v' es st' sm', stepG P false g v = .go g' v' es ∧ GrpAt ty Wg v' st' sm' ∧ Sib P (fun x => x = Wg) w v' ∧ (v'.os = v.os ∧ v'.output = v.output ∧ v'.tape = v.tape) ∧
      ((∃ n' s', n' < n ∧ Chi P ty Wg n' s' g' ∧ Fits1 s' c st' sm' ∧ deafBehind s.d es = s'.d ∧ ((s.p = 0 ∧ s'.p = 0 ∧ es = #[]) ∨ (s.p = 0 ∧ s.d = 0 ∧ s'.p = 1 ∧ es = #[mkE (.releaseMerge (sA Wg))]) ∨ (1 ≤ s.p ∧ 1 ≤ s'.p ∧ Ev1 Wg s.d es))) ∨
       (1 ≤ s.p ∧ (∃ q, QuitsD P q (deafBehind s.d es) g') ∧ Ev1 Wg s.d es ∧ ((st' = 0 ∧ sm' = 0 ∧ c.p = 0) ∨ (st' = 0 ∧ sm' = 1 ∧ c.p = 1 ∧ mayWake P g = true ∧ g'.status = .running)))) := by
  cases n with
  | zero => exact h.elim
  | succ n =>
    obtain ⟨hr, h⟩ := h
    refine ⟨hr, ?_⟩
    have same : v.os = v.os ∧ v.output = v.output ∧ v.tape = v.tape := ⟨rfl, rfl, rfl⟩
    rcases h with h0 | ⟨hp, hd, g', h1, h2⟩ | ⟨hp, g', h1, h2⟩ | ⟨hp, hd, g1, g2, h1, h2, h3, h4⟩ | ⟨hp, hd, g', h1, h2⟩ | ⟨hp, hd, g', h1, h2⟩ | ⟨hp, hd, hmw, g', h1, h2, h3⟩
    · obtain ⟨g', h1, h2⟩ := h0 v st sm hw
      refine ⟨g', v, #[], st, sm, h1, hw, hS, same, .inl ⟨n, s, Nat.lt_succ_self n, h2, hf, rfl, ?_⟩⟩
      rcases Nat.eq_zero_or_pos s.p with e | e
      · exact .inl ⟨e, e, rfl⟩
      · exact .inr (.inr ⟨e, e, ev1_nil _ _⟩)
    · refine ⟨g', v, _, st, sm, h1 v, hw, hS, same, .inl ⟨n, ⟨1, 0⟩, Nat.lt_succ_self n, h2, ⟨hf.1, ?_⟩, by rw [hd]; rfl, .inr (.inl ⟨hp, hd, rfl, rfl⟩)⟩⟩
      rcases hf.2 with ⟨_, x⟩ | ⟨x, _⟩ | ⟨x, _⟩
      · exact .inl ⟨Nat.le_refl _, x⟩
      · omega
      · omega
    · refine ⟨g', v, _, st, sm, h1 v, hw, hS, same, .inl ⟨n, ⟨1, s.d + 1⟩, Nat.lt_succ_self n, h2, ⟨hf.1, ?_⟩, rfl, .inr (.inr ⟨by omega, Nat.le_refl _, ev1_mark _ _ _ rfl (by simp)⟩)⟩⟩
      rcases hf.2 with ⟨_, x⟩ | ⟨x, _⟩ | ⟨x, _⟩
      · exact .inl ⟨Nat.le_refl _, x⟩
      · omega
      · omega
    · obtain ⟨rfl, ⟨_, ⟨rfl, c1, c2⟩ | ⟨rfl, c1⟩⟩ | ⟨x, _⟩ | ⟨x, _⟩⟩ := hf
      · exact ⟨g1, _, _, 0, 0, h1 v hw, grp_set0 hw _, sib_grp hS hw 0 _, setCell_os _ _ _, .inr ⟨by omega, h2, ev1_two _ _ 0 false true hd, .inl ⟨rfl, rfl, c1⟩⟩⟩
      · exact ⟨g2, _, _, 1, 0, h3 v hw, grp_set0 hw _, sib_grp hS hw 0 _, setCell_os _ _ _, .inl ⟨n, ⟨2, s.d⟩, Nat.lt_succ_self n, h4, ⟨rfl, .inr (.inl ⟨rfl, rfl, c1⟩)⟩, rfl, .inr (.inr ⟨by omega, by show 1 ≤ 2; decide, ev1_two _ _ 0 false true hd⟩)⟩⟩
      · omega
      · omega
    · obtain ⟨rfl, ⟨x, _⟩ | ⟨_, rfl, c1⟩ | ⟨x, _⟩⟩ := hf
      · omega
      · exact ⟨g', v, _, 1, 0, h1 v hw, hw, hS, same, .inl ⟨n, s, Nat.lt_succ_self n, h2, ⟨rfl, .inr (.inl ⟨hp, rfl, c1⟩)⟩, rfl, .inr (.inr ⟨by omega, by omega, ev1_one _ _ 0 false hd⟩)⟩⟩
      · omega
    · obtain ⟨rfl, ⟨x, _⟩ | ⟨_, rfl, c1⟩ | ⟨x, _⟩⟩ := hf
      · omega
      · exact ⟨g', _, _, 0, 0, h1 v hw, grp_set0 hw _, sib_grp hS hw 0 _, setCell_os _ _ _, .inl ⟨n, ⟨3, s.d⟩, Nat.lt_succ_self n, h2, ⟨rfl, .inr (.inr ⟨rfl, rfl, c1⟩)⟩, rfl, .inr (.inr ⟨by omega, by show 1 ≤ 3; decide, ev1_one _ _ 0 true hd⟩)⟩⟩
      · omega
    · obtain ⟨rfl, ⟨x, _⟩ | ⟨x, _⟩ | ⟨_, rfl, c1⟩⟩ := hf
      · omega
      · omega
      · exact ⟨g', _, _, 0, 1, h1 v hw, grp_set1 hw _, sib_grp hS hw 1 _, setCell_os _ _ _, .inr ⟨by omega, by rw [deaf_sem]; exact h3, ev1_sem _ _ 1, .inr ⟨rfl, rfl, c1, hmw, h2⟩⟩⟩
end Go.Proofs.YtfnbcpeipoobkaaGreat
