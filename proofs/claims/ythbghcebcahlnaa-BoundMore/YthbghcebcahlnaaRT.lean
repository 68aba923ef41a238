/- The trace of a fork and a join in which the child touches whatever is not the group's. -/
import Derived.Test.YthbghcebcahlnaaRS
import Derived.Conc.JoinBase
set_option linter.unusedSectionVars false
namespace Go.Proofs.Ythbghcebcahlnaa
open Go Go.Conc

section
variable (V : Nat → Prop) (ad : Addr)
/-- What holds of the trace between the go statement and the caller's acquire. -/
structure TI (t : Trace) : Prop where
  nr : ∀ said, ¬ Race said t
  k1 : ∀ i a, touchAt t i = some a → a.loc.isMemory = true → ¬ Veil V a.loc → Knows t 1 i
  k0 : ∀ i a, touchAt t i = some a → a.loc.isMemory = true → Knows t 0 i ∨ Veil V a.loc ∨ t.g? i = some 1
  quiet : Quiet (Veil V) t
  norel : NoRelease ad t
/-- What the two may do: the group's cells not plainly, the word on them the caller's; all else the child's. -/
def OpOk (g : Nat) (op : MemOp) : Prop := op.g = g ∧ (∀ x, op.act.touch? = some x → (Veil V x.loc ∧ x.kind ≠ .plain ∧ (x.kind = .said → g = 0)) ∨ (¬ Veil V x.loc ∧ g = 1)) ∧ op.act ≠ .mark (.release ad)
end
section
variable {V : Nat → Prop} {ad : Addr} {t u : Trace} {g : Nat}
theorem g_new {i : Nat} {op : MemOp} (h : (t ++ u)[i]? = some op) : (t ++ u).g? i = some op.g := by simp [Trace.g?, h]
theorem TI.app (h : TI V ad t) (hg : g = 0 ∨ g = 1) (hu : ∀ op ∈ u, OpOk V ad g op) : TI V ad (t ++ u) := by
  refine ⟨fun said => noRace_append (h.nr said) (fun op hop => (hu op hop).1) fun i a ha op hop b hb hc => ?_, fun i a ha hm hv => ?_, fun i a ha hm => ?_, ?_, ?_⟩
  · rcases (hu op hop).2.1 b hb with ⟨k1, k2, k3⟩ | ⟨k1, rfl⟩
    · exact h.quiet.known k1 k2 k3 i a ha hc
    · exact h.k1 i a ha hc.2.1 (by rw [hc.1]; exact k1)
  · obtain ⟨x, hx, hxa⟩ := touch_of ha
    rcases getElem?_append_cases hx with ⟨_, hx'⟩ | ⟨_, hxu⟩
    · exact (h.k1 i a (by rw [touchAt_of hx']; exact hxa) hm hv).app u
    · rcases (hu x hxu).2.1 a hxa with ⟨k1, _⟩ | ⟨_, rfl⟩
      · exact absurd k1 hv
      · have := knows_own hx
        rwa [(hu x hxu).1] at this
  · obtain ⟨x, hx, hxa⟩ := touch_of ha
    rcases getElem?_append_cases hx with ⟨hi, hx'⟩ | ⟨_, hxu⟩
    · rcases h.k0 i a (by rw [touchAt_of hx']; exact hxa) hm with k | k | k
      · exact .inl (k.app u)
      · exact .inr (.inl k)
      · exact .inr (.inr (by rw [g?_old hi]; exact k))
    · rcases hg with rfl | rfl
      · have := knows_own hx
        rw [(hu x hxu).1] at this
        exact .inl this
      · exact .inr (.inr (by rw [g_new hx, (hu x hxu).1]))
  · refine h.quiet.app fun op hop x hx hs => ?_
    rcases (hu op hop).2.1 x hx with ⟨_, k2, k3⟩ | ⟨k1, _⟩
    · exact ⟨k2, fun e => (hu op hop).1.trans (k3 e)⟩
    · exact absurd hs k1
  · exact h.norel.app fun op hop => (hu op hop).2.2

/-- THE CHILD HAS SAID ITS RELEASE. -/
structure Rel (V : Nat → Prop) (ad : Addr) (t : Trace) (r : Nat) : Prop where
  rel : Released ad t r
  late : ∀ i a, touchAt t i = some a → t.g? i = some 1 → ¬ Veil V a.loc → i ≤ r
theorem Rel.app0 {r : Nat} (h : Rel V ad t r) (hu : ∀ op ∈ u, op.g = 0) : Rel V ad (t ++ u) r := by
  refine ⟨h.rel.app0 hu, fun i a ha hg hv => ?_⟩
  obtain ⟨x, hx, hxa⟩ := touch_of ha
  rcases getElem?_append_cases hx with ⟨hi, hx'⟩ | ⟨_, hxu⟩
  · exact h.late i a (by rw [touchAt_of hx']; exact hxa) (by rw [← g?_old (u := u) hi]; exact hg) hv
  · rw [g_new hx, hu x hxu] at hg
    cases hg
/-- The child's step behind its release: it names no place, or touches the group's atomically, deaf. -/
theorem Rel.app1 {r : Nat} (h : Rel V ad t r) (fn : FuncId) (pos : String) (es : Array Event)
    (hes : ∀ j e, es[j]? = some e → (MemAct.ofEvent e).touch? = none ∨ ((∃ a wr, e = ⟨.cell a, wr, true⟩ ∧ V a.block) ∧ 0 < deafBehind (Deaf t 1) (es.extract 0 j))) : Rel V ad (t ++ MemOp.ofEvents 1 fn pos es) r := by
  refine ⟨h.rel.app1 fn pos es fun j e he => (hes j e he).imp id fun ⟨⟨a, wr, e1, _⟩, h2⟩ => ⟨⟨a, wr, e1⟩, h2⟩, fun i a ha hg hv => ?_⟩
  obtain ⟨x, hx, hxa⟩ := touch_of ha
  rcases getElem?_append_cases hx with ⟨hi, hx'⟩ | ⟨_, hxu⟩
  · exact h.late i a (by rw [touchAt_of hx']; exact hxa) (by rw [← g?_old hi]; exact hg) hv
  · obtain ⟨e, he, rfl⟩ := Go.Conc.mem_ofEvents hxu
    obtain ⟨j, hj⟩ := Array.mem_iff_getElem?.1 he
    rcases hes j e hj with h0 | ⟨⟨a', wr, rfl, hV⟩, _⟩
    · have hxa : (MemAct.ofEvent e).touch? = some a := hxa
      rw [h0] at hxa
      cases hxa
    · exfalso
      refine hv ⟨a', ?_, hV⟩
      have hxa : (MemAct.ofEvent ⟨.cell a', wr, true⟩).touch? = some a := hxa
      cases wr <;> simp [MemAct.ofEvent, MemAct.touch?] at hxa <;> rw [← hxa]
/-- The release itself. -/
theorem Rel.new (hd : Deaf t 1 = 0) (fn : FuncId) (pos : String) : Rel V ad (t ++ MemOp.ofEvents 1 fn pos #[⟨.mark (.releaseMerge ad), false, true⟩]) t.size := by
  have e1 : MemOp.ofEvents 1 fn pos #[⟨.mark (.releaseMerge ad), false, true⟩] = #[{ g := 1, fn, pos, act := .mark (.releaseMerge ad) }] := by rw [ofEvents_eq]; simp [MemAct.ofEvent]
  rw [e1]
  have hy : (t ++ #[({ g := 1, fn, pos, act := .mark (.releaseMerge ad) } : MemOp)])[t.size]? = some { g := 1, fn, pos, act := .mark (.releaseMerge ad) } := by simp
  refine ⟨⟨by rw [act?_of hy], by simp [Trace.g?], ⟨1, by simp [Trace.g?], by rw [deaf_old (Nat.le_refl _)]; exact hd⟩, fun i hi hg => ?_⟩, fun i a ha hg hv => ?_⟩
  · obtain ⟨op, ho, _⟩ := Option.map_eq_some_iff.1 hg
    have := lt_size_of_getElem? ho
    simp at this
    omega
  · obtain ⟨op, ho, _⟩ := Option.map_eq_some_iff.1 hg
    have := lt_size_of_getElem? ho
    simp at this
    omega

theorem bound_act (x : MemAct) : ∃ B, x.low B := by
  cases x with
  | access e =>
    obtain ⟨loc, wr, sy⟩ := e
    cases loc with
    | cell a => exact ⟨a.block + 1, Nat.lt_succ_self _⟩
    | obj r => exact ⟨r + 1, Nat.lt_succ_self _⟩
    | _ => exact ⟨0, trivial⟩
  | mark m => cases m <;> first | exact ⟨0, trivial⟩ | exact ⟨_, Nat.lt_succ_self _⟩
  | go _ => exact ⟨0, trivial⟩
  | start => exact ⟨0, trivial⟩
  | _ => exact ⟨_, Nat.lt_succ_self _⟩
theorem bound_trace (l : List MemOp) : ∃ B, ∀ op ∈ l, op.act.low B := by
  induction l with
  | nil => exact ⟨0, by simp⟩
  | cons x l ih =>
    obtain ⟨B, h⟩ := ih
    obtain ⟨B', h'⟩ := bound_act x.act
    refine ⟨max B B', fun op hop => ?_⟩
    rcases List.mem_cons.1 hop with rfl | hop
    · exact MemAct.low_mono (Nat.le_max_right _ _) h'
    · exact MemAct.low_mono (Nat.le_max_left _ _) (h op hop)

/-- ████ BEHIND THE CALLER's ACQUIRE: ALL IS HANDED OVER. ████ -/
theorem TI.past (h : TI V ad t) {r q : Nat} (hr : Rel V ad t r) (hq : t.act? q = some (.mark (.acquire ad))) (hg : t.g? q = some 0) (hh : t.heard q) (hrq : r < q) (hd : Deaf t 0 = 0) (htwo : ∀ i g, t.g? i = some g → g = 0 ∨ g = 1) : ∃ B, Past (Veil V) B t := by
  obtain ⟨B, hB⟩ := bound_trace t.toList
  have edge : HappensBefore t r q := .single (.inr ⟨.marked hrq (.inr hr.rel.act) hq (fun k _ _ => h.norel k), hr.rel.heard, hh⟩)
  have upto : ∀ i, t.g? i = some 1 → i ≤ r → i = r ∨ HappensBefore t i q := fun i hi hle => by
    rcases Nat.lt_or_ge i r with hlt | hge
    · exact .inr (.trans (.single (.inl ⟨hlt, 1, hi, hr.rel.g⟩)) edge)
    · exact .inl (by omega)
  obtain ⟨z, hz, hzg⟩ := Option.map_eq_some_iff.1 hg
  refine ⟨B, h.nr, fun i a ha hm => ?_, fun i g hig hne hc => ?_, hd, fun op hop => hB op (by simpa using hop)⟩
  · rcases h.k0 i a ha hm with k | k | k
    · exact .inl k
    · obtain ⟨x, hx, hxa⟩ := touch_of ha
      obtain ⟨q1, q2⟩ := h.quiet i x a hx hxa k
      rcases hk : a.kind with _ | _ | _
      · exact absurd hk q1
      · exact .inr ⟨k, rfl⟩
      · have := knows_own hx
        rw [q2 hk] at this
        exact .inl this
    · by_cases hv : Veil V a.loc
      · obtain ⟨x, hx, hxa⟩ := touch_of ha
        obtain ⟨q1, q2⟩ := h.quiet i x a hx hxa hv
        rcases hk : a.kind with _ | _ | _
        · exact absurd hk q1
        · exact .inr ⟨hv, rfl⟩
        · have := knows_own hx
          rw [q2 hk] at this
          exact .inl this
      · refine .inl ⟨q, z, hz, hzg, .inr ?_⟩
        rcases upto i k (hr.late i a ha k hv) with e | e
        · rw [e]; exact edge
        · exact e
  · have h1 : g = 1 := (htwo i g hig).resolve_left hne
    subst h1
    have hle : i ≤ r := Nat.le_of_not_lt fun hlt => hr.rel.after i hlt hig hc
    rcases upto i hig hle with e | e
    · exact ⟨q, hg, by rw [e]; exact edge⟩
    · exact ⟨q, hg, e⟩

/-- AT THE go STATEMENT. -/
theorem TI.init {x y : MemOp} (h0 : ∀ op ∈ t, op.g = 0) (hq : Quiet (Veil V) t) (hn : NoRelease ad t) (hd : Deaf t 0 = 0) (hx : x.g = 0 ∧ x.act = .go 1) (hy : y.g = 1 ∧ y.act = .start) :
    TI V ad ((t.push x).push y) ∧ Deaf ((t.push x).push y) 0 = 0 ∧ (∀ j, 1 ≤ j → Deaf ((t.push x).push y) j = 0) ∧ ∀ i g, Trace.g? ((t.push x).push y) i = some g → g = 0 ∨ g = 1 := by
  have e : (t.push x).push y = t ++ #[x, y] := by apply Array.toList_inj.1; simp
  rw [e]
  have ex : (t ++ #[x, y])[t.size]? = some x := by simp
  have ey : (t ++ #[x, y])[t.size + 1]? = some y := by simp
  have still : ∀ op ∈ (#[x, y] : Trace), op.act.touch? = none := by
    intro op ho; simp at ho; rcases ho with rfl | rfl
    · rw [hx.2]; rfl
    · rw [hy.2]; rfl
  have step : ∀ (g : Nat), Deaf (t ++ #[x, y]) g = Deaf t g := fun g => by
    have := Deaf_append t g [x, y]
    simp only [List.foldl_cons, List.foldl_nil] at this
    have ex' : ∀ d, deafStep g d x = d := fun d => by unfold deafStep; rw [hx.2]
    have ey' : ∀ d, deafStep g d y = d := fun d => by unfold deafStep; rw [hy.2]
    rw [ex', ey'] at this
    exact this
  have d1 : ∀ j, 1 ≤ j → Deaf t j = 0 := fun j hj => by
    have := Deaf_other #[] (g := j) (g' := 0) (by omega) t h0
    simpa [Deaf, Trace.deaf] using this
  have hgo : (t ++ #[x, y]).heard t.size := ⟨0, by rw [g_new ex, hx.1], by rw [deaf_old (Nat.le_refl _)]; exact hd⟩
  have hst : (t ++ #[x, y]).heard (t.size + 1) := ⟨1, by rw [g_new ey, hy.1], by
    have e2 : t ++ #[x, y] = (t ++ #[x]) ++ #[y] := by apply Array.toList_inj.1; simp
    have hs : (t ++ #[x]).size = t.size + 1 := by simp
    rw [e2, ← hs, deaf_old (Nat.le_refl _)]
    have := Deaf_other #[] (g := 1) (g' := 0) (by decide) (t ++ #[x]) (fun op ho => (Array.mem_append.1 ho).elim (h0 op) (fun q => by simp at q; subst q; exact hx.1))
    simpa [Deaf, Trace.deaf] using this⟩
  have edge : HappensBefore (t ++ #[x, y]) t.size (t.size + 1) := .single (.inr ⟨.spawn (child := 1) (by rw [act?_of ex, hx.2]) (by rw [act?_of ey, hy.2]) (by rw [g_new ey, hy.1]), hgo, hst⟩)
  have n0 : ∀ said, ¬ Race said (#[] : Trace) := fun said => by
    rintro ⟨i, j, _, ⟨a, b, ha, _⟩, _⟩
    simp [Trace.act?] at ha
  refine ⟨⟨fun said => ?_, fun i a ha hm hv => ?_, fun i a ha hm => ?_, ?_, ?_⟩, by rw [step]; exact hd, fun j hj => by rw [step]; exact d1 j hj, fun i g hi => ?_⟩
  · have n1 : ¬ Race said (#[] ++ t) := noRace_append (n0 said) h0 (fun i a ha => by simp [touchAt, Trace.act?] at ha)
    have n2 : ¬ Race said (#[] ++ t ++ #[x]) := noRace_append (g := 0) n1 (by intro op ho; simp at ho; subst ho; exact hx.1) (fun i a _ op ho b hb => by simp at ho; subst ho; rw [hx.2] at hb; cases hb)
    have n3 : ¬ Race said (#[] ++ t ++ #[x] ++ #[y]) := noRace_append (g := 1) n2 (by intro op ho; simp at ho; subst ho; exact hy.1) (fun i a _ op ho b hb => by simp at ho; subst ho; rw [hy.2] at hb; cases hb)
    have e3 : #[] ++ t ++ #[x] ++ #[y] = t ++ #[x, y] := by apply Array.toList_inj.1; simp
    rw [← e3]; exact n3
  · obtain ⟨z, hz, hza⟩ := touch_of ha
    rcases getElem?_append_cases hz with ⟨hi, hz'⟩ | ⟨_, hzu⟩
    · exact ⟨t.size + 1, y, ey, hy.1, .inr ((hb_po hi hz ex ((h0 z (mem_of_getElem? hz')).trans hx.1.symm)).trans edge)⟩
    · rw [still z hzu] at hza; cases hza
  · obtain ⟨z, hz, hza⟩ := touch_of ha
    rcases getElem?_append_cases hz with ⟨hi, hz'⟩ | ⟨_, hzu⟩
    · have := knows_own hz
      rw [h0 z (mem_of_getElem? hz')] at this
      exact .inl this
    · rw [still z hzu] at hza; cases hza
  · exact hq.app fun op hop z hz => by rw [still op hop] at hz; cases hz
  · exact hn.app fun op hop e4 => by
      simp at hop
      rcases hop with rfl | rfl
      · rw [hx.2] at e4; cases e4
      · rw [hy.2] at e4; cases e4
  · obtain ⟨op, ho, rfl⟩ := Option.map_eq_some_iff.1 hi
    rcases getElem?_append_cases ho with ⟨_, ho'⟩ | ⟨_, hou⟩
    · exact .inl (h0 op (mem_of_getElem? ho'))
    · simp at hou
      rcases hou with rfl | rfl
      · exact .inl hx.1
      · exact .inr hy.1
end
end Go.Proofs.Ythbghcebcahlnaa
