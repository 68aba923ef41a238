/- A veil: a row of cells that is empty in one world and full in the other. What goes on in the first without getting stuck goes on in the second. -/
import Derived.Test.YtfnbcpeipoobkaaGreatM0
import Derived.Conc.Events
set_option linter.unusedSectionVars false
namespace Go.Proofs.YtfnbcpeipoobkaaGreat
open Go

/-- Places of the heap of which nothing is known. -/
structure Junk where
  J : Nat → Option Obj → Prop
def jk [h : Inhabited Junk] (r : Nat) (o : Option Obj) : Prop := h.default.J r o
/-- All is known. -/
abbrev noJunk : Inhabited Junk := ⟨⟨fun _ _ => False⟩⟩
theorem no_jk (r : Nat) (o : Option Obj) : ¬ @jk noJunk r o := id
/-- What may lie at such a place. -/
def hides : Obj → Bool
  | .pending .. | .view .. | .loop _ | .deferred _ => true
  | _ => false
/-- A dead view lies there in the one world, anything in the other. -/
def Hidn (a b : Option Obj) : Prop := ∃ x t o, x.spot.isSome = true ∧ a = some (Obj.view x t) ∧ b = some o ∧ hides o = true
variable [Inhabited Junk]
/-- v is w, but for the rows of V: empty in w, and for what is not known. The tapes are not spoken of. -/
structure Sib (P : Program) (V : Nat → Prop) (w v : World) : Prop where
  size : v.heap.size = w.heap.size
  like : ∀ r, ¬ V r → v.heap[r]? = w.heap[r]? ∨ (jk r v.heap[r]? ∧ Hidn w.heap[r]? v.heap[r]?)
  veil : ∀ r, V r → ∃ c ty, w.heap[r]? = some (Obj.cells #[] ty) ∧ v.heap[r]? = some (Obj.cells c ty)
  kind : ∀ (r : Nat) (o : Obj), w.heap[r]? = some o → okObj P o
  env : w.os.env = #[]

/-- Halts that no run of ours comes to. -/
def Bad {α : Type} : Result α → Prop
  | .halt (.unsupported (.initOrder _)) _ => False
  | .halt (.unsupported _) _ => True
  | .halt (.stuck _) _ => True
  | _ => False
theorem bad_cast {α β : Type} {h : Halt} {w : World} (hb : Bad (.halt h w : Result α)) : Bad (.halt h w : Result β) := by
  cases h <;> first | exact hb | (rename_i u; cases u <;> exact hb)
/-- The result, with another world. -/
def putW {α : Type} (v : World) : Result α → Result α
  | .ok a _ => .ok a v
  | .halt h _ => .halt h v
/-- What may be listed. -/
def Fine (V : Nat → Prop) (e : Event) : Prop := match e.loc with
  | .cell a => ¬ V a.block
  | .obj r => ¬ V r
  | .mark (.extern _) => True
  | .mark .noRoom => True
  | _ => False

/-- An event's own bound. -/
def evB (e : Event) : Nat := match e.loc with
  | .cell a => a.block + 1
  | .obj r => r + 1
  | _ => 0
/-- No want of a variable that is not made yet. -/
def notInit : Unsupported → Prop
  | .initOrder _ => False
  | _ => True
theorem bad_uns {α : Type} {u : Unsupported} (h : notInit u) (w : World) : Bad (.halt (.unsupported u) w : Result α) := by cases u <;> exact h
/-- v's tape says next what w's says, for n answers. -/
def AgrT (w : World) (n : Nat) (v : World) : Prop := ∀ j q, j < n → v.tape (v.drawn + j) q = w.tape (w.drawn + j) q
/-- Of the first run alone. -/
structure Good {α : Type} (V : Nat → Prop) (x : Result α × Array Event) (es : Array Event) (w : World) : Prop where
  fine : ∀ e ∈ x.2, e ∈ es ∨ (Fine V e ∧ evB e ≤ (wOf x.1).heap.size)
  halt : ∀ h w', x.1 = .halt h w' → ∃ z, h = .panic z
  tape : (wOf x.1).tape = w.tape
  le : w.drawn ≤ (wOf x.1).drawn
  grow : w.heap.size ≤ (wOf x.1).heap.size
/-- Of both. -/
structure Same {α : Type} (P : Program) (V : Nat → Prop) (x y : Result α × Array Event) (w v : World) : Prop where
  run : y = (putW (wOf y.1) x.1, x.2)
  sib : Sib P V (wOf x.1) (wOf y.1)
  os : (wOf y.1).os = v.os
  output : (wOf y.1).output = v.output
  tape : (wOf y.1).tape = v.tape
  drawn : (wOf y.1).drawn = v.drawn + ((wOf x.1).drawn - w.drawn)
  keep : ∀ r, V r → (wOf y.1).heap[r]? = v.heap[r]?
def At {α : Type} (P : Program) (V : Nat → Prop) (x y : Result α × Array Event) (es : Array Event) (w v : World) (Q : α → Prop) : Prop :=
  Bad x.1 ∨ (Good V x es w ∧ (∀ a w', x.1 = .ok a w' → Q a) ∧ (AgrT w ((wOf x.1).drawn - w.drawn) v → Same P V x y w v))
/-- The same, and what is answered is such. -/
def SimQ {α : Type} (P0 P : Program) (s : Sem α) (Q : α → Prop) : Prop := ∀ (V : Nat → Prop) (w v : World) (es : Array Event), Sib P V w v → At P V (s.runT P0 w es) (s.runT P v es) es w v Q
def Sim {α : Type} (P0 P : Program) (s : Sem α) : Prop := SimQ P0 P s fun _ => True

variable {P0 P : Program}

theorem SimQ.sim {α : Type} {s : Sem α} {Q : α → Prop} (h : SimQ P0 P s Q) : Sim P0 P s := fun V w v es hs => (h V w v es hs).imp id fun x => ⟨x.1, fun _ _ _ => trivial, x.2.2⟩
theorem q_of {α : Type} {s : Sem α} {Q : α → Prop} (h : Sim P0 P s) (hq : ∀ a, Q a) : SimQ P0 P s Q := fun V w v es hs => (h V w v es hs).imp id fun x => ⟨x.1, fun a _ _ => hq a, x.2.2⟩
theorem q_none {α : Type} {s : Sem α} {Q : α → Prop} (h : Sim P0 P s) (hn : ∀ w es a w', (s.runT P0 w es).1 ≠ .ok a w') : SimQ P0 P s Q := fun V w v es hs => (h V w v es hs).imp id fun x => ⟨x.1, fun _ _ e => absurd e (hn _ _ _ _), x.2.2⟩
theorem at_pure {α : Type} {V : Nat → Prop} {w v : World} {es : Array Event} {a : α} {Q : α → Prop} (h : Sib P V w v) (hq : Q a) : At P V (.ok a w, es) (.ok a v, es) es w v Q :=
  .inr ⟨⟨fun _ he => .inl he, fun _ _ e => (by cases e), rfl, Nat.le_refl _, Nat.le_refl _⟩, fun b w' e => (by cases e; exact hq), fun _ => ⟨rfl, h, rfl, rfl, rfl, (Nat.sub_self w.drawn).symm ▸ rfl, fun _ _ => rfl⟩⟩
theorem q_pure {α : Type} {a : α} {Q : α → Prop} (h : Q a) : SimQ P0 P (.pure a) Q := fun _ _ _ _ hs => at_pure hs h
theorem sim_pure {α : Type} (a : α) : Sim P0 P (.pure a) := q_pure trivial
theorem sim_halt {α : Type} (x : Value) : Sim P0 P (.halt (.panic x) : Sem α) := fun _ w _ _ h =>
  .inr ⟨⟨fun _ he => .inl he, fun _ _ e => (by cases e; exact ⟨_, rfl⟩), rfl, Nat.le_refl _, Nat.le_refl _⟩, fun b w' e => (by cases e), fun _ => ⟨rfl, h, rfl, rfl, rfl, (Nat.sub_self w.drawn).symm ▸ rfl, fun _ _ => rfl⟩⟩
theorem sim_stuck {α : Type} (s : String) : Sim P0 P (stuck s : Sem α) := fun _ _ _ _ _ => .inl trivial
theorem sim_unsupported {α : Type} (u : Unsupported) (hu : notInit u := by trivial) : Sim P0 P (unsupported u : Sem α) := fun _ _ _ _ _ => .inl (bad_uns hu _)
theorem sim_bad {α : Type} {s : Sem α} (h : ∀ w es, Bad (s.runT P0 w es).1) : Sim P0 P s := fun _ w _ es _ => .inl (h w es)

/-- A node that draws nothing. -/
theorem at_pass {α : Type} {V : Nat → Prop} {x y : Result α × Array Event} {es es1 : Array Event} {w v w1 v1 : World} {Q : α → Prop} (hw : w1.tape = w.tape ∧ w1.drawn = w.drawn ∧ w.heap.size ≤ w1.heap.size) (hv : v1.tape = v.tape ∧ v1.drawn = v.drawn ∧ v1.os = v.os ∧ v1.output = v.output ∧ ∀ r, V r → v1.heap[r]? = v.heap[r]?) (he : ∀ e ∈ es1, e ∈ es ∨ (Fine V e ∧ evB e ≤ w1.heap.size)) (h : At P V x y es1 w1 v1 Q) : At P V x y es w v Q := by
  rcases h with h | ⟨⟨g1, g2, g3, g4, g5⟩, gq, gs⟩
  · exact .inl h
  · refine .inr ⟨⟨fun e h => ?_, g2, g3.trans hw.1, hw.2.1 ▸ g4, Nat.le_trans hw.2.2 g5⟩, gq, fun hA => ?_⟩
    · rcases g1 e h with h | h
      · exact (he e h).imp id fun x => ⟨x.1, Nat.le_trans x.2 g5⟩
      · exact .inr h
    · obtain ⟨s1, s2, s3, s4, s5, s6, s7⟩ := gs (fun j q hj => by rw [hv.1, hv.2.1, hw.1, hw.2.1]; exact hA j q (hw.2.1 ▸ hj))
      exact ⟨s1, s2, s3.trans hv.2.2.1, s4.trans hv.2.2.2.1, s5.trans hv.1, by rw [s6, hv.2.1, hw.2.1], fun r hr => (s7 r hr).trans (hv.2.2.2.2 r hr)⟩
theorem mem_push_fine {V : Nat → Prop} {es : Array Event} {a : Event} {n : Nat} (h : Fine V a) (hn : evB a ≤ n) : ∀ e ∈ es.push a, e ∈ es ∨ (Fine V e ∧ evB e ≤ n) := by
  intro e he
  rcases Array.mem_push.mp he with g | rfl
  · exact .inl g
  · exact .inr ⟨h, hn⟩

theorem good_not {α : Type} {V : Nat → Prop} {x : Result α × Array Event} {es : Array Event} {w : World} (h : Good V x es w) : ¬ Bad x.1 := by
  obtain ⟨r, es'⟩ := x
  cases r with
  | ok a w' => exact id
  | halt hh w' =>
    obtain ⟨z, rfl⟩ := h.halt hh w' rfl
    exact id
theorem q_bind {α β : Type} {x : Sem α} {f : α → Sem β} {R : α → Prop} {Q : β → Prop} (hx : SimQ P0 P x R) (hf : ∀ a, R a → SimQ P0 P (f a) Q) : SimQ P0 P (x >>= f) Q := by
  intro V w v es h
  show At P V ((x.bind f).runT P0 w es) ((x.bind f).runT P v es) es w v Q
  rw [Sem.runT_bind', Sem.runT_bind']
  have h2 : Sib P V w { v with tape := w.tape, drawn := w.drawn } := ⟨h.size, h.like, h.veil, h.kind, h.env⟩
  have hx1 := hx V w v es h
  have hx2 := hx V w { v with tape := w.tape, drawn := w.drawn } es h2
  rcases hx2 with hb | ⟨hg, gq, gs⟩
  · left
    generalize x.runT P0 w es = X at *
    obtain ⟨r, es'⟩ := X
    cases r with
    | ok a w' => exact hb.elim
    | halt hh w' => exact bad_cast hb
  · have gsib := (gs fun j q _ => rfl).sib
    have gs1 := (hx1.resolve_left (good_not hg)).2.2
    clear hx1 gs
    obtain ⟨g1, g2, g3, g4, g5⟩ := hg
    generalize x.runT P { v with tape := w.tape, drawn := w.drawn } es = Z at *
    generalize x.runT P0 w es = X at *
    generalize x.runT P v es = Y at *
    obtain ⟨r, es'⟩ := X
    cases r with
    | halt hh w' =>
      refine .inr ⟨⟨g1, fun h w2 e => by cases e; exact g2 _ _ rfl, g3, g4, g5⟩, fun a w2 e => (by cases e), fun hA => ?_⟩
      obtain ⟨s1, s2, s3, s4, s5, s6, s7⟩ := gs1 hA
      obtain ⟨r', es2⟩ := Y
      obtain ⟨e1, e2⟩ := Prod.mk.inj s1
      have e2 : es2 = es' := e2
      subst e2
      have e1 : r' = .halt hh (wOf r') := e1
      have s2 : Sib P V w' (wOf r') := s2
      have s3 : (wOf r').os = v.os := s3
      have s4 : (wOf r').output = v.output := s4
      have s5 : (wOf r').tape = v.tape := s5
      have s6 : (wOf r').drawn = v.drawn + (w'.drawn - w.drawn) := s6
      have s7 : ∀ r, V r → (wOf r').heap[r]? = v.heap[r]? := s7
      generalize wOf r' = v' at *
      subst e1
      exact ⟨rfl, s2, s3, s4, s5, s6, s7⟩
    | ok a w' =>
      have ha := gq a w' rfl
      have gt : w'.tape = w.tape := g3
      have gd : w.drawn ≤ w'.drawn := g4
      have gz : w.heap.size ≤ w'.heap.size := g5
      have gsib : Sib P V w' (wOf Z.1) := gsib
      rcases hf a ha V w' _ es' gsib with hb | ⟨hk, kq, _⟩
      · exact .inl hb
      · refine .inr ⟨⟨fun e he => ?_, hk.halt, hk.tape.trans gt, Nat.le_trans gd hk.le, Nat.le_trans gz hk.grow⟩, kq, fun hA => ?_⟩
        · rcases hk.fine e he with h | h
          · exact (g1 e h).imp id fun x => ⟨x.1, Nat.le_trans x.2 hk.grow⟩
          · exact .inr h
        · have hd : w'.drawn ≤ (wOf ((f a).runT P0 w' es').1).drawn := hk.le
          have hA : AgrT w ((wOf ((f a).runT P0 w' es').1).drawn - w.drawn) v := hA
          obtain ⟨s1, s2, s3, s4, s5, s6, s7⟩ := gs1 (fun j q (hj : j < w'.drawn - w.drawn) => hA j q (by omega))
          obtain ⟨r', es2⟩ := Y
          obtain ⟨e1, e2⟩ := Prod.mk.inj s1
          have e2 : es2 = es' := e2
          subst e2
          have e1 : r' = .ok a (wOf r') := e1
          have s2 : Sib P V w' (wOf r') := s2
          have s3 : (wOf r').os = v.os := s3
          have s4 : (wOf r').output = v.output := s4
          have s5 : (wOf r').tape = v.tape := s5
          have s6 : (wOf r').drawn = v.drawn + (w'.drawn - w.drawn) := s6
          have s7 : ∀ r, V r → (wOf r').heap[r]? = v.heap[r]? := s7
          generalize wOf r' = v' at *
          subst e1
          obtain ⟨t1, t2, t3, t4, t5, t6, t7⟩ := ((hf a ha V w' v' es2 s2).resolve_left (good_not hk)).2.2 (fun j q hj => by
            rw [s5, s6, gt]
            have := hA (w'.drawn - w.drawn + j) q (by omega)
            rw [show v.drawn + (w'.drawn - w.drawn) + j = v.drawn + (w'.drawn - w.drawn + j) by omega, this]
            congr 1
            omega)
          refine ⟨t1, t2, t3.trans s3, t4.trans s4, t5.trans s5, ?_, fun r hr => (t7 r hr).trans (s7 r hr)⟩
          show (wOf ((f a).runT P v' es2).1).drawn = v.drawn + ((wOf ((f a).runT P0 w' es2).1).drawn - w.drawn)
          rw [t6, s6]
          omega
theorem sim_bind {α β : Type} {x : Sem α} {f : α → Sem β} (hx : Sim P0 P x) (hf : ∀ a, Sim P0 P (f a)) : Sim P0 P (x >>= f) := q_bind hx fun a _ => hf a

theorem sib_cell {P : Program} {V : Nat → Prop} {w v : World} (h : Sib P V w v) (a : Addr) (ha : ¬ V a.block) : v.cell? a = w.cell? a := by
  unfold World.cell?
  rcases h.like _ ha with e | ⟨_, x, t, o, _, h1, h2, h3⟩
  · rw [e]
  · rw [h1, h2]
    cases o <;> first | rfl | cases h3
theorem sib_shape {P : Program} {V : Nat → Prop} {w v : World} (h : Sib P V w v) (r : Nat) (hr : ¬ V r) : v.shape? r = w.shape? r := by
  unfold World.shape?
  rcases h.like _ hr with e | ⟨_, x, t, o, _, h1, h2, h3⟩
  · rw [e]
  · rw [h1, h2]
    cases o <;> first | rfl | cases h3
theorem sib_cell_veil {P : Program} {V : Nat → Prop} {w v : World} (h : Sib P V w v) (a : Addr) (ha : V a.block) : w.cell? a = none := by
  obtain ⟨c, ty, h1, h2⟩ := h.veil _ ha
  unfold World.cell?
  rw [h1]
  simp
theorem sib_frozen {P : Program} {V : Nat → Prop} {w v : World} (h : Sib P V w v) (a : Addr) : v.frozen? a = w.frozen? a := by
  unfold World.frozen?
  by_cases ha : V a.block
  · obtain ⟨c, ty, h1, h2⟩ := h.veil _ ha
    rw [h1, h2]
  · rcases h.like _ ha with e | ⟨_, x, t, o, _, h1, h2, h3⟩
    · rw [e]
    · rw [h1, h2]
      cases o <;> first | rfl | cases h3
/-- A dead view is read by none. -/
theorem dead_load (p : Program) (w : World) (x : Addr) (u : TypeId) (a : Addr) (b : Bool) (hx : x.spot.isSome = true) : ∃ s, w.viewLoad p x u a b = .error s := by
  refine ⟨ "memory seen as another type: a place without cells", ?_⟩
  unfold World.viewLoad World.seen
  simp [hx]
  rfl
theorem dead_store (p : Program) (w : World) (x : Addr) (u : TypeId) (a : Addr) (y : Value) (b : Bool) (hx : x.spot.isSome = true) : ∃ s, w.viewStore p x u a y b = .error s := by
  unfold World.viewStore World.seen
  cases tight p p.depth u
  · exact ⟨_, rfl⟩
  · refine ⟨ "memory seen as another type: a place without cells", ?_⟩
    simp [hx]
    rfl
theorem sib_far_load {P : Program} {V : Nat → Prop} {w v : World} (h : Sib P V w v) (p : Program) (a : Addr) (b : Bool) : ∃ x, w.farLoad p a b = .error x ∧ ((∃ u, x = .unsupported u ∧ notInit u) ∨ ∃ s, x = .stuck s) := by
  unfold World.farLoad
  split
  · rename_i x u e
    obtain ⟨s, hs⟩ := dead_load p w x u a b (h.kind _ _ e)
    rw [hs]
    exact ⟨_, rfl, .inl ⟨_, rfl, trivial⟩⟩
  · refine ⟨_, rfl, ?_⟩
    unfold World.noCell
    split
    · rename_i e; exact (h.kind _ _ e).elim
    · exact .inl ⟨_, rfl, trivial⟩
    · exact .inr ⟨_, rfl⟩
theorem sib_far_store {P : Program} {V : Nat → Prop} {w v : World} (h : Sib P V w v) (p : Program) (a : Addr) (x : Value) (b : Bool) : ∃ y, w.farStore p a x b = .error y ∧ ((∃ u, y = .unsupported u ∧ notInit u) ∨ ∃ s, y = .stuck s) := by
  unfold World.farStore
  split
  · rename_i y u e
    obtain ⟨s, hs⟩ := dead_store p w y u a x b (h.kind _ _ e)
    rw [hs]
    exact ⟨_, rfl, .inl ⟨_, rfl, trivial⟩⟩
  · refine ⟨_, rfl, ?_⟩
    unfold World.noCell
    split
    · rename_i e; exact (h.kind _ _ e).elim
    · exact .inl ⟨_, rfl, trivial⟩
    · exact .inr ⟨_, rfl⟩

theorem cell_lt {w : World} {a : Addr} {x : Value} (h : w.cell? a = some x) : a.block < w.heap.size := by
  unfold World.cell? at h
  cases e : w.heap[a.block]? with
  | none => rw [e] at h; simp at h
  | some o => exact (Array.getElem?_eq_some_iff.mp e).1
theorem sim_load {α : Type} {m : Mode} {a : Addr} {k : Value → Sem α} (hk : ∀ x, Sim P0 P (k x)) : Sim P0 P (.load m a k) := by
  intro V w v es h
  obtain ⟨x, hx, hx'⟩ := sib_far_load h P0 a (m == .atomic)
  by_cases ha : V a.block
  · left
    simp only [Sem.runT, sib_cell_veil h a ha, hx]
    rcases hx' with ⟨u, rfl, hu⟩ | ⟨s, rfl⟩ <;> first | trivial | exact bad_uns hu _
  · have hc := sib_cell h a ha
    cases hw : w.cell? a with
    | some x =>
      rw [hw] at hc
      simp only [Sem.runT, hw, hc]
      exact at_pass ⟨rfl, rfl, Nat.le_refl _⟩ ⟨rfl, rfl, rfl, rfl, fun _ _ => rfl⟩ (mem_push_fine (a := ⟨.cell a, false, m == .atomic⟩) ha (cell_lt hw)) (hk x V w v _ h)
    | none =>
      left
      simp only [Sem.runT, hw, hx]
      rcases hx' with ⟨u, rfl, hu⟩ | ⟨s, rfl⟩ <;> first | trivial | exact bad_uns hu _
theorem setCell_heap (w : World) (a : Addr) (x : Value) (r : Nat) : (w.setCell a x).heap[r]? = if r = a.block then (w.heap[r]?).map (fun | .cells c elem frozen => .cells (if a.spot.isSome then c else c.setIfInBounds a.off x) elem frozen | o => o) else w.heap[r]? := by
  unfold World.setCell
  simp only [Array.getElem?_modify]
  by_cases c : a.block = r
  · rw [if_pos c, if_pos c.symm]
    cases w.heap[r]? with
    | none => rfl
    | some o => cases o <;> rfl
  · rw [if_neg c, if_neg (Ne.symm c)]
theorem sib_set {P : Program} {V : Nat → Prop} {w v : World} (h : Sib P V w v) (a : Addr) (ha : ¬ V a.block) (x : Value) : Sib P V (w.setCell a x) (v.setCell a x) where
  size := by simp [World.setCell, h.size]
  like := fun r hr => by
    rcases h.like r hr with e | ⟨hj, y, t, o, h0, h1, h2, h3⟩
    · rw [setCell_heap, setCell_heap, e]; exact .inl rfl
    · right
      have e2 : (v.setCell a x).heap[r]? = v.heap[r]? := by
        rw [setCell_heap, h2]; split
        · cases o <;> first | rfl | cases h3
        · rfl
      rw [e2]
      refine ⟨hj, y, t, o, h0, ?_, h2, h3⟩
      rw [setCell_heap, h1]; split <;> rfl
  veil := fun r hr => by
    have hne : r ≠ a.block := fun e => ha (e ▸ hr)
    rw [setCell_heap, setCell_heap, if_neg hne, if_neg hne]
    exact h.veil r hr
  kind := fun r o => by
    rw [setCell_heap]
    split
    · intro e
      cases hh : w.heap[r]? with
      | none => rw [hh] at e; cases e
      | some o' =>
        rw [hh] at e
        have hk := h.kind r o' hh
        cases o' <;> simp only [Option.map_some, Option.some.injEq] at e <;> subst e <;> first | exact hk | trivial
    · exact h.kind r o
  env := h.env

theorem sim_store {α : Type} {m : Mode} {a : Addr} {x : Value} {k : Sem α} (hk : Sim P0 P k) : Sim P0 P (.store m a x k) := by
  intro V w v es h
  by_cases hv : (∃ c, x = .agg c) ∨ ∃ c, x = .tuple c
  · left
    rcases hv with ⟨c, rfl⟩ | ⟨c, rfl⟩ <;> trivial
  · have hv1 : ∀ c, x ≠ .agg c := fun c e => hv (.inl ⟨c, e⟩)
    have hv2 : ∀ c, x ≠ .tuple c := fun c e => hv (.inr ⟨c, e⟩)
    rw [runT_store1 hv1 hv2, runT_store1 hv1 hv2]
    obtain ⟨y, hy, hy'⟩ := sib_far_store h P0 a x (m == .atomic)
    by_cases ha : V a.block
    · left
      rw [sib_cell_veil h a ha, hy]
      rcases hy' with ⟨u, rfl, hu⟩ | ⟨s, rfl⟩ <;> first | trivial | exact bad_uns hu _
    · cases hw : w.cell? a with
      | none =>
        left
        rw [hy]
        rcases hy' with ⟨u, rfl, hu⟩ | ⟨s, rfl⟩ <;> first | trivial | exact bad_uns hu _
      | some z =>
        rw [sib_cell h a ha, hw, sib_frozen h]
        dsimp only
        split
        · exact .inl trivial
        · exact at_pass (w1 := w.setCell a x) (v1 := v.setCell a x) ⟨rfl, rfl, Nat.le_of_eq (by simp [World.setCell])⟩ ⟨rfl, rfl, rfl, rfl, fun r hr => by rw [setCell_heap, if_neg (show ¬ r = a.block from fun e => ha (e ▸ hr))]⟩ (mem_push_fine (a := ⟨.cell a, true, m == .atomic⟩) ha (Nat.le_trans (cell_lt hw) (Nat.le_of_eq (by simp [World.setCell])))) (hk V _ _ _ (sib_set h a ha x))
theorem sib_lt {P : Program} {V : Nat → Prop} {w v : World} (h : Sib P V w v) {r : Nat} (hr : V r) : r < w.heap.size := by
  obtain ⟨c, ty, h1, _⟩ := h.veil r hr
  exact (Array.getElem?_eq_some_iff.mp h1).1
theorem sim_new {α : Type} {o : Obj} {k : Nat → Sem α} (ho : okObj P o) (hk : ∀ r, Sim P0 P (k r)) : Sim P0 P (.new o k) := by
  intro V w v es h
  show At P V ((k w.heap.size).runT P0 _ es) ((k v.heap.size).runT P _ es) es w v _
  rw [h.size]
  refine at_pass (w1 := { w with heap := w.heap.push o }) (v1 := { v with heap := v.heap.push o }) ⟨rfl, rfl, by simp⟩ ⟨rfl, rfl, rfl, rfl, fun r hr => by simp only [Array.getElem?_push, h.size, if_neg (Nat.ne_of_lt (sib_lt h hr))]⟩ (fun _ he => .inl he) (hk _ V _ _ es ⟨by simp [h.size], fun r hr => ?_, fun r hr => ?_, fun r o' => ?_, h.env⟩)
  · simp only [Array.getElem?_push, h.size]
    split
    · exact .inl rfl
    · exact h.like r hr
  · have := sib_lt h hr
    simp only [Array.getElem?_push, h.size, if_neg (Nat.ne_of_lt this)]
    exact h.veil r hr
  · simp only [Array.getElem?_push]
    split
    · exact fun e => Option.some.inj e ▸ ho
    · exact h.kind r o'
/-- The rows' lengths are seen by none that looks at the type alone. -/
theorem sim_shape {α : Type} {r : Nat} {k : Option (TypeId × Nat) → Sem α} (hs : ∀ ty n m, k (some (ty, n)) = k (some (ty, m))) (hk : ∀ s, Sim P0 P (k s)) : Sim P0 P (.shape r k) := by
  intro V w v es h
  show At P V ((k (w.shape? r)).runT P0 w es) ((k (v.shape? r)).runT P v es) es w v _
  by_cases hr : V r
  · obtain ⟨c, ty, h1, h2⟩ := h.veil r hr
    have e1 : w.shape? r = some (ty, 0) := by unfold World.shape?; rw [h1]; rfl
    have e2 : v.shape? r = some (ty, c.size) := by unfold World.shape?; rw [h2]
    rw [e1, e2, hs ty c.size 0]
    exact hk _ V w v es h
  · rw [sib_shape h r hr]
    exact hk _ V w v es h
theorem sim_frozen {α : Type} {a : Addr} {k : Bool → Sem α} (hk : ∀ b, Sim P0 P (k b)) : Sim P0 P (.frozen a k) := by
  intro V w v es h
  simp only [Sem.runT, sib_frozen h]
  exact hk _ V w v es h
theorem run_getObj {α : Type} (r : Nat) (k : Obj → Sem α) (es : Array Event) (o : Obj) (hc : ∀ c e f, o ≠ .cells c e f) (p : Program) (u : World) (hu : u.heap[r]? = some o) : (Sem.getObj r k).runT p u es = (k o).runT p u (es.push ⟨.obj r, false, o.isChan⟩) := by
  cases o
  case cells c e f => exact absurd rfl (hc c e f)
  all_goals simp only [Sem.runT, hu]
/-- An object looked at: what is not known is a dead view here, there anything. -/
theorem sim_getObj {α : Type} {r : Nat} {k : Obj → Sem α} {Q : α → Prop} (hk : ∀ o, okObj P o → SimQ P0 P (k o) Q) (hd : ∀ (x : Addr) (t : TypeId) (o : Obj), hides o = true → (∀ w es, Bad ((k (.view x t)).runT P0 w es).1) ∨ (k o = k (.view x t))) : SimQ P0 P (.getObj r k) Q := by
  intro V w v es h
  by_cases hr : V r
  · left
    obtain ⟨c, ty, h1, _⟩ := h.veil r hr
    simp only [Sem.runT, h1]
    trivial
  · have hl := h.like r hr
    cases ho : w.heap[r]? with
    | none => left; simp only [Sem.runT, ho]; trivial
    | some o =>
      rw [ho] at hl
      by_cases hc : ∃ c e f, o = .cells c e f
      · left
        obtain ⟨c, e, f, rfl⟩ := hc
        simp only [Sem.runT, ho]
        trivial
      · have hc' : ∀ c e f, o ≠ .cells c e f := fun c e f x => hc ⟨c, e, f, x⟩
        rw [run_getObj r k es o hc' _ _ ho]
        have pass := fun (y : Result α × Array Event) (g : At P V ((k o).runT P0 w (es.push ⟨.obj r, false, o.isChan⟩)) y (es.push ⟨.obj r, false, o.isChan⟩) w v Q) => at_pass ⟨rfl, rfl, Nat.le_refl _⟩ ⟨rfl, rfl, rfl, rfl, fun _ _ => rfl⟩ (mem_push_fine (a := ⟨.obj r, false, o.isChan⟩) hr (Array.getElem?_eq_some_iff.mp ho).1) g
        rcases hl with hl | ⟨_, x, t, o', h0, h1, h2, h3⟩
        · rw [run_getObj r k es o hc' _ _ hl]
          exact pass _ (hk o (h.kind r o ho) V w v _ h)
        · obtain rfl : o = .view x t := Option.some.inj h1
          rcases hd x t o' h3 with hb | he
          · exact .inl (hb _ _)
          · have hc2 : ∀ c e f, o' ≠ .cells c e f := fun c e f x => by subst x; cases h3
            have e3 : o'.isChan = false := by cases o' <;> first | rfl | cases h3
            rw [run_getObj r k es o' hc2 _ _ h2, he, e3]
            exact pass _ (hk _ (h.kind r _ ho) V w v _ h)
theorem run_setObj {α : Type} (r : Nat) (o : Obj) (k : Sem α) (es : Array Event) (o' : Obj) (hc : ∀ c e f, o' ≠ .cells c e f) (p : Program) (u : World) (hu : u.heap[r]? = some o') : (Sem.setObj r o k).runT p u es = k.runT p { u with heap := u.heap.setIfInBounds r o } (es.push ⟨.obj r, true, o.isChan⟩) := by
  cases o'
  case cells c e f => exact absurd rfl (hc c e f)
  all_goals simp only [Sem.runT, hu]
theorem sim_setObj {α : Type} {r : Nat} {o : Obj} {k : Sem α} (hn : okObj P o) (hk : Sim P0 P k) : Sim P0 P (.setObj r o k) := by
  intro V w v es h
  by_cases hr : V r
  · left
    obtain ⟨c, ty, h1, _⟩ := h.veil r hr
    simp only [Sem.runT, h1]
    trivial
  · have hl := h.like r hr
    cases ho : w.heap[r]? with
    | none => left; simp only [Sem.runT, ho]; trivial
    | some o' =>
      rw [ho] at hl
      by_cases hc : ∃ c e f, o' = .cells c e f
      · left
        obtain ⟨c, e, f, rfl⟩ := hc
        simp only [Sem.runT, ho]
        trivial
      · have hc' : ∀ c e f, o' ≠ .cells c e f := fun c e f x => hc ⟨c, e, f, x⟩
        have hl' : ∃ o2, v.heap[r]? = some o2 ∧ ∀ c e f, o2 ≠ .cells c e f := by
          rcases hl with hl | ⟨_, x, t, o2, h0, h1, h2, h3⟩
          · exact ⟨o', hl, hc'⟩
          · exact ⟨o2, h2, fun c e f x => by subst x; cases h3⟩
        obtain ⟨o2, g1, g2⟩ := hl'
        rw [run_setObj r o k es o' hc' _ _ ho, run_setObj r o k es o2 g2 _ _ g1]
        have hs : Sib P V { w with heap := w.heap.setIfInBounds r o } { v with heap := v.heap.setIfInBounds r o } := by
          refine ⟨by simp [h.size], fun q hq => ?_, fun q hq => ?_, fun q o'' => ?_, h.env⟩
          · simp only [Array.getElem?_setIfInBounds, h.size]
            split
            · exact .inl rfl
            · exact h.like q hq
          · have hne : r ≠ q := fun e => hr (e ▸ hq)
            simp only [Array.getElem?_setIfInBounds, if_neg hne]
            exact h.veil q hq
          · simp only [Array.getElem?_setIfInBounds]
            split
            · split
              · exact fun e => Option.some.inj e ▸ hn
              · exact fun e => by cases e
            · exact h.kind q o''
        exact at_pass (w1 := { w with heap := w.heap.setIfInBounds r o }) (v1 := { v with heap := v.heap.setIfInBounds r o }) ⟨rfl, rfl, by simp⟩ ⟨rfl, rfl, rfl, rfl, fun q hq => by simp only [Array.getElem?_setIfInBounds, if_neg (show r ≠ q from fun e => hr (e ▸ hq))]⟩ (mem_push_fine (a := ⟨.obj r, true, o.isChan⟩) hr (by show r + 1 ≤ (w.heap.setIfInBounds r o).size; rw [Array.size_setIfInBounds]; exact (Array.getElem?_eq_some_iff.mp ho).1)) (hk V _ _ _ hs)
theorem sim_choose {α : Type} {q : Question} {k : Nat → Sem α} (hk : ∀ n, Sim P0 P (k n)) : Sim P0 P (.choose q k) := by
  intro V w v es h
  simp only [Sem.runT]
  split
  · exact hk _ V w v es h
  · have h2 : Sib P V { w with drawn := w.drawn + 1 } { v with drawn := v.drawn + 1 } := ⟨h.size, h.like, h.veil, h.kind, h.env⟩
    rcases hk (q.cut (w.tape w.drawn q)) V _ _ es h2 with hb | ⟨⟨g1, g2, g3, g4, g5⟩, gq, gs⟩
    · exact .inl hb
    · have g4 : w.drawn + 1 ≤ _ := g4
      refine .inr ⟨⟨g1, g2, g3, Nat.le_trans (Nat.le_succ _) g4, g5⟩, gq, fun hA => ?_⟩
      have e0 : v.tape v.drawn q = w.tape w.drawn q := by
        have := hA 0 q (by omega)
        simpa using this
      rw [e0]
      obtain ⟨s1, s2, s3, s4, s5, s6, s7⟩ := gs (fun j q' hj => by
        show v.tape (v.drawn + 1 + j) q' = w.tape (w.drawn + 1 + j) q'
        have hj : j < _ - (w.drawn + 1) := hj
        have := hA (j + 1) q' (by omega)
        rw [show v.drawn + 1 + j = v.drawn + (j + 1) by omega, show w.drawn + 1 + j = w.drawn + (j + 1) by omega]
        exact this)
      refine ⟨s1, s2, s3, s4, s5, ?_, s7⟩
      have s6 : _ = v.drawn + 1 + (_ - (w.drawn + 1)) := s6
      rw [s6]
      omega
theorem sim_program {α : Type} {k : Program → Sem α} {Q : α → Prop} (hk : k P0 = k P) (h : SimQ P0 P (k P) Q) : SimQ P0 P (.program k) Q := by
  intro V w v es hs
  simp only [Sem.runT, hk]
  exact h V w v es hs
theorem sim_mark {α : Type} {m : Mark} {k : Sem α} (hm : (∃ f, m = .extern f) ∨ m = .noRoom) (hk : Sim P0 P k) : Sim P0 P (.mark m k) := by
  intro V w v es h
  simp only [Sem.runT]
  exact at_pass ⟨rfl, rfl, Nat.le_refl _⟩ ⟨rfl, rfl, rfl, rfl, fun _ _ => rfl⟩ (mem_push_fine (by rcases hm with ⟨f, rfl⟩ | rfl <;> trivial) (Nat.zero_le _)) (hk V w v _ h)
end Go.Proofs.YtfnbcpeipoobkaaGreat
