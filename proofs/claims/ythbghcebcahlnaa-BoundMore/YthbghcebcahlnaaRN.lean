/- A lone machine that arrives for every tape goes on well-founded. -/
import Derived.Test.YthbghcebcahlnaaRM
set_option linter.unusedSectionVars false
namespace Go.Proofs.Ythbghcebcahlnaa
open Go
variable {P : Program} {F : Array Func} [Inhabited Junk]

/-- A state of the lone machine above the lowest frame: all is good. -/
structure FitB (P : Program) (fr : Frame) (up : List Frame) (w : World) : Prop where
  frame : okFrame P fr
  up : ∀ f ∈ up, okFrame P f
  kind : ∀ (r : Nat) (o : Obj), w.heap[r]? = some o → okObj P o
  env : w.os.env = #[]
theorem fit_re {fr : Frame} {up : List Frame} {w : World} (h : FitB P fr up w) (τ : Nat → Question → Nat) (d : Nat) : FitB P fr up (re w τ d) := ⟨h.frame, h.up, h.kind, h.env⟩
theorem sib_self {w v : World} (h : v.heap = w.heap) (hk : ∀ (r : Nat) (o : Obj), w.heap[r]? = some o → okObj P o) (he : w.os.env = #[]) : Sib P (fun _ => False) w v := ⟨by rw [h], fun r _ => .inl (by rw [h]), fun r hr => hr.elim, hk, he⟩

/-- THE STEP OF THE LONE MACHINE HANGS ON THE ANSWERS THAT IT TAKES ALONE. -/
theorem step_local (hP : bar P F = P) (hF : FenceB P F) (hB : Bodies P F) {fr fr' : Frame} {up up' : List Frame} {r : Nat} {w w' : World} {es : Array Event} {m : Bool} (h : FitB P fr up w)
    (e : stepG P m (runG fr (up ++ [baseF r])) w = .go (runG fr' (up' ++ [baseF r])) w' es) :
    FitB P fr' up' w' ∧ w'.tape = w.tape ∧ w.drawn ≤ w'.drawn ∧ ∀ τ d, Agr w (w'.drawn - w.drawn) τ d → stepG P m (runG fr (up ++ [baseF r])) (re w τ d) = .go (runG fr' (up' ++ [baseF r])) (re w' τ (d + (w'.drawn - w.drawn))) es := by
  letI : Inhabited Junk := noJunk
  have key : ∀ v : World, v.heap = w.heap → AgrT w (w'.drawn - w.drawn) v → (w'.tape = w.tape ∧ w.drawn ≤ w'.drawn ∧ okFrame P fr' ∧ ∀ f ∈ up', okFrame P f) ∧ ∃ v', stepG P m (runG fr (up ++ [baseF r])) v = .go (runG fr' (up' ++ [baseF r])) v' es ∧ Sib P (fun _ => False) w' v' ∧ v'.os = v.os ∧ v'.output = v.output ∧ v'.tape = v.tape ∧ v'.drawn = v.drawn + (w'.drawn - w.drawn) ∧ (∀ x : Nat, False → v'.heap[x]? = v.heap[x]?) := by
    intro v hv hA
    have hm := step_sim (r := r) (cs := [baseF r]) hF hB (sib_self hv h.kind h.env) h.frame h.up m m
    rw [hP, e] at hm
    generalize hS : stepG P m (runG fr (up ++ [baseF r])) v = S at hm
    generalize hg : runG fr' (up' ++ [baseF r]) = g at hm
    rcases hm with ⟨o, w1, es1, hx⟩ | ⟨fr2, w1, es1, h1, h2, h3, hx⟩ | ⟨fr2, up2, w1, es1, ht, hl, hf, hu, he, hz, hS', hx⟩
    · cases hx
    · injection hx with hx
      have := congrArg Goroutine.callers (hg.trans hx)
      simp [runG] at this
    · injection hx with hx hx1 hx2
      subst hx hx1 hx2
      have e1 : fr' = fr2 := congrArg Goroutine.frame hg
      have e2 : up' ++ [baseF r] = up2 ++ [baseF r] := congrArg Goroutine.callers hg
      have e2 : up' = up2 := List.append_cancel_right e2
      subst e1 e2
      obtain ⟨v', t1, t2⟩ := hS' hA
      exact ⟨⟨ht, hl, hf, hu⟩, v', t1, t2⟩
  obtain ⟨⟨k1, k2, k3, k4⟩, v', j1, j2, j3, j4, _, _, _⟩ := key w rfl (fun _ _ _ => rfl)
  rw [e] at j1
  have hv : w' = v' := by injection j1
  subst hv
  refine ⟨⟨k3, k4, j2.kind, j3 ▸ h.env⟩, k1, k2, fun τ d hA => ?_⟩
  obtain ⟨_, v2, l1, l2, l3, l4, l5, l6, _⟩ := key (re w τ d) rfl hA
  rw [l1]
  have : v2 = re w' τ (d + (w'.drawn - w.drawn)) := by
    have hh : v2.heap = w'.heap := Array.ext_getElem? fun i => (l2.like i id).resolve_right fun x => no_jk i _ x.1
    obtain ⟨a1, a2, a3, a4, a5⟩ := v2
    simp only [re] at *
    subst hh l5 l6
    rw [l3, l4, j3, j4]
  rw [this]

theorem ex1 {p : Prop} {q : p → Prop} (h : ∃ x, q x) : p := h.elim fun a _ => a
theorem ex2 {p : Prop} {q : p → Prop} (h : ∃ x, q x) : q (ex1 h) := h.elim fun _ b => b
/-- It arrives. -/
def Arr (P : Program) (r : Nat) (E : Frame → List Frame → World → Prop) (fr : Frame) (up : List Frame) (w : World) : Prop :=
  ∀ C : Frame → List Frame → World → Prop, (∀ fr up w, E fr up w → C fr up w) →
    (∀ fr up w fr' up' w' es, stepG P true (runG fr (up ++ [baseF r])) w = .go (runG fr' (up' ++ [baseF r])) w' es → C fr' up' w' → C fr up w) → C fr up w
section
variable {P : Program} {r : Nat} {E : Frame → List Frame → World → Prop}
theorem Arr.fin {fr : Frame} {up : List Frame} {w : World} (h : E fr up w) : Arr P r E fr up w := fun _ hf _ => hf _ _ _ h
theorem Arr.step {fr : Frame} {up : List Frame} {w : World} {fr' : Frame} {up' : List Frame} {w' : World} {es : Array Event} (h : stepG P true (runG fr (up ++ [baseF r])) w = .go (runG fr' (up' ++ [baseF r])) w' es) (ha : Arr P r E fr' up' w') : Arr P r E fr up w := fun C hf hs => hs _ _ _ _ _ _ _ h (ha C hf hs)
theorem Arr.ind {motive : ∀ (fr : Frame) (up : List Frame) (w : World), Arr P r E fr up w → Prop} (fin : ∀ {fr : Frame} {up : List Frame} {w : World} (h : E fr up w), motive fr up w (Arr.fin h))
    (step : ∀ {fr : Frame} {up : List Frame} {w : World} {fr' : Frame} {up' : List Frame} {w' : World} {es : Array Event} (h : stepG P true (runG fr (up ++ [baseF r])) w = .go (runG fr' (up' ++ [baseF r])) w' es) (ha : Arr P r E fr' up' w') (_ : motive fr' up' w' ha), motive fr up w (Arr.step h ha))
    {fr : Frame} {up : List Frame} {w : World} (h : Arr P r E fr up w) : motive fr up w h :=
  have key : ∃ h' : Arr P r E fr up w, motive fr up w h' := h (fun fr up w => ∃ h' : Arr P r E fr up w, motive fr up w h') (fun _ _ _ e => ⟨Arr.fin e, fin e⟩) fun _ _ _ _ _ _ _ e hc => ⟨Arr.step e (ex1 hc), step e (ex1 hc) (ex2 hc)⟩
  ex2 key
theorem Arr.inv {fr : Frame} {up : List Frame} {w : World} (h : Arr P r E fr up w) : E fr up w ∨ ∃ fr' up' w' es, stepG P true (runG fr (up ++ [baseF r])) w = .go (runG fr' (up' ++ [baseF r])) w' es ∧ Arr P r E fr' up' w' := by
  induction h using Arr.ind with
  | fin h => exact .inl h
  | step h ha _ => exact .inr ⟨_, _, _, _, h, ha⟩
end
/-- It arrives, whatever is answered, well-founded. -/
def GoesW (P : Program) (r : Nat) (E : Frame → List Frame → World → Prop) (fr : Frame) (up : List Frame) (w : World) : Prop :=
  ∀ C : Frame → List Frame → World → Prop, (∀ fr up w, E fr up w → C fr up w) →
    (∀ fr up w, (∀ τ d, ∃ fr' up' w' es, stepG P true (runG fr (up ++ [baseF r])) (re w τ d) = .go (runG fr' (up' ++ [baseF r])) w' es) →
      (∀ τ d fr' up' w' es, stepG P true (runG fr (up ++ [baseF r])) (re w τ d) = .go (runG fr' (up' ++ [baseF r])) w' es → C fr' up' w') → C fr up w) → C fr up w
section
variable {P : Program} {r : Nat} {E : Frame → List Frame → World → Prop}
theorem GoesW.fin {fr : Frame} {up : List Frame} {w : World} (h : E fr up w) : GoesW P r E fr up w := fun _ hf _ => hf _ _ _ h
theorem GoesW.step {fr : Frame} {up : List Frame} {w : World} (h1 : ∀ τ d, ∃ fr' up' w' es, stepG P true (runG fr (up ++ [baseF r])) (re w τ d) = .go (runG fr' (up' ++ [baseF r])) w' es)
    (h2 : ∀ τ d fr' up' w' es, stepG P true (runG fr (up ++ [baseF r])) (re w τ d) = .go (runG fr' (up' ++ [baseF r])) w' es → GoesW P r E fr' up' w') : GoesW P r E fr up w :=
  fun C hf hs => hs _ _ _ h1 fun τ d fr' up' w' es e => h2 τ d fr' up' w' es e C hf hs
theorem GoesW.ind {motive : ∀ (fr : Frame) (up : List Frame) (w : World), GoesW P r E fr up w → Prop} (fin : ∀ {fr : Frame} {up : List Frame} {w : World} (h : E fr up w), motive fr up w (GoesW.fin h))
    (step : ∀ {fr : Frame} {up : List Frame} {w : World} (h1 : ∀ τ d, ∃ fr' up' w' es, stepG P true (runG fr (up ++ [baseF r])) (re w τ d) = .go (runG fr' (up' ++ [baseF r])) w' es)
      (h2 : ∀ τ d fr' up' w' es, stepG P true (runG fr (up ++ [baseF r])) (re w τ d) = .go (runG fr' (up' ++ [baseF r])) w' es → GoesW P r E fr' up' w')
      (_ : ∀ τ d fr' up' w' es (e : stepG P true (runG fr (up ++ [baseF r])) (re w τ d) = .go (runG fr' (up' ++ [baseF r])) w' es), motive fr' up' w' (h2 τ d fr' up' w' es e)), motive fr up w (GoesW.step h1 h2))
    {fr : Frame} {up : List Frame} {w : World} (h : GoesW P r E fr up w) : motive fr up w h :=
  have key : ∃ h' : GoesW P r E fr up w, motive fr up w h' := h (fun fr up w => ∃ h' : GoesW P r E fr up w, motive fr up w h') (fun _ _ _ e => ⟨GoesW.fin e, fin e⟩) fun _ _ _ h1 hc => ⟨GoesW.step h1 fun τ d fr' up' w' es e => ex1 (hc τ d fr' up' w' es e), step h1 (fun τ d fr' up' w' es e => ex1 (hc τ d fr' up' w' es e)) fun τ d fr' up' w' es e => ex2 (hc τ d fr' up' w' es e)⟩
  ex2 key
theorem GoesW.inv {fr : Frame} {up : List Frame} {w : World} (h : GoesW P r E fr up w) : E fr up w ∨ ((∀ τ d, ∃ fr' up' w' es, stepG P true (runG fr (up ++ [baseF r])) (re w τ d) = .go (runG fr' (up' ++ [baseF r])) w' es) ∧
    ∀ τ d fr' up' w' es, stepG P true (runG fr (up ++ [baseF r])) (re w τ d) = .go (runG fr' (up' ++ [baseF r])) w' es → GoesW P r E fr' up' w') := by
  induction h using GoesW.ind with
  | fin h => exact .inl h
  | step h1 h2 _ => exact .inr ⟨h1, h2⟩
end

theorem go_inj {r : Nat} {fr fr' : Frame} {up up' : List Frame} {w w' : World} {es es' : Array Event} (h : GStep.go (runG fr (up ++ [baseF r])) w es = .go (runG fr' (up' ++ [baseF r])) w' es') : fr = fr' ∧ up = up' ∧ w = w' := by
  injection h with h1 h2 h3
  exact ⟨congrArg Goroutine.frame h1, List.append_cancel_right (congrArg Goroutine.callers h1), h2⟩

section
theorem arr_shift (hP : bar P F = P) (hF : FenceB P F) (hB : Bodies P F) {r : Nat} {E : Frame → List Frame → World → Prop} (hE : ∀ fr up w τ d, E fr up (re w τ d) ↔ E fr up w) {fr : Frame} {up : List Frame} {w : World} (h : Arr P r E fr up w) : FitB P fr up w → ∀ τ d, (∀ j q, τ (d + j) q = w.tape (w.drawn + j) q) → Arr P r E fr up (re w τ d) := by
  induction h using Arr.ind with
  | fin h => exact fun _ τ d _ => .fin ((hE _ _ _ τ d).mpr h)
  | @step fr up w fr' up' w' es h ha ih =>
    intro hf τ d hA
    obtain ⟨f1, f2, f3, f4⟩ := step_local hP hF hB hf h
    refine .step (f4 τ d fun j q _ => hA j q) (ih f1 τ _ fun j q => ?_)
    rw [f2]
    have := hA (w'.drawn - w.drawn + j) q
    rw [show d + (w'.drawn - w.drawn) + j = d + (w'.drawn - w.drawn + j) by omega, this]
    congr 1
    omega
theorem all_step (hP : bar P F = P) (hF : FenceB P F) (hB : Bodies P F) {r : Nat} {E : Frame → List Frame → World → Prop} (hE : ∀ fr up w τ d, E fr up (re w τ d) ↔ E fr up w) {fr : Frame} {up : List Frame} {w : World} (hf : FitB P fr up w) (hall : ∀ τ d, Arr P r E fr up (re w τ d)) (hne : ¬ E fr up w) (τ : Nat → Question → Nat) (d : Nat) :
    ∃ fr' up' w' es, stepG P true (runG fr (up ++ [baseF r])) (re w τ d) = .go (runG fr' (up' ++ [baseF r])) w' es ∧ ∀ τ' d', Arr P r E fr' up' (re w' τ' d') := by
  have inv : ∀ (up0 : List Frame) (w0 : World), Arr P r E fr up0 w0 → up0 = up → (∃ τ d, w0 = re w τ d) → ∃ fr' up' w' es, stepG P true (runG fr (up ++ [baseF r])) w0 = .go (runG fr' (up' ++ [baseF r])) w' es ∧ Arr P r E fr' up' w' := by
    intro up0 w0 h e1 e2
    rcases h.inv with h | ⟨_, _, _, _, h, ha⟩
    · obtain ⟨τ, d, rfl⟩ := e2
      subst e1
      exact absurd ((hE _ _ _ _ _).mp h) hne
    · subst e1
      exact ⟨_, _, _, _, h, ha⟩
  obtain ⟨fr', up', w', es, h, ha⟩ := inv up _ (hall τ d) rfl ⟨τ, d, rfl⟩
  refine ⟨fr', up', w', es, h, fun τ' d' => ?_⟩
  obtain ⟨f1, f2, f3, f4⟩ := step_local hP hF hB (fit_re hf τ d) h
  have f3 : d ≤ w'.drawn := f3
  let n := w'.drawn - d
  let τ2 : Nat → Question → Nat := fun k q => if k < n then τ (d + k) q else τ' (d' + (k - n)) q
  have e1 := f4 τ2 0 (fun j q hj => by
    show (if 0 + j < n then τ (d + (0 + j)) q else _) = τ (d + j) q
    have hj : j < n := hj
    rw [if_pos (by omega), Nat.zero_add])
  obtain ⟨fr2, up2, w2, es2, h2, ha2⟩ := inv up _ (hall τ2 0) rfl ⟨τ2, 0, rfl⟩
  have e1 : stepG P true (runG fr (up ++ [baseF r])) (re w τ2 0) = .go (runG fr' (up' ++ [baseF r])) (re w' τ2 (0 + n)) es := e1
  rw [e1] at h2
  obtain ⟨rfl, rfl, rfl⟩ := go_inj h2
  have := arr_shift hP hF hB hE ha2 (fit_re f1 _ _) τ' d' (fun j q => by
    show τ' (d' + j) q = (if 0 + n + j < n then _ else τ' (d' + (0 + n + j - n)) q)
    rw [if_neg (by omega)]
    congr 1
    omega)
  exact this

/-- A state that goes not on well-founded. -/
structure Lost (P : Program) (r : Nat) (E : Frame → List Frame → World → Prop) (s : Frame × List Frame × World) : Prop where
  fit : FitB P s.1 s.2.1 s.2.2
  all : ∀ τ d, Arr P r E s.1 s.2.1 (re s.2.2 τ d)
  not : ¬ GoesW P r E s.1 s.2.1 s.2.2
theorem lost_step (hP : bar P F = P) (hF : FenceB P F) (hB : Bodies P F) {r : Nat} {E : Frame → List Frame → World → Prop} (hE : ∀ fr up w τ d, E fr up (re w τ d) ↔ E fr up w) {s : Frame × List Frame × World} (h : Lost P r E s) : ∃ τ d s' es, stepG P true (runG s.1 (s.2.1 ++ [baseF r])) (re s.2.2 τ d) = .go (runG s'.1 (s'.2.1 ++ [baseF r])) s'.2.2 es ∧ Lost P r E s' := by
  obtain ⟨fr, up, w⟩ := s
  obtain ⟨hf, hall, hn⟩ := h
  have hne : ¬ E fr up w := fun h2 => hn (.fin h2)
  refine Classical.byContradiction fun hc => hn (.step (fun τ d => ?_) fun τ d fr' up' w' es h => ?_)
  · obtain ⟨fr', up', w', es, h, _⟩ := all_step hP hF hB hE hf hall hne τ d
    exact ⟨fr', up', w', es, h⟩
  · refine Classical.byContradiction fun hg => hc ⟨τ, d, (fr', up', w'), es, h, ?_⟩
    obtain ⟨fr2, up2, w2, es2, h2, ha⟩ := all_step hP hF hB hE hf hall hne τ d
    have h' : stepG P true (runG fr (up ++ [baseF r])) (re w τ d) = .go (runG fr' (up' ++ [baseF r])) w' es := h
    rw [h'] at h2
    obtain ⟨rfl, rfl, rfl⟩ := go_inj h2
    exact ⟨(step_local hP hF hB (fit_re hf τ d) h').1, ha, hg⟩
end
end Go.Proofs.Ythbghcebcahlnaa
