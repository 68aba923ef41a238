/- A run hangs on the tape by the answers that it takes alone. A run hangs on the tape by the answers that it takes alone: the theorem. Good code: what a step may do without being seen by others. -/
import Derived.Calls
import GoSem.Dispatch
namespace Go.Proofs.YtfnbcpeipoobkaaGreat
open Go

/-- The world, asked from another tape. -/
def re (w : World) (τ : Nat → Question → Nat) (d : Nat) : World := { w with tape := τ, drawn := d }
/-- From d on τ says what w's tape says next, for k answers. -/
def Agr (w : World) (k : Nat) (τ : Nat → Question → Nat) (d : Nat) : Prop := ∀ j q, j < k → τ (d + j) q = w.tape (w.drawn + j) q
def reR {α : Type} (τ : Nat → Question → Nat) (d : Nat) : Result α → Result α
  | .ok a w => .ok a (re w τ d)
  | .halt h w => .halt h (re w τ d)
def wOf {α : Type} : Result α → World
  | .ok _ w => w
  | .halt _ w => w

theorem agr_less {w : World} {k k' : Nat} {τ : Nat → Question → Nat} {d : Nat} (h : Agr w k τ d) (hk : k' ≤ k) : Agr w k' τ d := fun j q hj => h j q (by omega)
theorem agr_heap {w : World} {k : Nat} {τ : Nat → Question → Nat} {d : Nat} (h : Agr w k τ d) (hp : Array Obj) : Agr { w with heap := hp } k τ d := h

/-- What is said of one that is asked. -/
structure Local (w w' : World) : Prop where
  tape : w'.tape = w.tape
  le : w.drawn ≤ w'.drawn

theorem ask_local {α : Type} : ∀ (a : Ask α) (w : World), Local w (w.ask a).2 ∧ ∀ τ d, Agr w ((w.ask a).2.drawn - w.drawn) τ d → (re w τ d).ask a = ((w.ask a).1, re (w.ask a).2 τ (d + ((w.ask a).2.drawn - w.drawn)))
  | .done a, w => ⟨⟨rfl, Nat.le_refl _⟩, fun τ d _ => by simp [World.ask, re]⟩
  | .ask what range k, w => by
    unfold World.ask
    dsimp only
    by_cases c : (Question.extern what range).forced = true
    · simp only [c, if_true]
      exact ask_local (k 0) w
    · simp only [c]
      have ih := ask_local (k ((Question.extern what range).cut (w.tape w.drawn (Question.extern what range)))) { w with drawn := w.drawn + 1 }
      obtain ⟨⟨h1, h2⟩, h3⟩ := ih
      refine ⟨⟨h1, by have : w.drawn + 1 ≤ _ := h2; exact Nat.le_trans (Nat.le_succ _) this⟩, fun τ d hA => ?_⟩
      generalize hR : World.ask { w with drawn := w.drawn + 1 } (k ((Question.extern what range).cut (w.tape w.drawn (Question.extern what range)))) = R at *
      have h2' : w.drawn + 1 ≤ R.2.drawn := h2
      have e0 : τ d (Question.extern what range) = w.tape w.drawn (Question.extern what range) := by
        have := hA 0 (Question.extern what range) (by simp only [Bool.false_eq_true, if_false]; omega)
        simpa using this
      have hA2 : Agr { w with drawn := w.drawn + 1 } (R.2.drawn - (w.drawn + 1)) τ (d + 1) := fun j q hj => by
        have := hA (j + 1) q (by simp only [Bool.false_eq_true, if_false]; omega)
        show τ (d + 1 + j) q = w.tape (w.drawn + 1 + j) q
        rw [show d + 1 + j = d + (j + 1) by omega, show w.drawn + 1 + j = w.drawn + (j + 1) by omega]
        exact this
      have h4 := h3 τ (d + 1) hA2
      simp only [Bool.false_eq_true, if_false]
      show World.ask { re w τ d with drawn := d + 1 } (k ((Question.extern what range).cut (τ d (Question.extern what range)))) = _
      rw [e0]
      have : ({ re w τ d with drawn := d + 1 } : World) = re { w with drawn := w.drawn + 1 } τ (d + 1) := rfl
      rw [this, h4]
      refine Prod.ext rfl ?_
      show re R.2 τ _ = re R.2 τ _
      congr 1
      show d + 1 + (R.2.drawn - (w.drawn + 1)) = d + (R.2.drawn - w.drawn)
      omega

theorem far_load (P : Program) (w : World) (τ : Nat → Question → Nat) (d : Nat) (a : Addr) (b : Bool) : (re w τ d).farLoad P a b = w.farLoad P a b := rfl
theorem view_store (P : Program) (w : World) (τ : Nat → Question → Nat) (d : Nat) (at_ : Addr) (u : TypeId) (k : Addr) (v : Value) (b : Bool) : (re w τ d).viewStore P at_ u k v b = (w.viewStore P at_ u k v b).map (fun x => (re x.1 τ d, x.2)) := by
  unfold World.viewStore
  have e : (re w τ d).seen P at_ u k b = w.seen P at_ u k b := rfl
  rw [e]
  generalize w.seen P at_ u k b = S
  cases tight P P.depth u with
  | false => cases S <;> rfl
  | true =>
    cases S with
    | error x => rfl
    | ok x =>
      obtain ⟨c, e2, frozen, first, like, cells⟩ := x
      simp only [bind, Except.bind, pure, Except.pure, Bool.not_true, Bool.false_eq_true, if_false]
      cases v.bytes? with
      | none => rfl
      | some bytes =>
        dsimp only
        split
        · rfl
        · generalize List.foldlM (m := Except String) _ c cells = F
          cases F <;> rfl
theorem far_store (P : Program) (w : World) (τ : Nat → Question → Nat) (d : Nat) (a : Addr) (v : Value) (b : Bool) : (re w τ d).farStore P a v b = (w.farStore P a v b).map (fun x => (re x.1 τ d, x.2)) := by
  unfold World.farStore
  have e : (re w τ d).heap = w.heap := rfl
  rw [e]
  split
  · rw [view_store]
    generalize w.viewStore P _ _ a v b = F
    cases F <;> rfl
  · rfl
theorem view_keeps (P : Program) (w : World) (at_ : Addr) (u : TypeId) (k : Addr) (v : Value) (b : Bool) (w' : World) (l : List Addr) (h : w.viewStore P at_ u k v b = .ok (w', l)) : w'.tape = w.tape ∧ w'.drawn = w.drawn := by
  have := view_store P w w.tape w.drawn at_ u k v b
  have e : re w w.tape w.drawn = w := rfl
  rw [e, h] at this
  simp only [Except.map, Except.ok.injEq, Prod.mk.injEq, and_true] at this
  rw [this]
  exact ⟨rfl, rfl⟩
theorem far_keeps (P : Program) (w : World) (a : Addr) (v : Value) (b : Bool) (w' : World) (l : List Addr) (h : w.farStore P a v b = .ok (w', l)) : w'.tape = w.tape ∧ w'.drawn = w.drawn := by
  have := far_store P w w.tape w.drawn a v b
  have e : re w w.tape w.drawn = w := rfl
  rw [e, h] at this
  simp only [Except.map, Except.ok.injEq, Prod.mk.injEq, and_true] at this
  rw [this]
  exact ⟨rfl, rfl⟩

/-- What is listed stays listed. -/
theorem mem_runT {α : Type} (P : Program) (e : Event) : ∀ (s : Sem α) (w : World) (es : Array Event), e ∈ es → e ∈ (s.runT P w es).2
  | .pure a, w, es, h => h
  | .load m a k, w, es, h => by
    unfold Sem.runT
    split
    · exact mem_runT P e _ _ _ (Array.mem_push_of_mem _ h)
    · split
      · exact mem_runT P e _ _ _ (Array.mem_append_left _ h)
      · exact h
  | .store m a v k, w, es, h => by
    cases v
    case agg => exact h
    case tuple => exact h
    all_goals
      simp only [Sem.runT]
      split
      · split
        · exact h
        · exact mem_runT P e _ _ _ (Array.mem_push_of_mem _ h)
      · split
        · exact mem_runT P e _ _ _ (Array.mem_append_left _ h)
        · exact h
  | .new o k, w, es, h => mem_runT P e (k w.heap.size) _ _ h
  | .shape r k, w, es, h => mem_runT P e (k (w.shape? r)) _ _ h
  | .freeze a n k, w, es, h => mem_runT P e k _ _ h
  | .frozen a k, w, es, h => mem_runT P e (k (w.frozen? a)) _ _ h
  | .getObj r k, w, es, h => by
    unfold Sem.runT
    split
    · exact h
    · exact mem_runT P e _ _ _ (Array.mem_push_of_mem _ h)
    · exact h
  | .setObj r o k, w, es, h => by
    unfold Sem.runT
    split
    · exact h
    · exact mem_runT P e _ _ _ (Array.mem_push_of_mem _ h)
    · exact h
  | .choose q k, w, es, h => by
    unfold Sem.runT
    split
    · exact mem_runT P e _ _ _ h
    · exact mem_runT P e _ _ _ h
  | .sys c k, w, es, h => mem_runT P e (k (w.sys c).1) _ _ (Array.mem_push_of_mem _ h)
  | .program k, w, es, h => mem_runT P e (k P) _ _ h
  | .mark m k, w, es, h => mem_runT P e k _ _ (Array.mem_push_of_mem _ h)
  | .halt x, w, es, h => h
end Go.Proofs.YtfnbcpeipoobkaaGreat

namespace Go.Proofs.YtfnbcpeipoobkaaGreat
open Go

def Loc {α : Type} (P : Program) (s : Sem α) (w : World) (es : Array Event) : Prop := Local w (wOf (s.runT P w es).1) ∧ ∀ τ d, Agr w ((wOf (s.runT P w es).1).drawn - w.drawn) τ d → s.runT P (re w τ d) es = (reR τ (d + ((wOf (s.runT P w es).1).drawn - w.drawn)) (s.runT P w es).1, (s.runT P w es).2)

theorem loc_pass {α : Type} {P : Program} {s s' : Sem α} {w w1 : World} {es es1 : Array Event} (ht : w1.tape = w.tape) (hd : w1.drawn = w.drawn) (h1 : s.runT P w es = s'.runT P w1 es1) (h2 : ∀ τ d, s.runT P (re w τ d) es = s'.runT P (re w1 τ d) es1) (h : Loc P s' w1 es1) : Loc P s w es := by
  obtain ⟨⟨l1, l2⟩, l3⟩ := h
  unfold Loc
  rw [h1]
  refine ⟨⟨l1.trans ht, by omega⟩, fun τ d hA => ?_⟩
  rw [h2, l3 τ d (fun j q hj => by rw [ht, hd]; exact hA j q (by omega))]
  rw [hd]
theorem loc_end {α : Type} {P : Program} {s : Sem α} {w : World} {es : Array Event} {r : Result α} (h1 : s.runT P w es = (r, es)) (hw : wOf r = w) (h2 : ∀ τ d, s.runT P (re w τ d) es = (reR τ d r, es)) : Loc P s w es := by
  unfold Loc
  rw [h1, hw]
  refine ⟨⟨rfl, Nat.le_refl _⟩, fun τ d _ => ?_⟩
  rw [h2, Nat.sub_self, Nat.add_zero]

theorem runT_store1 {α : Type} {P : Program} {m : Mode} {a : Addr} {v : Value} {k : Sem α} {w : World} {es : Array Event} (hv : ∀ c, v ≠ .agg c) (hv' : ∀ c, v ≠ .tuple c) : (Sem.store m a v k).runT P w es = (match w.cell? a with
    | some _ => if w.frozen? a then (.halt (.unsupported (.unsafePointer "a write to bytes that a string shares")) w, es) else k.runT P (w.setCell a v) (es.push ⟨.cell a, true, m == .atomic⟩)
    | none => match w.farStore P a v (m == .atomic) with
      | .ok (w, touched) => k.runT P w (es ++ touched.toArray.map (⟨.cell ·, true, m == .atomic⟩))
      | .error h => (.halt h w, es)) := by
  cases v <;> first | rfl | exact absurd rfl (hv _) | exact absurd rfl (hv' _)

theorem store_loc {α : Type} {P : Program} {m : Mode} {a : Addr} {v : Value} {k : Sem α} (hv : ∀ c, v ≠ .agg c) (hv' : ∀ c, v ≠ .tuple c) (ih : ∀ w es, (∀ e ∈ (k.runT P w es).2, e.loc ≠ .output) → Loc P k w es) (w : World) (es : Array Event)
    (hq : ∀ e ∈ ((Sem.store m a v k).runT P w es).2, e.loc ≠ .output) : Loc P (Sem.store m a v k) w es := by
  cases hc : w.cell? a with
  | some x =>
    by_cases hf : w.frozen? a = true
    · refine loc_end (r := .halt (.unsupported (.unsafePointer "a write to bytes that a string shares")) w) (by rw [runT_store1 hv hv', hc]; simp only [hf, if_true]) rfl fun τ d => ?_
      have hc' : (re w τ d).cell? a = some x := hc
      have hf' : (re w τ d).frozen? a = true := hf
      rw [runT_store1 hv hv', hc']
      simp only [hf', if_true, reR]
    · have e1 : (Sem.store m a v k).runT P w es = k.runT P (w.setCell a v) (es.push ⟨.cell a, true, m == .atomic⟩) := by rw [runT_store1 hv hv', hc]; simp only [if_neg hf]
      rw [e1] at hq
      refine loc_pass (w1 := w.setCell a v) rfl rfl e1 (fun τ d => ?_) (ih _ _ hq)
      have hc' : (re w τ d).cell? a = some x := hc
      have hf' : ¬ (re w τ d).frozen? a = true := hf
      rw [runT_store1 hv hv', hc']
      simp only [if_neg hf']
      rfl
  | none =>
    cases hf : w.farStore P a v (m == .atomic) with
    | ok x =>
      obtain ⟨w1, touched⟩ := x
      have e1 : (Sem.store m a v k).runT P w es = k.runT P w1 (es ++ touched.toArray.map (⟨.cell ·, true, m == .atomic⟩)) := by rw [runT_store1 hv hv', hc]; simp only [hf]
      rw [e1] at hq
      obtain ⟨k1, k2⟩ := far_keeps P w a v _ w1 touched hf
      refine loc_pass (w1 := w1) k1 k2 e1 (fun τ d => ?_) (ih _ _ hq)
      have hc' : (re w τ d).cell? a = none := hc
      rw [runT_store1 hv hv', hc', far_store, hf]
      rfl
    | error x =>
      refine loc_end (r := .halt x w) (by rw [runT_store1 hv hv', hc]; simp only [hf]) rfl fun τ d => ?_
      have hc' : (re w τ d).cell? a = none := hc
      rw [runT_store1 hv hv', hc', far_store, hf]
      rfl

theorem runT_local {α : Type} (P : Program) : ∀ (s : Sem α) (w : World) (es : Array Event), (∀ e ∈ (s.runT P w es).2, e.loc ≠ .output) → Loc P s w es
  | .pure a, w, es, _ => loc_end rfl rfl fun _ _ => rfl
  | .load m a k, w, es, hq => by
    cases hc : w.cell? a with
    | some v =>
      have e1 : (Sem.load m a k).runT P w es = (k v).runT P w (es.push ⟨.cell a, false, m == .atomic⟩) := by simp only [Sem.runT, hc]
      rw [e1] at hq
      refine loc_pass rfl rfl e1 (fun τ d => ?_) (runT_local P (k v) w _ hq)
      have hc' : (re w τ d).cell? a = some v := hc
      simp only [Sem.runT, hc']
    | none =>
      cases hf : w.farLoad P a (m == .atomic) with
      | ok x =>
        obtain ⟨v, touched⟩ := x
        have e1 : (Sem.load m a k).runT P w es = (k v).runT P w (es ++ touched.toArray.map (⟨.cell ·, false, m == .atomic⟩)) := by simp only [Sem.runT, hc, hf]
        rw [e1] at hq
        refine loc_pass rfl rfl e1 (fun τ d => ?_) (runT_local P (k v) w _ hq)
        have hc' : (re w τ d).cell? a = none := hc
        have hf' : (re w τ d).farLoad P a (m == .atomic) = .ok (v, touched) := hf
        simp only [Sem.runT, hc', hf']
      | error x =>
        refine loc_end (r := .halt x w) (by simp only [Sem.runT, hc, hf]) rfl fun τ d => ?_
        have hc' : (re w τ d).cell? a = none := hc
        have hf' : (re w τ d).farLoad P a (m == .atomic) = .error x := hf
        simp only [Sem.runT, hc', hf', reR]
  | .store m a v k, w, es, hq => by
    cases v
    case agg => exact loc_end rfl rfl fun _ _ => rfl
    case tuple => exact loc_end rfl rfl fun _ _ => rfl
    all_goals exact store_loc (by intro c h; cases h) (by intro c h; cases h) (fun w es h => runT_local P k w es h) w es hq
  | .new o k, w, es, hq => loc_pass (w1 := { w with heap := w.heap.push o }) rfl rfl rfl (fun _ _ => rfl) (runT_local P (k w.heap.size) _ _ hq)
  | .shape r k, w, es, hq => loc_pass (w1 := w) rfl rfl rfl (fun _ _ => rfl) (runT_local P (k (w.shape? r)) w _ hq)
  | .freeze a n k, w, es, hq => by
    refine loc_pass (w1 := w.freeze a n) ?_ ?_ rfl (fun τ d => ?_) (runT_local P k _ _ hq)
    · unfold World.freeze; split <;> rfl
    · unfold World.freeze; split <;> rfl
    · have : (re w τ d).freeze a n = re (w.freeze a n) τ d := by unfold World.freeze; split <;> rfl
      simp only [Sem.runT, this]
  | .frozen a k, w, es, hq => loc_pass (w1 := w) rfl rfl rfl (fun _ _ => rfl) (runT_local P (k (w.frozen? a)) w _ hq)
  | .getObj r k, w, es, hq => by
    cases hc : w.heap[r]? with
    | none =>
      refine loc_end (r := .halt (.stuck "getObj: no such block") w) (by simp only [Sem.runT, hc]) rfl fun τ d => ?_
      have hc' : (re w τ d).heap[r]? = none := hc
      simp only [Sem.runT, hc', reR]
    | some o =>
      by_cases ho : ∃ c e f, o = .cells c e f
      · obtain ⟨c, e, f, rfl⟩ := ho
        refine loc_end (r := .halt (.stuck "getObj: a row of cells") w) (by simp only [Sem.runT, hc]) rfl fun τ d => ?_
        have hc' : (re w τ d).heap[r]? = some (.cells c e f) := hc
        simp only [Sem.runT, hc', reR]
      · have e1 : ∀ v : World, v.heap[r]? = some o → (Sem.getObj r k).runT P v es = (k o).runT P v (es.push ⟨.obj r, false, o.isChan⟩) := fun v hv => by
          cases o
          case cells c e f => exact absurd ⟨c, e, f, rfl⟩ ho
          all_goals simp only [Sem.runT, hv]
        rw [e1 w hc] at hq
        exact loc_pass rfl rfl (e1 w hc) (fun τ d => e1 (re w τ d) hc) (runT_local P (k o) w _ hq)
  | .setObj r o k, w, es, hq => by
    cases hc : w.heap[r]? with
    | none =>
      refine loc_end (r := .halt (.stuck "setObj: no such block") w) (by simp only [Sem.runT, hc]) rfl fun τ d => ?_
      have hc' : (re w τ d).heap[r]? = none := hc
      simp only [Sem.runT, hc', reR]
    | some o' =>
      by_cases ho : ∃ c e f, o' = .cells c e f
      · obtain ⟨c, e, f, rfl⟩ := ho
        refine loc_end (r := .halt (.stuck "setObj: a row of cells") w) (by simp only [Sem.runT, hc]) rfl fun τ d => ?_
        have hc' : (re w τ d).heap[r]? = some (.cells c e f) := hc
        simp only [Sem.runT, hc', reR]
      · have e1 : ∀ v : World, v.heap[r]? = some o' → (Sem.setObj r o k).runT P v es = k.runT P { v with heap := v.heap.setIfInBounds r o } (es.push ⟨.obj r, true, o.isChan⟩) := fun v hv => by
          cases o'
          case cells c e f => exact absurd ⟨c, e, f, rfl⟩ ho
          all_goals simp only [Sem.runT, hv]
        rw [e1 w hc] at hq
        exact loc_pass (w1 := { w with heap := w.heap.setIfInBounds r o }) rfl rfl (e1 w hc) (fun τ d => e1 (re w τ d) hc) (runT_local P k _ _ hq)
  | .choose q k, w, es, hq => by
    by_cases hf : q.forced = true
    · have e1 : ∀ v : World, (Sem.choose q k).runT P v es = (k 0).runT P v es := fun v => by simp only [Sem.runT, hf, if_true]
      rw [e1] at hq
      exact loc_pass rfl rfl (e1 w) (fun τ d => e1 _) (runT_local P (k 0) w _ hq)
    · have e1 : ∀ v : World, (Sem.choose q k).runT P v es = (k (q.cut (v.tape v.drawn q))).runT P { v with drawn := v.drawn + 1 } es := fun v => by simp only [Sem.runT, if_neg hf]
      rw [e1] at hq
      obtain ⟨⟨l1, l2⟩, l3⟩ := runT_local P (k (q.cut (w.tape w.drawn q))) { w with drawn := w.drawn + 1 } es hq
      unfold Loc
      rw [e1]
      generalize hR : (k (q.cut (w.tape w.drawn q))).runT P { w with drawn := w.drawn + 1 } es = R at *
      have l2' : w.drawn + 1 ≤ (wOf R.1).drawn := l2
      refine ⟨⟨l1, by omega⟩, fun τ d hA => ?_⟩
      have e0 : τ d q = w.tape w.drawn q := by
        have := hA 0 q (by omega)
        simpa using this
      rw [e1]
      show (k (q.cut (τ d q))).runT P (re { w with drawn := w.drawn + 1 } τ (d + 1)) es = _
      rw [e0, l3 τ (d + 1) (fun j q hj => by
        have h5 : j + 1 < (wOf R.1).drawn - w.drawn := by
          have : j < (wOf R.1).drawn - (w.drawn + 1) := hj
          omega
        have := hA (j + 1) q h5
        show τ (d + 1 + j) q = w.tape (w.drawn + 1 + j) q
        rw [show d + 1 + j = d + (j + 1) by omega, show w.drawn + 1 + j = w.drawn + (j + 1) by omega]
        exact this)]
      show (reR τ (d + 1 + ((wOf R.1).drawn - (w.drawn + 1))) R.1, R.2) = _
      rw [show d + 1 + ((wOf R.1).drawn - (w.drawn + 1)) = d + ((wOf R.1).drawn - w.drawn) by omega]
  | .sys c k, w, es, hq => by
    exfalso
    exact hq ⟨.output, true, false⟩ (mem_runT P _ (k (w.sys c).1) _ _ (Array.mem_push_self)) rfl
  | .program k, w, es, hq => loc_pass (w1 := w) rfl rfl rfl (fun _ _ => rfl) (runT_local P (k P) w _ hq)
  | .mark m k, w, es, hq => loc_pass (w1 := w) rfl rfl rfl (fun _ _ => rfl) (runT_local P k w _ hq)
  | .halt x, w, es, _ => loc_end rfl rfl fun _ _ => rfl
end Go.Proofs.YtfnbcpeipoobkaaGreat

namespace Go.Proofs.YtfnbcpeipoobkaaGreat
open Go

/-- A type of numbers. -/
def isNumT : TypeDesc → Bool
  | .int _ => true
  | .float _ => true
  | .complex _ => true
  | _ => false
/-- The builtins that good code calls. -/
def okBuiltin : Builtin → Bool
  | .append | .cap | .complex | .copy | .imag | .len | .max | .min | .real => true
  | _ => false
def okTarget : Target → Bool
  | .builtin b _ _ _ => okBuiltin b
  | .coroexit _ => false
  | _ => true
/-- A call that good code makes. -/
def okCall (c : Call) : Bool := match c.callee with
  | .builtin b => okBuiltin b
  | _ => true
/-- Operations of good code. -/
def okOp (P : Program) : Op → Bool
  | .move _ | .assign _ | .pick .. | .alloc _ | .box .. | .build .. | .buildSlice .. | .load .. | .store .. | .nilCheck _ | .binOp .. | .unOp .. | .sliceToArrayPointer .. | .makeInterface .. | .makeFunc .. | .makeSlice .. | .slice .. | .fieldAddr .. | .field .. | .indexAddr .. | .index .. | .extract .. | .panic _ => true
  | .convert src dst _ => (P.underlying src).any isNumT && (P.underlying dst).any isNumT
  | .call c => okCall c
  | _ => false
def okCode (P : Program) : Code → Bool
  | .skip | .exit _ | .ret | .refuse _ | .label _ => true
  | .region _ ops _ => ops.all fun o => okOp P o.op
  | .seq a b | .cond _ a b | .rangeFunc _ _ a b => okCode P a && okCode P b
  | .block _ c | .loop c | .scope c => okCode P c
  | .goto _ => false
def okLoop (P : Program) (l : Loop) : Prop := okCode P l.assign = true ∧ okCode P l.body = true ∧ ∀ c, l.pending = some c → okCode P c = true
/-- What lies in the heap: no view, good loops, good calls. -/
def okObj (P : Program) : Obj → Prop
  | .view a _ => a.spot.isSome = true
  | .pending .. => False
  | .loop l => okLoop P l
  | .deferred (some ds) => ∀ d ∈ ds, okTarget d.target = true
  | _ => True
def okItem (P : Program) : Item → Bool
  | .code c | .inLoop c => okCode P c
  | .inRegion ops _ => ops.all fun o => okOp P o.op
  | .inBlock _ | .inScope _ | .inRangeFunc _ | .endRangeFunc _ | .beginRound => true
  | .call .. | .extern .. => false
/-- What an operation of good code leads to. -/
def okNext (P : Program) (F : Array Func) : Next → Prop
  | .value _ | .skip => True
  | .enter f _ => ∃ fn c, F[f]? = some fn ∧ P.funcs[f]? = some fn ∧ fn.body = some c
  | .round _ _ _ a b => okCode P a = true ∧ okCode P b = true
  | _ => False
end Go.Proofs.YtfnbcpeipoobkaaGreat
