/- A run hangs on the tape by the answers that it takes alone. -/
import Derived.Calls
namespace Go.Proofs.Ythbghcebcahlnaa
open Go

/-- The world, asked from another tape. -/
def re (w : World) (τ : Nat → Question → Nat) (d : Nat) : World := { w with tape := τ, drawn := d }
/-- From d on τ says what w's tape says next, for k answers. -/
def Agr (w : World) (k : Nat) (τ : Nat → Question → Nat) (d : Nat) : Prop := ∀ j q, j < k → τ (d + j) q = w.tape (w.drawn + j) q
def reR {α : Type} (τ : Nat → Question → Nat) (d : Nat) : Result α → Result α
  | .ok a w => .ok a (re w τ d)
  | .halt h w => .halt h (re w τ d)
def wOf {α : Type} : Result α → World
  | .ok _ w => w
  | .halt _ w => w

theorem agr_less {w : World} {k k' : Nat} {τ : Nat → Question → Nat} {d : Nat} (h : Agr w k τ d) (hk : k' ≤ k) : Agr w k' τ d := fun j q hj => h j q (by omega)
theorem agr_heap {w : World} {k : Nat} {τ : Nat → Question → Nat} {d : Nat} (h : Agr w k τ d) (hp : Array Obj) : Agr { w with heap := hp } k τ d := h

/-- What is said of one that is asked. -/
structure Local (w w' : World) : Prop where
  tape : w'.tape = w.tape
  le : w.drawn ≤ w'.drawn

theorem ask_local {α : Type} : ∀ (a : Ask α) (w : World), Local w (w.ask a).2 ∧ ∀ τ d, Agr w ((w.ask a).2.drawn - w.drawn) τ d → (re w τ d).ask a = ((w.ask a).1, re (w.ask a).2 τ (d + ((w.ask a).2.drawn - w.drawn)))
  | .done a, w => ⟨⟨rfl, Nat.le_refl _⟩, fun τ d _ => by simp [World.ask, re]⟩
  | .ask what range k, w => by
    unfold World.ask
    dsimp only
    by_cases c : (Question.extern what range).forced = true
    · simp only [c, if_true]
      exact ask_local (k 0) w
    · simp only [c]
      have ih := ask_local (k ((Question.extern what range).cut (w.tape w.drawn (Question.extern what range)))) { w with drawn := w.drawn + 1 }
      obtain ⟨⟨h1, h2⟩, h3⟩ := ih
      refine ⟨⟨h1, by have : w.drawn + 1 ≤ _ := h2; exact Nat.le_trans (Nat.le_succ _) this⟩, fun τ d hA => ?_⟩
      generalize hR : World.ask { w with drawn := w.drawn + 1 } (k ((Question.extern what range).cut (w.tape w.drawn (Question.extern what range)))) = R at *
      have h2' : w.drawn + 1 ≤ R.2.drawn := h2
      have e0 : τ d (Question.extern what range) = w.tape w.drawn (Question.extern what range) := by
        have := hA 0 (Question.extern what range) (by simp only [Bool.false_eq_true, if_false]; omega)
        simpa using this
      have hA2 : Agr { w with drawn := w.drawn + 1 } (R.2.drawn - (w.drawn + 1)) τ (d + 1) := fun j q hj => by
        have := hA (j + 1) q (by simp only [Bool.false_eq_true, if_false]; omega)
        show τ (d + 1 + j) q = w.tape (w.drawn + 1 + j) q
        rw [show d + 1 + j = d + (j + 1) by omega, show w.drawn + 1 + j = w.drawn + (j + 1) by omega]
        exact this
      have h4 := h3 τ (d + 1) hA2
      simp only [Bool.false_eq_true, if_false]
      show World.ask { re w τ d with drawn := d + 1 } (k ((Question.extern what range).cut (τ d (Question.extern what range)))) = _
      rw [e0]
      have : ({ re w τ d with drawn := d + 1 } : World) = re { w with drawn := w.drawn + 1 } τ (d + 1) := rfl
      rw [this, h4]
      refine Prod.ext rfl ?_
      show re R.2 τ _ = re R.2 τ _
      congr 1
      show d + 1 + (R.2.drawn - (w.drawn + 1)) = d + (R.2.drawn - w.drawn)
      omega

theorem far_load (P : Program) (w : World) (τ : Nat → Question → Nat) (d : Nat) (a : Addr) (b : Bool) : (re w τ d).farLoad P a b = w.farLoad P a b := rfl
theorem view_store (P : Program) (w : World) (τ : Nat → Question → Nat) (d : Nat) (at_ : Addr) (u : TypeId) (k : Addr) (v : Value) (b : Bool) : (re w τ d).viewStore P at_ u k v b = (w.viewStore P at_ u k v b).map (fun x => (re x.1 τ d, x.2)) := by
  unfold World.viewStore
  have e : (re w τ d).seen P at_ u k b = w.seen P at_ u k b := rfl
  rw [e]
  generalize w.seen P at_ u k b = S
  cases tight P P.depth u with
  | false => cases S <;> rfl
  | true =>
    cases S with
    | error x => rfl
    | ok x =>
      obtain ⟨c, e2, frozen, first, like, cells⟩ := x
      simp only [bind, Except.bind, pure, Except.pure, Bool.not_true, Bool.false_eq_true, if_false]
      cases v.bytes? with
      | none => rfl
      | some bytes =>
        dsimp only
        split
        · rfl
        · generalize List.foldlM (m := Except String) _ c cells = F
          cases F <;> rfl
theorem far_store (P : Program) (w : World) (τ : Nat → Question → Nat) (d : Nat) (a : Addr) (v : Value) (b : Bool) : (re w τ d).farStore P a v b = (w.farStore P a v b).map (fun x => (re x.1 τ d, x.2)) := by
  unfold World.farStore
  have e : (re w τ d).heap = w.heap := rfl
  rw [e]
  split
  · rw [view_store]
    generalize w.viewStore P _ _ a v b = F
    cases F <;> rfl
  · rfl
theorem view_keeps (P : Program) (w : World) (at_ : Addr) (u : TypeId) (k : Addr) (v : Value) (b : Bool) (w' : World) (l : List Addr) (h : w.viewStore P at_ u k v b = .ok (w', l)) : w'.tape = w.tape ∧ w'.drawn = w.drawn := by
  have := view_store P w w.tape w.drawn at_ u k v b
  have e : re w w.tape w.drawn = w := rfl
  rw [e, h] at this
  simp only [Except.map, Except.ok.injEq, Prod.mk.injEq, and_true] at this
  rw [this]
  exact ⟨rfl, rfl⟩
theorem far_keeps (P : Program) (w : World) (a : Addr) (v : Value) (b : Bool) (w' : World) (l : List Addr) (h : w.farStore P a v b = .ok (w', l)) : w'.tape = w.tape ∧ w'.drawn = w.drawn := by
  have := far_store P w w.tape w.drawn a v b
  have e : re w w.tape w.drawn = w := rfl
  rw [e, h] at this
  simp only [Except.map, Except.ok.injEq, Prod.mk.injEq, and_true] at this
  rw [this]
  exact ⟨rfl, rfl⟩

/-- What is listed stays listed. -/
theorem mem_runT {α : Type} (P : Program) (e : Event) : ∀ (s : Sem α) (w : World) (es : Array Event), e ∈ es → e ∈ (s.runT P w es).2
  | .pure a, w, es, h => h
  | .load m a k, w, es, h => by
    unfold Sem.runT
    split
    · exact mem_runT P e _ _ _ (Array.mem_push_of_mem _ h)
    · split
      · exact mem_runT P e _ _ _ (Array.mem_append_left _ h)
      · exact h
  | .store m a v k, w, es, h => by
    cases v
    case agg => exact h
    case tuple => exact h
    all_goals
      simp only [Sem.runT]
      split
      · split
        · exact h
        · exact mem_runT P e _ _ _ (Array.mem_push_of_mem _ h)
      · split
        · exact mem_runT P e _ _ _ (Array.mem_append_left _ h)
        · exact h
  | .new o k, w, es, h => mem_runT P e (k w.heap.size) _ _ h
  | .shape r k, w, es, h => mem_runT P e (k (w.shape? r)) _ _ h
  | .freeze a n k, w, es, h => mem_runT P e k _ _ h
  | .frozen a k, w, es, h => mem_runT P e (k (w.frozen? a)) _ _ h
  | .getObj r k, w, es, h => by
    unfold Sem.runT
    split
    · exact h
    · exact mem_runT P e _ _ _ (Array.mem_push_of_mem _ h)
    · exact h
  | .setObj r o k, w, es, h => by
    unfold Sem.runT
    split
    · exact h
    · exact mem_runT P e _ _ _ (Array.mem_push_of_mem _ h)
    · exact h
  | .choose q k, w, es, h => by
    unfold Sem.runT
    split
    · exact mem_runT P e _ _ _ h
    · exact mem_runT P e _ _ _ h
  | .sys c k, w, es, h => mem_runT P e (k (w.sys c).1) _ _ (Array.mem_push_of_mem _ h)
  | .program k, w, es, h => mem_runT P e (k P) _ _ h
  | .mark m k, w, es, h => mem_runT P e k _ _ (Array.mem_push_of_mem _ h)
  | .halt x, w, es, h => h
end Go.Proofs.Ythbghcebcahlnaa
