/- A region that draws its order: what holds may hang on what has come up. -/
import Derived.Test.YthbghcebcahlnaaPYQ
import Derived.Deep.RegionHeld
namespace Go.Proofs.Ythbghcebcahlnaa
open Go

section
variable {P : Program} {ops : Array Oper} {Q : Exit → Act → World → Prop} {md : Region.Mode} {S : Array Bool → World → Prop} {S0 : World → Prop}

def wpAnyL (P : Program) (md : Region.Mode) (ops : Array Oper) (Q : Exit → Act → World → Prop) (S : Array Bool → World → Prop) : Nat → Array Bool → Act → World → Prop
  | 0, listed, a, w => Region.ready md ops listed = [] ∧ Q .normal a w
  | fuel + 1, listed, a, w => (Region.ready md ops listed = [] → Q .normal a w) ∧ ∀ i ∈ Region.ready md ops listed, wpOp P ops Q i (fun a' w' => S (listed.setIfInBounds i true) w' ∧ wpAnyL P md ops Q S fuel (listed.setIfInBounds i true) a' w') a w

theorem any_of_L : ∀ (fuel : Nat) (listed : Array Bool) (a : Act) (w : World), wpAnyL P md ops Q S fuel listed a w → wpAny P md ops Q fuel listed a w
  | 0, _, _, _, h => h
  | fuel + 1, _, _, _, h => ⟨h.1, fun i hi => wpOp_mono (fun a' w' h' => any_of_L fuel _ a' w' h'.2) (h.2 i hi)⟩

def Cl (md : Region.Mode) (ops : Array Oper) (l : Array Bool) : Prop := l.size = ops.size ∧ ClosedIn md ops l
theorem cl_more {l : Array Bool} {i : Nat} (h : Cl md ops l) (hr : i ∈ Region.ready md ops l) : Cl md ops (l.setIfInBounds i true) := ⟨by rw [Array.size_setIfInBounds]; exact h.1, closed_more h.2 hr⟩

theorem anyL_first {i : Nat} {oi : Oper} {v : Value} (hi : ops[i]? = some oi) (hsel : ∀ (j : Nat) (o : Oper) cs b, ops[j]? = some o → o.op ≠ .select cs b)
    (hQ : ∀ c a w, Q (.panic c) (a.put oi.dst v) w → Q (.panic c) a w) (hSi : ∀ l w, S (l.setIfInBounds i true) w ↔ S l w) (hS0 : ∀ l w, Cl md ops l → l.getD i true = false → S l w → S0 w) :
    ∀ (fuel : Nat) (listed : Array Bool) (a : Act) (w : World),
      (∀ j oj, ops[j]? = some oj → j ≠ i → listed.getD j true = false → (∀ e ∈ oj.after, Region.binds md e = true → e.on ≠ i) → oi.apart ops oj = true) →
      i ∈ Region.ready md ops listed → Cl md ops listed → YieldsIf P ops S0 oi v a → S listed w →
      wpAnyL P md ops Q S fuel (listed.setIfInBounds i true) (a.put oi.dst v) w → wpAnyL P md ops Q S (fuel + 1) listed a w := by
  intro fuel
  induction fuel with
  | zero =>
    intro listed a w _ hr hc hy hS H
    refine ⟨fun h => (by rw [h] at hr; cases hr), fun j hj => ?_⟩
    by_cases hji : j = i
    · subst hji; exact hy.wpOp hi (hS0 _ _ hc (mem_ready.1 hr).1 hS) ⟨(hSi _ _).2 hS, H⟩
    · have := ready_mono hj hji
      rw [H.1] at this
      cases this
  | succ fuel ih =>
    intro listed a w hfree hr hc hy hS H
    refine ⟨fun h => (by rw [h] at hr; cases hr), fun j hj => ?_⟩
    by_cases hji : j = i
    · subst hji; exact hy.wpOp hi (hS0 _ _ hc (mem_ready.1 hr).1 hS) ⟨(hSi _ _).2 hS, H⟩
    · have h1 := H.2 j (ready_mono hj hji)
      obtain ⟨hjun, oj, hoj, hall⟩ := mem_ready.1 hj
      have hnot : ∀ e ∈ oj.after, Region.binds md e = true → e.on ≠ i := fun e he hb heq => by
        have h1 := hall e he hb
        have h0 := (mem_ready.1 hr).1
        rw [heq] at h1
        rcases Nat.lt_or_ge i listed.size with h' | h'
        · simp [h'] at h0 h1; rw [h0] at h1; cases h1
        · simp [Array.getElem?_eq_none h'] at h1
      have h2 := wpOp_putIf hoj (hfree j oj hoj hji hjun hnot) (fun cs b => hsel i oi cs b hi) (fun cs b => hsel j oj cs b hoj) hQ hy h1
      have hfree' : ∀ k ok, ops[k]? = some ok → k ≠ i → (listed.setIfInBounds j true).getD k true = false →
          (∀ e ∈ ok.after, Region.binds md e = true → e.on ≠ i) → oi.apart ops ok = true := fun k ok hk hki hun hno => by
        refine hfree k ok hk hki ?_ hno
        by_cases hjk : j = k
        · subst hjk; exact hjun
        · rw [getD_set_ne true hjk] at hun; exact hun
      refine wpOp_mono (fun a' w' h3 => ?_) h2
      obtain ⟨y1, s1, H1⟩ := h3
      rw [← Array.setIfInBounds_comm _ _ hji] at H1
      have s2 : S (listed.setIfInBounds j true) w' := by
        rw [← Array.setIfInBounds_comm _ _ hji] at s1
        exact (hSi _ _).1 s1
      exact ⟨s2, ih (listed.setIfInBounds j true) a' w' hfree' (ready_mono hr (Ne.symm hji)) (cl_more hc hj) y1 s2 H1⟩

theorem anyL_take {i : Nat} {oi : Oper} {v : Value} {fuel : Nat} {listed : Array Bool} {a : Act} {w : World} (hi : ops[i]? = some oi)
    (hs : Region.noSelect ops = true) (hf : Region.free md ops listed i = true) (hr : (Region.ready md ops listed).contains i = true)
    (hQ : ∀ c a w, Q (.panic c) (a.put oi.dst v) w → Q (.panic c) a w) (hSi : ∀ l w, S (l.setIfInBounds i true) w ↔ S l w) (hS0 : ∀ l w, Cl md ops l → l.getD i true = false → S l w → S0 w)
    (hc : Cl md ops listed) (hS : S listed w) (hy : YieldsIf P ops S0 oi v a)
    (h : Cl md ops (listed.setIfInBounds i true) → S (listed.setIfInBounds i true) w → wpAnyL P md ops Q S fuel (listed.setIfInBounds i true) (a.put oi.dst v) w) : wpAnyL P md ops Q S (fuel + 1) listed a w :=
  anyL_first hi (Region.noSelect_spec hs) hQ hSi hS0 fuel listed a w (Region.free_spec hi hf) (by simpa using hr) hc hy hS (h (cl_more hc (by simpa using hr)) ((hSi _ _).2 hS))

/-- What is asked of an operation that comes up. -/
def StepL (P : Program) (md : Region.Mode) (ops : Array Oper) (Q : Exit → Act → World → Prop) (S : Array Bool → World → Prop) (fuel : Nat) (listed : Array Bool) (a : Act) (w : World) (i : Nat) (o : Oper) : Prop :=
  ∀ K' : Act → World → Prop, Shut (∀ a w, S (listed.setIfInBounds i true) w → (Cl md ops (listed.setIfInBounds i true) → S (listed.setIfInBounds i true) w → wpAnyL P md ops Q S fuel (listed.setIfInBounds i true) a w) → K' a w) →
    if Region.wanted o (yielded ops a.tmps) = true then Oper.wp P o a w K' Q else K' (a.put o.dst undef) w

theorem stepL_op {fuel : Nat} {listed : Array Bool} {a : Act} {w : World} {i : Nat} {o : Oper} (ho : ops[i]? = some o) (hc : Cl md ops listed) (hr : i ∈ Region.ready md ops listed) (h : StepL P md ops Q S fuel listed a w i o) :
    wpOp P ops Q i (fun a' w' => S (listed.setIfInBounds i true) w' ∧ wpAnyL P md ops Q S fuel (listed.setIfInBounds i true) a' w') a w :=
  wpOp_step ho fun K' hK => h K' (fun a w hS hW => hK a w ⟨hS, hW (cl_more hc hr) hS⟩)

theorem anyL_one {fuel : Nat} {listed : Array Bool} {a : Act} {w : World} {i : Nat} {o : Oper} (hr : Region.ready md ops listed = [i]) (ho : ops[i]? = some o) (hc : Cl md ops listed) (h : StepL P md ops Q S fuel listed a w i o) : wpAnyL P md ops Q S (fuel + 1) listed a w :=
  ⟨fun h0 => (by rw [hr] at h0; cases h0), fun j hj => by
    have e := hj
    rw [hr, List.mem_singleton] at e
    subst e
    exact stepL_op ho hc hj h⟩
theorem anyL_two {fuel : Nat} {listed : Array Bool} {a : Act} {w : World} {i j : Nat} {o o' : Oper} (hr : Region.ready md ops listed = [i, j]) (ho : ops[i]? = some o) (ho' : ops[j]? = some o') (hc : Cl md ops listed)
    (h : StepL P md ops Q S fuel listed a w i o) (h' : StepL P md ops Q S fuel listed a w j o') : wpAnyL P md ops Q S (fuel + 1) listed a w :=
  ⟨fun h0 => (by rw [hr] at h0; cases h0), fun k hk => by
    have e := hk
    rw [hr, List.mem_cons, List.mem_singleton] at e
    rcases e with e | e
    · subst e; exact stepL_op ho hc hk h
    · subst e; exact stepL_op ho' hc hk h'⟩
theorem anyL_done {listed : Array Bool} {a : Act} {w : World} (hr : Region.ready md ops listed = []) (h : Q .normal a w) : ∀ fuel, wpAnyL P md ops Q S fuel listed a w
  | 0 => ⟨hr, h⟩
  | _ + 1 => ⟨fun _ => h, by rw [hr]; simp⟩

theorem wp_region_L {id : Nat} {a : Act} {w : World} (hm : P.follows .mixedOrders = true) (hS : S (Array.replicate ops.size false) w.drew)
    (h : Cl .any ops (Array.replicate ops.size false) → S (Array.replicate ops.size false) w.drew → wpAnyL P .any ops Q S ops.size (Array.replicate ops.size false) a w.drew) : (Code.region id ops true).wp P Q a w :=
  wp_region_any hm (any_of_L _ _ _ _ (h ⟨Array.size_replicate, fun t ht h => by simp at ht; simp [ht] at h⟩ hS))

/-- All along; till i2 has come up; till i3 has. -/
def SL (A B2 B3 : World → Prop) (i2 i3 : Nat) (listed : Array Bool) (w : World) : Prop := A w ∧ (listed.getD i2 true = false → B2 w) ∧ (listed.getD i3 true = false → B3 w)
theorem sl_set {A B2 B3 : World → Prop} {i2 i3 i : Nat} (h2 : i ≠ i2) (h3 : i ≠ i3) (l : Array Bool) (w : World) : SL A B2 B3 i2 i3 (l.setIfInBounds i true) w ↔ SL A B2 B3 i2 i3 l w := by
  unfold SL
  rw [getD_set_ne true h2, getD_set_ne true h3]
theorem sl_a {A B2 B3 : World → Prop} {i2 i3 i : Nat} : ∀ l w, Cl md ops l → l.getD i true = false → SL A B2 B3 i2 i3 l w → A w := fun _ _ _ _ h => h.1
theorem cl_late {l : Array Bool} {i j : Nat} (hc : Cl md ops l) (hi : l.getD i true = false) (hj : j < ops.size) (ha : anc md ops ops.size j i = true) : l.getD j true = false := by
  cases h : l.getD j true
  · rfl
  · have := anc_spec hc.2 _ j i (hc.2 j (by rw [hc.1]; exact hj) h) ha
    rw [this] at hi
    cases hi
theorem sl_b2 {A B2 B3 : World → Prop} {i2 i3 i : Nat} (hj : i2 < ops.size) (ha : anc md ops ops.size i2 i = true) : ∀ l w, Cl md ops l → l.getD i true = false → SL A B2 B3 i2 i3 l w → B2 w := fun _ _ hc hi h => h.2.1 (cl_late hc hi hj ha)
theorem sl_b3 {A B2 B3 : World → Prop} {i2 i3 i : Nat} (hj : i3 < ops.size) (ha : anc md ops ops.size i3 i = true) : ∀ l w, Cl md ops l → l.getD i true = false → SL A B2 B3 i2 i3 l w → B3 w := fun _ _ hc hi h => h.2.2 (cl_late hc hi hj ha)
end
end Go.Proofs.Ythbghcebcahlnaa
