/- A region that draws its order, as in YQ; the rest may wait for the first by way of each other. A region that draws its order: what holds may hang on what has come up. -/
import Derived.Test.YthbghcebcahlnaaM30
import Derived.Deep.RegionHeld
namespace Go.Proofs.Ythbghcebcahlnaa
open Go

section
variable {F : Fence} {n : Nat} {P : Program} {ops : Array Oper} {md : Region.Mode} {C : World → Prop} {m : Nat} {T : Act → Prop}

/-- Does t wait for i, by way of others too? -/
def anc (md : Region.Mode) (ops : Array Oper) : Nat → Nat → Nat → Bool
  | 0, _, _ => false
  | f + 1, t, i => match ops[t]? with | some o => o.after.any (fun e => Region.binds md e && (e.on == i || anc md ops f e.on i)) | none => false
def waitsFar (md : Region.Mode) (ops : Array Oper) (m : Nat) : Bool :=
  (List.range ops.size).all fun t => decide (t < m) || (List.range m).all fun i => anc md ops ops.size t i

def DepsIn (md : Region.Mode) (ops : Array Oper) (listed : Array Bool) (t : Nat) : Prop := ∀ o, ops[t]? = some o → ∀ e ∈ o.after, Region.binds md e = true → listed.getD e.on true = true ∧ e.on < listed.size
def ClosedIn (md : Region.Mode) (ops : Array Oper) (listed : Array Bool) : Prop := ∀ t, t < listed.size → listed.getD t true = true → DepsIn md ops listed t

theorem deps_of_ready {listed : Array Bool} {t : Nat} (h : t ∈ Region.ready md ops listed) : DepsIn md ops listed t := by
  obtain ⟨_, o, ho, hall⟩ := mem_ready.1 h
  intro o' ho' e he hb
  rw [ho] at ho'
  cases ho'
  have h3 := hall e he hb
  by_cases hl : e.on < listed.size
  · simp [hl] at h3 ⊢
    exact h3
  · simp [Array.getElem?_eq_none (Nat.le_of_not_lt hl)] at h3

theorem anc_spec {listed : Array Bool} (hc : ClosedIn md ops listed) : ∀ (f t i : Nat), DepsIn md ops listed t → anc md ops f t i = true → listed.getD i true = true
  | 0, _, _, _, h => by cases h
  | f + 1, t, i, hd, h => by
    unfold anc at h
    split at h
    · rename_i o ho
      obtain ⟨e, he, hb⟩ := Array.any_eq_true'.1 h
      rw [Bool.and_eq_true, Bool.or_eq_true, beq_iff_eq] at hb
      obtain ⟨h1, h2⟩ := hd o ho e he hb.1
      rcases hb.2 with e1 | e1
      · rw [← e1]; exact h1
      · exact anc_spec hc f e.on i (hc e.on h2 h1) e1
    · cases h

theorem far_spec (h : waitsFar md ops m = true) {t : Nat} (ht : m ≤ t) {listed : Array Bool} (hc : ClosedIn md ops listed) (hr : t ∈ Region.ready md ops listed) (i : Nat) (hi : i < m) : listed.getD i true = true := by
  obtain ⟨_, o, ho, _⟩ := mem_ready.1 hr
  have hlt : t < ops.size := (Array.getElem?_eq_some_iff.1 ho).1
  unfold waitsFar at h
  have h1 := List.all_eq_true.1 h t (List.mem_range.2 hlt)
  rw [Bool.or_eq_true] at h1
  rcases h1 with h1 | h1
  · have := of_decide_eq_true h1
    omega
  · exact anc_spec hc _ t i (deps_of_ready hr) (List.all_eq_true.1 h1 i (List.mem_range.2 hi))

theorem deps_more {listed : Array Bool} {t i : Nat} (h : DepsIn md ops listed t) : DepsIn md ops (listed.setIfInBounds i true) t := fun o ho e he hb => by
  obtain ⟨h1, h2⟩ := h o ho e he hb
  refine ⟨?_, by simpa using h2⟩
  by_cases c : i = e.on
  · subst c
    simp [h2]
  · rw [getD_set_ne true c]; exact h1
theorem closed_more {listed : Array Bool} {i : Nat} (hc : ClosedIn md ops listed) (hr : i ∈ Region.ready md ops listed) : ClosedIn md ops (listed.setIfInBounds i true) := fun t ht h => by
  by_cases c : i = t
  · subst c
    exact deps_more (deps_of_ready hr)
  · rw [getD_set_ne true c] at h
    exact deps_more (hc t (by simpa using ht) h)

theorem any_of_T2 {Q : Exit → Act → World → Prop} {g : Nat} (hnd : noDefer ops = true) (hw : waitsFar md ops m = true) {H : Array Bool} (hH : H.size = ops.size) (hH1 : ∀ i, i < m → H.getD i true = true) (hH2 : ∀ i, m ≤ i → i < ops.size → H.getD i true = false) (hmo : m ≤ ops.size)
    (hT : ∀ a w, C w → T a → wpAnyIn F n P md ops Q g H a w) :
    ∀ (f : Nat) (listed : Array Bool) (a : Act) (w : World), listed.size = ops.size → ClosedIn md ops listed → (∀ i, m ≤ i → i < ops.size → listed.getD i true = false) → C w → AnyT F n P md ops C m T f listed a → wpAnyIn F n P md ops Q (f + g) listed a w
  | 0, listed, a, w, hs, _, hu, hC, h => by
    have e : listed = H := by
      refine Array.ext (by rw [hs, hH]) fun i h1 h2 => ?_
      by_cases c : i < m
      · have a1 := h.1 i c
        have a2 := hH1 i c
        simp [h1] at a1
        simp [h2] at a2
        rw [a1, a2]
      · have a1 := hu i (by omega) (by omega)
        have a2 := hH2 i (by omega) (by omega)
        simp [h1] at a1
        simp [h2] at a2
        rw [a1, a2]
    rw [e, Nat.zero_add]
    exact hT a w hC h.2
  | f + 1, listed, a, w, hs, hcl, hu, hC, h => by
    obtain ⟨⟨i0, hi0, hr0⟩, h2⟩ := h
    rw [show f + 1 + g = (f + g) + 1 by omega]
    refine ⟨fun e => (by rw [e] at hr0; cases hr0), fun i hi => ?_⟩
    by_cases c : i < m
    · refine wpOpIn_of_still hnd hC (fun a' w' hC' h' => any_of_T2 hnd hw hH hH1 hH2 hmo hT f _ a' w' (by simp [hs]) (closed_more hcl hi) (fun j hj hjs => ?_) hC' h') (h2 i c hi)
      rw [getD_set_ne true (by omega)]
      exact hu j hj hjs
    · have h3 := far_spec hw (by omega : m ≤ i) hcl hi i0 hi0
      rw [(mem_ready.1 hr0).1] at h3
      cases h3

/-- All questions to the kernel. -/
def regionFar (ops : Array Oper) (m : Nat) : Bool :=
  decide (m ≤ ops.size) && Region.noSelect ops && noDefer ops && headOk .any ops m 0 (Array.replicate ops.size false) && waitsFar .any ops m && restOk .any ops (ops.size - m) m (Array.replicate m true ++ Array.replicate (ops.size - m) false)

theorem region_far {id : Nat} {Q : Exit → Act → World → Prop} {a : Act} {w : World} {l : List Oper} (m : Nat) (hm : P.follows .mixedOrders = true) (hB : regionFar l.toArray m = true)
    (h : wpQuietIn F n P l.toArray (fun w' => ∃ k, w' = w.drewN k) (fun a' => ∀ w', (∃ k, w' = w.drewN k) → wpListIn F n P l.toArray Q (l.drop m) a' w') (l.take m) a) : (Code.region id l.toArray true).wpIn F n P Q a w := by
  simp only [regionFar, Bool.and_eq_true, decide_eq_true_eq, List.size_toArray] at hB
  obtain ⟨⟨⟨⟨⟨h1, h2⟩, h3⟩, h4⟩, h5⟩, h6⟩ := hB
  have hlen : (l.take m).length = m := by rw [List.length_take]; omega
  have hdl : (l.drop m).length = l.length - m := List.length_drop
  refine wpIn_region_any hm ?_
  have key := anyT_lex (F := F) (n := n) (P := P) (ops := l.toArray) (md := .any) (C := fun w' => ∃ k, w' = w.drewN k) (m := m) (T := fun a' => ∀ w', (∃ k, w' = w.drewN k) → wpListIn F n P l.toArray Q (l.drop m) a' w') h2 (l.take m) 0 (Array.replicate l.length false) a
    (by omega) (fun j hj => by simp [List.getElem?_take]; omega) (fun i hi => by omega) (by rw [hlen]; exact h4) h
  rw [hlen] at key
  have fin := any_of_T2 (Q := Q) (g := l.length - m) h3 h5 (H := Array.replicate m true ++ Array.replicate (l.length - m) false) (by simp; omega)
    (fun i hi => by simp [Array.getElem?_append, hi]) (fun i hi hi2 => by
      simp at hi2
      have : ¬ i < m := by omega
      simp [Array.getElem?_append, this]
      have : i - m < l.length - m := by omega
      simp [this]) (by simp; omega)
    (fun a w' hC hT => by
      have := any_of_rest (md := .any) (Q := Q) (l.drop m) m (Array.replicate m true ++ Array.replicate (l.length - m) false) a w' (fun j hj => by simp [List.getElem?_drop]) (by rw [hdl]; exact h6) (hT w' hC)
      rw [hdl] at this
      exact this) m (Array.replicate l.length false) a { w with drawn := w.drawn + 1 } (by simp) (fun t ht h => by simp at ht; simp [ht] at h) (fun i _ hi => by simp at hi; simp [hi]) ⟨1, rfl⟩ key
  rw [show m + (l.length - m) = l.length by omega] at fin
  simpa using fin
end
end Go.Proofs.Ythbghcebcahlnaa

namespace Go.Proofs.Ythbghcebcahlnaa
open Go

section
variable {P : Program} {ops : Array Oper} {Q : Exit → Act → World → Prop} {md : Region.Mode} {S : Array Bool → World → Prop} {S0 : World → Prop}

def wpAnyL (P : Program) (md : Region.Mode) (ops : Array Oper) (Q : Exit → Act → World → Prop) (S : Array Bool → World → Prop) : Nat → Array Bool → Act → World → Prop
  | 0, listed, a, w => Region.ready md ops listed = [] ∧ Q .normal a w
  | fuel + 1, listed, a, w => (Region.ready md ops listed = [] → Q .normal a w) ∧ ∀ i ∈ Region.ready md ops listed, wpOp P ops Q i (fun a' w' => S (listed.setIfInBounds i true) w' ∧ wpAnyL P md ops Q S fuel (listed.setIfInBounds i true) a' w') a w

theorem any_of_L : ∀ (fuel : Nat) (listed : Array Bool) (a : Act) (w : World), wpAnyL P md ops Q S fuel listed a w → wpAny P md ops Q fuel listed a w
  | 0, _, _, _, h => h
  | fuel + 1, _, _, _, h => ⟨h.1, fun i hi => wpOp_mono (fun a' w' h' => any_of_L fuel _ a' w' h'.2) (h.2 i hi)⟩

def Cl (md : Region.Mode) (ops : Array Oper) (l : Array Bool) : Prop := l.size = ops.size ∧ ClosedIn md ops l
theorem cl_more {l : Array Bool} {i : Nat} (h : Cl md ops l) (hr : i ∈ Region.ready md ops l) : Cl md ops (l.setIfInBounds i true) := ⟨by rw [Array.size_setIfInBounds]; exact h.1, closed_more h.2 hr⟩

theorem anyL_first {i : Nat} {oi : Oper} {v : Value} (hi : ops[i]? = some oi) (hsel : ∀ (j : Nat) (o : Oper) cs b, ops[j]? = some o → o.op ≠ .select cs b)
    (hQ : ∀ c a w, Q (.panic c) (a.put oi.dst v) w → Q (.panic c) a w) (hSi : ∀ l w, S (l.setIfInBounds i true) w ↔ S l w) (hS0 : ∀ l w, Cl md ops l → l.getD i true = false → S l w → S0 w) :
    ∀ (fuel : Nat) (listed : Array Bool) (a : Act) (w : World),
      (∀ j oj, ops[j]? = some oj → j ≠ i → listed.getD j true = false → (∀ e ∈ oj.after, Region.binds md e = true → e.on ≠ i) → oi.apart ops oj = true) →
      i ∈ Region.ready md ops listed → Cl md ops listed → YieldsIf P ops S0 oi v a → S listed w →
      wpAnyL P md ops Q S fuel (listed.setIfInBounds i true) (a.put oi.dst v) w → wpAnyL P md ops Q S (fuel + 1) listed a w := by
  intro fuel
  induction fuel with
  | zero =>
    intro listed a w _ hr hc hy hS H
    refine ⟨fun h => (by rw [h] at hr; cases hr), fun j hj => ?_⟩
    by_cases hji : j = i
    · subst hji; exact hy.wpOp hi (hS0 _ _ hc (mem_ready.1 hr).1 hS) ⟨(hSi _ _).2 hS, H⟩
    · have := ready_mono hj hji
      rw [H.1] at this
      cases this
  | succ fuel ih =>
    intro listed a w hfree hr hc hy hS H
    refine ⟨fun h => (by rw [h] at hr; cases hr), fun j hj => ?_⟩
    by_cases hji : j = i
    · subst hji; exact hy.wpOp hi (hS0 _ _ hc (mem_ready.1 hr).1 hS) ⟨(hSi _ _).2 hS, H⟩
    · have h1 := H.2 j (ready_mono hj hji)
      obtain ⟨hjun, oj, hoj, hall⟩ := mem_ready.1 hj
      have hnot : ∀ e ∈ oj.after, Region.binds md e = true → e.on ≠ i := fun e he hb heq => by
        have h1 := hall e he hb
        have h0 := (mem_ready.1 hr).1
        rw [heq] at h1
        rcases Nat.lt_or_ge i listed.size with h' | h'
        · simp [h'] at h0 h1; rw [h0] at h1; cases h1
        · simp [Array.getElem?_eq_none h'] at h1
      have h2 := wpOp_putIf hoj (hfree j oj hoj hji hjun hnot) (fun cs b => hsel i oi cs b hi) (fun cs b => hsel j oj cs b hoj) hQ hy h1
      have hfree' : ∀ k ok, ops[k]? = some ok → k ≠ i → (listed.setIfInBounds j true).getD k true = false →
          (∀ e ∈ ok.after, Region.binds md e = true → e.on ≠ i) → oi.apart ops ok = true := fun k ok hk hki hun hno => by
        refine hfree k ok hk hki ?_ hno
        by_cases hjk : j = k
        · subst hjk; exact hjun
        · rw [getD_set_ne true hjk] at hun; exact hun
      refine wpOp_mono (fun a' w' h3 => ?_) h2
      obtain ⟨y1, s1, H1⟩ := h3
      rw [← Array.setIfInBounds_comm _ _ hji] at H1
      have s2 : S (listed.setIfInBounds j true) w' := by
        rw [← Array.setIfInBounds_comm _ _ hji] at s1
        exact (hSi _ _).1 s1
      exact ⟨s2, ih (listed.setIfInBounds j true) a' w' hfree' (ready_mono hr (Ne.symm hji)) (cl_more hc hj) y1 s2 H1⟩

theorem anyL_take {i : Nat} {oi : Oper} {v : Value} {fuel : Nat} {listed : Array Bool} {a : Act} {w : World} (hi : ops[i]? = some oi)
    (hs : Region.noSelect ops = true) (hf : Region.free md ops listed i = true) (hr : (Region.ready md ops listed).contains i = true)
    (hQ : ∀ c a w, Q (.panic c) (a.put oi.dst v) w → Q (.panic c) a w) (hSi : ∀ l w, S (l.setIfInBounds i true) w ↔ S l w) (hS0 : ∀ l w, Cl md ops l → l.getD i true = false → S l w → S0 w)
    (hc : Cl md ops listed) (hS : S listed w) (hy : YieldsIf P ops S0 oi v a)
    (h : Cl md ops (listed.setIfInBounds i true) → S (listed.setIfInBounds i true) w → wpAnyL P md ops Q S fuel (listed.setIfInBounds i true) (a.put oi.dst v) w) : wpAnyL P md ops Q S (fuel + 1) listed a w :=
  anyL_first hi (Region.noSelect_spec hs) hQ hSi hS0 fuel listed a w (Region.free_spec hi hf) (by simpa using hr) hc hy hS (h (cl_more hc (by simpa using hr)) ((hSi _ _).2 hS))

/-- What is asked of an operation that comes up. -/
def StepL (P : Program) (md : Region.Mode) (ops : Array Oper) (Q : Exit → Act → World → Prop) (S : Array Bool → World → Prop) (fuel : Nat) (listed : Array Bool) (a : Act) (w : World) (i : Nat) (o : Oper) : Prop :=
  ∀ K' : Act → World → Prop, Shut (∀ a w, S (listed.setIfInBounds i true) w → (Cl md ops (listed.setIfInBounds i true) → S (listed.setIfInBounds i true) w → wpAnyL P md ops Q S fuel (listed.setIfInBounds i true) a w) → K' a w) →
    if Region.wanted o (yielded ops a.tmps) = true then Oper.wp P o a w K' Q else K' (a.put o.dst undef) w

theorem stepL_op {fuel : Nat} {listed : Array Bool} {a : Act} {w : World} {i : Nat} {o : Oper} (ho : ops[i]? = some o) (hc : Cl md ops listed) (hr : i ∈ Region.ready md ops listed) (h : StepL P md ops Q S fuel listed a w i o) :
    wpOp P ops Q i (fun a' w' => S (listed.setIfInBounds i true) w' ∧ wpAnyL P md ops Q S fuel (listed.setIfInBounds i true) a' w') a w :=
  wpOp_step ho fun K' hK => h K' (fun a w hS hW => hK a w ⟨hS, hW (cl_more hc hr) hS⟩)

theorem anyL_one {fuel : Nat} {listed : Array Bool} {a : Act} {w : World} {i : Nat} {o : Oper} (hr : Region.ready md ops listed = [i]) (ho : ops[i]? = some o) (hc : Cl md ops listed) (h : StepL P md ops Q S fuel listed a w i o) : wpAnyL P md ops Q S (fuel + 1) listed a w :=
  ⟨fun h0 => (by rw [hr] at h0; cases h0), fun j hj => by
    have e := hj
    rw [hr, List.mem_singleton] at e
    subst e
    exact stepL_op ho hc hj h⟩
theorem anyL_two {fuel : Nat} {listed : Array Bool} {a : Act} {w : World} {i j : Nat} {o o' : Oper} (hr : Region.ready md ops listed = [i, j]) (ho : ops[i]? = some o) (ho' : ops[j]? = some o') (hc : Cl md ops listed)
    (h : StepL P md ops Q S fuel listed a w i o) (h' : StepL P md ops Q S fuel listed a w j o') : wpAnyL P md ops Q S (fuel + 1) listed a w :=
  ⟨fun h0 => (by rw [hr] at h0; cases h0), fun k hk => by
    have e := hk
    rw [hr, List.mem_cons, List.mem_singleton] at e
    rcases e with e | e
    · subst e; exact stepL_op ho hc hk h
    · subst e; exact stepL_op ho' hc hk h'⟩
theorem anyL_done {listed : Array Bool} {a : Act} {w : World} (hr : Region.ready md ops listed = []) (h : Q .normal a w) : ∀ fuel, wpAnyL P md ops Q S fuel listed a w
  | 0 => ⟨hr, h⟩
  | _ + 1 => ⟨fun _ => h, by rw [hr]; simp⟩

theorem wp_region_L {id : Nat} {a : Act} {w : World} (hm : P.follows .mixedOrders = true) (hS : S (Array.replicate ops.size false) w.drew)
    (h : Cl .any ops (Array.replicate ops.size false) → S (Array.replicate ops.size false) w.drew → wpAnyL P .any ops Q S ops.size (Array.replicate ops.size false) a w.drew) : (Code.region id ops true).wp P Q a w :=
  wp_region_any hm (any_of_L _ _ _ _ (h ⟨Array.size_replicate, fun t ht h => by simp at ht; simp [ht] at h⟩ hS))

/-- All along; till i2 has come up; till i3 has. -/
def SL (A B2 B3 : World → Prop) (i2 i3 : Nat) (listed : Array Bool) (w : World) : Prop := A w ∧ (listed.getD i2 true = false → B2 w) ∧ (listed.getD i3 true = false → B3 w)
theorem sl_set {A B2 B3 : World → Prop} {i2 i3 i : Nat} (h2 : i ≠ i2) (h3 : i ≠ i3) (l : Array Bool) (w : World) : SL A B2 B3 i2 i3 (l.setIfInBounds i true) w ↔ SL A B2 B3 i2 i3 l w := by
  unfold SL
  rw [getD_set_ne true h2, getD_set_ne true h3]
theorem sl_a {A B2 B3 : World → Prop} {i2 i3 i : Nat} : ∀ l w, Cl md ops l → l.getD i true = false → SL A B2 B3 i2 i3 l w → A w := fun _ _ _ _ h => h.1
theorem cl_late {l : Array Bool} {i j : Nat} (hc : Cl md ops l) (hi : l.getD i true = false) (hj : j < ops.size) (ha : anc md ops ops.size j i = true) : l.getD j true = false := by
  cases h : l.getD j true
  · rfl
  · have := anc_spec hc.2 _ j i (hc.2 j (by rw [hc.1]; exact hj) h) ha
    rw [this] at hi
    cases hi
theorem sl_b2 {A B2 B3 : World → Prop} {i2 i3 i : Nat} (hj : i2 < ops.size) (ha : anc md ops ops.size i2 i = true) : ∀ l w, Cl md ops l → l.getD i true = false → SL A B2 B3 i2 i3 l w → B2 w := fun _ _ hc hi h => h.2.1 (cl_late hc hi hj ha)
theorem sl_b3 {A B2 B3 : World → Prop} {i2 i3 i : Nat} (hj : i3 < ops.size) (ha : anc md ops ops.size i3 i = true) : ∀ l w, Cl md ops l → l.getD i true = false → SL A B2 B3 i2 i3 l w → B3 w := fun _ _ hc hi h => h.2.2 (cl_late hc hi hj ha)
end
end Go.Proofs.Ythbghcebcahlnaa
