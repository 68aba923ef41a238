/- A region that draws its order, as in YQ; the rest may wait for the first by way of each other. -/
import Derived.Test.YthbghcebcahlnaaYQ
namespace Go.Proofs.Ythbghcebcahlnaa
open Go

section
variable {F : Fence} {n : Nat} {P : Program} {ops : Array Oper} {md : Region.Mode} {C : World → Prop} {m : Nat} {T : Act → Prop}

/-- Does t wait for i, by way of others too? -/
def anc (md : Region.Mode) (ops : Array Oper) : Nat → Nat → Nat → Bool
  | 0, _, _ => false
  | f + 1, t, i => match ops[t]? with | some o => o.after.any (fun e => Region.binds md e && (e.on == i || anc md ops f e.on i)) | none => false
def waitsFar (md : Region.Mode) (ops : Array Oper) (m : Nat) : Bool :=
  (List.range ops.size).all fun t => decide (t < m) || (List.range m).all fun i => anc md ops ops.size t i

def DepsIn (md : Region.Mode) (ops : Array Oper) (listed : Array Bool) (t : Nat) : Prop := ∀ o, ops[t]? = some o → ∀ e ∈ o.after, Region.binds md e = true → listed.getD e.on true = true ∧ e.on < listed.size
def ClosedIn (md : Region.Mode) (ops : Array Oper) (listed : Array Bool) : Prop := ∀ t, t < listed.size → listed.getD t true = true → DepsIn md ops listed t

theorem deps_of_ready {listed : Array Bool} {t : Nat} (h : t ∈ Region.ready md ops listed) : DepsIn md ops listed t := by
  obtain ⟨_, o, ho, hall⟩ := mem_ready.1 h
  intro o' ho' e he hb
  rw [ho] at ho'
  cases ho'
  have h3 := hall e he hb
  by_cases hl : e.on < listed.size
  · simp [hl] at h3 ⊢
    exact h3
  · simp [Array.getElem?_eq_none (Nat.le_of_not_lt hl)] at h3

theorem anc_spec {listed : Array Bool} (hc : ClosedIn md ops listed) : ∀ (f t i : Nat), DepsIn md ops listed t → anc md ops f t i = true → listed.getD i true = true
  | 0, _, _, _, h => by cases h
  | f + 1, t, i, hd, h => by
    unfold anc at h
    split at h
    · rename_i o ho
      obtain ⟨e, he, hb⟩ := Array.any_eq_true'.1 h
      rw [Bool.and_eq_true, Bool.or_eq_true, beq_iff_eq] at hb
      obtain ⟨h1, h2⟩ := hd o ho e he hb.1
      rcases hb.2 with e1 | e1
      · rw [← e1]; exact h1
      · exact anc_spec hc f e.on i (hc e.on h2 h1) e1
    · cases h

theorem far_spec (h : waitsFar md ops m = true) {t : Nat} (ht : m ≤ t) {listed : Array Bool} (hc : ClosedIn md ops listed) (hr : t ∈ Region.ready md ops listed) (i : Nat) (hi : i < m) : listed.getD i true = true := by
  obtain ⟨_, o, ho, _⟩ := mem_ready.1 hr
  have hlt : t < ops.size := (Array.getElem?_eq_some_iff.1 ho).1
  unfold waitsFar at h
  have h1 := List.all_eq_true.1 h t (List.mem_range.2 hlt)
  rw [Bool.or_eq_true] at h1
  rcases h1 with h1 | h1
  · have := of_decide_eq_true h1
    omega
  · exact anc_spec hc _ t i (deps_of_ready hr) (List.all_eq_true.1 h1 i (List.mem_range.2 hi))

theorem deps_more {listed : Array Bool} {t i : Nat} (h : DepsIn md ops listed t) : DepsIn md ops (listed.setIfInBounds i true) t := fun o ho e he hb => by
  obtain ⟨h1, h2⟩ := h o ho e he hb
  refine ⟨?_, by simpa using h2⟩
  by_cases c : i = e.on
  · subst c
    simp [h2]
  · rw [getD_set_ne true c]; exact h1
theorem closed_more {listed : Array Bool} {i : Nat} (hc : ClosedIn md ops listed) (hr : i ∈ Region.ready md ops listed) : ClosedIn md ops (listed.setIfInBounds i true) := fun t ht h => by
  by_cases c : i = t
  · subst c
    exact deps_more (deps_of_ready hr)
  · rw [getD_set_ne true c] at h
    exact deps_more (hc t (by simpa using ht) h)

theorem any_of_T2 {Q : Exit → Act → World → Prop} {g : Nat} (hnd : noDefer ops = true) (hw : waitsFar md ops m = true) {H : Array Bool} (hH : H.size = ops.size) (hH1 : ∀ i, i < m → H.getD i true = true) (hH2 : ∀ i, m ≤ i → i < ops.size → H.getD i true = false) (hmo : m ≤ ops.size)
    (hT : ∀ a w, C w → T a → wpAnyIn F n P md ops Q g H a w) :
    ∀ (f : Nat) (listed : Array Bool) (a : Act) (w : World), listed.size = ops.size → ClosedIn md ops listed → (∀ i, m ≤ i → i < ops.size → listed.getD i true = false) → C w → AnyT F n P md ops C m T f listed a → wpAnyIn F n P md ops Q (f + g) listed a w
  | 0, listed, a, w, hs, _, hu, hC, h => by
    have e : listed = H := by
      refine Array.ext (by rw [hs, hH]) fun i h1 h2 => ?_
      by_cases c : i < m
      · have a1 := h.1 i c
        have a2 := hH1 i c
        simp [h1] at a1
        simp [h2] at a2
        rw [a1, a2]
      · have a1 := hu i (by omega) (by omega)
        have a2 := hH2 i (by omega) (by omega)
        simp [h1] at a1
        simp [h2] at a2
        rw [a1, a2]
    rw [e, Nat.zero_add]
    exact hT a w hC h.2
  | f + 1, listed, a, w, hs, hcl, hu, hC, h => by
    obtain ⟨⟨i0, hi0, hr0⟩, h2⟩ := h
    rw [show f + 1 + g = (f + g) + 1 by omega]
    refine ⟨fun e => (by rw [e] at hr0; cases hr0), fun i hi => ?_⟩
    by_cases c : i < m
    · refine wpOpIn_of_still hnd hC (fun a' w' hC' h' => any_of_T2 hnd hw hH hH1 hH2 hmo hT f _ a' w' (by simp [hs]) (closed_more hcl hi) (fun j hj hjs => ?_) hC' h') (h2 i c hi)
      rw [getD_set_ne true (by omega)]
      exact hu j hj hjs
    · have h3 := far_spec hw (by omega : m ≤ i) hcl hi i0 hi0
      rw [(mem_ready.1 hr0).1] at h3
      cases h3

/-- All questions to the kernel. -/
def regionFar (ops : Array Oper) (m : Nat) : Bool :=
  decide (m ≤ ops.size) && Region.noSelect ops && noDefer ops && headOk .any ops m 0 (Array.replicate ops.size false) && waitsFar .any ops m && restOk .any ops (ops.size - m) m (Array.replicate m true ++ Array.replicate (ops.size - m) false)

theorem region_far {id : Nat} {Q : Exit → Act → World → Prop} {a : Act} {w : World} {l : List Oper} (m : Nat) (hm : P.follows .mixedOrders = true) (hB : regionFar l.toArray m = true)
    (h : wpQuietIn F n P l.toArray (fun w' => ∃ k, w' = w.drewN k) (fun a' => ∀ w', (∃ k, w' = w.drewN k) → wpListIn F n P l.toArray Q (l.drop m) a' w') (l.take m) a) : (Code.region id l.toArray true).wpIn F n P Q a w := by
  simp only [regionFar, Bool.and_eq_true, decide_eq_true_eq, List.size_toArray] at hB
  obtain ⟨⟨⟨⟨⟨h1, h2⟩, h3⟩, h4⟩, h5⟩, h6⟩ := hB
  have hlen : (l.take m).length = m := by rw [List.length_take]; omega
  have hdl : (l.drop m).length = l.length - m := List.length_drop
  refine wpIn_region_any hm ?_
  have key := anyT_lex (F := F) (n := n) (P := P) (ops := l.toArray) (md := .any) (C := fun w' => ∃ k, w' = w.drewN k) (m := m) (T := fun a' => ∀ w', (∃ k, w' = w.drewN k) → wpListIn F n P l.toArray Q (l.drop m) a' w') h2 (l.take m) 0 (Array.replicate l.length false) a
    (by omega) (fun j hj => by simp [List.getElem?_take]; omega) (fun i hi => by omega) (by rw [hlen]; exact h4) h
  rw [hlen] at key
  have fin := any_of_T2 (Q := Q) (g := l.length - m) h3 h5 (H := Array.replicate m true ++ Array.replicate (l.length - m) false) (by simp; omega)
    (fun i hi => by simp [Array.getElem?_append, hi]) (fun i hi hi2 => by
      simp at hi2
      have : ¬ i < m := by omega
      simp [Array.getElem?_append, this]
      have : i - m < l.length - m := by omega
      simp [this]) (by simp; omega)
    (fun a w' hC hT => by
      have := any_of_rest (md := .any) (Q := Q) (l.drop m) m (Array.replicate m true ++ Array.replicate (l.length - m) false) a w' (fun j hj => by simp [List.getElem?_drop]) (by rw [hdl]; exact h6) (hT w' hC)
      rw [hdl] at this
      exact this) m (Array.replicate l.length false) a { w with drawn := w.drawn + 1 } (by simp) (fun t ht h => by simp at ht; simp [ht] at h) (fun i _ hi => by simp at hi; simp [hi]) ⟨1, rfl⟩ key
  rw [show m + (l.length - m) = l.length by omega] at fin
  simpa using fin
end
end Go.Proofs.Ythbghcebcahlnaa
