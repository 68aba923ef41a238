/- A region that draws its order: first operations that leave the world as it is (calls among them), in whatever order; then, when all of these have come, the rest one behind the other. One walk in the order of the text serves every order; in a round too. -/
import Derived.Sort.BigQuietIn
namespace Go.Proofs.Ythbghcebcahlnaa
open Go

section
variable {F : Fence} {n : Nat} {P : Program} {ops : Array Oper} {md : Region.Mode} {C : World → Prop} {m : Nat} {T : Act → Prop}

def noDefer (ops : Array Oper) : Bool := ops.all fun o => match o.op with | .defer _ => false | _ => true
theorem noDefer_at (h : noDefer ops = true) {j : Nat} {o : Oper} (ho : ops[j]? = some o) : ∀ c, o.op ≠ .defer c := by
  intro c e
  have := Array.all_eq_true_iff_forall_mem.1 h o (Array.mem_of_getElem? ho)
  simp [e] at this

/-- The first m: in whatever order, each leaving a world of the class. -/
def AnyT (F : Fence) (n : Nat) (P : Program) (md : Region.Mode) (ops : Array Oper) (C : World → Prop) (m : Nat) (T : Act → Prop) : Nat → Array Bool → Act → Prop
  | 0, listed, a => (∀ i, i < m → listed.getD i true = true) ∧ T a
  | f + 1, listed, a => (∃ i, i < m ∧ i ∈ Region.ready md ops listed) ∧ ∀ i, i < m → i ∈ Region.ready md ops listed → qOpIn F n P ops C i (AnyT F n P md ops C m T f (listed.setIfInBounds i true)) a

theorem anyT_first {i : Nat} {oi : Oper} {v : Value} (hi : ops[i]? = some oi) (him : i < m) (hsel : ∀ (j : Nat) (o : Oper) cs b, ops[j]? = some o → o.op ≠ .select cs b) :
    ∀ (f : Nat) (listed : Array Bool) (a : Act),
      (∀ j oj, ops[j]? = some oj → j ≠ i → listed.getD j true = false → (∀ e ∈ oj.after, Region.binds md e = true → e.on ≠ i) → oi.apart ops oj = true) →
      i ∈ Region.ready md ops listed → YieldsQuiet F n P ops C oi v a →
      AnyT F n P md ops C m T f (listed.setIfInBounds i true) (a.put oi.dst v) → AnyT F n P md ops C m T (f + 1) listed a := by
  intro f
  induction f with
  | zero =>
    intro listed a _ hr hy H
    refine ⟨⟨i, him, hr⟩, fun j hjm hj => ?_⟩
    by_cases e : j = i
    · subst e
      exact hy.qOpIn hi H
    · have h1 := H.1 j hjm
      rw [getD_set_ne true (Ne.symm e), (mem_ready.1 hj).1] at h1
      cases h1
  | succ f ih =>
    intro listed a hfree hr hy H
    refine ⟨⟨i, him, hr⟩, fun j hjm hj => ?_⟩
    by_cases e : j = i
    · subst e
      exact hy.qOpIn hi H
    · obtain ⟨hun, oj, hoj, hall⟩ := mem_ready.1 hj
      have hnot : ∀ x ∈ oj.after, Region.binds md x = true → x.on ≠ i := by
        intro x hx hb hxi
        have h1 := hall x hx hb
        have h0 := (mem_ready.1 hr).1
        rw [hxi] at h1
        by_cases hl : i < listed.size
        · simp [hl] at h0 h1
          rw [h0] at h1
          cases h1
        · simp [Array.getElem?_eq_none (Nat.le_of_not_lt hl)] at h1
      have h2 := qOpIn_put hoj (hfree j oj hoj e hun hnot) (fun cs b => hsel i oi cs b hi) (fun cs b => hsel j oj cs b hoj) hy (H.2 j hjm (ready_mono hj e))
      refine qOpIn_mono (fun a' h3 => ih (listed.setIfInBounds j true) a' (fun k ok hk hki hku hno => hfree k ok hk hki ?_ hno) (ready_mono hr (Ne.symm e)) h3.1 ?_) h2
      · by_cases ejk : j = k
        · subst ejk
          exact hun
        · rw [getD_set_ne true ejk] at hku
          exact hku
      · rw [Array.setIfInBounds_comm _ _ e]
        exact h3.2

/-- The kernel's questions: each of the first may come up in its turn and bears to be taken first. -/
def headOk (md : Region.Mode) (ops : Array Oper) : Nat → Nat → Array Bool → Bool
  | 0, _, _ => true
  | f + 1, k, listed => (Region.ready md ops listed).contains k && Region.free md ops listed k && headOk md ops f (k + 1) (listed.setIfInBounds k true)

theorem anyT_lex (hs : Region.noSelect ops = true) : ∀ (l : List Oper) (k : Nat) (listed : Array Bool) (a : Act), k + l.length = m → (∀ j, j < l.length → l[j]? = ops[k + j]?) → (∀ i, i < k → listed.getD i true = true) →
    headOk md ops l.length k listed = true → wpQuietIn F n P ops C T l a → AnyT F n P md ops C m T l.length listed a
  | [], k, listed, a, hk, _, hL, _, h => ⟨fun i hi => hL i (by simp at hk; omega), h⟩
  | o :: l, k, listed, a, hk, hl, hL, hB, h => by
    have h0 : ops[k]? = some o := by
      have := hl 0 (by simp)
      simpa using this.symm
    simp only [List.length_cons, headOk, Bool.and_eq_true] at hB
    obtain ⟨⟨hr, hf⟩, hB'⟩ := hB
    have hst : qOpIn F n P ops C k (wpQuietIn F n P ops C T l) a := by
      unfold qOpIn
      simp only [h0]
      exact h
    obtain ⟨v, hy, hK⟩ := yieldsQuiet_of_qOpIn h0 hst
    refine anyT_first h0 (by simp at hk; omega) (Region.noSelect_spec hs) l.length listed a (Region.free_spec h0 hf) (by simpa using hr) hy ?_
    refine anyT_lex hs l (k + 1) _ _ (by simp at hk; omega) (fun j hj => ?_) (fun i hi => ?_) hB' hK
    · have := hl (j + 1) (by simp; omega)
      simpa [Nat.add_assoc, Nat.add_comm 1 j] using this
    · by_cases e : k = i
      · subst e
        simp [Array.getElem?_setIfInBounds]
        split <;> rfl
      · rw [getD_set_ne true e]
        exact hL i (by omega)

theorem wpIn_of_still {o : Oper} {a : Act} {K : Act → Prop} {K' : Act → World → Prop} {Q' : Exit → Act → World → Prop} {w : World} (hnd : ∀ c, o.op ≠ .defer c) (hw : C w) (h : ∀ a w', C w' → K a → K' a w')
    (ha : o.askedIn F P a C) (hh : o.quietIn F n P a C K) : o.wpIn F n P a w K' Q' := by
  obtain ⟨v, h1, h2⟩ := hh
  have h3 := h1 w hw
  unfold Oper.quietAtIn at h3
  unfold Oper.wpIn
  refine ⟨ha w hw, ?_⟩
  rw [Oper.semAt_eq _ _ _ hnd]
  generalize (execOp a.eval o).run P w = r at h3
  unfold Oper.quietUponIn at h3
  split at h3
  · obtain ⟨rfl, rfl⟩ := h3
    rw [Oper.uponIn_value]
    exact h _ _ hw h2
  · obtain ⟨rfl, rfl⟩ := h3
    rw [Oper.uponIn_skip]
    exact h _ _ hw h2
  · obtain ⟨rfl, hd, hc⟩ := h3
    rw [Oper.uponIn_enter]
    refine ⟨hd, hc.mono ?_⟩
    rintro e w'' ⟨rfl, hC⟩
    exact h _ _ hC h2
  · exact h3.elim

theorem wpOpIn_of_still (hnd : noDefer ops = true) {i : Nat} {a : Act} {K : Act → Prop} {K' : Act → World → Prop} {Q' : Exit → Act → World → Prop} {w : World} (hw : C w) (h : ∀ a w', C w' → K a → K' a w')
    (hh : qOpIn F n P ops C i K a) : wpOpIn F n P ops Q' i K' a w := by
  unfold qOpIn at hh
  unfold wpOpIn
  split
  · rename_i ho
    simp only [ho] at hh
    exact h _ _ hw hh
  · rename_i o ho
    simp only [ho] at hh
    obtain ⟨ha, hh⟩ := hh
    split
    · rename_i hwd
      rw [if_pos hwd] at hh
      exact wpIn_of_still (noDefer_at hnd ho) hw h ha hh
    · rename_i hwd
      rw [if_neg hwd] at hh
      exact ⟨ha w hw, h _ _ hw hh⟩

/-- The rest: each waits for all of the first; then one behind the other. -/
def waitsAll (md : Region.Mode) (ops : Array Oper) (m : Nat) : Bool :=
  (List.range ops.size).all fun t => decide (t < m) || (List.range m).all fun i => match ops[t]? with | some o => o.after.any fun e => Region.binds md e && e.on == i | none => true
def restOk (md : Region.Mode) (ops : Array Oper) : Nat → Nat → Array Bool → Bool
  | 0, _, listed => (Region.ready md ops listed).isEmpty
  | g + 1, k, listed => decide (Region.ready md ops listed = [k]) && restOk md ops g (k + 1) (listed.setIfInBounds k true)

theorem waits_spec (h : waitsAll md ops m = true) {t : Nat} (ht : m ≤ t) {listed : Array Bool} (hr : t ∈ Region.ready md ops listed) (i : Nat) (hi : i < m) : listed.getD i true = true := by
  obtain ⟨_, o, ho, hall⟩ := mem_ready.1 hr
  have hlt : t < ops.size := (Array.getElem?_eq_some_iff.1 ho).1
  unfold waitsAll at h
  have h1 := List.all_eq_true.1 h t (List.mem_range.2 hlt)
  rw [Bool.or_eq_true] at h1
  rcases h1 with h1 | h1
  · have := of_decide_eq_true h1
    omega
  · have h2 := List.all_eq_true.1 h1 i (List.mem_range.2 hi)
    simp only [ho] at h2
    obtain ⟨e, he, hb⟩ := Array.any_eq_true'.1 h2
    rw [Bool.and_eq_true, beq_iff_eq] at hb
    have h3 := hall e he hb.1
    rw [hb.2] at h3
    by_cases hl : i < listed.size
    · simp [hl] at h3 ⊢
      exact h3
    · simp [Array.getElem?_eq_none (Nat.le_of_not_lt hl)] at h3

theorem any_of_rest {Q : Exit → Act → World → Prop} : ∀ (l : List Oper) (k : Nat) (listed : Array Bool) (a : Act) (w : World), (∀ j, j < l.length → l[j]? = ops[k + j]?) →
    restOk md ops l.length k listed = true → wpListIn F n P ops Q l a w → wpAnyIn F n P md ops Q l.length listed a w
  | [], _, _, _, _, _, hB, h => ⟨by simpa [restOk] using hB, h⟩
  | o :: l, k, listed, a, w, hl, hB, h => by
    have h0 : ops[k]? = some o := by
      have := hl 0 (by simp)
      simpa using this.symm
    simp only [List.length_cons, restOk, Bool.and_eq_true, decide_eq_true_eq] at hB
    obtain ⟨hr, hB'⟩ := hB
    refine ⟨fun e => (by rw [hr] at e; cases e), fun i hi => ?_⟩
    rw [hr, List.mem_singleton] at hi
    subst hi
    have ih := fun a w => any_of_rest (Q := Q) l (i + 1) (listed.setIfInBounds i true) a w (fun j hj => by
      have := hl (j + 1) (by simp; omega)
      simpa [Nat.add_assoc, Nat.add_comm 1 j] using this) hB'
    unfold wpOpIn
    simp only [h0]
    unfold wpListIn at h
    split
    · rename_i hw
      rw [if_pos hw] at h
      exact Oper.wpIn_mono ih h
    · rename_i hw
      rw [if_neg hw] at h
      exact ⟨h.1, ih _ _ h.2⟩

theorem any_of_T {Q : Exit → Act → World → Prop} {g : Nat} (hnd : noDefer ops = true) (hw : waitsAll md ops m = true) {H : Array Bool} (hH : H.size = ops.size) (hH1 : ∀ i, i < m → H.getD i true = true) (hH2 : ∀ i, m ≤ i → i < ops.size → H.getD i true = false) (hmo : m ≤ ops.size)
    (hT : ∀ a w, C w → T a → wpAnyIn F n P md ops Q g H a w) :
    ∀ (f : Nat) (listed : Array Bool) (a : Act) (w : World), listed.size = ops.size → (∀ i, m ≤ i → i < ops.size → listed.getD i true = false) → C w → AnyT F n P md ops C m T f listed a → wpAnyIn F n P md ops Q (f + g) listed a w
  | 0, listed, a, w, hs, hu, hC, h => by
    have e : listed = H := by
      refine Array.ext (by rw [hs, hH]) fun i h1 h2 => ?_
      by_cases c : i < m
      · have a1 := h.1 i c
        have a2 := hH1 i c
        simp [h1] at a1
        simp [h2] at a2
        rw [a1, a2]
      · have a1 := hu i (by omega) (by omega)
        have a2 := hH2 i (by omega) (by omega)
        simp [h1] at a1
        simp [h2] at a2
        rw [a1, a2]
    rw [e, Nat.zero_add]
    exact hT a w hC h.2
  | f + 1, listed, a, w, hs, hu, hC, h => by
    obtain ⟨⟨i0, hi0, hr0⟩, h2⟩ := h
    rw [show f + 1 + g = (f + g) + 1 by omega]
    refine ⟨fun e => (by rw [e] at hr0; cases hr0), fun i hi => ?_⟩
    by_cases c : i < m
    · refine wpOpIn_of_still hnd hC (fun a' w' hC' h' => any_of_T hnd hw hH hH1 hH2 hmo hT f _ a' w' (by simp [hs]) (fun j hj hjs => ?_) hC' h') (h2 i c hi)
      rw [getD_set_ne true (by omega)]
      exact hu j hj hjs
    · have h3 := waits_spec hw (by omega : m ≤ i) hi i0 hi0
      rw [(mem_ready.1 hr0).1] at h3
      cases h3

/-- All questions to the kernel. -/
def regionOk (ops : Array Oper) (m : Nat) : Bool :=
  decide (m ≤ ops.size) && Region.noSelect ops && noDefer ops && headOk .any ops m 0 (Array.replicate ops.size false) && waitsAll .any ops m && restOk .any ops (ops.size - m) m (Array.replicate m true ++ Array.replicate (ops.size - m) false)

theorem region_quiet {id : Nat} {Q : Exit → Act → World → Prop} {a : Act} {w : World} {l : List Oper} (m : Nat) (hm : P.follows .mixedOrders = true) (hB : regionOk l.toArray m = true)
    (h : wpQuietIn F n P l.toArray (fun w' => ∃ k, w' = w.drewN k) (fun a' => ∀ w', (∃ k, w' = w.drewN k) → wpListIn F n P l.toArray Q (l.drop m) a' w') (l.take m) a) : (Code.region id l.toArray true).wpIn F n P Q a w := by
  simp only [regionOk, Bool.and_eq_true, decide_eq_true_eq, List.size_toArray] at hB
  obtain ⟨⟨⟨⟨⟨h1, h2⟩, h3⟩, h4⟩, h5⟩, h6⟩ := hB
  have hlen : (l.take m).length = m := by rw [List.length_take]; omega
  have hdl : (l.drop m).length = l.length - m := List.length_drop
  refine wpIn_region_any hm ?_
  have key := anyT_lex (F := F) (n := n) (P := P) (ops := l.toArray) (md := .any) (C := fun w' => ∃ k, w' = w.drewN k) (m := m) (T := fun a' => ∀ w', (∃ k, w' = w.drewN k) → wpListIn F n P l.toArray Q (l.drop m) a' w') h2 (l.take m) 0 (Array.replicate l.length false) a
    (by omega) (fun j hj => by simp [List.getElem?_take]; omega) (fun i hi => by omega) (by rw [hlen]; exact h4) h
  rw [hlen] at key
  have fin := any_of_T (Q := Q) (g := l.length - m) h3 h5 (H := Array.replicate m true ++ Array.replicate (l.length - m) false) (by simp; omega)
    (fun i hi => by simp [Array.getElem?_append, hi]) (fun i hi hi2 => by
      simp at hi2
      have : ¬ i < m := by omega
      simp [Array.getElem?_append, this]
      have : i - m < l.length - m := by omega
      simp [this]) (by simp; omega)
    (fun a w' hC hT => by
      have := any_of_rest (md := .any) (Q := Q) (l.drop m) m (Array.replicate m true ++ Array.replicate (l.length - m) false) a w' (fun j hj => by simp [List.getElem?_drop]) (by rw [hdl]; exact h6) (hT w' hC)
      rw [hdl] at this
      exact this) m (Array.replicate l.length false) a { w with drawn := w.drawn + 1 } (by simp) (fun i _ hi => by simp at hi; simp [hi]) ⟨1, rfl⟩ key
  rw [show m + (l.length - m) = l.length by omega] at fin
  simpa using fin
end
end Go.Proofs.Ythbghcebcahlnaa
