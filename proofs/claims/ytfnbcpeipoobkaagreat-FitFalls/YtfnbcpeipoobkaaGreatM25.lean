/- Bytes as small whole numbers: the statement's own list. A region that draws its order: first operations that leave the world as it is (calls among them), in whatever order; then, when all of these have come, the rest one behind the other. One walk in the order of the text serves every order; in a round too. Each cell's line: its number; package ray's own iterator. A struct of three cells as a result. -/
import Derived.Test.YtfnbcpeipoobkaaGreatM24
import Derived.BigRegion
import Derived.Sort.BigQuietIn
import Derived.RangeFuncNested
import Derived.RangeFuncBound
import Derived.RangeFuncCalls
import Derived.RangeFuncLeaves
import Derived.Shelf.Abstract
import Derived.Shelf.RegionOpen
import Derived.OwnWalkIn
import Derived.TacticsInMore
import Derived.LoopNIn
import Derived.LoopIn
import Derived.Test.YtfnbcpeipoobkaaGreatM21
namespace Go.Proofs.YtfnbcpeipoobkaaGreat
open Go.RowKit Fl

attribute [local go_sem] store_complex

/-- A slice of bytes in memory. -/
structure Bytes (w : World) (a : Option Addr) (g o : Nat) (L : List Int) : Prop where
  at_ : 0 < L.length → a = some ⟨g, o, none⟩ ∧ g < w.heap.size
  cell : ∀ i c, L[i]? = some c → w.cell? ⟨g, o + i, none⟩ = some (.int .u8 c)

theorem bytes_below {w w' : World} {a : Option Addr} {g o : Nat} {L : List Int} (h : Bytes w a g o L) (hb : Below w.heap.size w w') : Bytes w' a g o L := by
  refine ⟨fun hl => ⟨(h.at_ hl).1, Nat.lt_of_lt_of_le (h.at_ hl).2 hb.size⟩, fun i c hi => ?_⟩
  have hl : 0 < L.length := by
    have := (List.getElem?_eq_some_iff.1 hi).1
    omega
  exact (hb.cell (h.at_ hl).2).trans (h.cell i c hi)

/-- The numbers that a list of bytes makes, and their bits. -/
def smallZ (L : List Int) (i : Nat) : Int × Int := if 2 * i + 1 < L.length then (IntKind.i8.wrap (L.getD (2 * i) 0), IntKind.i8.wrap (L.getD (2 * i + 1) 0)) else (0, 0)
def smallB (L : List Int) (i : Nat) : Nat × Nat := (floatOfInt .f64 (smallZ L i).1, floatOfInt .f64 (smallZ L i).2)
/-- So far. -/
def smallTo (L : List Int) (k i : Nat) : Nat × Nat := if i < k then smallB L i else (0, 0)

theorem wrap8_le (x : Int) : (IntKind.i8.wrap x).natAbs ≤ 128 := by
  have e : IntKind.i8.wrap x = if x % 256 ≥ 128 then x % 256 - 256 else x % 256 := by simp [IntKind.wrap, IntKind.bits, IntKind.signed]
  rw [e]
  split <;> omega

theorem float8_all : ((List.range 257).all fun k => decide (floatOfInt .f64 ((k : Int) - 128) < 18446744073709551616)) = true := by decide +kernel
theorem float8_lt {z : Int} (h : z.natAbs ≤ 128) : floatOfInt .f64 z < 18446744073709551616 := by
  have h1 := List.all_eq_true.1 float8_all (z + 128).toNat (List.mem_range.2 (by omega))
  have h2 := of_decide_eq_true h1
  rw [show (((z + 128).toNat : Nat) : Int) - 128 = z by omega] at h2
  exact h2

theorem smallZ_le (L : List Int) (i : Nat) : (smallZ L i).1.natAbs ≤ 128 ∧ (smallZ L i).2.natAbs ≤ 128 := by
  unfold smallZ
  split
  · exact ⟨wrap8_le _, wrap8_le _⟩
  · exact ⟨by decide, by decide⟩

theorem float_zero {z : Int} (h : z = 0) : floatOfInt .f64 z = 0 := by subst h; rfl

theorem small_cell (L : List Int) (i : Nat) : Cell (smallB L i) (smallZ L i) 128 := by
  obtain ⟨h1, h2⟩ := smallZ_le L i
  exact ⟨⟨iv_ofInt _ (by omega), iv_ofInt _ (by omega)⟩, float8_lt h1, float8_lt h2, float_zero, float_zero, h1, h2⟩

theorem smallB_out {L : List Int} {i : Nat} (h : ¬ 2 * i + 1 < L.length) : smallB L i = (0, 0) := by
  unfold smallB smallZ
  rw [if_neg h]
  rfl

theorem smallTo_step (L : List Int) (k i : Nat) : upd (smallTo L k) k (smallB L k) i = smallTo L (k + 1) i := by
  unfold upd smallTo
  by_cases c : i = k
  · subst c
    rw [if_pos rfl, if_pos (by omega)]
  · rw [if_neg c]
    by_cases d : i < k
    · rw [if_pos d, if_pos (by omega)]
    · rw [if_neg d, if_neg (by omega)]

theorem smallTo_out {L : List Int} {k : Nat} (h : ¬ 2 * k + 1 < L.length) (i : Nat) : smallTo L k i = smallB L i := by
  unfold smallTo
  split
  · rfl
  · rw [smallB_out (by omega)]

end Go.Proofs.YtfnbcpeipoobkaaGreat

namespace Go.Proofs.YtfnbcpeipoobkaaGreat
open Go

section
variable {F : Fence} {n : Nat} {P : Program} {ops : Array Oper} {md : Region.Mode} {C : World → Prop} {m : Nat} {T : Act → Prop}

def noDefer (ops : Array Oper) : Bool := ops.all fun o => match o.op with | .defer _ => false | _ => true
theorem noDefer_at (h : noDefer ops = true) {j : Nat} {o : Oper} (ho : ops[j]? = some o) : ∀ c, o.op ≠ .defer c := by
  intro c e
  have := Array.all_eq_true_iff_forall_mem.1 h o (Array.mem_of_getElem? ho)
  simp [e] at this

/-- The first m: in whatever order, each leaving a world of the class. -/
def AnyT (F : Fence) (n : Nat) (P : Program) (md : Region.Mode) (ops : Array Oper) (C : World → Prop) (m : Nat) (T : Act → Prop) : Nat → Array Bool → Act → Prop
  | 0, listed, a => (∀ i, i < m → listed.getD i true = true) ∧ T a
  | f + 1, listed, a => (∃ i, i < m ∧ i ∈ Region.ready md ops listed) ∧ ∀ i, i < m → i ∈ Region.ready md ops listed → qOpIn F n P ops C i (AnyT F n P md ops C m T f (listed.setIfInBounds i true)) a

theorem anyT_first {i : Nat} {oi : Oper} {v : Value} (hi : ops[i]? = some oi) (him : i < m) (hsel : ∀ (j : Nat) (o : Oper) cs b, ops[j]? = some o → o.op ≠ .select cs b) :
    ∀ (f : Nat) (listed : Array Bool) (a : Act),
      (∀ j oj, ops[j]? = some oj → j ≠ i → listed.getD j true = false → (∀ e ∈ oj.after, Region.binds md e = true → e.on ≠ i) → oi.apart ops oj = true) →
      i ∈ Region.ready md ops listed → YieldsQuiet F n P ops C oi v a →
      AnyT F n P md ops C m T f (listed.setIfInBounds i true) (a.put oi.dst v) → AnyT F n P md ops C m T (f + 1) listed a := by
  intro f
  induction f with
  | zero =>
    intro listed a _ hr hy H
    refine ⟨⟨i, him, hr⟩, fun j hjm hj => ?_⟩
    by_cases e : j = i
    · subst e
      exact hy.qOpIn hi H
    · have h1 := H.1 j hjm
      rw [getD_set_ne true (Ne.symm e), (mem_ready.1 hj).1] at h1
      cases h1
  | succ f ih =>
    intro listed a hfree hr hy H
    refine ⟨⟨i, him, hr⟩, fun j hjm hj => ?_⟩
    by_cases e : j = i
    · subst e
      exact hy.qOpIn hi H
    · obtain ⟨hun, oj, hoj, hall⟩ := mem_ready.1 hj
      have hnot : ∀ x ∈ oj.after, Region.binds md x = true → x.on ≠ i := by
        intro x hx hb hxi
        have h1 := hall x hx hb
        have h0 := (mem_ready.1 hr).1
        rw [hxi] at h1
        by_cases hl : i < listed.size
        · simp [hl] at h0 h1
          rw [h0] at h1
          cases h1
        · simp [Array.getElem?_eq_none (Nat.le_of_not_lt hl)] at h1
      have h2 := qOpIn_put hoj (hfree j oj hoj e hun hnot) (fun cs b => hsel i oi cs b hi) (fun cs b => hsel j oj cs b hoj) hy (H.2 j hjm (ready_mono hj e))
      refine qOpIn_mono (fun a' h3 => ih (listed.setIfInBounds j true) a' (fun k ok hk hki hku hno => hfree k ok hk hki ?_ hno) (ready_mono hr (Ne.symm e)) h3.1 ?_) h2
      · by_cases ejk : j = k
        · subst ejk
          exact hun
        · rw [getD_set_ne true ejk] at hku
          exact hku
      · rw [Array.setIfInBounds_comm _ _ e]
        exact h3.2

/-- The kernel's questions: each of the first may come up in its turn and bears to be taken first. -/
def headOk (md : Region.Mode) (ops : Array Oper) : Nat → Nat → Array Bool → Bool
  | 0, _, _ => true
  | f + 1, k, listed => (Region.ready md ops listed).contains k && Region.free md ops listed k && headOk md ops f (k + 1) (listed.setIfInBounds k true)

theorem anyT_lex (hs : Region.noSelect ops = true) : ∀ (l : List Oper) (k : Nat) (listed : Array Bool) (a : Act), k + l.length = m → (∀ j, j < l.length → l[j]? = ops[k + j]?) → (∀ i, i < k → listed.getD i true = true) →
    headOk md ops l.length k listed = true → wpQuietIn F n P ops C T l a → AnyT F n P md ops C m T l.length listed a
  | [], k, listed, a, hk, _, hL, _, h => ⟨fun i hi => hL i (by simp at hk; omega), h⟩
  | o :: l, k, listed, a, hk, hl, hL, hB, h => by
    have h0 : ops[k]? = some o := by
      have := hl 0 (by simp)
      simpa using this.symm
    simp only [List.length_cons, headOk, Bool.and_eq_true] at hB
    obtain ⟨⟨hr, hf⟩, hB'⟩ := hB
    have hst : qOpIn F n P ops C k (wpQuietIn F n P ops C T l) a := by
      unfold qOpIn
      simp only [h0]
      exact h
    obtain ⟨v, hy, hK⟩ := yieldsQuiet_of_qOpIn h0 hst
    refine anyT_first h0 (by simp at hk; omega) (Region.noSelect_spec hs) l.length listed a (Region.free_spec h0 hf) (by simpa using hr) hy ?_
    refine anyT_lex hs l (k + 1) _ _ (by simp at hk; omega) (fun j hj => ?_) (fun i hi => ?_) hB' hK
    · have := hl (j + 1) (by simp; omega)
      simpa [Nat.add_assoc, Nat.add_comm 1 j] using this
    · by_cases e : k = i
      · subst e
        simp [Array.getElem?_setIfInBounds]
        split <;> rfl
      · rw [getD_set_ne true e]
        exact hL i (by omega)

theorem wpIn_of_still {o : Oper} {a : Act} {K : Act → Prop} {K' : Act → World → Prop} {Q' : Exit → Act → World → Prop} {w : World} (hnd : ∀ c, o.op ≠ .defer c) (hw : C w) (h : ∀ a w', C w' → K a → K' a w')
    (ha : o.askedIn F P a C) (hh : o.quietIn F n P a C K) : o.wpIn F n P a w K' Q' := by
  obtain ⟨v, h1, h2⟩ := hh
  have h3 := h1 w hw
  unfold Oper.quietAtIn at h3
  unfold Oper.wpIn
  refine ⟨ha w hw, ?_⟩
  rw [Oper.semAt_eq _ _ _ hnd]
  generalize (execOp a.eval o).run P w = r at h3
  unfold Oper.quietUponIn at h3
  split at h3
  · obtain ⟨rfl, rfl⟩ := h3
    rw [Oper.uponIn_value]
    exact h _ _ hw h2
  · obtain ⟨rfl, rfl⟩ := h3
    rw [Oper.uponIn_skip]
    exact h _ _ hw h2
  · obtain ⟨rfl, hd, hc⟩ := h3
    rw [Oper.uponIn_enter]
    refine ⟨hd, hc.mono ?_⟩
    rintro e w'' ⟨rfl, hC⟩
    exact h _ _ hC h2
  · exact h3.elim

theorem wpOpIn_of_still (hnd : noDefer ops = true) {i : Nat} {a : Act} {K : Act → Prop} {K' : Act → World → Prop} {Q' : Exit → Act → World → Prop} {w : World} (hw : C w) (h : ∀ a w', C w' → K a → K' a w')
    (hh : qOpIn F n P ops C i K a) : wpOpIn F n P ops Q' i K' a w := by
  unfold qOpIn at hh
  unfold wpOpIn
  split
  · rename_i ho
    simp only [ho] at hh
    exact h _ _ hw hh
  · rename_i o ho
    simp only [ho] at hh
    obtain ⟨ha, hh⟩ := hh
    split
    · rename_i hwd
      rw [if_pos hwd] at hh
      exact wpIn_of_still (noDefer_at hnd ho) hw h ha hh
    · rename_i hwd
      rw [if_neg hwd] at hh
      exact ⟨ha w hw, h _ _ hw hh⟩

/-- The rest: each waits for all of the first; then one behind the other. -/
def waitsAll (md : Region.Mode) (ops : Array Oper) (m : Nat) : Bool :=
  (List.range ops.size).all fun t => decide (t < m) || (List.range m).all fun i => match ops[t]? with | some o => o.after.any fun e => Region.binds md e && e.on == i | none => true
def restOk (md : Region.Mode) (ops : Array Oper) : Nat → Nat → Array Bool → Bool
  | 0, _, listed => (Region.ready md ops listed).isEmpty
  | g + 1, k, listed => decide (Region.ready md ops listed = [k]) && restOk md ops g (k + 1) (listed.setIfInBounds k true)

theorem waits_spec (h : waitsAll md ops m = true) {t : Nat} (ht : m ≤ t) {listed : Array Bool} (hr : t ∈ Region.ready md ops listed) (i : Nat) (hi : i < m) : listed.getD i true = true := by
  obtain ⟨_, o, ho, hall⟩ := mem_ready.1 hr
  have hlt : t < ops.size := (Array.getElem?_eq_some_iff.1 ho).1
  unfold waitsAll at h
  have h1 := List.all_eq_true.1 h t (List.mem_range.2 hlt)
  rw [Bool.or_eq_true] at h1
  rcases h1 with h1 | h1
  · have := of_decide_eq_true h1
    omega
  · have h2 := List.all_eq_true.1 h1 i (List.mem_range.2 hi)
    simp only [ho] at h2
    obtain ⟨e, he, hb⟩ := Array.any_eq_true'.1 h2
    rw [Bool.and_eq_true, beq_iff_eq] at hb
    have h3 := hall e he hb.1
    rw [hb.2] at h3
    by_cases hl : i < listed.size
    · simp [hl] at h3 ⊢
      exact h3
    · simp [Array.getElem?_eq_none (Nat.le_of_not_lt hl)] at h3

theorem any_of_rest {Q : Exit → Act → World → Prop} : ∀ (l : List Oper) (k : Nat) (listed : Array Bool) (a : Act) (w : World), (∀ j, j < l.length → l[j]? = ops[k + j]?) →
    restOk md ops l.length k listed = true → wpListIn F n P ops Q l a w → wpAnyIn F n P md ops Q l.length listed a w
  | [], _, _, _, _, _, hB, h => ⟨by simpa [restOk] using hB, h⟩
  | o :: l, k, listed, a, w, hl, hB, h => by
    have h0 : ops[k]? = some o := by
      have := hl 0 (by simp)
      simpa using this.symm
    simp only [List.length_cons, restOk, Bool.and_eq_true, decide_eq_true_eq] at hB
    obtain ⟨hr, hB'⟩ := hB
    refine ⟨fun e => (by rw [hr] at e; cases e), fun i hi => ?_⟩
    rw [hr, List.mem_singleton] at hi
    subst hi
    have ih := fun a w => any_of_rest (Q := Q) l (i + 1) (listed.setIfInBounds i true) a w (fun j hj => by
      have := hl (j + 1) (by simp; omega)
      simpa [Nat.add_assoc, Nat.add_comm 1 j] using this) hB'
    unfold wpOpIn
    simp only [h0]
    unfold wpListIn at h
    split
    · rename_i hw
      rw [if_pos hw] at h
      exact Oper.wpIn_mono ih h
    · rename_i hw
      rw [if_neg hw] at h
      exact ⟨h.1, ih _ _ h.2⟩

theorem any_of_T {Q : Exit → Act → World → Prop} {g : Nat} (hnd : noDefer ops = true) (hw : waitsAll md ops m = true) {H : Array Bool} (hH : H.size = ops.size) (hH1 : ∀ i, i < m → H.getD i true = true) (hH2 : ∀ i, m ≤ i → i < ops.size → H.getD i true = false) (hmo : m ≤ ops.size)
    (hT : ∀ a w, C w → T a → wpAnyIn F n P md ops Q g H a w) :
    ∀ (f : Nat) (listed : Array Bool) (a : Act) (w : World), listed.size = ops.size → (∀ i, m ≤ i → i < ops.size → listed.getD i true = false) → C w → AnyT F n P md ops C m T f listed a → wpAnyIn F n P md ops Q (f + g) listed a w
  | 0, listed, a, w, hs, hu, hC, h => by
    have e : listed = H := by
      refine Array.ext (by rw [hs, hH]) fun i h1 h2 => ?_
      by_cases c : i < m
      · have a1 := h.1 i c
        have a2 := hH1 i c
        simp [h1] at a1
        simp [h2] at a2
        rw [a1, a2]
      · have a1 := hu i (by omega) (by omega)
        have a2 := hH2 i (by omega) (by omega)
        simp [h1] at a1
        simp [h2] at a2
        rw [a1, a2]
    rw [e, Nat.zero_add]
    exact hT a w hC h.2
  | f + 1, listed, a, w, hs, hu, hC, h => by
    obtain ⟨⟨i0, hi0, hr0⟩, h2⟩ := h
    rw [show f + 1 + g = (f + g) + 1 by omega]
    refine ⟨fun e => (by rw [e] at hr0; cases hr0), fun i hi => ?_⟩
    by_cases c : i < m
    · refine wpOpIn_of_still hnd hC (fun a' w' hC' h' => any_of_T hnd hw hH hH1 hH2 hmo hT f _ a' w' (by simp [hs]) (fun j hj hjs => ?_) hC' h') (h2 i c hi)
      rw [getD_set_ne true (by omega)]
      exact hu j hj hjs
    · have h3 := waits_spec hw (by omega : m ≤ i) hi i0 hi0
      rw [(mem_ready.1 hr0).1] at h3
      cases h3

/-- All questions to the kernel. -/
def regionOk (ops : Array Oper) (m : Nat) : Bool :=
  decide (m ≤ ops.size) && Region.noSelect ops && noDefer ops && headOk .any ops m 0 (Array.replicate ops.size false) && waitsAll .any ops m && restOk .any ops (ops.size - m) m (Array.replicate m true ++ Array.replicate (ops.size - m) false)

theorem region_quiet {id : Nat} {Q : Exit → Act → World → Prop} {a : Act} {w : World} {l : List Oper} (m : Nat) (hm : P.follows .mixedOrders = true) (hB : regionOk l.toArray m = true)
    (h : wpQuietIn F n P l.toArray (fun w' => ∃ k, w' = w.drewN k) (fun a' => ∀ w', (∃ k, w' = w.drewN k) → wpListIn F n P l.toArray Q (l.drop m) a' w') (l.take m) a) : (Code.region id l.toArray true).wpIn F n P Q a w := by
  simp only [regionOk, Bool.and_eq_true, decide_eq_true_eq, List.size_toArray] at hB
  obtain ⟨⟨⟨⟨⟨h1, h2⟩, h3⟩, h4⟩, h5⟩, h6⟩ := hB
  have hlen : (l.take m).length = m := by rw [List.length_take]; omega
  have hdl : (l.drop m).length = l.length - m := List.length_drop
  refine wpIn_region_any hm ?_
  have key := anyT_lex (F := F) (n := n) (P := P) (ops := l.toArray) (md := .any) (C := fun w' => ∃ k, w' = w.drewN k) (m := m) (T := fun a' => ∀ w', (∃ k, w' = w.drewN k) → wpListIn F n P l.toArray Q (l.drop m) a' w') h2 (l.take m) 0 (Array.replicate l.length false) a
    (by omega) (fun j hj => by simp [List.getElem?_take]; omega) (fun i hi => by omega) (by rw [hlen]; exact h4) h
  rw [hlen] at key
  have fin := any_of_T (Q := Q) (g := l.length - m) h3 h5 (H := Array.replicate m true ++ Array.replicate (l.length - m) false) (by simp; omega)
    (fun i hi => by simp [Array.getElem?_append, hi]) (fun i hi hi2 => by
      simp at hi2
      have : ¬ i < m := by omega
      simp [Array.getElem?_append, this]
      have : i - m < l.length - m := by omega
      simp [this]) (by simp; omega)
    (fun a w' hC hT => by
      have := any_of_rest (md := .any) (Q := Q) (l.drop m) m (Array.replicate m true ++ Array.replicate (l.length - m) false) a w' (fun j hj => by simp [List.getElem?_drop]) (by rw [hdl]; exact h6) (hT w' hC)
      rw [hdl] at this
      exact this) m (Array.replicate l.length false) a { w with drawn := w.drawn + 1 } (by simp) (fun i _ hi => by simp at hi; simp [hi]) ⟨1, rfl⟩ key
  rw [show m + (l.length - m) = l.length by omega] at fin
  simpa using fin
end
end Go.Proofs.YtfnbcpeipoobkaaGreat

namespace Go.Proofs.YtfnbcpeipoobkaaGreat
open Go.RowKit Go.Shelf
attribute [local go_sem] Oper.semAt_some

theorem mixed : (barP Tryz.prog).follows .mixedOrders = true := by kernel_rfl
theorem below_drewN (B : Nat) (W : World) (k : Nat) : Below B W (W.drewN k) := ⟨rfl, rfl, rfl, Nat.le_refl _, fun _ _ => rfl⟩

/-- The number of the line of cell k. -/
def ixS (n : Nat) (a : Int × Int) (k : Nat) : Int := a.2 * ((k % n : Nat) : Int) - a.1 * ((k / n : Nat) : Int) + startS n a
def ixN (n : Nat) (a : Int × Int) (k : Nat) : Nat := (ixS n a k).toNat

theorem ix_bounds {n : Nat} {a : Int × Int} (hn : 1 ≤ n) (h64 : n ≤ 64) (ho : okD a.1 a.2 = true) {k : Nat} (hk : k < n * n) :
    0 ≤ ixS n a k ∧ ixS n a k < (binsS n a).1 := by
  obtain ⟨b1, b2, b3⟩ := okD_bounds ho
  have hb : binsS n a = (((n : Int) - 1) * (a.1.natAbs + a.2) + 1, 0) := by
    unfold binsS
    rw [if_neg (by omega), if_pos ho]
  rw [hb]
  have g1 : k % n < n := Nat.mod_lt _ (by omega)
  have g2 : k / n < n := (Nat.div_lt_iff_lt_mul (by omega)).2 hk
  unfold ixS startS
  obtain ⟨P, Q⟩ := a
  generalize k % n = x at *
  generalize k / n = y at *
  dsimp only at *
  have q1 : 0 ≤ Q * (x : Int) := Int.mul_nonneg b2 (by omega)
  have q2 : Q * (x : Int) ≤ Q * ((n : Int) - 1) := Int.mul_le_mul_of_nonneg_left (by omega) b2
  by_cases hP : P < 0
  · rw [if_pos hP]
    have q3 : 0 ≤ (-P) * (y : Int) := Int.mul_nonneg (by omega) (by omega)
    have q4 : (-P) * (y : Int) ≤ (-P) * ((n : Int) - 1) := Int.mul_le_mul_of_nonneg_left (by omega) (by omega)
    have e : ((P.natAbs : Nat) : Int) = -P := by omega
    rw [e, Int.mul_add, Int.mul_comm ((n : Int) - 1) (-P), Int.mul_comm ((n : Int) - 1) Q]
    rw [Int.neg_mul] at q3 q4
    omega
  · rw [if_neg hP]
    have q3 : 0 ≤ P * (y : Int) := Int.mul_nonneg (by omega) (by omega)
    have q4 : P * (y : Int) ≤ P * ((n : Int) - 1) := Int.mul_le_mul_of_nonneg_left (by omega) (by omega)
    have e : ((P.natAbs : Nat) : Int) = P := by omega
    rw [e, Int.mul_add, Int.mul_comm ((n : Int) - 1) P, Int.mul_comm ((n : Int) - 1) Q]
    omega

theorem bins_le {n : Nat} {a : Int × Int} (hn : 1 ≤ n) (h64 : n ≤ 64) (ho : okD a.1 a.2 = true) : ∃ B : Nat, binsS n a = ((B : Int), 0) ∧ 1 ≤ B ∧ B ≤ 2017 := by
  obtain ⟨b1, b2, b3⟩ := okD_bounds ho
  have hb : binsS n a = (((n : Int) - 1) * (a.1.natAbs + a.2) + 1, 0) := by
    unfold binsS
    rw [if_neg (by omega), if_pos ho]
  have h0 : 0 ≤ ((n : Int) - 1) * (a.1.natAbs + a.2) := Int.mul_nonneg (by omega) (by omega)
  have h1 : ((n : Int) - 1) * (a.1.natAbs + a.2) ≤ 63 * 32 := Int.mul_le_mul (by omega) (by omega) (by omega) (by decide)
  refine ⟨(((n : Int) - 1) * (a.1.natAbs + a.2) + 1).toNat, ?_, by omega, by omega⟩
  rw [hb, Int.toNat_of_nonneg (by omega)]

theorem index00 {n : Nat} {a : Int × Int} (hn : 1 ≤ n) (h64 : n ≤ 64) (ho : okD a.1 a.2 = true) : indexS n a 0 0 = (startS n a, 0) := by
  unfold indexS
  obtain ⟨B, hB, _⟩ := bins_le hn h64 ho
  rw [hB, if_neg (fun h => h rfl), if_neg (by omega), Int.mul_zero, Int.mul_zero]
  simp

/-- What a line's number comes to, step by step, without going round. -/
structure Steps (n k x y : Nat) (P Q st X A Y I : Int) : Prop where
  e0 : (k : Int).tmod (n : Int) = (x : Int)
  e0' : (k : Int) % (n : Int) = (x : Int)
  w0 : IntKind.i64.wrap (x : Int) = x
  f0 : (k : Int) / (n : Int) = (y : Int)
  g0 : IntKind.i64.wrap (y : Int) = y
  e1 : Q * (x : Int) = X
  w1 : IntKind.i64.wrap X = X
  e2 : st + X = A
  w2 : IntKind.i64.wrap A = A
  e3 : P * (y : Int) = Y
  w3 : IntKind.i64.wrap Y = Y
  e4 : A - Y = I
  w4 : IntKind.i64.wrap I = I

theorem small16 {p : Int} {x : Nat} (hp : p.natAbs ≤ 16) (hx : x < 64) : (p * (x : Int)).natAbs ≤ 1024 := by
  rw [Int.natAbs_mul]
  have := Nat.mul_le_mul hp (show (x : Int).natAbs ≤ 64 by omega)
  omega

theorem start_le {n : Nat} {a : Int × Int} (hn : 1 ≤ n) (h64 : n ≤ 64) (ho : okD a.1 a.2 = true) : (startS n a).natAbs ≤ 1024 := by
  have h := ix_bounds hn h64 ho (k := 0) (Nat.mul_pos hn hn)
  obtain ⟨B, hB, _, hB2⟩ := bins_le hn h64 ho
  obtain ⟨b1, b2, b3⟩ := okD_bounds ho
  have e : ((n - 1 : Nat) : Int) = (n : Int) - 1 := by omega
  have := small16 (p := a.1) (x := n - 1) b1 (by omega)
  rw [e] at this
  unfold startS
  split
  · omega
  · omega

theorem steps {n k : Nat} {a : Int × Int} (hn : 1 ≤ n) (h64 : n ≤ 64) (ho : okD a.1 a.2 = true) (hk : k < n * n) :
    ∃ x y X A Y, Steps n k x y a.1 a.2 (startS n a) X A Y (ixS n a k) := by
  obtain ⟨b1, b2, b3⟩ := okD_bounds ho
  have g1 : k % n < n := Nat.mod_lt _ (by omega)
  have g2 : k / n < n := (Nat.div_lt_iff_lt_mul (by omega)).2 hk
  have i1 := ix_bounds hn h64 ho hk
  have st := start_le hn h64 ho
  obtain ⟨B, hB, _, hB2⟩ := bins_le hn h64 ho
  rw [hB] at i1
  dsimp only at i1
  have s1 := small16 (p := a.2) (x := k % n) (by omega) (by omega)
  have s2 := small16 (p := a.1) (x := k / n) b1 (by omega)
  have hi : startS n a + a.2 * ((k % n : Nat) : Int) - a.1 * ((k / n : Nat) : Int) = ixS n a k := by
    unfold ixS
    omega
  have em : (k : Int) % (n : Int) = ((k % n : Nat) : Int) := (Int.natCast_emod k n).symm
  have ed : (k : Int) / (n : Int) = ((k / n : Nat) : Int) := (Int.natCast_ediv k n).symm
  have et : (k : Int).tmod (n : Int) = ((k % n : Nat) : Int) := by rw [Int.tmod_eq_emod_of_nonneg (by omega), em]
  generalize ixS n a k = I at *
  generalize startS n a = s at *
  generalize k % n = x at *
  generalize k / n = y at *
  refine ⟨x, y, _, _, _, ⟨et, em, ?_, ed, ?_, rfl, ?_, rfl, ?_, rfl, ?_, hi, ?_⟩⟩
  all_goals rw [IntKind.wrap_i64]
  all_goals omega

abbrev CellNo (n : Nat) := { k : Nat // k < n * n }
abbrev encC (n : Nat) (a : Int × Int) (x : CellNo n) : Array Value := #[.int .i64 (x.1 : Int), .int .i64 (ixS n a x.1)]

theorem pre_len {n k : Nat} {pre : List (CellNo n)} (h : pre.map (·.1) = List.range k) : pre.length = k := by
  have := congrArg List.length h
  simpa using this

theorem pre_snoc {n k : Nat} {pre : List (CellNo n)} (h : pre.map (·.1) = List.range k) (hk : k < n * n) : (pre ++ [(⟨k, hk⟩ : CellNo n)]).map (·.1) = List.range (k + 1) := by
  rw [List.map_append, h, List.range_succ]
  rfl

/-- What the iterator wants kept: the two boxes that it reads. -/
structure Keep2 (Bn Bd : Nat) (W W' : World) : Prop where
  one : W'.heap[Bn]? = W.heap[Bn]?
  two : W'.heap[Bd]? = W.heap[Bd]?
theorem keep2_t {Bn Bd : Nat} {A B C : World} (h : Keep2 Bn Bd A B) (k : Keep2 Bn Bd B C) : Keep2 Bn Bd A C := ⟨k.one.trans h.one, k.two.trans h.two⟩
theorem keep2_b {Bn Bd : Nat} {w : World} (h1 : Bn < w.heap.size) (h2 : Bd < w.heap.size) (W : World) (l : Nat) (o o' : Obj) (hl : w.heap.size ≤ l) (_ : W.heap[l]? = some o) (_ : o.isCells = false) (_ : o.isWalk = false) : Keep2 Bn Bd W (W.putObj l o') :=
  ⟨World.putObj_heap_other (by omega), World.putObj_heap_other (by omega)⟩
theorem keep2_below {Bn Bd n₀ : Nat} {W W' : World} (h : Below n₀ W W') (h1 : Bn < n₀) (h2 : Bd < n₀) : Keep2 Bn Bd W W' := ⟨h.block _ h1, h.block _ h2⟩
theorem keep2_set {Bn Bd : Nat} (W : World) (p : Addr) (u : Value) (h1 : Bn ≠ p.block) (h2 : Bd ≠ p.block) : Keep2 Bn Bd W (W.setCell p u) := ⟨Below.heap_setCell _ _ _ _ h1, Below.heap_setCell _ _ _ _ h2⟩
theorem keep2_drew {Bn Bd : Nat} {W W' : World} (h : Keep2 Bn Bd W W') : Keep2 Bn Bd W W'.drew := ⟨h.one, h.two⟩
theorem Keep2.cell1 {Bn Bd : Nat} {W W' : World} (h : Keep2 Bn Bd W W') (i : Nat) : W'.cell? ⟨Bn, i, none⟩ = W.cell? ⟨Bn, i, none⟩ := World.cell?_of_block h.one
theorem Keep2.cell2 {Bn Bd : Nat} {W W' : World} (h : Keep2 Bn Bd W W') (i : Nat) : W'.cell? ⟨Bd, i, none⟩ = W.cell? ⟨Bd, i, none⟩ := World.cell?_of_block h.two

set_option maxRecDepth 100000 in
set_option maxHeartbeats 2000000 in
/-- Package ray's own iterator: each cell's number and its line's. -/
theorem lines_stops {n : Nat} {a : Int × Int} (hn : 1 ≤ n) (h64 : n ≤ 64) (ha : Dir64 a) (ho : okD a.1 a.2 = true) (m : Nat) (hm : 1 ≤ m) (Bn Bd : Nat) (w : World) (hBn : Bn < w.heap.size) (hBd : Bd < w.heap.size)
    (c1 : w.cell? ⟨Bn, 0, none⟩ = some (.int .i64 n)) (c2 : w.cell? ⟨Bd, 0, none⟩ = some (.int .i64 a.1)) (c3 : w.cell? ⟨Bd, 1, none⟩ = some (.int .i64 a.2)) :
    SeqStopsK Fence.wide m (barP Tryz.prog) 83 #[.pointer (some ⟨Bn, 0, none⟩), .pointer (some ⟨Bd, 0, none⟩)] (encC n a) (Keep2 Bn Bd) (fun xs => xs.map (·.1) = List.range (n * n)) (fun _ => True) (n * n) w := fun l J Jx W hW hJ hJx hY h0 => by
  have kI := hide fun w => dirIndex (n := n) (x := 0) (y := 0) ha w
  rw [index00 hn h64 ho] at kI
  obtain ⟨P, Q⟩ := a
  unfold dirV at kI
  dsimp only at *
  have hS := hide (fun k (hk : k < n * n) => steps (k := k) (a := (P, Q)) hn h64 ho hk)
  generalize startS n (P, Q) = st at kI hS
  have C1 := hide ((hW.cell (p := ⟨Bn, 0, none⟩) (by show Bn < _; omega)).trans c1)
  have C2 := hide ((hW.cell (p := ⟨Bd, 0, none⟩) (by show Bd < _; omega)).trans c2)
  have C3 := hide ((hW.cell (p := ⟨Bd, 1, none⟩) (by show Bd < _; omega)).trans c3)
  have hsz := hW.size
  clear c1 c2 c3 hW ho ha
  have d1 := unhide C1
  have d2 := unhide C2
  have d3 := unhide C3
  have hJ := hide hJ
  have hY := hide hY
  have hsq := square_le h64
  obtain ⟨M, hM⟩ : ∃ M, n * n = M := ⟨_, rfl⟩
  have q5 : (n : Int) * (n : Int) = (M : Int) := by rw [← hM, Int.natCast_mul]
  rw [hM] at hsq
  have q6 : IntKind.i64.wrap (M : Int) = M := by rw [IntKind.wrap_i64]; omega
  have hM := hide hM
  have hn0 : ¬ (n : Int) = 0 := by omega
  have hn0' : ¬ n = 0 := by omega
  refine callsIn_of_wp Bar.func83 rfl trivial ?_ rfl
  simp only [Bar.ntmps83, List.size_toArray, List.length_cons, List.length_nil, Nat.reduceAdd, Nat.reduceSub, Array.replicate_succ, Array.replicate_zero, List.push_toArray, List.append_toArray, List.nil_append, List.cons_append]
  gi_wp2_with (refine ⟨trivial, ?_⟩; gi_at_call 64; refine (callsIn_wide.2 (unhide kI _)).mono ?_; rintro e W1 ⟨rfl, hb1⟩; have e1 := (hb1.cell (p := ⟨Bn, 0, none⟩) (by show Bn < _; omega)).trans d1)
  have hb1 := hide hb1
  have hJ1 := hide ((unhide hJ) [] W W1 none h0 (below_grown (unhide hb1)) (fun r e => by cases e))
  clear e1 d1 d2 d3 kI h0
  gi_loopw [18] (fun kv wr => ∃ (k : Nat) (pre : List (CellNo n)), k ≤ M ∧ kv = .int .i64 k ∧ Hid (pre.map (·.1) = List.range k) ∧ Hid (J pre wr) ∧ Hid (Keep2 Bn Bd W wr)) (fun kv _ => M - (intOf kv).toNat)
  case atStart => exact ⟨0, [], Nat.zero_le _, rfl, rfl, hJ1, keep2_below (unhide hb1) (by omega) (by omega)⟩
  case round =>
    obtain ⟨k, pre, hk, rfl, hp, hJr, hBr⟩ := hrel
    by_cases hkM : k < M
    · have q1 : ((k : Int) < (M : Int)) = True := by simp; omega
      have hkn : k < n * n := by rw [unhide hM]; exact hkM
      obtain ⟨x, y, X, A, Y, s⟩ := unhide hS k hkn
      obtain ⟨e0, e0', w0, f0, g0, e1, w1, e2, w2, e3, w3, e4, w4⟩ := s
      have d1 := ((unhide hBr).cell1 0).trans (unhide C1)
      have hfn : ∀ f, Fence.wide.fn f = True := fun _ => rfl
      have hpn := hide (pre_snoc (unhide hp) hkn)
      gi_wp2_with fail
      refine region_quiet 8 mixed (by kernel_rfl) ?_
      simp only [List.take_succ_cons, List.take_zero, List.drop_succ_cons, List.drop_zero]
      repeat (gi_big_quiet_step (fail))
      refine wpQuietIn_nil ?_
      intro _ hw'
      obtain ⟨nq, rfl⟩ := hw'
      clear d1
      have hJq := hide ((unhide hJ) pre wr (wr.drewN nq) none (unhide hJr) (below_grown (below_drewN _ wr nq)) (fun r e => by cases e))
      have hBq : Hid (Keep2 Bn Bd W (wr.drewN nq)) := ⟨(unhide hBr).one, (unhide hBr).two⟩
      clear hJr hBr
      generalize wr.drewN nq = wq at hJq hBq ⊢
      obtain ⟨fn, tmps, assign, body, hyl, hR⟩ := unhide hY pre ⟨k, hkn⟩ wq (unhide hJq) (by rw [pre_len (unhide hp)]; exact hkn)
      dsimp only [encC] at hyl
      have d2 := ((unhide hBq).cell2 0).trans (unhide C2)
      have d3 := ((unhide hBq).cell2 1).trans (unhide C3)
      generalize ixS n (P, Q) k = I at *
      gi_wp2
      refine hR.mono ?_
      rintro e W3 (⟨rfl, hJ3, hk3⟩ | ⟨rfl, hJx3⟩)
      · have hJ3 := hide hJ3
        have hB3 := hide (keep2_t (unhide hBq) hk3)
        gi_wp2
        go_roundw
        case rel => exact ⟨k + 1, _, by omega, by simp, hpn, hJ3, hB3⟩
        case measure => simp [intOf]; omega
      · gi_wp2
        refine bodyPost_ret (results_none rfl _ _ _) rfl ?_
        exact ⟨⟨_, rfl⟩, .inr ⟨_, trivial, hJx3⟩⟩
    · have e : k = M := by omega
      subst e
      have q1 : ((k : Int) < (k : Int)) = False := by simp
      gi_wp2
      go_end0
      exact ⟨⟨_, rfl⟩, .inl ⟨_, (unhide hp).trans (congrArg List.range (unhide hM).symm), unhide hJr⟩⟩
end Go.Proofs.YtfnbcpeipoobkaaGreat

namespace Go.Proofs.YtfnbcpeipoobkaaGreat
open Go.RowKit

section
variable {P : Program}
/-- A struct of three cells, read where it lies. -/
theorem load_three (w : World) (g : Nat) (ty : TypeId) (a b c : Value) (d : TypeDesc) (h0 : w.cell? ⟨g, 0, none⟩ = some a) (h1 : w.cell? ⟨g, 1, none⟩ = some b) (h2 : w.cell? ⟨g, 2, none⟩ = some c)
    (hu : P.underlying ty = some d) (hd : (match d with | .struct _ | .array _ _ => true | _ => false) = true) (hi : (P.info? ty).map (·.size) = some 3) :
    (loadVar ty ⟨g, 0, none⟩).run P w = .ok (.agg #[a, b, c]) w := by
  have hl : (loadCells ⟨g, 0, none⟩ 3).run P w = .ok #[a, b, c] w :=
    run_loadCells_list (P := P) w ⟨g, 0, none⟩ [a, b, c] (fun j v hv => by
      rw [addr_add]
      match j, hv with
      | 0, hv => simp at hv; subst hv; exact h0
      | 1, hv => simp at hv; subst hv; exact h1
      | 2, hv => simp at hv; subst hv; exact h2)
  cases hq : P.info? ty with
  | none => simp [hq] at hi
  | some i =>
    have hs : i.size = 3 := by simpa [hq] using hi
    have hagg : (isAgg ty).run P w = .ok true w := by
      unfold isAgg
      rw [Sem.run_bind, run_underlying hu w]
      cases d <;> simp_all
    simp [loadVar, Sem.run_bind, hagg, sizeOf, typeInfo, hq, hs, hl]

theorem results_three_tmp {fn : Func} {p u : Tmp} {ty : TypeId} (h : fn.results = #[.cell p ty, .tmp u]) (tmps : Array Value) (w : World) (g : Nat) (a b c v : Value) (d : TypeDesc)
    (hp : tmps.getD p undef = .pointer (some ⟨g, 0, none⟩)) (hc : tmps.getD u undef = v) (h0 : w.cell? ⟨g, 0, none⟩ = some a) (h1 : w.cell? ⟨g, 1, none⟩ = some b) (h2 : w.cell? ⟨g, 2, none⟩ = some c)
    (hu : P.underlying ty = some d) (hd : (match d with | .struct _ | .array _ _ => true | _ => false) = true) (hi : (P.info? ty).map (·.size) = some 3) :
    (results fn tmps).run P w = .ok (.tuple #[.agg #[a, b, c], v]) w := by
  have hp' : tmps[p]?.getD undef = .pointer (some ⟨g, 0, none⟩) := by simpa using hp
  have hc' : tmps[u]?.getD undef = v := by simpa using hc
  simp [results, h, hp', hc', asAddr, load_three w g ty a b c d h0 h1 h2 hu hd hi]

theorem results_three {fn : Func} {p : Tmp} {ty : TypeId} (h : fn.results = #[.cell p ty]) (tmps : Array Value) (w : World) (g : Nat) (a b c : Value) (d : TypeDesc)
    (hp : tmps.getD p undef = .pointer (some ⟨g, 0, none⟩)) (h0 : w.cell? ⟨g, 0, none⟩ = some a) (h1 : w.cell? ⟨g, 1, none⟩ = some b) (h2 : w.cell? ⟨g, 2, none⟩ = some c)
    (hu : P.underlying ty = some d) (hd : (match d with | .struct _ | .array _ _ => true | _ => false) = true) (hi : (P.info? ty).map (·.size) = some 3) :
    (results fn tmps).run P w = .ok (.agg #[a, b, c]) w := by
  have hp' : tmps[p]?.getD undef = .pointer (some ⟨g, 0, none⟩) := by simpa using hp
  simp [results, h, hp', asAddr, load_three w g ty a b c d h0 h1 h2 hu hd hi]
end
end Go.Proofs.YtfnbcpeipoobkaaGreat
