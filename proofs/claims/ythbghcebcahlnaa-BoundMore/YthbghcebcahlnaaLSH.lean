/- BoundSound: its run in company. -/
import Derived.Test.YthbghcebcahlnaaLSG
namespace Go.Proofs.Ythbghcebcahlnaa
open Go Go.Conc Go.RowKit Go.Shelf

/-- What lies there is what lay in W. -/
abbrev keepJunk (W : World) : Inhabited Junk := ⟨⟨fun r o => o = W.heap[r]?⟩⟩
/-- What is not known, hidden by a dead view. -/
def cleanO (t : TypeId) (o : Obj) : Obj := if hides o = true then .view ⟨0, 0, some 0⟩ t else o
def clean (t : TypeId) (W : World) : World := { W with heap := W.heap.map (cleanO t), os := { W.os with env := #[] } }
theorem clean_at (t : TypeId) (W : World) (r : Nat) : (clean t W).heap[r]? = (W.heap[r]?).map (cleanO t) := by simp [clean]
theorem clean_size (t : TypeId) (W : World) : (clean t W).heap.size = W.heap.size := by simp [clean]
theorem clean_cell {t : TypeId} {W : World} {p : Addr} {x : Value} (h : W.cell? p = some x) : (clean t W).cell? p = some x := by
  unfold World.cell? at h ⊢
  rw [clean_at]
  cases hh : W.heap[p.block]? with
  | none => rw [hh] at h; cases h
  | some o =>
    rw [hh] at h
    cases o with
    | cells c e f => exact h
    | _ => cases h
theorem clean_ok (P : Program) (t : TypeId) (o : Obj) : okObj P (cleanO t o) := by
  cases o with
  | deferred d => exact (rfl : (some 0 : Option Nat).isSome = true)
  | loop l => exact (rfl : (some 0 : Option Nat).isSome = true)
  | view a t => exact (rfl : (some 0 : Option Nat).isSome = true)
  | pending => exact (rfl : (some 0 : Option Nat).isSome = true)
  | _ => trivial
theorem clean_kind (P : Program) (t : TypeId) (W : World) (r : Nat) (o : Obj) (h : (clean t W).heap[r]? = some o) : okObj P o := by
  rw [clean_at] at h
  obtain ⟨x, _, rfl⟩ := Option.map_eq_some_iff.1 h
  exact clean_ok P t x
theorem clean_sib (t : TypeId) (W : World) : @Sib (keepJunk W) Try.prog (fun _ => False) (clean t W) W := by
  letI : Inhabited Junk := keepJunk W
  refine ⟨(clean_size t W).symm, fun r _ => ?_, fun r hr => hr.elim, fun r o h => clean_kind _ t W r o h, rfl⟩
  rw [clean_at]
  cases h : W.heap[r]? with
  | none => exact .inl rfl
  | some o =>
    by_cases c : hides o = true
    · refine .inr ⟨h.symm, ⟨0, 0, some 0⟩, t, o, rfl, ?_, rfl, c⟩
      show some (cleanO t o) = _
      unfold cleanO
      rw [if_pos c]
    · refine .inl ?_
      show _ = some (cleanO t o)
      unfold cleanO
      rw [if_neg c]
theorem clean_bytes {t : TypeId} {W : World} {a : Option Addr} {g o : Nat} {L : List Int} (h : Bytes W a g o L) : Bytes (clean t W) a g o L :=
  ⟨fun hl => ⟨(h.at_ hl).1, (clean_size t W).symm ▸ (h.at_ hl).2⟩, fun i c hi => clean_cell (h.cell i c hi)⟩
theorem clean_dirs {t : TypeId} {W : World} {a : Option Addr} {g o : Nat} {L : List (Int × Int)} (h : Dirs W a g o L) : Dirs (clean t W) a g o L :=
  ⟨fun hl => ⟨(h.at_ hl).1, (clean_size t W).symm ▸ (h.at_ hl).2⟩, fun i c hi => ⟨clean_cell (h.cell i c hi).1, clean_cell (h.cell i c hi).2⟩⟩

/-- True, and all that lay there lies there, or a dead view does. -/
def PostT (t : TypeId) (W : World) (v : Value) (w' : World) : Prop := v = .bool true ∧ w'.os = W.os ∧ w'.output = W.output ∧ w'.tape = W.tape ∧ ∀ k, k < W.heap.size → w'.heap[k]? = W.heap[k]? ∨ w'.heap[k]? = some (.view ⟨0, 0, some 0⟩ t)
theorem kept_of {t : TypeId} {W w v : World} {V : Nat → Prop} (hs : @Sib (keepJunk W) Try.prog V w v) {k : Nat} (hV : ¬ V k) (hw : w.heap[k]? = (clean t W).heap[k]?) : v.heap[k]? = W.heap[k]? ∨ v.heap[k]? = some (.view ⟨0, 0, some 0⟩ t) := by
  letI : Inhabited Junk := keepJunk W
  rcases hs.like k hV with e | ⟨hj, _⟩
  · rw [e, hw, clean_at]
    cases h : W.heap[k]? with
    | none => exact .inl rfl
    | some o =>
      by_cases c : hides o = true
      · refine .inr ?_
        show some (cleanO t o) = _
        unfold cleanO
        rw [if_pos c]
      · refine .inl ?_
        show some (cleanO t o) = _
        unfold cleanO
        rw [if_neg c]
  · exact .inl hj
/-- One machine ends in one way: what two looks say of it holds at once. -/
theorem run_both {P : Program} {m : Machine} {A B : Value → World → Prop}
    (h1 : ∃ M last o w' t', runNT P (M + 1) m #[] = (.ended o w', t') ∧ runN P M m = .next last ∧ step P last = .ended o w' ∧ Go.Conc.Good P A last o w' t')
    (h2 : ∃ M last o w' t', runNT P (M + 1) m #[] = (.ended o w', t') ∧ runN P M m = .next last ∧ step P last = .ended o w' ∧ Go.Conc.Good P B last o w' t') :
    ∃ M last o w' t', runNT P (M + 1) m #[] = (.ended o w', t') ∧ runN P M m = .next last ∧ step P last = .ended o w' ∧ Go.Conc.Good P (fun v w => A v w ∧ B v w) last o w' t' := by
  obtain ⟨M, last, o, w', t', a1, a2, a3, a4⟩ := h1
  obtain ⟨M2, last2, o2, w2, t2, b1, b2, b3, b4⟩ := h2
  have late : ∀ (K j : Nat) (l x : Machine) (o : Outcome) (w : World), runN P K m = .next l → step P l = .ended o w → runN P (K + (j + 1)) m = .next x → False := by
    intro K j l x o w e1 e2 e3
    rw [runN_add, e1] at e3
    have e4 : runN P (j + 1) l = .ended o w := by
      unfold runN
      rw [e2]
    have e5 : runN P (j + 1) l = .next x := e3
    rw [e4] at e5
    cases e5
  have hM : M = M2 := by
    rcases Nat.lt_trichotomy M M2 with h | h | h
    · exact (late M (M2 - M - 1) last last2 o w' a2 a3 (by rw [show M + (M2 - M - 1 + 1) = M2 by omega]; exact b2)).elim
    · exact h
    · exact (late M2 (M - M2 - 1) last2 last o2 w2 b2 b3 (by rw [show M2 + (M - M2 - 1 + 1) = M by omega]; exact a2)).elim
  subst hM
  rw [a2] at b2
  rw [a1] at b1
  injection b2 with e1
  injection b1 with e2 e3
  injection e2 with e4 e5
  subst e1 e3 e4 e5
  obtain ⟨v, rfl, c1, c2⟩ := a4
  obtain ⟨v2, d0, d1, d2⟩ := b4
  injection d0 with d0
  subst d0
  exact ⟨M, last, _, w', t', a1, a2, a3, v, rfl, ⟨c1, d1⟩, c2⟩
theorem both_kept {W w' : World} {v : Value} (h0 : PostT 0 W v w') (h1 : PostT 1 W v w') : v = .bool true ∧ Below W.heap.size W w' := by
  have key : ∀ k, k < W.heap.size → w'.heap[k]? = W.heap[k]? := by
    intro k hk
    rcases h0.2.2.2.2 k hk with e | e
    · exact e
    · rcases h1.2.2.2.2 k hk with e' | e'
      · exact e'
      · rw [e] at e'
        simp at e'
  refine ⟨h0.1, h0.2.1, h0.2.2.2.1, h0.2.2.1, ?_, key⟩
  refine Nat.le_of_not_lt fun hc => ?_
  have e := key _ hc
  rw [Array.getElem?_eq_none (Nat.le_refl _)] at e
  rw [Array.getElem?_eq_getElem hc] at e
  cases e
end Go.Proofs.Ythbghcebcahlnaa
