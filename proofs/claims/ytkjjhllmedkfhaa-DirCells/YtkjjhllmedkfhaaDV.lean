/- A map of cells to numbers. -/
import Derived.Test.YtkjjhllmedkfhaaDM
import Derived.Test.YtkjjhllmedkfhaaDO
import Derived.MapViews
import Derived.DeepKeys4
import Derived.Maps.OwnSet
namespace Go.Proofs.Ytkjjhllmedkfhaa
open Go.RowKit Go.WideShapes
open Go.Maps (Keyed)

theorem laidC : laidOutB Try.prog = true := by kernel_rfl
theorem rowCell : (46 : TypeId) < Try.prog.types.size := of_decide_eq_true (by kernel_rfl)
theorem cellsCell : Try.prog.cellsOf 46 = 2 := by kernel_rfl
theorem cellsIntC : Try.prog.cellsOf 3 = 1 := by kernel_rfl
theorem deepCell : Try.prog.keyTypeAt (Try.prog.types.size + 1) 46 = true := by kernel_rfl
theorem wideCell : (match Try.prog.underlying 46 with | some (.array _ _) | some (.struct _) => true | _ => false) = true := by rw [Try.underlying46]
theorem lawCell : Keyed Try.prog 46 := Keyed.of_law (deep_law_laid laidC (m := 2) (by omega) rowCell (by kernel_rfl) wideCell)
theorem formedCell {c0 c1 : Value} : (Value.agg #[c0, c1]).formed Try.prog 46 = true := by simp [Value.formed, Try.underlying46, cellsCell]
theorem zeroInt (w : World) : (zeroValue 3).run Try.prog w = .ok (.int .i64 0) w := by kernel_rfl

def keyC (c : Int × Int) : Lit := (DataW.agg [.lit (.int .i64 c.1), .lit (.int .i64 c.2)] : DataW Unit).asKey
theorem i64_wf {x : Int} (h : I64 x) : (Lit.int .i64 x).wf = true := by
  show (decide (-9223372036854775808 ≤ x) && decide (x ≤ 9223372036854775807)) = true
  unfold I64 at h
  simpa using h
theorem keyC_of {c : Int × Int} (h : Dir64 c) (w : World) : keyOf Try.prog 46 (.agg #[.int .i64 c.1, .int .i64 c.2]) = some (keyC c) :=
  (keyOf_asKey (enc := fun _ => ()) (w := w) (base := 0) (sp := fun _ => true) (held := true) deepCell wideCell formedCell
    (shut_pair Try.underlying46 Try.underlying3 Try.underlying3 cellsCell rfl rfl cellsIntC cellsIntC (i64_wf h.one) (i64_wf h.two))).1
theorem keyC_inj {c d : Int × Int} (hc : Dir64 c) (hd : Dir64 d) (w : World) (h : keyC c = keyC d) : c = d := by
  have e := lawCell.inj (keyC_of hc w) (h ▸ keyC_of hd w)
  obtain ⟨c1, c2⟩ := c
  obtain ⟨d1, d2⟩ := d
  simp at e
  simp [e.1, e.2]

/-- Block b holds a map that has f at each cell of S, and no other key. -/
def MapC (w : World) (b : Nat) (S : List (Int × Int)) (f : Int × Int → Int) : Prop :=
  ∃ D : DataW Unit, w.ownsMap Try.prog 46 (plainElem Try.prog 3) b S.length D ∧ Maps.size D = S.length ∧
    (∀ c, Dir64 c → Maps.has D (keyC c) = decide (c ∈ S)) ∧ ∀ c, Dir64 c → c ∈ S → D.atKey (keyC c) (.lit (.int .i64 0)) = .lit (.int .i64 (f c))

theorem mapC_made (w : World) (f : Int × Int → Int) : MapC (w.alloc (.map #[] 0)) w.heap.size [] f :=
  ⟨.map [], World.ownsMap_made w _ _ _, rfl, fun c _ => by simp [Maps.has], fun c _ h => by simp at h⟩
theorem MapC.lt {w : World} {b : Nat} {S : List (Int × Int)} {f : Int × Int → Int} (h : MapC w b S f) : b < w.heap.size := by
  obtain ⟨D, h1, _⟩ := h
  exact h1.lt
theorem MapC.below {w w' : World} {b : Nat} {S : List (Int × Int)} {f : Int × Int → Int} (h : MapC w b S f) (hb : Below w.heap.size w w') : MapC w' b S f := by
  obtain ⟨D, h1, h2⟩ := h
  exact ⟨D, h1.kept (row := none) ⟨hb.os, hb.tape, hb.output, hb.size, fun k hk _ => hb.block k hk⟩ (by simp), h2⟩
theorem MapC.look {w : World} {b : Nat} {S : List (Int × Int)} {f : Int × Int → Int} (h : MapC w b S f) {c : Int × Int} (hc : Dir64 c) :
    (Instr.lookup 52 (.map (some b)) (.agg #[.int .i64 c.1, .int .i64 c.2]) false).run Try.prog w = .ok (.int .i64 (if c ∈ S then f c else 0)) w := by
  obtain ⟨D, h1, h2, h3, h4⟩ := h
  obtain ⟨v, e1, e2, _⟩ := h1.lookup_int lawCell Try.underlying52 Try.underlying3 (zeroInt w) (keyC_of hc w)
  rw [e1]
  by_cases hS : c ∈ S
  · rw [if_pos hS]
    rw [h4 c hc hS] at e2
    simp at e2
    rw [e2]
  · rw [if_neg hS]
    have := h3 c hc
    rw [decide_eq_false hS] at this
    rw [Maps.atKey_of_not_has this] at e2
    simp at e2
    rw [← e2]
theorem MapC.put {w : World} {b : Nat} {S : List (Int × Int)} {f : Int × Int → Int} (h : MapC w b S f) {c : Int × Int} (hc : Dir64 c) (hS : ¬ c ∈ S) (hf : I64 (f c)) (hn : S.length < maxLen) :
    ∃ w', (Instr.mapUpdate 52 (.map (some b)) (.agg #[.int .i64 c.1, .int .i64 c.2]) (.int .i64 (f c))).run Try.prog w = .ok () w' ∧ MapC w' b (c :: S) f ∧ w.grownBy w' (some b) := by
  obtain ⟨D, h1, h2, h3, h4⟩ := h
  obtain ⟨w', e1, e2, e3⟩ := h1.update lawCell Try.underlying52 hn (keyC_of hc w) (plainElem_int Try.underlying3 (i64_wf hf))
  have hkl := lawCell.key (keyC_of hc w)
  have hnot : Maps.has D (keyC c) = false := by rw [h3 c hc, decide_eq_false hS]
  refine ⟨w', e1, ⟨_, e2, ?_, fun x hx => ?_, fun x hx hm => ?_⟩, e3⟩
  · rw [Maps.size_put (h1.tidy lawCell), hnot, h2]
    simp
  · by_cases e : x = c
    · subst e
      rw [Maps.has_put_same h1.isMap hkl]
      simp
    · rw [Maps.has_put_other (fun q => e (keyC_inj hx hc w q)), h3 x hx]
      simp [e]
  · by_cases e : x = c
    · subst e
      rw [Maps.atKey_put_same h1.isMap hkl]
    · rw [Maps.atKey_put_other (fun q => e (keyC_inj hx hc w q))]
      exact h4 x hx (by simpa [e] using hm)
theorem MapC.len {w : World} {b : Nat} {S : List (Int × Int)} {f : Int × Int → Int} (h : MapC w b S f) (ty : TypeId) : (Builtin.len_ #[52] ty #[.map (some b)]).run Try.prog w = .ok (.int .i64 S.length) w := by
  obtain ⟨D, h1, h2, _⟩ := h
  rw [h1.len Try.underlying52 ty, h2]
end Go.Proofs.Ytkjjhllmedkfhaa
