/- A direction that came in, as the walk wants it. -/
import Derived.Test.YthbghcebcahlnaaDC
import Derived.OpenShut
import Derived.ChangeOld
import Derived.ChangeSame
namespace Go.Proofs.Ythbghcebcahlnaa
open Go.ChangeShapes Go.WideShapes Go.ChangeAt Go.RowKit

theorem i64_bounds {x : Int} (h : (Lit.int .i64 x).wf = true) : I64 x := by
  have h' : (decide (-9223372036854775808 ≤ x) && decide (x ≤ 9223372036854775807)) = true := h
  unfold I64
  simpa using h'

section
variable {H : Type} {enc : TypeId × Value → H} {P : Program} {w : World} {base : Nat} {spare : Nat → Bool} {held : Bool}

theorem size2 {cs : Array Value} (h : cs.size = 2) : ∃ x y, cs = #[x, y] := by
  obtain ⟨l⟩ := cs
  match l, h with
  | [x, y], _ => exact ⟨x, y, rfl⟩

theorem open_pair {r : Reach} {b0 : Nat} {t : TypeId} {f0 f1 : Field} {k : IntKind} {v : Value} {d : DataW H} {p : List MemPlace} (ht : P.underlying t = some (.struct #[f0, f1])) (h0 : P.underlying f0.type = some (.int k)) (h1 : P.underlying f1.type = some (.int k))
    (hC : P.cellsOf t = 2) (o0 : f0.offset = 0) (o1 : f1.offset = 1) (c0 : P.cellsOf f0.type = 1) (c1 : P.cellsOf f1.type = 1)
    (hv : Value.okWide P w r b0 t v) (h : DataW.Trod enc P w base spare held t v d p) :
    ∃ x y, v = .agg #[.int k x, .int k y] ∧ d = .agg [.lit (.int k x), .lit (.int k y)] ∧ p = [] ∧ (Lit.int k x).wf = true ∧ (Lit.int k y).wf = true := by
  simp only [Value.okWide, ht] at hv
  obtain ⟨cs, rfl, hsz, _⟩ := hv
  obtain ⟨v0, v1, rfl⟩ := size2 (hsz.trans hC)
  obtain ⟨fuel, hf⟩ := h
  obtain ⟨y0, y1, n, hx, _, t0, t1⟩ := trod_struct2 ht hf
  rw [o0, c0] at t0
  rw [o1, c1] at t1
  simp [Value.cells] at t0 t1
  obtain ⟨x, e0, rfl, w0⟩ := DataW.trod_int h0 t0
  obtain ⟨y, e1, rfl, w1⟩ := DataW.trod_int h1 t1
  simp at e0 e1
  subst e0 e1
  simp at hx
  exact ⟨x, y, rfl, hx.1, hx.2, w0, w1⟩

theorem shut_pair {t : TypeId} {f0 f1 : Field} {k : IntKind} {x y : Int} (ht : P.underlying t = some (.struct #[f0, f1])) (h0 : P.underlying f0.type = some (.int k)) (h1 : P.underlying f1.type = some (.int k))
    (hC : P.cellsOf t = 2) (o0 : f0.offset = 0) (o1 : f1.offset = 1) (c0 : P.cellsOf f0.type = 1) (c1 : P.cellsOf f1.type = 1) (wx : (Lit.int k x).wf = true) (wy : (Lit.int k y).wf = true) :
    DataW.Trod enc P w base spare held t (.agg #[.int k x, .int k y]) (.agg [.lit (.int k x), .lit (.int k y)]) [] := by
  refine ⟨2, ?_⟩
  have := trod_struct2_mk (enc := enc) (w := w) (base := base) (spare := spare) (held := held) (n := 1) (cs := [.int k x, .int k y]) (y0 := (.lit (.int k x), [])) (y1 := (.lit (.int k y), [])) ht (by rw [hC]; rfl)
    (by rw [o0, c0]; exact trod_int_mk 0 h0 wx) (by rw [o1, c1]; exact trod_int_mk 0 h1 wy)
  exact this
end

theorem cellsDir : (barP Try.prog).cellsOf 47 = 2 := by kernel_rfl
theorem cellsInt : (barP Try.prog).cellsOf 3 = 1 := by kernel_rfl
end Go.Proofs.Ythbghcebcahlnaa
