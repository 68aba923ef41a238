/- Bins, the line of a cell and the cells of a line are told as the document says; no condition. -/
import Derived.Test.YtkjjhllmedkfhaaDN
import Derived.Test.YtkjjhllmedkfhaaDO
import Derived.Test.YtkjjhllmedkfhaaRows
import Derived.ProofKit
namespace Go.Proofs.Ytkjjhllmedkfhaa
open Go.ChangeShapes Go.WideShapes Go.ChangeAt Go.RowKit

section
variable {H : Type} {enc : TypeId × Value → H} {P : Program} {w : World} {base : Nat} {spare : Nat → Bool} {held : Bool}

theorem size6 {cs : Array Value} (h : cs.size = 6) : ∃ a b c d e f, cs = #[a, b, c, d, e, f] := by
  obtain ⟨l⟩ := cs
  match l, h with
  | [a, b, c, d, e, f], _ => exact ⟨a, b, c, d, e, f, rfl⟩

/-- A place that came in: a side, a direction, a cell, a bin. -/
theorem open_place {r : Reach} {b0 : Nat} {t td ti : TypeId} {f0 f1 f2 f3 f4 g0 g1 : Field} {v : Value} {d : DataW H} {p : List MemPlace} (ht : P.underlying t = some (.struct #[f0, f1, f2, f3, f4])) (hd : P.underlying td = some (.struct #[g0, g1])) (hi : P.underlying ti = some (.int .i64))
    (hC : P.cellsOf t = 6) (hD : P.cellsOf td = 2) (hc : P.cellsOf ti = 1) (e0 : f0.type = ti ∧ f0.offset = 0) (e1 : f1.type = td ∧ f1.offset = 1) (e2 : f2.type = ti ∧ f2.offset = 3) (e3 : f3.type = ti ∧ f3.offset = 4) (e4 : f4.type = ti ∧ f4.offset = 5)
    (k0 : g0.type = ti ∧ g0.offset = 0) (k1 : g1.type = ti ∧ g1.offset = 1) (hv : Value.okWide P w r b0 t v) (h : DataW.Trod enc P w base spare held t v d p) :
    ∃ n x y z u b, v = .agg #[.int .i64 n, .int .i64 x, .int .i64 y, .int .i64 z, .int .i64 u, .int .i64 b] ∧ d = .agg [.lit (.int .i64 n), .agg [.lit (.int .i64 x), .lit (.int .i64 y)], .lit (.int .i64 z), .lit (.int .i64 u), .lit (.int .i64 b)] ∧ p = [] ∧
      (Lit.int .i64 n).wf = true ∧ (Lit.int .i64 x).wf = true ∧ (Lit.int .i64 y).wf = true ∧ (Lit.int .i64 z).wf = true ∧ (Lit.int .i64 u).wf = true ∧ (Lit.int .i64 b).wf = true := by
  simp only [Value.okWide, ht] at hv
  obtain ⟨cs, rfl, hsz, _⟩ := hv
  obtain ⟨v0, v1, v2, v3, v4, v5, rfl⟩ := size6 (hsz.trans hC)
  obtain ⟨fuel, hf⟩ := h
  obtain ⟨xs, m, _, hx, _, hl, hall⟩ := DataW.trod_struct ht hf
  match xs, hl with
  | [y0, y1, y2, y3, y4], _ =>
    have t0 := hall 0 f0 rfl
    have t1 := hall 1 f1 rfl
    have t2 := hall 2 f2 rfl
    have t3 := hall 3 f3 rfl
    have t4 := hall 4 f4 rfl
    rw [e0.1, e0.2, hc] at t0
    rw [e1.1, e1.2, hD] at t1
    rw [e2.1, e2.2, hc] at t2
    rw [e3.1, e3.2, hc] at t3
    rw [e4.1, e4.2, hc] at t4
    simp [Value.cells] at t0 t1 t2 t3 t4
    obtain ⟨n, a0, rfl, w0⟩ := DataW.trod_int hi t0
    obtain ⟨z, a2, rfl, w3⟩ := DataW.trod_int hi t2
    obtain ⟨u, a3, rfl, w4⟩ := DataW.trod_int hi t3
    obtain ⟨b, a4, rfl, w5⟩ := DataW.trod_int hi t4
    obtain ⟨z0, z1, m1, hz, _, s0, s1⟩ := trod_struct2 hd t1
    rw [k0.1, k0.2, hc] at s0
    rw [k1.1, k1.2, hc] at s1
    simp at s0 s1
    obtain ⟨x, b0', rfl, w1⟩ := DataW.trod_int hi s0
    obtain ⟨y, b1', rfl, w2⟩ := DataW.trod_int hi s1
    simp at a0 a2 a3 a4 b0' b1' hz
    subst a0 a2 a3 a4 b0' b1' hz
    simp at hx
    exact ⟨n, x, y, z, u, b, rfl, hx.1, hx.2, w0, w1, w2, w3, w4, w5⟩

theorem shut_place {t td ti : TypeId} {f0 f1 f2 f3 f4 g0 g1 : Field} {n x y z u b : Int} (ht : P.underlying t = some (.struct #[f0, f1, f2, f3, f4])) (hd : P.underlying td = some (.struct #[g0, g1])) (hi : P.underlying ti = some (.int .i64))
    (hC : P.cellsOf t = 6) (hD : P.cellsOf td = 2) (hc : P.cellsOf ti = 1) (e0 : f0.type = ti ∧ f0.offset = 0) (e1 : f1.type = td ∧ f1.offset = 1) (e2 : f2.type = ti ∧ f2.offset = 3) (e3 : f3.type = ti ∧ f3.offset = 4) (e4 : f4.type = ti ∧ f4.offset = 5)
    (k0 : g0.type = ti ∧ g0.offset = 0) (k1 : g1.type = ti ∧ g1.offset = 1) (w0 : (Lit.int .i64 n).wf = true) (w1 : (Lit.int .i64 x).wf = true) (w2 : (Lit.int .i64 y).wf = true) (w3 : (Lit.int .i64 z).wf = true) (w4 : (Lit.int .i64 u).wf = true) (w5 : (Lit.int .i64 b).wf = true) :
    DataW.Trod enc P w base spare held t (.agg #[.int .i64 n, .int .i64 x, .int .i64 y, .int .i64 z, .int .i64 u, .int .i64 b]) (.agg [.lit (.int .i64 n), .agg [.lit (.int .i64 x), .lit (.int .i64 y)], .lit (.int .i64 z), .lit (.int .i64 u), .lit (.int .i64 b)]) [] := by
  refine ⟨3, ?_⟩
  have hdir : DataW.trod enc P w base spare held 2 td [.int .i64 x, .int .i64 y] = some (.agg [.lit (.int .i64 x), .lit (.int .i64 y)], []) := by
    have := trod_struct2_mk (enc := enc) (w := w) (base := base) (spare := spare) (held := held) (n := 1) (cs := [.int .i64 x, .int .i64 y]) (y0 := (.lit (.int .i64 x), [])) (y1 := (.lit (.int .i64 y), [])) hd (by rw [hD]; rfl)
      (by rw [k0.1, k0.2, hc]; exact trod_int_mk 0 hi w1) (by rw [k1.1, k1.2, hc]; exact trod_int_mk 0 hi w2)
    exact this
  have := trod_struct_mk (enc := enc) (w := w) (base := base) (spare := spare) (held := held) (n := 2) (cs := [.int .i64 n, .int .i64 x, .int .i64 y, .int .i64 z, .int .i64 u, .int .i64 b])
    (xs := [(.lit (.int .i64 n), []), (.agg [.lit (.int .i64 x), .lit (.int .i64 y)], []), (.lit (.int .i64 z), []), (.lit (.int .i64 u), []), (.lit (.int .i64 b), [])]) ht (by rw [hC]; rfl)
    (by simp [e0.1, e0.2, e1.1, e1.2, e2.1, e2.2, e3.1, e3.2, e4.1, e4.2, hc, hD, hdir, trod_int_mk 1 hi w0, trod_int_mk 1 hi w3, trod_int_mk 1 hi w4, trod_int_mk 1 hi w5])
  exact this
end

theorem own : ownKnob Try.prog.godebug = none := by kernel_rfl
theorem cellsPlace : Try.prog.cellsOf 38 = 6 := by kernel_rfl

set_option maxRecDepth 100000 in
theorem lifted (os : Os) (started : os.Started) (H : Type) (enc : TypeId × Value → H) :
    ReturnsInHanded {} Try.checked os 5 .any (Rows.dirLinesSpec.pre6 enc Try.prog Try.f5 Rows.dirLinesRow.domain false) (Rows.dirLinesSpec.post enc Try.prog Try.f5 false true false false) := by
  refine returnsInHanded_of_change (C := Try.checked) own started (by kernel_rfl) Try.func5
    (ChangeSpec.witness6 (enc := enc) (C := Try.checked) false ⟨#[], #[.agg #[.int .i64 0, .int .i64 0, .int .i64 0, .int .i64 0, .int .i64 0, .int .i64 0]], []⟩ 8 (by kernel_rfl) (by kernel_rfl) (by kernel_rfl) (by kernel_rfl)) ?_
  intro W base args ds gs before hval0 hW hcnd _
  have hval : ∀ (j : Nat) t v, Try.f5.params[j]? = some t → args[j]? = some v → Value.okWide Try.prog W .any base t v := hval0
  have hW' := hW
  obtain ⟨p, q, hA0, hV, rfl, hfz, hnd⟩ := hW
  have hA : DataW.TrodAll enc Try.prog W 0 (fun _ => true) true Try.f5.params.toList args.toList ds p := hA0
  rw [Try.params5] at hA hval
  obtain ⟨v0, d0, rfl, rfl, h0⟩ := trodAll_one hA
  obtain ⟨rfl, rfl⟩ := trodVars_none hV
  obtain ⟨n, x, y, z, u, b, rfl, rfl, rfl, w0, w1, w2, w3, w4, w5⟩ := open_place Try.underlying38 Try.underlying23 Try.underlying3 cellsPlace cellsDir cellsInt ⟨rfl, rfl⟩ ⟨rfl, rfl⟩ ⟨rfl, rfl⟩ ⟨rfl, rfl⟩ ⟨rfl, rfl⟩ ⟨rfl, rfl⟩ ⟨rfl, rfl⟩ (hval 0 38 v0 rfl rfl) h0
  clear hA0 hval0
  simp only [List.append_nil] at hW'
  refine (linesWalk (n := n) (X := z) (Y := u) (bin := b) (a := (x, y)) ⟨i64_bounds w1, i64_bounds w2⟩ W).mono fun e W' ⟨he, bel⟩ => ?_
  subst he
  exact ⟨_, rfl, _, _, _, [], [], [], hW', trodAll_mk1 (shut_bool Try.underlying4 _),
    trodAll_mk1 (shut_place Try.underlying38 Try.underlying23 Try.underlying3 cellsPlace cellsDir cellsInt ⟨rfl, rfl⟩ ⟨rfl, rfl⟩ ⟨rfl, rfl⟩ ⟨rfl, rfl⟩ ⟨rfl, rfl⟩ ⟨rfl, rfl⟩ ⟨rfl, rfl⟩ w0 w1 w2 w3 w4 w5), rfl, bel.frame _, fun h => by cases h⟩

theorem proved : Rows.DirLinesSaid :=
  OpenClaim.holds_of_wide 5 Try.f5 rfl rfl rfl rfl rfl rfl rfl ⟨rfl, rfl, rfl, rfl, rfl⟩ rfl rfl rfl rfl rfl (by kernel_rfl) Try.func5 (by kernel_rfl)
    (of_decide_eq_true (by kernel_rfl)) (by unfold Func.isWrapper; first | (rw [if_pos (by decide +kernel)]; kernel_rfl) | (rw [if_neg (by decide +kernel)]; exact ⟨rfl, rfl⟩))
    (fun os started H enc _ => lifted os started H enc)
end Go.Proofs.Ytkjjhllmedkfhaa
