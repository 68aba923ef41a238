/- All: behind its call of byWorkers. -/
import Derived.Test.YthbghcebcahlnaaALE
set_option linter.unusedSimpArgs false
namespace Go.Proofs.Ythbghcebcahlnaa
open Go Go.RowKit

section
variable {T : Machine → Prop} {b : Frame} {a : Act} {k : List Item} {cs : List Frame} {w : World}
theorem to_ops {ops : Array Oper} {l : List Nat} {K : Act → World → Prop} (h : wpOps (barP Try.prog) ops (fun e a w => e = .normal ∧ K a w) l a w) (hk : ∀ a w, K a w → To T (lone (b.at a k) cs w)) : To T (lone (b.at a (.inRegion ops l :: k)) cs w) := by
  obtain ⟨e, a', w', ⟨rfl, h1⟩, h2⟩ := wp_ops _ _ _ h b k cs
  exact to_steps h2 (hk a' w' h1)
theorem to_none {ops : Array Oper} {i : Nat} {rest : List Nat} {o : Oper} {w' : World} (ho : ops[i]? = some o) (hw : Region.wanted o (yielded ops a.tmps) = true) (hk : b.kind ≠ .early) (hr : (execOp a.eval o).run (barP Try.prog) w = .ok .skip w') (ht : To T (lone (b.at (a.put o.dst undef) (.inRegion ops rest :: k)) cs w')) : To T (lone (b.at a (.inRegion ops (i :: rest) :: k)) cs w) :=
  letI : Inhabited Junk := noJunk
  to_step (step_lone_of_go (Go.Conc.stepG_none ho hw hk hr)) ht
end
theorem wpOps_list {P : Program} {ops : Array Oper} {Q : Exit → Act → World → Prop} : ∀ l : List Nat, wpOps P ops Q l = wpList P ops Q (l.filterMap fun i => ops[i]?)
  | [] => by funext a w; simp [wpOps, wpList]
  | i :: l => by
    have ih := wpOps_list (P := P) (ops := ops) (Q := Q) l
    funext a w
    cases h : ops[i]? <;> simp [wpOps, wpList, h, ih]
theorem list29 : ∀ {l : List Value}, l.length = 29 → ∃ x0 x1 x2 x3 x4 x5 x6 x7 x8 x9 x10 x11 x12 x13 x14 x15 x16 x17 x18 x19 x20 x21 x22 x23 x24 x25 x26 x27 x28, l = [x0, x1, x2, x3, x4, x5, x6, x7, x8, x9, x10, x11, x12, x13, x14, x15, x16, x17, x18, x19, x20, x21, x22, x23, x24, x25, x26, x27, x28]
  | [x0, x1, x2, x3, x4, x5, x6, x7, x8, x9, x10, x11, x12, x13, x14, x15, x16, x17, x18, x19, x20, x21, x22, x23, x24, x25, x26, x27, x28], _ => ⟨x0, x1, x2, x3, x4, x5, x6, x7, x8, x9, x10, x11, x12, x13, x14, x15, x16, x17, x18, x19, x20, x21, x22, x23, x24, x25, x26, x27, x28, rfl⟩
/-- All at its call. -/
def fr7 (fn : Func) (T0 : List Value) (bg : Nat) (n : Int) (cV dV : Value) (s0 s1 : Bool) : Frame := (Go.Conc.base 7).at (aG T0 bg n cV dV s0 s1 true true true) [.inRegion (ops9 fn) (5 :: rest9 s0 s1), .code .ret]
/-- The memory is as it was but for one block. -/
structure Else (r : Nat) (w w' : World) : Prop where
  os : w'.os = w.os
  tape : w'.tape = w.tape
  output : w'.output = w.output
  size : w'.heap.size = w.heap.size
  block : ∀ k, k ≠ r → w'.heap[k]? = w.heap[k]?
theorem Else.refl (r : Nat) (w : World) : Else r w w := ⟨rfl, rfl, rfl, rfl, fun _ _ => rfl⟩
set_option maxRecDepth 100000 in
set_option maxHeartbeats 4000000 in
theorem all_back {T : Machine → Prop} {cs : List Frame} {c : Frame} {w w2 : World} {n : Int} {T0 : List Value} {cap l : Nat} {ca pa : Option Addr} {dV : Value} {pl pc : Nat} {s0 s1 : Bool} (hs : s1 = true → s0 = true) (hT : Tm7 w dV T0)
    (hg : w2.heap[w.heap.size]? = some (.cells #[.int .i64 n, .slice ca l cap] 27)) (hc : w2.heap[w.heap.size + 1]? = some (.cells #[.int .i64 0, .slice none 0 0] 31))
    (h : ∀ w3, Else (w.heap.size + 1) w2 w3 → To T (lone (c.finish (.tuple #[.agg #[.int .i64 n, .slice pa pl pc], .int .i64 0])) cs w3)) :
    To T (lone ((fr7 Try.f7 T0 w.heap.size n (.slice ca l cap) dV s0 s1).finish (.slice pa pl pc)) (c :: cs) w2) := by
  obtain ⟨hlen, t1, t2, t3, t6⟩ := hT
  obtain ⟨x0, x1, x2, x3, x4, x5, x6, x7, x8, x9, x10, x11, x12, x13, x14, x15, x16, x17, x18, x19, x20, x21, x22, x23, x24, x25, x26, x27, x28, rfl⟩ := list29 hlen
  obtain rfl : x3 = .pointer (some ⟨w.heap.size, 0, none⟩) := t3
  obtain rfl : x6 = .pointer (some ⟨w.heap.size + 1, 0, none⟩) := t6
  have c0 : w2.cell? ⟨w.heap.size, 0, none⟩ = some (.int .i64 n) := by simp [World.cell?, hg]
  clear hg
  generalize w.heap.size = B at *
  replace h := hide h
  unfold fr7
  rw [Frame.finish_at, show ((ops9 Try.f7)[5]?).bind (·.dst) = some (29 + 5) from by kernel_rfl]
  unfold aG aS
  rw [aS_put (i := 5) rfl]
  simp only [List.cons_append, List.nil_append, List.set_cons_succ, List.set_cons_zero, cond_true]
  have fin : ∀ (a : Act) (w3 : World), (∃ T1 : List Value, a = ⟨T1.toArray, []⟩ ∧ T1.getD 6 undef = .pointer (some ⟨B + 1, 0, none⟩) ∧ T1.getD 7 undef = .int .i64 0) ∧ Else (B + 1) w2 w3 ∧ w3.heap[B + 1]? = some (.cells #[.int .i64 n, .slice pa pl pc] 31) →
      To T (lone ((Go.Conc.base 7).at a [.code .ret]) (c :: cs) w3) := by
    rintro _ w3 ⟨⟨T1, rfl, q6, q7⟩, hE, hc3⟩
    have c0 : w3.cell? ⟨B + 1, 0, none⟩ = some (.int .i64 n) := by simp [World.cell?, hc3]
    have c1 : w3.cell? ⟨B + 1, 1, none⟩ = some (.slice pa pl pc) := by simp [World.cell?, hc3]
    rw [List.getD_eq_getElem?_getD] at q6 q7
    refine to_step step_ret (to_leave ⟨rfl, rfl, rfl, _, Bar.func7, ?_⟩ (unhide h w3 hE))
    simp only [Try.f7, results]
    simp [go_sem, Frame.at, q6, q7, c0, c1]
  have w3h : ∀ w3 : World, w3 = (w2.setCell ⟨B + 1, 0, none⟩ (.int .i64 n)).setCell ⟨B + 1, 1, none⟩ (.slice pa pl pc) → Else (B + 1) w2 w3 ∧ w3.heap[B + 1]? = some (.cells #[.int .i64 n, .slice pa pl pc] 31) := by
    rintro _ rfl
    have e1 := heap_setCell_same _ (B + 1) 0 _ _ (.int .i64 n) hc
    refine ⟨⟨rfl, rfl, rfl, by rw [World.size_setCell, World.size_setCell], fun k hk => ?_⟩, heap_setCell_same _ (B + 1) 1 _ _ (.slice pa pl pc) e1⟩
    rw [heap_setCell_other _ _ _ _ hk, heap_setCell_other _ _ _ _ hk]
  replace w3h := hide w3h
  replace fin := hide fin
  clear t1 t2 hlen
  have d0 : w2.cell? ⟨B + 1, 0, none⟩ = some (.int .i64 0) := by simp [World.cell?, hc]
  have d2 : w2.frozen? ⟨B + 1, 0, none⟩ = false := thaw_of hc
  have d3 : w2.frozen? ⟨B + 1, 1, none⟩ = false := thaw_of hc
  have d1 : w2.cell? ⟨B + 1, 1, none⟩ = some (.slice none 0 0) := by simp [World.cell?, hc]
  have tail : ∀ p29 : Value, To T (lone ((Go.Conc.base 7).at ⟨#[x0, x1, x2, .pointer (some ⟨B, 0, none⟩), x4, x5, .pointer (some ⟨B + 1, 0, none⟩), x7, x8, x9, x10, x11, x12, x13, x14, x15, x16, x17, x18, x19, x20, x21, x22, x23, x24, x25, x26, x27, x28, p29, .int .i64 n, .agg #[.int .i64 n, .slice ca l cap], dV, .int .i64 1, .slice pa pl pc, undef], []⟩ [.inRegion (ops9 Try.f7) [6, 7, 8], .code .ret]) (c :: cs) w2) := by
    intro p29
    refine to_value (o := { dst := some 35, op := .build 31 #[(0, .tmp 30), (1, .tmp 34)], type := 31, pos := "ray.go:33", after := #[⟨1, .data⟩, ⟨5, .data⟩], guard := none }) (by kernel_rfl) (aS_want rfl _) (by simp [Go.Conc.base]) (v := .agg #[.int .i64 n, .slice pa pl pc]) (w' := w2) (by simp [go_sem]) ?_
    refine to_none (o := { dst := none, op := .store 31 (.tmp 6) (.tmp 35), type := 0, pos := "ray.go:33", after := #[⟨6, .data⟩, ⟨5, .chain⟩, ⟨0, .phase⟩, ⟨1, .phase⟩, ⟨2, .phase⟩, ⟨3, .phase⟩, ⟨4, .phase⟩, ⟨5, .phase⟩, ⟨6, .phase⟩], guard := none }) (by kernel_rfl) (aS_want rfl _) (by simp [Go.Conc.base]) (w' := (w2.setCell ⟨B + 1, 0, none⟩ (.int .i64 n)).setCell ⟨B + 1, 1, none⟩ (.slice pa pl pc)) (by simp [go_sem, Act.put, d0, d1, d2, d3]) ?_
    refine to_value (o := { dst := some 7, op := .assign (.const (.int .i64 0)), type := 32, pos := "ray.go:33", after := #[⟨7, .chain⟩, ⟨0, .phase⟩, ⟨1, .phase⟩, ⟨2, .phase⟩, ⟨3, .phase⟩, ⟨4, .phase⟩, ⟨5, .phase⟩, ⟨6, .phase⟩, ⟨7, .phase⟩], guard := none }) (by kernel_rfl) (aS_want rfl _) (by simp [Go.Conc.base]) (v := .int .i64 0) (w' := (w2.setCell ⟨B + 1, 0, none⟩ (.int .i64 n)).setCell ⟨B + 1, 1, none⟩ (.slice pa pl pc)) (by simp [go_sem]) ?_
    refine to_out (unhide fin _ _ ⟨⟨_, rfl, rfl, rfl⟩, unhide w3h _ rfl⟩)
  have tail1 : To T (lone ((Go.Conc.base 7).at ⟨#[x0, x1, x2, .pointer (some ⟨B, 0, none⟩), x4, x5, .pointer (some ⟨B + 1, 0, none⟩), x7, x8, x9, x10, x11, x12, x13, x14, x15, x16, x17, x18, x19, x20, x21, x22, x23, x24, x25, x26, x27, x28, .pointer (some ⟨B, 0, none⟩), undef, .agg #[.int .i64 n, .slice ca l cap], dV, .int .i64 1, .slice pa pl pc, undef], []⟩ [.inRegion (ops9 Try.f7) [1, 6, 7, 8], .code .ret]) (c :: cs) w2) := by
    refine to_value (o := { dst := some 30, op := .load 3 (.tmp 29), type := 3, pos := "ray.go:33", after := #[⟨0, .data⟩], guard := none }) (by kernel_rfl) (aS_want rfl _) (by simp [Go.Conc.base]) (v := .int .i64 n) (w' := w2) (by simp [go_sem, c0]) ?_
    exact tail _
  cases s0
  · cases s1
    · refine to_value (o := { dst := some 29, op := .fieldAddr 27 (.tmp 3) 0, type := 0, pos := "ray.go:33", after := #[], guard := none }) (by kernel_rfl) (aS_want rfl _) (by simp [Go.Conc.base]) (v := .pointer (some ⟨B, 0, none⟩)) (w' := w2) (by simp [go_sem]) ?_
      exact tail1
    · cases hs rfl
  · cases s1
    · exact tail1
    · exact tail _
theorem fr7_call {T0 : List Value} {bg : Nat} {n : Int} {cV : Value} {da : Option Addr} {m dc : Nat} {s0 s1 : Bool} (hT : T0.length = 29) (hm : m ≤ 64) (up : List Frame) : AtC (fr7 Try.f7 T0 bg n cV (.slice da m dc) s0 s1) up n cV da m dc := by
  refine ⟨hm, fun w cs => ?_⟩
  have hop : (execOp (aG T0 bg n cV (.slice da m dc) s0 s1 true true true).eval { dst := some 34, op := .call { callee := .value (.func 15), args := #[.tmp 31, .tmp 32, .tmp 33], argTypes := #[27, 23, 3] }, type := 29, pos := "ray.go:33", after := #[⟨2, .data⟩, ⟨3, .data⟩, ⟨4, .data⟩], guard := none }).run Try.prog w = .ok (.enter 15 #[.agg #[.int .i64 n, cV], .slice da m dc, .int .i64 1]) w := by
    have e2 : (aG T0 bg n cV (.slice da m dc) s0 s1 true true true).tmps[31]?.getD undef = .agg #[.int .i64 n, cV] := aG_tmp2 hT (i := 2)
    have e3 : (aG T0 bg n cV (.slice da m dc) s0 s1 true true true).tmps[32]?.getD undef = .slice da m dc := aG_tmp2 hT (i := 3)
    have e4 : (aG T0 bg n cV (.slice da m dc) s0 s1 true true true).tmps[33]?.getD undef = .int .i64 1 := aG_tmp2 hT (i := 4)
    simp [go_sem, e2, e3, e4, Try.func15]
  have hc := fun (cs : List Frame) => Go.Conc.stepG_enter (P := Try.prog) (main := true) (b := Go.Conc.base 7) (k := [.code .ret]) (cs := cs) (ops := (ops9 Try.f7)) (rest := rest9 s0 s1) (i := 5) (a := aG T0 bg n cV (.slice da m dc) s0 s1 true true true) (by kernel_rfl) (aS_want rfl _) (by simp [Go.Conc.base]) hop
  have := hc (up ++ cs)
  rw [Go.Conc.enter_at _ Try.func15 rfl] at this
  have e0 : #[Value.agg #[Value.int .i64 n, cV], .slice da m dc, .int .i64 1] ++ Array.replicate (Try.f15.ntmps - #[Value.agg #[Value.int .i64 n, cV], .slice da m dc, .int .i64 1].size) undef = #[.agg #[.int .i64 n, cV], .slice da m dc, .int .i64 1, undef, undef, undef, undef, undef, undef, undef, undef, undef, undef, undef, undef, undef, undef, undef, undef, undef, undef, undef, undef] := by simp
  rw [e0] at this
  have l0 : Go.Conc.listed Try.prog (Go.Conc.base 7).fn (aG T0 bg n cV (.slice da m dc) s0 s1 true true true) { dst := some 34, op := .call { callee := .value (.func 15), args := #[.tmp 31, .tmp 32, .tmp 33], argTypes := #[27, 23, 3] }, type := 29, pos := "ray.go:33", after := #[⟨2, .data⟩, ⟨3, .data⟩, ⟨4, .data⟩], guard := none } w = #[] := by
    unfold Go.Conc.listed
    rw [Go.Conc.events_call_body rfl Try.func15 rfl rfl]
    exact Go.Conc.seen_none _ _
  rw [l0] at this
  exact this
end Go.Proofs.Ythbghcebcahlnaa
