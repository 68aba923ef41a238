/- All: behind its call of byWorkers. byWorkers: behind the join. All: directions that are none. The law's rounds in whole numbers: how great they are, and that the squares never rise. -/
import Derived.Test.YtfnbcpeipoobkaaGreatM39
import Derived.Test.YtfnbcpeipoobkaaGreatM32
import Derived.Test.YtfnbcpeipoobkaaGreatM33
set_option linter.unusedSimpArgs false
namespace Go.Proofs.YtfnbcpeipoobkaaGreat
open Go Go.RowKit

section
variable {T : Machine → Prop} {b : Frame} {a : Act} {k : List Item} {cs : List Frame} {w : World}
theorem to_ops {ops : Array Oper} {l : List Nat} {K : Act → World → Prop} (h : wpOps (barP Tryz.prog) ops (fun e a w => e = .normal ∧ K a w) l a w) (hk : ∀ a w, K a w → To T (lone (b.at a k) cs w)) : To T (lone (b.at a (.inRegion ops l :: k)) cs w) := by
  obtain ⟨e, a', w', ⟨rfl, h1⟩, h2⟩ := wp_ops _ _ _ h b k cs
  exact to_steps h2 (hk a' w' h1)
theorem to_none {ops : Array Oper} {i : Nat} {rest : List Nat} {o : Oper} {w' : World} (ho : ops[i]? = some o) (hw : Region.wanted o (yielded ops a.tmps) = true) (hk : b.kind ≠ .early) (hr : (execOp a.eval o).run (barP Tryz.prog) w = .ok .skip w') (ht : To T (lone (b.at (a.put o.dst undef) (.inRegion ops rest :: k)) cs w')) : To T (lone (b.at a (.inRegion ops (i :: rest) :: k)) cs w) :=
  letI : Inhabited Junk := noJunk
  to_step (step_lone_of_go (Go.Conc.stepG_none ho hw hk hr)) ht
end
theorem wpOps_list {P : Program} {ops : Array Oper} {Q : Exit → Act → World → Prop} : ∀ l : List Nat, wpOps P ops Q l = wpList P ops Q (l.filterMap fun i => ops[i]?)
  | [] => by funext a w; simp [wpOps, wpList]
  | i :: l => by
    have ih := wpOps_list (P := P) (ops := ops) (Q := Q) l
    funext a w
    cases h : ops[i]? <;> simp [wpOps, wpList, h, ih]
theorem list29 : ∀ {l : List Value}, l.length = 29 → ∃ x0 x1 x2 x3 x4 x5 x6 x7 x8 x9 x10 x11 x12 x13 x14 x15 x16 x17 x18 x19 x20 x21 x22 x23 x24 x25 x26 x27 x28, l = [x0, x1, x2, x3, x4, x5, x6, x7, x8, x9, x10, x11, x12, x13, x14, x15, x16, x17, x18, x19, x20, x21, x22, x23, x24, x25, x26, x27, x28]
  | [x0, x1, x2, x3, x4, x5, x6, x7, x8, x9, x10, x11, x12, x13, x14, x15, x16, x17, x18, x19, x20, x21, x22, x23, x24, x25, x26, x27, x28], _ => ⟨x0, x1, x2, x3, x4, x5, x6, x7, x8, x9, x10, x11, x12, x13, x14, x15, x16, x17, x18, x19, x20, x21, x22, x23, x24, x25, x26, x27, x28, rfl⟩
/-- All at its call. -/
def fr7 (fn : Func) (T0 : List Value) (bg : Nat) (n : Int) (cV dV : Value) (s0 s1 : Bool) : Frame := (Go.Conc.base 5).at (aG T0 bg n cV dV s0 s1 true true true) [.inRegion (ops9 fn) (5 :: rest9 s0 s1), .code .ret]
/-- The memory is as it was but for one block. -/
structure Else (r : Nat) (w w' : World) : Prop where
  os : w'.os = w.os
  tape : w'.tape = w.tape
  output : w'.output = w.output
  size : w'.heap.size = w.heap.size
  block : ∀ k, k ≠ r → w'.heap[k]? = w.heap[k]?
theorem Else.refl (r : Nat) (w : World) : Else r w w := ⟨rfl, rfl, rfl, rfl, fun _ _ => rfl⟩
set_option maxRecDepth 100000 in
set_option maxHeartbeats 4000000 in
theorem all_back {T : Machine → Prop} {cs : List Frame} {c : Frame} {w w2 : World} {n : Int} {T0 : List Value} {cap l : Nat} {ca pa : Option Addr} {dV : Value} {pl pc : Nat} {s0 s1 : Bool} (hs : s1 = true → s0 = true) (hT : Tm7 w dV T0)
    (hg : w2.heap[w.heap.size]? = some (.cells #[.int .i64 n, .slice ca l cap] 27)) (hc : w2.heap[w.heap.size + 1]? = some (.cells #[.int .i64 0, .slice none 0 0] 33))
    (h : ∀ w3, Else (w.heap.size + 1) w2 w3 → To T (lone (c.finish (.tuple #[.agg #[.int .i64 n, .slice pa pl pc], .int .i64 0])) cs w3)) :
    To T (lone ((fr7 Tryz.f5 T0 w.heap.size n (.slice ca l cap) dV s0 s1).finish (.slice pa pl pc)) (c :: cs) w2) := by
  obtain ⟨hlen, t1, t2, t3, t6⟩ := hT
  obtain ⟨x0, x1, x2, x3, x4, x5, x6, x7, x8, x9, x10, x11, x12, x13, x14, x15, x16, x17, x18, x19, x20, x21, x22, x23, x24, x25, x26, x27, x28, rfl⟩ := list29 hlen
  obtain rfl : x3 = .pointer (some ⟨w.heap.size, 0, none⟩) := t3
  obtain rfl : x6 = .pointer (some ⟨w.heap.size + 1, 0, none⟩) := t6
  have c0 : w2.cell? ⟨w.heap.size, 0, none⟩ = some (.int .i64 n) := by simp [World.cell?, hg]
  clear hg
  generalize w.heap.size = B at *
  replace h := hide h
  unfold fr7
  rw [Frame.finish_at, show ((ops9 Tryz.f5)[5]?).bind (·.dst) = some (29 + 5) from by kernel_rfl]
  unfold aG aS
  rw [aS_put (i := 5) rfl]
  simp only [List.cons_append, List.nil_append, List.set_cons_succ, List.set_cons_zero, cond_true]
  have fin : ∀ (a : Act) (w3 : World), (∃ T1 : List Value, a = ⟨T1.toArray, []⟩ ∧ T1.getD 6 undef = .pointer (some ⟨B + 1, 0, none⟩) ∧ T1.getD 7 undef = .int .i64 0) ∧ Else (B + 1) w2 w3 ∧ w3.heap[B + 1]? = some (.cells #[.int .i64 n, .slice pa pl pc] 33) →
      To T (lone ((Go.Conc.base 5).at a [.code .ret]) (c :: cs) w3) := by
    rintro _ w3 ⟨⟨T1, rfl, q6, q7⟩, hE, hc3⟩
    have c0 : w3.cell? ⟨B + 1, 0, none⟩ = some (.int .i64 n) := by simp [World.cell?, hc3]
    have c1 : w3.cell? ⟨B + 1, 1, none⟩ = some (.slice pa pl pc) := by simp [World.cell?, hc3]
    rw [List.getD_eq_getElem?_getD] at q6 q7
    refine to_step step_ret (to_leave ⟨rfl, rfl, rfl, _, Bar.func5, ?_⟩ (unhide h w3 hE))
    simp only [Tryz.f5, results]
    simp [go_sem, Frame.at, q6, q7, c0, c1]
  have w3h : ∀ w3 : World, w3 = (w2.setCell ⟨B + 1, 0, none⟩ (.int .i64 n)).setCell ⟨B + 1, 1, none⟩ (.slice pa pl pc) → Else (B + 1) w2 w3 ∧ w3.heap[B + 1]? = some (.cells #[.int .i64 n, .slice pa pl pc] 33) := by
    rintro _ rfl
    have e1 := heap_setCell_same _ (B + 1) 0 _ _ (.int .i64 n) hc
    refine ⟨⟨rfl, rfl, rfl, by rw [World.size_setCell, World.size_setCell], fun k hk => ?_⟩, heap_setCell_same _ (B + 1) 1 _ _ (.slice pa pl pc) e1⟩
    rw [heap_setCell_other _ _ _ _ hk, heap_setCell_other _ _ _ _ hk]
  replace w3h := hide w3h
  replace fin := hide fin
  clear t1 t2 hlen
  have d0 : w2.cell? ⟨B + 1, 0, none⟩ = some (.int .i64 0) := by simp [World.cell?, hc]
  have d2 : w2.frozen? ⟨B + 1, 0, none⟩ = false := thaw_of hc
  have d3 : w2.frozen? ⟨B + 1, 1, none⟩ = false := thaw_of hc
  have d1 : w2.cell? ⟨B + 1, 1, none⟩ = some (.slice none 0 0) := by simp [World.cell?, hc]
  have tail : ∀ p29 : Value, To T (lone ((Go.Conc.base 5).at ⟨#[x0, x1, x2, .pointer (some ⟨B, 0, none⟩), x4, x5, .pointer (some ⟨B + 1, 0, none⟩), x7, x8, x9, x10, x11, x12, x13, x14, x15, x16, x17, x18, x19, x20, x21, x22, x23, x24, x25, x26, x27, x28, p29, .int .i64 n, .agg #[.int .i64 n, .slice ca l cap], dV, .int .i64 1, .slice pa pl pc, undef], []⟩ [.inRegion (ops9 Tryz.f5) [6, 7, 8], .code .ret]) (c :: cs) w2) := by
    intro p29
    refine to_value (o := { dst := some 35, op := .build 33 #[(0, .tmp 30), (1, .tmp 34)], type := 33, pos := "ray.go:33", after := #[⟨1, .data⟩, ⟨5, .data⟩], guard := none }) (by kernel_rfl) (aS_want rfl _) (by simp [Go.Conc.base]) (v := .agg #[.int .i64 n, .slice pa pl pc]) (w' := w2) (by simp [go_sem]) ?_
    refine to_none (o := { dst := none, op := .store 33 (.tmp 6) (.tmp 35), type := 0, pos := "ray.go:33", after := #[⟨6, .data⟩, ⟨5, .chain⟩, ⟨0, .phase⟩, ⟨1, .phase⟩, ⟨2, .phase⟩, ⟨3, .phase⟩, ⟨4, .phase⟩, ⟨5, .phase⟩, ⟨6, .phase⟩], guard := none }) (by kernel_rfl) (aS_want rfl _) (by simp [Go.Conc.base]) (w' := (w2.setCell ⟨B + 1, 0, none⟩ (.int .i64 n)).setCell ⟨B + 1, 1, none⟩ (.slice pa pl pc)) (by simp [go_sem, Act.put, d0, d1, d2, d3]) ?_
    refine to_value (o := { dst := some 7, op := .assign (.const (.int .i64 0)), type := 34, pos := "ray.go:33", after := #[⟨7, .chain⟩, ⟨0, .phase⟩, ⟨1, .phase⟩, ⟨2, .phase⟩, ⟨3, .phase⟩, ⟨4, .phase⟩, ⟨5, .phase⟩, ⟨6, .phase⟩, ⟨7, .phase⟩], guard := none }) (by kernel_rfl) (aS_want rfl _) (by simp [Go.Conc.base]) (v := .int .i64 0) (w' := (w2.setCell ⟨B + 1, 0, none⟩ (.int .i64 n)).setCell ⟨B + 1, 1, none⟩ (.slice pa pl pc)) (by simp [go_sem]) ?_
    refine to_out (unhide fin _ _ ⟨⟨_, rfl, rfl, rfl⟩, unhide w3h _ rfl⟩)
  have tail1 : To T (lone ((Go.Conc.base 5).at ⟨#[x0, x1, x2, .pointer (some ⟨B, 0, none⟩), x4, x5, .pointer (some ⟨B + 1, 0, none⟩), x7, x8, x9, x10, x11, x12, x13, x14, x15, x16, x17, x18, x19, x20, x21, x22, x23, x24, x25, x26, x27, x28, .pointer (some ⟨B, 0, none⟩), undef, .agg #[.int .i64 n, .slice ca l cap], dV, .int .i64 1, .slice pa pl pc, undef], []⟩ [.inRegion (ops9 Tryz.f5) [1, 6, 7, 8], .code .ret]) (c :: cs) w2) := by
    refine to_value (o := { dst := some 30, op := .load 3 (.tmp 29), type := 3, pos := "ray.go:33", after := #[⟨0, .data⟩], guard := none }) (by kernel_rfl) (aS_want rfl _) (by simp [Go.Conc.base]) (v := .int .i64 n) (w' := w2) (by simp [go_sem, c0]) ?_
    exact tail _
  cases s0
  · cases s1
    · refine to_value (o := { dst := some 29, op := .fieldAddr 27 (.tmp 3) 0, type := 0, pos := "ray.go:33", after := #[], guard := none }) (by kernel_rfl) (aS_want rfl _) (by simp [Go.Conc.base]) (v := .pointer (some ⟨B, 0, none⟩)) (w' := w2) (by simp [go_sem]) ?_
      exact tail1
    · cases hs rfl
  · cases s1
    · exact tail1
    · exact tail _
theorem fr7_call {T0 : List Value} {bg : Nat} {n : Int} {cV : Value} {da : Option Addr} {m dc : Nat} {s0 s1 : Bool} (hT : T0.length = 29) (hm : m ≤ 64) (up : List Frame) : AtC (fr7 Tryz.f5 T0 bg n cV (.slice da m dc) s0 s1) up n cV da m dc := by
  refine ⟨hm, fun w cs => ?_⟩
  have hop : (execOp (aG T0 bg n cV (.slice da m dc) s0 s1 true true true).eval { dst := some 34, op := .call { callee := .value (.func 11), args := #[.tmp 31, .tmp 32, .tmp 33], argTypes := #[27, 23, 3] }, type := 31, pos := "ray.go:33", after := #[⟨2, .data⟩, ⟨3, .data⟩, ⟨4, .data⟩], guard := none }).run Tryz.prog w = .ok (.enter 11 #[.agg #[.int .i64 n, cV], .slice da m dc, .int .i64 1]) w := by
    have e2 : (aG T0 bg n cV (.slice da m dc) s0 s1 true true true).tmps[31]?.getD undef = .agg #[.int .i64 n, cV] := aG_tmp2 hT (i := 2)
    have e3 : (aG T0 bg n cV (.slice da m dc) s0 s1 true true true).tmps[32]?.getD undef = .slice da m dc := aG_tmp2 hT (i := 3)
    have e4 : (aG T0 bg n cV (.slice da m dc) s0 s1 true true true).tmps[33]?.getD undef = .int .i64 1 := aG_tmp2 hT (i := 4)
    simp [go_sem, e2, e3, e4, Tryz.func11]
  have hc := fun (cs : List Frame) => Go.Conc.stepG_enter (P := Tryz.prog) (main := true) (b := Go.Conc.base 5) (k := [.code .ret]) (cs := cs) (ops := (ops9 Tryz.f5)) (rest := rest9 s0 s1) (i := 5) (a := aG T0 bg n cV (.slice da m dc) s0 s1 true true true) (by kernel_rfl) (aS_want rfl _) (by simp [Go.Conc.base]) hop
  have := hc (up ++ cs)
  rw [Go.Conc.enter_at _ Tryz.func11 rfl] at this
  have e0 : #[Value.agg #[Value.int .i64 n, cV], .slice da m dc, .int .i64 1] ++ Array.replicate (Tryz.f11.ntmps - #[Value.agg #[Value.int .i64 n, cV], .slice da m dc, .int .i64 1].size) undef = #[.agg #[.int .i64 n, cV], .slice da m dc, .int .i64 1, undef, undef, undef, undef, undef, undef, undef, undef, undef, undef, undef, undef, undef, undef, undef, undef, undef, undef, undef, undef] := by simp
  rw [e0] at this
  have l0 : Go.Conc.listed Tryz.prog (Go.Conc.base 5).fn (aG T0 bg n cV (.slice da m dc) s0 s1 true true true) { dst := some 34, op := .call { callee := .value (.func 11), args := #[.tmp 31, .tmp 32, .tmp 33], argTypes := #[27, 23, 3] }, type := 31, pos := "ray.go:33", after := #[⟨2, .data⟩, ⟨3, .data⟩, ⟨4, .data⟩], guard := none } w = #[] := by
    unfold Go.Conc.listed
    rw [Go.Conc.events_call_body rfl Tryz.func11 rfl rfl]
    exact Go.Conc.seen_none _ _
  rw [l0] at this
  exact this
end Go.Proofs.YtfnbcpeipoobkaaGreat

namespace Go.Proofs.YtfnbcpeipoobkaaGreat
open Go Go.RowKit

set_option maxRecDepth 100000 in
theorem bw_back {T : Machine → Prop} {cs : List Frame} {c : Frame} {w2 : World} {b : Nat} {n : Int} {cS : Value} {da : Option Addr} {m dc : Nat} (h3 : w2.heap[b + 3]? = some (.cells #[.slice (some ⟨b + 2, 0, none⟩) m m] 31))
    (h : To T (lone (c.finish (.slice (some ⟨b + 2, 0, none⟩) m m)) cs w2)) : To T (lone (fr15 Tryz.f11 b n cS da m dc) (c :: cs) w2) := by
  have c0 : w2.cell? ⟨b + 3, 0, none⟩ = some (.slice (some ⟨b + 2, 0, none⟩) m m) := by simp [World.cell?, h3]
  unfold fr15
  refine to_out (to_ret (K := fun a w3 => w3 = w2 ∧ a.defers = [] ∧ a.tmps[6]?.getD undef = .slice (some ⟨b + 2, 0, none⟩) m m) ?_ ?_)
  · simp only [rest15, body15, Tryz.f11, Option.getD_some, csnd]
    go_wp2_with fail
  · rintro a w3 todo ⟨rfl, hd, h6⟩
    obtain ⟨fn, hf, hr⟩ : ∃ fn, (barP Tryz.prog).funcs[11]? = some fn ∧ fn.results = #[.tmp 6] := ⟨_, rfl, rfl⟩
    refine to_leave ⟨rfl, hd, rfl, fn, hf, ?_⟩ h
    unfold results
    rw [hr]
    simp [go_sem, Frame.at, h6]
end Go.Proofs.YtfnbcpeipoobkaaGreat

namespace Go.Proofs.YtfnbcpeipoobkaaGreat
open Go Go.RowKit

set_option maxRecDepth 100000 in
set_option maxHeartbeats 4000000 in
theorem allBad {n g c mz gd od cap : Nat} {da : Option Addr} {L : List (Int × Int)} {f : Nat → Nat × Nat} {z : Nat → Int × Int} (w : World) (h1 : 1 ≤ n) (h2 : n ≤ 64) (hR : Row w g (n * n) f) (hz : ∀ j, j < n * n → Cell (f j) (z j) mz) (hm : mz ≤ 1048576)
    (hD : Dirs w da gd od L) (hl : L.length ≤ 9223372036854775807) (hI : ∀ i, i < L.length → I64 (L.getD i (0, 0)).1 ∧ I64 (L.getD i (0, 0)).2) (hcap : L.length ≤ cap) (hG : ¬ GoodDirs L) :
    Calls (barP Tryz.prog) 5 #[gridV n g c, .slice da L.length cap, .int .i64 1] w fun e w' => ∃ r, r ≠ 0 ∧ e = .returned (.tuple #[.agg #[.int .i64 0, .slice none 0 0], .int .i64 r]) ∧ Below w.heap.size w w' := by
  have hlt := row_lt hR
  have hi0 : In7 w ((w.alloc (.cells #[.int .i64 n, .slice (some ⟨g, 0, none⟩) (n * n : Nat) c] 27)).alloc (.cells #[.int .i64 0, .slice none 0 0] 33)) n (.slice (some ⟨g, 0, none⟩) (n * n : Nat) c) := by
    have := heap_alloc_new (w.alloc (.cells #[.int .i64 (n : Int), .slice (some ⟨g, 0, none⟩) (n * n : Nat) c] 27)) (.cells #[.int .i64 0, .slice none 0 0] 33)
    refine ⟨((Below.refl _ w).alloc (Nat.le_refl _) _).alloc (by simp) _, (alloc_old _ _ _ (by simp)).trans (heap_alloc_new w _), ?_⟩
    rwa [World.size_alloc] at this
  have kG := fun w1 (b : Below w.heap.size w w1) => gridCheck (c := c) w1 h1 h2 (row_below hR b hlt) hz hm
  have kL := fun w1 (b : Below w.heap.size w w1) => lookOk (cap := cap) hl hI w1 (dirs_below hD b) hcap
  clear hD hI hR hz hm hl
  replace kG := hide kG
  replace kL := hide kL
  replace hi0 := hide hi0
  replace hG := hide hG
  clear h1 h2 hlt hcap
  unfold gridV at *
  generalize L.length = ll at *
  generalize n * n = M at *
  go_enter Bar.func5, Bar.ntmps5
  go_wp2_with fail
  refine (unhide kG _ (unhide hi0).low).mono ?_
  rintro e w2 ⟨rfl, hb2⟩
  have hi2 := hide ((unhide hi0).up hb2)
  clear hb2 hi0
  go_wp2_with fail
  refine (unhide kL _ (unhide hi2).low).mono ?_
  rintro e w3 ⟨r, rfl, hr, hb3⟩
  have hr0 : r ≠ 0 := fun h => unhide hG (hr.1 h)
  have hi3 := (unhide hi2).up hb3
  clear hb3 hi2 hr kG kL
  have d0 : w3.cell? ⟨w.heap.size + 1, 0, none⟩ = some (.int .i64 0) := by simp [World.cell?, hi3.c1]
  have d1 : w3.cell? ⟨w.heap.size + 1, 1, none⟩ = some (.slice none 0 0) := by simp [World.cell?, hi3.c1]
  have d2 : w3.frozen? ⟨w.heap.size + 1, 0, none⟩ = false := thaw_of hi3.c1
  have d3 : w3.frozen? ⟨w.heap.size + 1, 1, none⟩ = false := thaw_of hi3.c1
  have hB : Below w.heap.size w ((w3.setCell ⟨w.heap.size + 1, 0, none⟩ (.int .i64 0)).setCell ⟨w.heap.size + 1, 1, none⟩ (.slice none 0 0)) := by
    refine hi3.low.trans ⟨rfl, rfl, rfl, by rw [World.size_setCell, World.size_setCell]; exact Nat.le_refl _, fun k hk => ?_⟩
    rw [heap_setCell_other _ _ _ _ (by show k ≠ w.heap.size + 1; omega), heap_setCell_other _ _ _ _ (by show k ≠ w.heap.size + 1; omega)]
  have hE : ((w3.setCell ⟨w.heap.size + 1, 0, none⟩ (.int .i64 0)).setCell ⟨w.heap.size + 1, 1, none⟩ (.slice none 0 0)).heap[w.heap.size + 1]? = some (.cells #[.int .i64 0, .slice none 0 0] 33) :=
    heap_setCell_same _ (w.heap.size + 1) 1 _ _ (.slice none 0 0) (heap_setCell_same _ (w.heap.size + 1) 0 _ _ (.int .i64 0) hi3.c1)
  have hi3 := hide hi3
  clear hi3
  replace hB := hide hB
  generalize w.heap.size + 1 = B at *
  have q : (r = 0) = False := by simpa using hr0
  go_wp2_with fail
  have y0 : ((w3.setCell ⟨B, 0, none⟩ (.int .i64 0)).setCell ⟨B, 1, none⟩ (.slice none 0 0)).cell? ⟨B, 0, none⟩ = some (.int .i64 0) := by simp [World.cell?, hE]
  have y1 : ((w3.setCell ⟨B, 0, none⟩ (.int .i64 0)).setCell ⟨B, 1, none⟩ (.slice none 0 0)).cell? ⟨B, 1, none⟩ = some (.slice none 0 0) := by simp [World.cell?, hE]
  refine ⟨rfl, .tuple #[.agg #[.int .i64 0, .slice none 0 0], .int .i64 r], ?_, r, hr0, rfl, unhide hB⟩
  unfold results
  simp only [Tryz.f5]
  simp [go_sem, y0, y1]
end Go.Proofs.YtfnbcpeipoobkaaGreat

namespace Go.Proofs.YtfnbcpeipoobkaaGreat
open Go.RowKit Go.Shelf Fl Ieee

theorem cnt_succ (ix : Nat → Nat) (k j : Nat) : cnt ix (k + 1) j = if j = ix k then cnt ix k j + 1 else cnt ix k j := rfl
/-- A row whose cells lie on different lines. -/
theorem fg_row1 {ix : Nat → Nat} {y n j : Nat} (hinj : ∀ x x', x < n → x' < n → ix (y * n + x) = ix (y * n + x') → x = x') : ∀ x, x ≤ n → cnt ix (y * n + x) j ≤ cnt ix (y * n) j + 1 ∧ ((∀ x', x' < x → ix (y * n + x') ≠ j) → cnt ix (y * n + x) j = cnt ix (y * n) j)
  | 0, _ => ⟨by rw [Nat.add_zero]; omega, fun _ => by rw [Nat.add_zero]⟩
  | x + 1, hx => by
    obtain ⟨h1, h2⟩ := fg_row1 hinj x (by omega)
    rw [← Nat.add_assoc, cnt_succ]
    by_cases e : j = ix (y * n + x)
    · rw [if_pos e]
      have h3 := h2 fun x' hx' he => by
        have := hinj x' x (by omega) (by omega) (he.trans e)
        omega
      exact ⟨by omega, fun h => absurd e.symm (h x (by omega))⟩
    · rw [if_neg e]
      exact ⟨h1, fun h => h2 fun x' hx' => h x' (by omega)⟩
theorem fg_rows1 {ix : Nat → Nat} {n j : Nat} (hinj : ∀ y x x', y < n → x < n → x' < n → ix (y * n + x) = ix (y * n + x') → x = x') : ∀ y : Nat, y ≤ n → cnt ix (y * n) j ≤ y
  | 0, _ => by rw [Nat.zero_mul]; exact Int.le_refl _
  | y + 1, hy => by
    have h1 := fg_rows1 (j := j) hinj y (by omega)
    have h2 := (fg_row1 (j := j) (hinj y · · (by omega)) n (Nat.le_refl n)).1
    rw [Nat.add_mul, Nat.one_mul]
    push_cast
    omega
/-- A row on one line. -/
theorem fg_rowA {ix : Nat → Nat} {y n j c : Nat} (hc : ∀ x, x < n → ix (y * n + x) = c) : ∀ x, x ≤ n → cnt ix (y * n + x) j = cnt ix (y * n) j + if j = c then (x : Int) else 0
  | 0, _ => by rw [Nat.add_zero]; simp
  | x + 1, hx => by
    rw [← Nat.add_assoc, cnt_succ, fg_rowA hc x (by omega), hc x (by omega)]
    by_cases e : j = c
    · rw [if_pos e, if_pos e, if_pos e]; push_cast; omega
    · rw [if_neg e, if_neg e, if_neg e]
theorem fg_rowsA {ix : Nat → Nat} {n j : Nat} {c : Nat → Nat} (hc : ∀ y x, y < n → x < n → ix (y * n + x) = c y) (hinj : ∀ y y', y < n → y' < n → c y = c y' → y = y') : ∀ y : Nat, y ≤ n → cnt ix (y * n) j ≤ n ∧ ((∀ y', y' < y → c y' ≠ j) → cnt ix (y * n) j = 0)
  | 0, _ => ⟨by rw [Nat.zero_mul]; exact Int.natCast_nonneg n, fun _ => by rw [Nat.zero_mul]; rfl⟩
  | y + 1, hy => by
    obtain ⟨h1, h2⟩ := fg_rowsA (j := j) hc hinj y (by omega)
    have h3 := fg_rowA (j := j) (hc y · (by omega)) n (Nat.le_refl n)
    rw [Nat.add_mul, Nat.one_mul, h3]
    by_cases e : j = c y
    · rw [if_pos e, h2 fun y' hy' he => by
        have := hinj y' y (by omega) (by omega) (he.trans e)
        omega]
      exact ⟨by omega, fun h => absurd e.symm (h y (by omega))⟩
    · rw [if_neg e]
      exact ⟨by omega, fun h => by rw [h2 fun y' hy' => h y' (by omega)]; rfl⟩
/-- No line has more cells than a side. -/
theorem cnt_side {n : Nat} {d : Int × Int} (h1 : 1 ≤ n) (h2 : n ≤ 64) (ho : okD d.1 d.2 = true) (hb : ∃ nb : Nat, binsS n d = ((nb : Int), 0)) (j : Nat) : cnt (ixN n d) (n * n) j ≤ n := by
  obtain ⟨nb, hb⟩ := hb
  have key : ∀ y x, y < n → x < n → ((ixN n d (y * n + x) : Nat) : Int) = startS n d + d.2 * (x : Int) - d.1 * (y : Int) := fun y x hy hx => by
    obtain ⟨a1, a2, a3, a4, a5⟩ := at_place h1 h2 ho hb hx hy
    obtain ⟨b1, b2, b3⟩ := okD_bounds ho
    have s1 := small16 (p := d.1) (x := y) b1 (by omega)
    have s2 := start_le (a := d) h1 h2 ho
    have s3 := small16 (p := d.2) (x := x) (by omega) (by omega)
    rw [← a4, wrapF (by omega) (by omega)]
  by_cases hq : d.2 = 0
  · have hp : d.1 ≠ 0 := fun e => by
      rw [e, hq] at ho
      revert ho
      decide +kernel
    refine (fg_rowsA (j := j) (c := fun y => ixN n d (y * n + 0)) (fun y x hy hx => ?_) (fun y y' hy hy' e => ?_) n (Nat.le_refl n)).1
    · have e1 := key y x hy hx
      have e2 := key y 0 hy (by omega)
      rw [hq] at e1 e2
      show ixN n d (y * n + x) = ixN n d (y * n + 0)
      omega
    · have e1 := key y 0 hy (by omega)
      have e2 := key y' 0 hy' (by omega)
      rw [e, e2] at e1
      have e3 : d.1 * (y : Int) = d.1 * (y' : Int) := by omega
      exact Int.ofNat.inj (Int.eq_of_mul_eq_mul_left hp e3)
  · refine fg_rows1 (ix := ixN n d) (n := n) (j := j) (fun y x x' hy hx hx' e => ?_) n (Nat.le_refl n)
    have e1 := key y x hy hx
    have e2 := key y x' hy hx'
    rw [e, e2] at e1
    have e3 : d.2 * (x : Int) = d.2 * (x' : Int) := by omega
    exact Int.ofNat.inj (Int.eq_of_mul_eq_mul_left hq e3)
theorem acc_one (ix : Nat → Nat) (v : Nat → Int × Int) : ∀ k j, (accZ ix v k j).1 = gat ix (fun i => (v i).1) k j
  | 0, _ => rfl
  | k + 1, j => by
    show (if j = ix k then addZ (accZ ix v k j) (v k) else accZ ix v k j).1 = if j = ix k then gat ix (fun i => (v i).1) k j + (v k).1 else gat ix (fun i => (v i).1) k j
    rw [← acc_one ix v k j]
    split <;> rfl
theorem acc_two (ix : Nat → Nat) (v : Nat → Int × Int) : ∀ k j, (accZ ix v k j).2 = gat ix (fun i => (v i).2) k j
  | 0, _ => rfl
  | k + 1, j => by
    show (if j = ix k then addZ (accZ ix v k j) (v k) else accZ ix v k j).2 = if j = ix k then gat ix (fun i => (v i).2) k j + (v k).2 else gat ix (fun i => (v i).2) k j
    rw [← acc_two ix v k j]
    split <;> rfl
theorem lay_one (ix : Nat → Nat → Nat) (zb : Nat → Nat → Int × Int) (i : Nat) : ∀ k, (layZ ix zb i k).1 = lay k ix (fun p j => (zb p j).1) i
  | 0 => rfl
  | k + 1 => by
    show (layZ ix zb i k).1 + (zb k (ix k i)).1 = sumW (fun p => (zb p (ix p i)).1) k + (zb k (ix k i)).1
    rw [lay_one ix zb i k]
    rfl
theorem lay_two (ix : Nat → Nat → Nat) (zb : Nat → Nat → Int × Int) (i : Nat) : ∀ k, (layZ ix zb i k).2 = lay k ix (fun p j => (zb p j).2) i
  | 0 => rfl
  | k + 1 => by
    show (layZ ix zb i k).2 + (zb k (ix k i)).2 = sumW (fun p => (zb p (ix p i)).2) k + (zb k (ix k i)).2
    rw [lay_two ix zb i k]
    rfl
theorem sqRow_dt (v : Nat → Int × Int) : ∀ m, sqRow v m = dt (fun j => (v j).1) (fun j => (v j).1) m + dt (fun j => (v j).2) (fun j => (v j).2) m
  | 0 => rfl
  | m + 1 => by
    show sqRow v m + ((v m).1 * (v m).1 + (v m).2 * (v m).2) = (dt (fun j => (v j).1) (fun j => (v j).1) m + (v m).1 * (v m).1) + (dt (fun j => (v j).2) (fun j => (v j).2) m + (v m).2 * (v m).2)
    rw [sqRow_dt v m]
    omega
theorem sqAll_SQ (nb : Nat → Nat) (zr : Nat → Nat → Int × Int) : ∀ P, sqAll nb zr P = SQ P nb (fun p j => (zr p j).1) + SQ P nb (fun p j => (zr p j).2)
  | 0 => rfl
  | P + 1 => by
    show sqAll nb zr P + sqRow (zr P) (nb P) = (SQ P nb (fun p j => (zr p j).1) + dt (fun j => (zr P j).1) (fun j => (zr P j).1) (nb P)) + (SQ P nb (fun p j => (zr p j).2) + dt (fun j => (zr P j).2) (fun j => (zr P j).2) (nb P))
    rw [sqAll_SQ nb zr P, sqRow_dt]
    omega
/-- ████ A round of the fit does not make the squares greater. ████ -/
theorem fit_falls {n t : Nat} {ps : List PJ} {zb : Nat → Nat → Int × Int} {z : Nat → Int × Int} (h1 : 1 ≤ n) (h2 : n ≤ 8) (hP : ps.length ≤ 4) (hok : ∀ i, i < ps.length → PJok n (ps.getD i pj0)) : sqAll (nbs ps) (fitR 5 n ps zb z (t + 1)) ps.length ≤ 1024 * sqAll (nbs ps) (fitR 5 n ps zb z t) ps.length := by
  have hix : ∀ p i, p < ps.length → i < n * n → ixP n ps p i < nbs ps p := fun p i hp hi => by
    obtain ⟨o1, o2, _⟩ := hok p hp
    have := ix_bounds h1 (by omega) o1 hi
    rw [o2] at this
    have := this.2
    show (ixS n (ps.getD p pj0).d _).toNat < (ps.getD p pj0).nb
    dsimp only at this
    omega
  have hc : ∀ p j, p < ps.length → j < nbs ps p → cnt (ixP n ps p) (n * n) j ≤ 8 := fun p j hp hj => by
    obtain ⟨o1, o2, _⟩ := hok p hp
    have := cnt_side h1 (by omega) o1 ⟨_, o2⟩ j
    exact Int.le_trans this (by omega)
  have f1 := falls (R := fun p j => (fitR 5 n ps zb z t p j).1) hP hix hc
  have f2 := falls (R := fun p j => (fitR 5 n ps zb z t p j).2) hP hix hc
  have e1 : (fun p j => (fitR 5 n ps zb z (t + 1) p j).1) = nextR ps.length (n * n) (ixP n ps) (fun p j => (fitR 5 n ps zb z t p j).1) := by
    funext p j
    rw [fitR_next]
    show (fitR 5 n ps zb z t p j).1 * 2 ^ 5 - (accZ (ixN n (ps.getD p pj0).d) (fun k => layZ (ixP n ps) (fitR 5 n ps zb z t) k ps.length) (n * n) j).1 = 32 * (fitR 5 n ps zb z t p j).1 - gat (ixP n ps p) (lay ps.length (ixP n ps) fun p j => (fitR 5 n ps zb z t p j).1) (n * n) j
    rw [acc_one]
    have e : (fun i => (layZ (ixP n ps) (fitR 5 n ps zb z t) i ps.length).1) = lay ps.length (ixP n ps) fun p j => (fitR 5 n ps zb z t p j).1 := funext fun i => lay_one _ _ _ _
    rw [e]
    show _ = 32 * (fitR 5 n ps zb z t p j).1 - gat (ixN n (ps.getD p pj0).d) _ _ _
    omega
  have e2 : (fun p j => (fitR 5 n ps zb z (t + 1) p j).2) = nextR ps.length (n * n) (ixP n ps) (fun p j => (fitR 5 n ps zb z t p j).2) := by
    funext p j
    rw [fitR_next]
    show (fitR 5 n ps zb z t p j).2 * 2 ^ 5 - (accZ (ixN n (ps.getD p pj0).d) (fun k => layZ (ixP n ps) (fitR 5 n ps zb z t) k ps.length) (n * n) j).2 = 32 * (fitR 5 n ps zb z t p j).2 - gat (ixP n ps p) (lay ps.length (ixP n ps) fun p j => (fitR 5 n ps zb z t p j).2) (n * n) j
    rw [acc_two]
    have e : (fun i => (layZ (ixP n ps) (fitR 5 n ps zb z t) i ps.length).2) = lay ps.length (ixP n ps) fun p j => (fitR 5 n ps zb z t p j).2 := funext fun i => lay_two _ _ _ _
    rw [e]
    show _ = 32 * (fitR 5 n ps zb z t p j).2 - gat (ixN n (ps.getD p pj0).d) _ _ _
    omega
  rw [sqAll_SQ, sqAll_SQ, e1, e2]
  omega
theorem up5 {a : Int × Int} {c : Nat} (h : Sm c a) : Sm (32 * c) (upZ 5 a) := by
  have h1 := h.1
  have h2 := h.2
  show (a.1 * 2 ^ 5).natAbs ≤ 32 * c ∧ (a.2 * 2 ^ 5).natAbs ≤ 32 * c
  omega
theorem addZ_sm {a b : Int × Int} {A B : Nat} (ha : Sm A a) (hb : Sm B b) : Sm (A + B) (addZ a b) := by
  have a1 := ha.1
  have a2 := ha.2
  have b1 := hb.1
  have b2 := hb.2
  unfold addZ
  exact ⟨by dsimp only; omega, by dsimp only; omega⟩
/-- How great, one round on. -/
theorem fit_grow {n t b c : Nat} {ps : List PJ} {zb : Nat → Nat → Int × Int} {z : Nat → Int × Int} (h1 : 1 ≤ n) (h2 : n ≤ 8) (hP : ps.length ≤ 4) (hok : ∀ i, i < ps.length → PJok n (ps.getD i pj0))
    (hz : ∀ k, k < n * n → Sm c (fitZ 5 n ps zb z t k)) (hr : ∀ i, i < ps.length → ∀ j, j < nbs ps i → Sm b (fitR 5 n ps zb z t i j)) :
    (∀ k, k < n * n → Sm (32 * c + 4 * b) (fitZ 5 n ps zb z (t + 1) k)) ∧ ∀ i, i < ps.length → ∀ j, j < nbs ps i → Sm (288 * b) (fitR 5 n ps zb z (t + 1) i j) := by
  have hl : ∀ k, k < n * n → Sm (4 * b) (layZ (ixP n ps) (fitR 5 n ps zb z t) k ps.length) := fun k hk => by
    refine (layZ_sm fun p hp => hr p hp _ ?_).mono (Nat.mul_le_mul_right b hP)
    obtain ⟨o1, o2, _⟩ := hok p hp
    have := ix_bounds h1 (by omega) o1 hk
    rw [o2] at this
    have := this.2
    show (ixS n (ps.getD p pj0).d _).toNat < (ps.getD p pj0).nb
    dsimp only at this
    omega
  refine ⟨fun k hk => addZ_sm (up5 (hz k hk)) (hl k hk), fun i hi j hj => ?_⟩
  rw [fitR_next]
  have hsq : n * n ≤ 64 := Nat.mul_le_mul h2 h2
  have ha := (accZ_sm (ix := ixN n (ps.getD i pj0).d) hl j).mono (Nat.mul_le_mul_right (4 * b) hsq)
  exact (subZ_sm (up5 (hr i hi j hj)) ha).mono (by omega)
theorem up_le {a : Int × Int} {c : Nat} (h : Sm c a) : ∀ t, t ≤ 3 → Sm (32768 * c) (upZ (5 * t) a)
  | 0, _ => by rw [Nat.mul_zero, upZ_zero]; exact h.mono (by omega)
  | 1, _ => (up5 h).mono (by omega)
  | 2, _ => by rw [show 5 * 2 = 5 + 5 from rfl, ← upZ_upZ]; exact (up5 (up5 h)).mono (by omega)
  | 3, _ => by rw [show 5 * 3 = 5 + 5 + 5 from rfl, ← upZ_upZ, ← upZ_upZ]; exact (up5 (up5 (up5 h))).mono (by omega)
/-- ████ The law's numbers are small enough. ████ -/
theorem fit_bounds {n rounds : Nat} {ps : List PJ} {zb : Nat → Nat → Int × Int} {z : Nat → Int × Int} (h1 : 1 ≤ n) (h2 : n ≤ 8) (hP : ps.length ≤ 4) (hok : ∀ i, i < ps.length → PJok n (ps.getD i pj0)) (hr : rounds ≤ 3) (hz : ∀ k, k < n * n → Sm 128 (z k)) (hb : ∀ i, i < ps.length → ∀ j, j < nbs ps i → Sm 16384 (zb i j)) : FitBd 5 n rounds 4398046511104 1236950581248 ps zb z := by
  have hsq : n * n ≤ 64 := Nat.mul_le_mul h2 h2
  have r0 : ∀ i, i < ps.length → ∀ j, j < nbs ps i → Sm 32768 (fitR 5 n ps zb z 0 i j) := fun i hi j hj => by
    have ha := (accZ_sm (ix := ixN n (ps.getD i pj0).d) hz j).mono (Nat.mul_le_mul_right 128 hsq)
    show Sm 32768 (subZ (upZ (5 * 0) (zb i j)) (accZ (ixN n (ps.getD i pj0).d) z (n * n) j))
    rw [Nat.mul_zero, upZ_zero]
    exact (subZ_sm (hb i hi j hj) ha).mono (by omega)
  obtain ⟨z1, r1⟩ := fit_grow (t := 0) h1 h2 hP hok hz r0
  obtain ⟨z2, r2⟩ := fit_grow (t := 1) h1 h2 hP hok (c := 262144) (b := 16777216) (fun k hk => (z1 k hk).mono (by omega)) (fun i hi j hj => (r1 i hi j hj).mono (by omega))
  obtain ⟨z3, r3⟩ := fit_grow (t := 2) h1 h2 hP hok (c := 134217728) (b := 8589934592) (fun k hk => (z2 k hk).mono (by omega)) (fun i hi j hj => (r2 i hi j hj).mono (by omega))
  refine ⟨fun t ht k hk => ?_, fun t ht i hi j hj => (up_le (hb i hi j hj) t (by omega)).mono (by omega), fun t ht i hi j hj => ?_⟩
  · match t, (show t ≤ 3 by omega) with
    | 0, _ => exact (up5 (hz k hk)).mono (by omega)
    | 1, _ => exact (up5 (z1 k hk)).mono (by omega)
    | 2, _ => exact (up5 (z2 k hk)).mono (by omega)
    | 3, _ => exact (up5 (z3 k hk)).mono (by omega)
  · match t, (show t ≤ 3 by omega) with
    | 0, _ => exact (r0 i hi j hj).mono (by omega)
    | 1, _ => exact (r1 i hi j hj).mono (by omega)
    | 2, _ => exact (r2 i hi j hj).mono (by omega)
    | 3, _ => exact (r3 i hi j hj).mono (by omega)
end Go.Proofs.YtfnbcpeipoobkaaGreat
