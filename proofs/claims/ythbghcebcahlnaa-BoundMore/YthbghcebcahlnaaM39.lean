/- BoundSound: up to ray.All, and behind it. BoundSound: behind ray.All, as a way. BoundSound: its way from the join to its end. BoundSound: its way in company, good directions. -/
import Derived.Test.YthbghcebcahlnaaM36
import Derived.Test.YthbghcebcahlnaaM38
namespace Go.Proofs.Ythbghcebcahlnaa
open Go Go.RowKit Go.Shelf

theorem okObj_unbar (o : Obj) (h : okObj (barP Try.prog) o) : okObj Try.prog o := by
  letI : Inhabited Junk := noJunk
  cases o with
  | loop l => exact ⟨by rw [← okCode_bar (P := Try.prog) (F := (barF Try.prog))]; exact h.1, by rw [← okCode_bar (P := Try.prog) (F := (barF Try.prog))]; exact h.2.1, fun c e => by rw [← okCode_bar (P := Try.prog) (F := (barF Try.prog))]; exact h.2.2 c e⟩
  | deferred ds => cases ds <;> exact h
  | _ => exact h
/-- The law at its call of ray.All. -/
def fr3 (fn : Func) (lv dv sv gV : Value) (gb : Nat) : Frame := (Go.Conc.base 3).at ⟨#[lv, dv, sv, undef, undef, undef, .bool false, .pointer (some ⟨gb, 0, none⟩), undef, undef, undef, undef, undef, undef, undef, undef, undef, undef, undef, .bool true, .bool false, lv, gV, undef, gV, dv, undef, undef, undef, undef, undef, undef, undef, undef, undef, undef, undef, undef, undef, undef, undef, undef, undef, undef, undef, undef, undef, undef, undef, undef, undef, undef, undef, undef, undef, undef, undef, undef, undef, undef, undef, undef, undef, undef, undef, undef, undef, undef, undef, undef, undef, undef, undef, undef, undef, undef, undef, undef, undef, undef, undef, undef, undef, undef, undef, undef, undef, undef, undef, undef, undef, undef, undef, undef, undef, undef, undef, undef, undef, undef, undef, undef, undef, undef, undef, undef, undef, undef, undef, undef, undef, undef, undef, undef, undef, undef, undef, undef, undef, undef, undef, undef, undef, undef, undef, undef, undef, undef, undef, undef, undef, undef, undef, undef, undef, undef, undef, undef, undef, undef, undef, undef], []⟩ [.inRegion (ops3 fn) [2, 3, 4, 5, 6, 7, 8], .code (rest3 fn)]
/-- The memory there. -/
structure In3 (w w1 : World) (n gg gb : Nat) (L : List Int) : Prop where
  low : Below w.heap.size w w1
  new : w.heap.size ≤ gb
  g0 : w1.heap[gb]? = some (.cells #[.int .i64 n, .slice (some ⟨gg, 0, none⟩) (n * n : Nat) (n * n : Nat)] 27)
  row : Row w1 gg (n * n) (lvlB L)
set_option maxRecDepth 100000 in
set_option maxHeartbeats 4000000 in
theorem law_to {T : Machine → Prop} {cs : List Frame} {n gl ol lc : Nat} {la : Option Addr} {L : List Int} {dv sv : Value} (w : World) (hn : n = sideB L.length) (hL : L.length ≤ 9223372036854775807) (hB : Bytes w la gl ol L)
    (hl : ∀ w1 gg gb, In3 w w1 n gg gb L → To T (lone (Frame.enter (barP Try.prog) 7 #[gridV n gg (n * n), dv, .int .i64 1] .normal) (fr3 Try.f3 (.slice la L.length lc) dv sv (gridV n gg (n * n)) gb :: cs) w1)) :
    To T (lone (Frame.enter (barP Try.prog) 3 #[.slice la L.length lc, dv, sv] .normal) cs w) := by
  rw [Go.Conc.enter_at _ Bar.func3 rfl]
  have kG := fun w1 (b : Below w.heap.size w w1) => gridAny (cap := lc) hL w1 (bytes_below hB b)
  rw [← hn] at kG
  clear hB hn
  obtain ⟨lv, hlv⟩ : ∃ lv : Value, .slice la L.length lc = lv := ⟨_, rfl⟩
  rw [hlv] at kG hl
  have kG := hide kG
  have hl := hide hl
  have kA := hide (fun w1 => aliveOk w1)
  have e0 : #[lv, dv, sv] ++ Array.replicate (Try.f3.ntmps - #[lv, dv, sv].size) undef = #[lv, dv, sv, undef, undef, undef, undef, undef, undef, undef, undef, undef, undef, undef, undef, undef, undef, undef, undef, undef, undef, undef, undef, undef, undef, undef, undef, undef, undef, undef, undef, undef, undef, undef, undef, undef, undef, undef, undef, undef, undef, undef, undef, undef, undef, undef, undef, undef, undef, undef, undef, undef, undef, undef, undef, undef, undef, undef, undef, undef, undef, undef, undef, undef, undef, undef, undef, undef, undef, undef, undef, undef, undef, undef, undef, undef, undef, undef, undef, undef, undef, undef, undef, undef, undef, undef, undef, undef, undef, undef, undef, undef, undef, undef, undef, undef, undef, undef, undef, undef, undef, undef, undef, undef, undef, undef, undef, undef, undef, undef, undef, undef, undef, undef, undef, undef, undef, undef, undef, undef, undef, undef, undef, undef, undef, undef, undef, undef, undef, undef, undef, undef, undef, undef, undef, undef, undef, undef, undef, undef, undef, undef] := by simp
  rw [hlv, e0]
  clear hlv e0
  refine to_seq (to_wp (K := fun a w1 => a = ⟨#[lv, dv, sv, undef, undef, undef, .bool false, undef, undef, undef, undef, undef, undef, undef, undef, undef, undef, undef, undef, undef, undef, undef, undef, undef, undef, undef, undef, undef, undef, undef, undef, undef, undef, undef, undef, undef, undef, undef, undef, undef, undef, undef, undef, undef, undef, undef, undef, undef, undef, undef, undef, undef, undef, undef, undef, undef, undef, undef, undef, undef, undef, undef, undef, undef, undef, undef, undef, undef, undef, undef, undef, undef, undef, undef, undef, undef, undef, undef, undef, undef, undef, undef, undef, undef, undef, undef, undef, undef, undef, undef, undef, undef, undef, undef, undef, undef, undef, undef, undef, undef, undef, undef, undef, undef, undef, undef, undef, undef, undef, undef, undef, undef, undef, undef, undef, undef, undef, undef, undef, undef, undef, undef, undef, undef, undef, undef, undef, undef, undef, undef, undef, undef, undef, undef, undef, undef, undef, undef, undef, undef, undef, undef], []⟩ ∧ w1 = w) ?c0 ?_)
  case c0 =>
    go_wp2_with fail
  rintro _ w1 ⟨rfl, rfl⟩
  refine to_seq (to_wp (K := fun a w2 => a = ⟨#[lv, dv, sv, undef, undef, undef, .bool false, undef, undef, undef, undef, undef, undef, undef, undef, undef, undef, undef, undef, .bool true, .bool false, undef, undef, undef, undef, undef, undef, undef, undef, undef, undef, undef, undef, undef, undef, undef, undef, undef, undef, undef, undef, undef, undef, undef, undef, undef, undef, undef, undef, undef, undef, undef, undef, undef, undef, undef, undef, undef, undef, undef, undef, undef, undef, undef, undef, undef, undef, undef, undef, undef, undef, undef, undef, undef, undef, undef, undef, undef, undef, undef, undef, undef, undef, undef, undef, undef, undef, undef, undef, undef, undef, undef, undef, undef, undef, undef, undef, undef, undef, undef, undef, undef, undef, undef, undef, undef, undef, undef, undef, undef, undef, undef, undef, undef, undef, undef, undef, undef, undef, undef, undef, undef, undef, undef, undef, undef, undef, undef, undef, undef, undef, undef, undef, undef, undef, undef, undef, undef, undef, undef, undef, undef], []⟩ ∧ Below w1.heap.size w1 w2) ?c1 ?_)
  case c1 =>
    go_wp2_with fail
    refine (unhide kA _).mono ?_
    rintro e w2 ⟨rfl, hb⟩
    have hb := hide hb
    go_wp2_with fail
  rintro _ w2 ⟨rfl, hb2⟩
  have B2 := hide hb2
  clear hb2
  refine to_seq (to_wp (K := fun a w3 => ∃ gg gb, a = ⟨#[lv, dv, sv, undef, undef, undef, .bool false, .pointer (some ⟨gb, 0, none⟩), undef, undef, undef, undef, undef, undef, undef, undef, undef, undef, undef, .bool true, .bool false, lv, gridV n gg (n * n), undef, undef, undef, undef, undef, undef, undef, undef, undef, undef, undef, undef, undef, undef, undef, undef, undef, undef, undef, undef, undef, undef, undef, undef, undef, undef, undef, undef, undef, undef, undef, undef, undef, undef, undef, undef, undef, undef, undef, undef, undef, undef, undef, undef, undef, undef, undef, undef, undef, undef, undef, undef, undef, undef, undef, undef, undef, undef, undef, undef, undef, undef, undef, undef, undef, undef, undef, undef, undef, undef, undef, undef, undef, undef, undef, undef, undef, undef, undef, undef, undef, undef, undef, undef, undef, undef, undef, undef, undef, undef, undef, undef, undef, undef, undef, undef, undef, undef, undef, undef, undef, undef, undef, undef, undef, undef, undef, undef, undef, undef, undef, undef, undef, undef, undef, undef, undef, undef, undef], []⟩ ∧ In3 w1 w3 n gg gb L) ?c2 ?_)
  case c2 =>
    go_wp2_with fail
    refine (unhide kG _ (unhide B2)).mono ?_
    rintro e w3 ⟨g', rfl, hg', hrow, hb3⟩
    have hI : Hid (In3 w1 (w3.alloc (.cells #[.int .i64 n, .slice (some ⟨g', 0, none⟩) (n * n : Nat) (n * n : Nat)] 27)) n g' w3.heap.size L) := by
      have s3 : w1.heap.size ≤ w3.heap.size := Nat.le_trans (unhide B2).size hb3.size
      have hlt := row_lt hrow
      have q0 := heap_alloc_new w3 (.cells #[.int .i64 n, .slice (some ⟨g', 0, none⟩) (n * n : Nat) (n * n : Nat)] 27)
      have bb := (Below.refl _ w3).alloc (Nat.le_refl _) (.cells #[.int .i64 n, .slice (some ⟨g', 0, none⟩) (n * n : Nat) (n * n : Nat)] 27)
      exact ⟨(((unhide B2).trans (hb3.mono (unhide B2).size))).trans (bb.mono s3), s3, q0, row_below hrow bb hlt⟩
    clear hg' hrow hb3
    go_wp2_with fail
    exact ⟨g', w3.heap.size, ⟨rfl, rfl⟩, unhide hI⟩
  rintro _ w3 ⟨gg, gb, rfl, hI⟩
  have c0 : w3.cell? ⟨gb, 0, none⟩ = some (.int .i64 n) := by simp [World.cell?, hI.g0]
  have c1 : w3.cell? ⟨gb, 1, none⟩ = some (.slice (some ⟨gg, 0, none⟩) (n * n : Nat) (n * n : Nat)) := by simp [World.cell?, hI.g0]
  refine to_seq (to_region ?_)
  refine (?_ : To T (lone ((Go.Conc.base 3).at ⟨#[lv, dv, sv, undef, undef, undef, .bool false, .pointer (some ⟨gb, 0, none⟩), undef, undef, undef, undef, undef, undef, undef, undef, undef, undef, undef, .bool true, .bool false, lv, gridV n gg (n * n), undef, undef, undef, undef, undef, undef, undef, undef, undef, undef, undef, undef, undef, undef, undef, undef, undef, undef, undef, undef, undef, undef, undef, undef, undef, undef, undef, undef, undef, undef, undef, undef, undef, undef, undef, undef, undef, undef, undef, undef, undef, undef, undef, undef, undef, undef, undef, undef, undef, undef, undef, undef, undef, undef, undef, undef, undef, undef, undef, undef, undef, undef, undef, undef, undef, undef, undef, undef, undef, undef, undef, undef, undef, undef, undef, undef, undef, undef, undef, undef, undef, undef, undef, undef, undef, undef, undef, undef, undef, undef, undef, undef, undef, undef, undef, undef, undef, undef, undef, undef, undef, undef, undef, undef, undef, undef, undef, undef, undef, undef, undef, undef, undef, undef, undef, undef, undef, undef, undef], []⟩ [.inRegion (ops3 Try.f3) [0, 1, 2, 3, 4, 5, 6, 7, 8], .code (rest3 Try.f3)]) cs w3))
  refine to_value (o := { dst := some 24, op := .load 27 (.tmp 7), type := 27, pos := "law.go:91", after := #[], guard := none }) (by kernel_rfl) (aS_want rfl _) (by simp [Go.Conc.base]) (v := gridV n gg (n * n)) (w' := w3) (by simp [go_sem, c0, c1, gridV]) ?_
  refine to_value (o := { dst := some 25, op := .move (.tmp 1), type := 23, pos := "law.go:91", after := #[], guard := none }) (by kernel_rfl) (aS_want rfl _) (by simp [Go.Conc.base]) (v := dv) (w' := w3) (by simp [go_sem]) ?_
  exact to_enter (o := { dst := some 26, op := .call { callee := .value (.func 7), args := #[.tmp 24, .tmp 25, .const (.int .i64 1)], argTypes := #[27, 23, 3] }, type := 33, pos := "law.go:91", after := #[⟨0, .data⟩, ⟨1, .data⟩], guard := none }) (by kernel_rfl) (aS_want rfl _) (by simp [Go.Conc.base]) (f := 7) (args := #[gridV n gg (n * n), dv, .int .i64 1]) (w' := w3) (by simp [go_sem]) (unhide hl w3 gg gb hI)
end Go.Proofs.Ythbghcebcahlnaa

set_option linter.unusedSimpArgs false
namespace Go.Proofs.Ythbghcebcahlnaa
open Go Go.RowKit Go.Shelf

def op3 (fn : Func) (i : Nat) : Oper := ((ops3 fn)[i]?).getD ⟨none, .move (.tmp 0), 0, "", #[], none⟩
theorem run_mv {ρ : Operand → Value} {o : Oper} {w : World} {v : Value} (x : Operand) (h : o.op = .move x) (hv : ρ x = v) : (execOp ρ o).run (barP Try.prog) w = .ok (.value v) w := by
  unfold execOp
  rw [h, ← hv]
  rfl
set_option maxRecDepth 100000 in
set_option maxHeartbeats 4000000 in
theorem law_upto {T : Machine → Prop} {cs : List Frame} {w4 : World} {lv dv sv gV : Value} {gb gq m : Nat} {n : Int}
    (h : To T (lone ((Go.Conc.base 3).at ⟨#[lv, dv, sv, undef, undef, undef, .bool false, .pointer (some ⟨gb, 0, none⟩), .pointer (some ⟨w4.heap.size, 0, none⟩), .int .i64 0, undef, undef, undef, undef, undef, undef, undef, undef, undef, .bool true, .bool false, lv, gV, .tuple #[.agg #[.int .i64 n, .slice (some ⟨gq, 0, none⟩) m m], .int .i64 0], gV, dv, .tuple #[.agg #[.int .i64 n, .slice (some ⟨gq, 0, none⟩) m m], .int .i64 0], .agg #[.int .i64 n, .slice (some ⟨gq, 0, none⟩) m m], .int .i64 0, undef, undef, undef, undef, undef, undef, undef, undef, undef, undef, undef, undef, undef, undef, undef, undef, undef, undef, undef, undef, undef, undef, undef, undef, undef, undef, undef, undef, undef, undef, undef, undef, undef, undef, undef, undef, undef, undef, undef, undef, undef, undef, undef, undef, undef, undef, undef, undef, undef, undef, undef, undef, undef, undef, undef, undef, undef, undef, undef, undef, undef, undef, undef, undef, undef, undef, undef, undef, undef, undef, undef, undef, undef, undef, undef, undef, undef, undef, undef, undef, undef, undef, undef, undef, undef, undef, undef, undef, undef, undef, undef, undef, undef, undef, undef, undef, undef, undef, undef, undef, undef, undef, undef, undef, undef, undef, undef, undef, undef, undef, undef, undef, undef], []⟩ [.code (rest3 Try.f3)]) cs (w4.alloc (.cells #[.int .i64 n, .slice (some ⟨gq, 0, none⟩) m m] 31)))) :
    To T (lone ((fr3 Try.f3 lv dv sv gV gb).finish (.tuple #[.agg #[.int .i64 n, .slice (some ⟨gq, 0, none⟩) m m], .int .i64 0])) cs w4) := by
  have d3 : (op3 Try.f3 3).dst = some 23 := by kernel_rfl
  have d4 : (op3 Try.f3 4).dst = some 27 := by kernel_rfl
  have d5 : (op3 Try.f3 5).dst = some 28 := by kernel_rfl
  have d6 : (op3 Try.f3 6).dst = some 8 := by kernel_rfl
  have d7 : (op3 Try.f3 7).dst = none := by kernel_rfl
  unfold fr3
  rw [Frame.finish_at, show ((ops3 Try.f3)[2]?).bind (·.dst) = some 26 from by kernel_rfl]
  refine to_value (o := op3 Try.f3 3) (by kernel_rfl) (aS_want (by kernel_rfl) _) (by simp [Go.Conc.base]) (v := .tuple #[.agg #[.int .i64 n, .slice (some ⟨gq, 0, none⟩) m m], .int .i64 0]) (w' := w4) (run_mv _ (show (op3 Try.f3 3).op = .move (.tmp 26) by kernel_rfl) rfl) ?_
  refine to_value (o := op3 Try.f3 4) (by kernel_rfl) (aS_want (by kernel_rfl) _) (by simp [Go.Conc.base]) (v := .agg #[.int .i64 n, .slice (some ⟨gq, 0, none⟩) m m]) (w' := w4) (by unfold execOp; rw [show (op3 Try.f3 4).op = .extract (.tmp 23) 0 by kernel_rfl]; simp [go_sem, Act.put, d3, d4, d5, d6, d7]) ?_
  refine to_value (o := op3 Try.f3 5) (by kernel_rfl) (aS_want (by kernel_rfl) _) (by simp [Go.Conc.base]) (v := .int .i64 0) (w' := w4) (by unfold execOp; rw [show (op3 Try.f3 5).op = .extract (.tmp 23) 1 by kernel_rfl]; simp [go_sem, Act.put, d3, d4, d5, d6, d7]) ?_
  refine to_value (o := op3 Try.f3 6) (by kernel_rfl) (aS_want (by kernel_rfl) _) (by simp [Go.Conc.base]) (v := .pointer (some ⟨w4.heap.size, 0, none⟩)) (w' := w4.alloc (.cells #[.int .i64 0, .slice none 0 0] 31)) (by unfold execOp; rw [show (op3 Try.f3 6).op = .alloc 31 by kernel_rfl]; simp [go_sem, Act.put, d3, d4, d5, d6, d7]) ?_
  refine to_none (o := op3 Try.f3 7) (by kernel_rfl) (aS_want (by kernel_rfl) _) (by simp [Go.Conc.base]) (w' := w4.alloc (.cells #[.int .i64 n, .slice (some ⟨gq, 0, none⟩) m m] 31)) (by unfold execOp; rw [show (op3 Try.f3 7).op = .store 31 (.tmp 8) (.tmp 27) by kernel_rfl]; simp [go_sem, Act.put, d3, d4, d5, d6, d7]) ?_
  refine to_value (o := op3 Try.f3 8) (by kernel_rfl) (aS_want (by kernel_rfl) _) (by simp [Go.Conc.base]) (v := .int .i64 0) (w' := w4.alloc (.cells #[.int .i64 n, .slice (some ⟨gq, 0, none⟩) m m] 31)) (by unfold execOp; rw [show (op3 Try.f3 8).op = .assign (.tmp 28) by kernel_rfl]; simp [go_sem, Act.put, d3, d4, d5, d6, d7]) ?_
  exact to_out h
end Go.Proofs.Ythbghcebcahlnaa

namespace Go.Proofs.Ythbghcebcahlnaa
open Go Go.RowKit Go.Shelf

/-- True, and the old memory as it lay. -/
def Post3 (w0 : World) (fr : Frame) (w : World) : Prop := fr.tmps.getD 6 undef = .bool true ∧ ∀ k, k < w0.heap.size → w.heap[k]? = w0.heap[k]?
/-- .. and the group lies behind it. -/
def Post3g (w0 : World) (g : Nat) (fr : Frame) (w : World) : Prop := w0.heap.size ≤ g ∧ Post3 w0 fr w
/-- The memory at the call of byWorkers, heap alone. -/
structure Mem7 (w0 : World) (b1 n gg gb : Nat) (L : List Int) (w : World) : Prop where
  low : ∀ k, k < w0.heap.size → w.heap[k]? = w0.heap[k]?
  big : w0.heap.size ≤ b1 ∧ b1 + 2 ≤ w.heap.size
  g0 : w.heap[gb]? = some (.cells #[.int .i64 n, .slice (some ⟨gg, 0, none⟩) (n * n : Nat) (n * n : Nat)] 27)
  gbl : gb < b1
  ggl : gg < b1
  row : Row w gg (n * n) (lvlB L)
  c0 : w.heap[b1]? = some (.cells #[.int .i64 n, .slice (some ⟨gg, 0, none⟩) (n * n : Nat) (n * n : Nat)] 27)
  c1 : w.heap[b1 + 1]? = some (.cells #[.int .i64 0, .slice none 0 0] 31)
theorem heap_cell {w w' : World} {p : Addr} (h : w'.heap[p.block]? = w.heap[p.block]?) : w'.cell? p = w.cell? p := by unfold World.cell?; rw [h]
theorem bytes_low {w w' : World} {a : Option Addr} {g o : Nat} {L : List Int} (h : Bytes w a g o L) (hl : ∀ k, k < w.heap.size → w'.heap[k]? = w.heap[k]?) (hs : w.heap.size ≤ w'.heap.size) : Bytes w' a g o L := by
  refine ⟨fun hp => ⟨(h.at_ hp).1, Nat.lt_of_lt_of_le (h.at_ hp).2 hs⟩, fun i c hi => ?_⟩
  have hp : 0 < L.length := by have := (List.getElem?_eq_some_iff.1 hi).1; omega
  exact (heap_cell (p := ⟨g, o + i, none⟩) (hl g (h.at_ hp).2)).trans (h.cell i c hi)
set_option maxRecDepth 100000 in
set_option maxHeartbeats 4000000 in
/-- From the join to the end. -/
theorem law_end {T : Machine → Prop} {cs : List Frame} {w0 w w1 w2 : World} {n gg gb m dc gs os sc : Nat} {da sa : Option Addr} {L S : List Int} {D : List (Int × Int)} {lv : Value} {T0 : List Value} {s0 s1 : Bool} (h1 : 1 ≤ n) (h2 : n ≤ 8) (hL : Byte8 L) (hS : Byte8 S) (hSl : S.length ≤ 9223372036854775807) (hB : Bytes w0 sa gs os S) (hG : GoodDirs D) (hD : D.length = m)
    (hs : s1 = true → s0 = true) (hT : Tm7 w1 (.slice da m dc) T0) (hM : Mem7 w0 w1.heap.size n gg gb L w) (hF : Left w n gg (n * n) m dc da D (zL L) w2)
    (ht : ∀ fr w5, Out 3 fr [] → Post3 w0 fr w5 → To T (lone fr cs w5)) :
    To T (lone (fr15 Try.f15 w.heap.size n (.slice (some ⟨gg, 0, none⟩) (n * n : Nat) (n * n : Nat)) da m dc) (fr7 Try.f7 T0 w1.heap.size n (.slice (some ⟨gg, 0, none⟩) (n * n : Nat) (n * n : Nat)) (.slice da m dc) s0 s1 :: fr3 Try.f3 lv (.slice da m dc) (.slice sa S.length sc) (gridV n gg (n * n)) gb :: cs) w2) := by
  obtain ⟨b1, b2⟩ := hM.big
  have hgb := hM.gbl
  have hgg := hM.ggl
  obtain ⟨ps, t, hps, hW, hsp⟩ := id hF
  have low2 : ∀ k, k < w.heap.size → w2.heap[k]? = w.heap[k]? := hW.low
  have big2 := hW.big
  refine bw_back hW.c3 ?_
  refine all_back hs hT ((low2 _ (by omega)).trans hM.c0) ((low2 _ (by omega)).trans hM.c1) fun w3 hE => ?_
  refine law_upto ?_
  have s3 := hE.size
  have low3 : ∀ k, k < w.heap.size → k ≠ w1.heap.size + 1 → w3.heap[k]? = w.heap[k]? := fun k hk hn => (hE.block k hn).trans (low2 k hk)
  have al : ∀ k, k < w3.heap.size → (w3.alloc (.cells #[.int .i64 n, .slice (some ⟨w.heap.size + 2, 0, none⟩) m m] 31)).heap[k]? = w3.heap[k]? := fun k hk => alloc_old _ _ k hk
  obtain ⟨ps', hl', hnew, hAs⟩ := asked_of h1 (by omega) (levelsB hL (n * n)) hG hD hF
  have hH : Hand (w3.alloc (.cells #[.int .i64 n, .slice (some ⟨w.heap.size + 2, 0, none⟩) m m] 31)) n gg gb w3.heap.size (w.heap.size + 2) ps' L S sa gs os := by
    refine ⟨(al gb (by omega)).trans ((low3 gb (by omega) (by omega)).trans hM.g0), ?_, row_keep hM.row ((al gg (by omega)).trans (low3 gg (by omega) (by omega))), bytes_low hB (fun k hk => (al k (by omega)).trans ((low3 k (by omega) (by omega)).trans (hM.low k hk))) (by rw [World.size_alloc]; omega), ?_⟩
    · rw [hl']
      exact heap_alloc_new w3 _
    · have hp := hAs.at_
      refine ⟨hAs.hd, hAs.hz, hAs.so, hAs.own, ⟨by rw [World.size_alloc]; omega, fun i hi => ?_, fun i hi => ?_⟩⟩
      · have e : (w3.alloc (.cells #[.int .i64 n, .slice (some ⟨w.heap.size + 2, 0, none⟩) m m] 31)).heap[w.heap.size + 2]? = w2.heap[w.heap.size + 2]? := (al _ (by omega)).trans (hE.block _ (by omega))
        obtain ⟨c1, c2, c3⟩ := hp.cells i hi
        exact ⟨(heap_cell (p := ⟨w.heap.size + 2, i * 3, none⟩) e).trans c1, (heap_cell (p := ⟨w.heap.size + 2, i * 3 + 1, none⟩) e).trans c2, (heap_cell (p := ⟨w.heap.size + 2, i * 3 + 2, none⟩) e).trans c3⟩
      · have hlt := vrow_lt (hp.bins i hi)
        have := hnew i hi
        exact vrow_keep (hp.bins i hi) ((al _ (by omega)).trans (hE.block _ (by omega)))
  refine to_ret (rest3Ok (sc := sc) _ h1 h2 hL hS hSl hH) ?_
  rintro a w5 todo ⟨hd, h6, hb⟩
  refine ht _ _ ⟨rfl, rfl, hd, rfl, rfl⟩ ⟨?_, fun k hk => ?_⟩
  · simpa [Frame.at] using h6
  · rw [hb.block k (by rw [World.size_alloc]; omega), al k (by omega), low3 k (by omega) (by omega), hM.low k hk]
end Go.Proofs.Ythbghcebcahlnaa

namespace Go.Proofs.Ythbghcebcahlnaa
open Go Go.RowKit Go.Shelf

theorem dirs_low {w w' : World} {a : Option Addr} {g o : Nat} {L : List (Int × Int)} (h : Dirs w a g o L) (hl : ∀ k, k < w.heap.size → w'.heap[k]? = w.heap[k]?) (hs : w.heap.size ≤ w'.heap.size) : Dirs w' a g o L := by
  refine ⟨fun hp => ⟨(h.at_ hp).1, Nat.lt_of_lt_of_le (h.at_ hp).2 hs⟩, fun i c hi => ?_⟩
  have hp : 0 < L.length := by have := (List.getElem?_eq_some_iff.1 hi).1; omega
  have hb := hl g (h.at_ hp).2
  exact ⟨(heap_cell (p := ⟨g, o + i * 2, none⟩) hb).trans (h.cell i c hi).1, (heap_cell (p := ⟨g, o + i * 2 + 1, none⟩) hb).trans (h.cell i c hi).2⟩
/-- The law stands in All at its call of byWorkers. -/
def E1 (w0 : World) (n : Nat) (L : List Int) (da : Option Addr) (m dc : Nat) (lv sv : Value) (fr : Frame) (up : List Frame) (w : World) : Prop :=
  FitB (barP Try.prog) fr up w ∧ ∃ w1 gg gb T0 s0 s1, (s1 = true → s0 = true) ∧ Tm7 w1 (.slice da m dc) T0 ∧ Mem7 w0 w1.heap.size n gg gb L w ∧
    fr = fr7 Try.f7 T0 w1.heap.size n (.slice (some ⟨gg, 0, none⟩) (n * n : Nat) (n * n : Nat)) (.slice da m dc) s0 s1 ∧ up = [fr3 Try.f3 lv (.slice da m dc) sv (gridV n gg (n * n)) gb]
theorem fit_blind {P : Program} {fr : Frame} {up : List Frame} {w : World} (τ : Nat → Question → Nat) (d : Nat) : FitB P fr up (re w τ d) ↔ FitB P fr up w := ⟨fun h => ⟨h.frame, h.up, h.kind, h.env⟩, fun h => ⟨h.frame, h.up, h.kind, h.env⟩⟩
theorem mem7_blind {w0 w : World} {b1 n gg gb : Nat} {L : List Int} (τ : Nat → Question → Nat) (d : Nat) : Mem7 w0 b1 n gg gb L (re w τ d) ↔ Mem7 w0 b1 n gg gb L w :=
  ⟨fun h => ⟨h.low, h.big, h.g0, h.gbl, h.ggl, h.row, h.c0, h.c1⟩, fun h => ⟨h.low, h.big, h.g0, h.gbl, h.ggl, h.row, h.c0, h.c1⟩⟩
theorem e1_blind {w0 : World} {n : Nat} {L : List Int} {da : Option Addr} {m dc : Nat} {lv sv : Value} (fr : Frame) (up : List Frame) (w : World) (τ : Nat → Question → Nat) (d : Nat) : E1 w0 n L da m dc lv sv fr up (re w τ d) ↔ E1 w0 n L da m dc lv sv fr up w := by
  unfold E1
  simp only [fit_blind, mem7_blind]
theorem ok15B (b : Nat) (n : Int) (cS : Value) (da : Option Addr) (m dc : Nat) : okFrame (barP Try.prog) (fr15 Try.f15 b n cS da m dc) := by
  letI : Inhabited Junk := noJunk
  have h1 : okCode (barP Try.prog) (rest15 Try.f15) = true := by
    rw [show okCode (barP Try.prog) (rest15 Try.f15) = okCode (bar Try.prog (barF Try.prog)) (rest15 Try.f15) from rfl, okCode_bar]
    kernel_rfl
  have h2 : ((ops15 Try.f15).all fun o => okOp (barP Try.prog) o.op) = true := by kernel_rfl
  refine ⟨fun i hi => ?_, fun d hd => ?_⟩
  · have : i = .inRegion (ops15 Try.f15) [] ∨ i = .code (rest15 Try.f15) := by simpa [fr15, Frame.at] using hi
    rcases this with rfl | rfl
    · exact h2
    · exact h1
  · simp [fr15, Frame.at] at hd
set_option maxRecDepth 100000 in
theorem good_goes {w0 : World} {n gl ol lc gd od dc gs os sc : Nat} {la da sa : Option Addr} {L S : List Int} {D : List (Int × Int)} (hn : n = sideB L.length) (h1 : 1 ≤ n) (h2 : n ≤ 8) (hLl : L.length ≤ 9223372036854775807) (hL : Byte8 L) (hS : Byte8 S) (hSl : S.length ≤ 9223372036854775807)
    (hB : Bytes w0 la gl ol L) (hBS : Bytes w0 sa gs os S) (hD : Dirs w0 da gd od D) (hI : ∀ i, i < D.length → I64 (D.getD i (0, 0)).1 ∧ I64 (D.getD i (0, 0)).2) (hcap : D.length ≤ dc) (hG : GoodDirs D)
    (hfit : FitB (barP Try.prog) (Frame.enter (barP Try.prog) 3 #[.slice la L.length lc, .slice da D.length dc, .slice sa S.length sc] .normal) [] w0) :
    GoesW (bar Try.prog (barF Try.prog)) (barF Try.prog).size (Pieces 3 (Post3 w0) (Post3g w0)) (Frame.enter (barP Try.prog) 3 #[.slice la L.length lc, .slice da D.length dc, .slice sa S.length sc] .normal) [] w0 := by
  letI : Inhabited Junk := noJunk
  have hr : (barF Try.prog)[(barF Try.prog).size]? = none := by rw [Array.getElem?_eq_none_iff]; exact Nat.le_refl _
  refine goesW_mono (E := E1 w0 n L da D.length dc (.slice la L.length lc) (.slice sa S.length sc)) ?mono (goesW_of_steps (P := (barP Try.prog)) Bar.again fenceB bodiesB e1_blind hfit hr fun τ d => ?_)
  case mono =>
    rintro fr up w ⟨hf, w1, gg, gb, T0, s0, s1, hs, htm, hM, rfl, rfl⟩
    obtain ⟨b1, b2⟩ := hM.big
    have hgg := hM.ggl
    refine .inr ⟨n, .slice (some ⟨gg, 0, none⟩) (n * n : Nat) (n * n : Nat), da, D.length, dc, fun w' => Left w n gg (n * n) D.length dc da D (zL L) w' ∧ (∀ (r : Nat) (o : Obj), w'.heap[r]? = some o → okObj (barP Try.prog) o) ∧ w'.os.env = #[], fr7_call htm.len hG.1 _, ⟨(barF Try.prog).size, ?_⟩, ?_⟩
    · refine workGoes (gd := gd) (od := od) (mz := 255) (f := lvlB L) w h1 (by omega) hG.1 rfl (dirs_low hD hM.low (by omega)) (fun i hi => ?_) (fun hp => by have := (hD.at_ hp).2; omega) hM.row (by omega) (fun j _ => cellB hL j) (by decide) (fun r o ho => okObj_unbar o (hf.kind r o ho)) hf.env
      have ho := (hG.2 i hi).1
      obtain ⟨q1, q2, q3⟩ := okD_bounds ho
      exact ⟨⟨by unfold I64; omega, by unfold I64; omega⟩, ho⟩
    · rintro w2 ⟨hF, hk, he⟩
      refine ⟨(barF Try.prog).size, goesW_of_steps (P := (barP Try.prog)) Bar.again fenceB bodiesB (fun fr up w τ d => Iff.rfl) ⟨ok15B _ _ _ _ _ _, ?_, hk, he⟩ hr fun τ d => ?_⟩
      · intro f hf'
        rcases List.mem_cons.1 hf' with rfl | hf'
        · exact hf.frame
        · exact hf.up f hf'
      · have hF' : Left w n gg (n * n) D.length dc da D (zL L) (re w2 τ d) := (left_re w2 τ d).2 hF
        obtain ⟨m', ⟨fr, w5, rfl, ho, hp⟩, hst⟩ := law_end (T := fun m => ∃ fr w5, m = lone fr ([] ++ [baseF (barF Try.prog).size]) w5 ∧ Out 3 fr [] ∧ Post3 w0 fr w5) (cs := [baseF (barF Try.prog).size]) (lv := .slice la L.length lc) (sc := sc) h1 h2 hL hS hSl hBS hG rfl hs htm hM hF' fun fr w5 ho hp => to_here ⟨fr, w5, rfl, ho, hp⟩
        exact ⟨fr, [], w5, fun _ => ⟨ho, by omega, hp⟩, hst⟩
  · obtain ⟨m', ⟨fr, up, w, rfl, h⟩, hst⟩ := law_to (T := fun m => ∃ fr up w, m = lone fr (up ++ [baseF (barF Try.prog).size]) w ∧ (FitB (barP Try.prog) fr up w → E1 w0 n L da D.length dc (.slice la L.length lc) (.slice sa S.length sc) fr up w)) (cs := [baseF (barF Try.prog).size]) (lc := lc) (dv := .slice da D.length dc) (sv := .slice sa S.length sc) (gl := gl) (ol := ol) (re w0 τ d) hn hLl ⟨hB.at_, hB.cell⟩ fun w1 gg gb hI3 => by
      have hD1 : Dirs (re w0 τ d) da gd od D := ⟨hD.at_, hD.cell⟩
      refine all_to (f := lvlB L) (z := zL L) (mz := 255) w1 h1 (by omega) hI3.row (fun j _ => cellB hL j) (by decide) (dirs_below hD1 hI3.low) hI hcap hG fun w2 T0 s0 s1 hs hin htm => ?_
      refine to_here ⟨_, [_], w2, rfl, fun hfit => ⟨hfit, w1, gg, gb, T0, s0, s1, hs, htm, ?_, rfl, rfl⟩⟩
      have lb := (Array.getElem?_eq_some_iff.1 hI3.g0).1
      have lg := row_lt hI3.row
      have lc1 := (Array.getElem?_eq_some_iff.1 hin.c1).1
      have sz : w0.heap.size ≤ w1.heap.size := hI3.low.size
      exact ⟨fun k hk => (hin.low.block k (by omega)).trans (hI3.low.block k hk), ⟨sz, by omega⟩, (hin.low.block gb lb).trans hI3.g0, lb, lg, row_below hI3.row hin.low lg, hin.c0, hin.c1⟩
    exact ⟨fr, up, w, h, hst⟩
end Go.Proofs.Ythbghcebcahlnaa
