/- BoundMore: up to ray.All, and behind it, as a way. (Laid by program: mb.py.) The landed Width and Certain. BoundMore: lists of projections out of others; widths. bound.Run: of bounds of a grid's own, as the law calls it; of bounds that are drawn together already. -/
import Derived.Test.YthbghcebcahlnaaM39
import Derived.Test.YthbghcebcahlnaaM21
import Derived.Test.YthbghcebcahlnaaM36
set_option linter.unusedSimpArgs false
namespace Go.Proofs.Ythbghcebcahlnaa
open Go Go.RowKit Go.Shelf

def body4 (fn : Func) : Code := fn.body.getD .skip
def ops4 (fn : Func) : Array Oper := cops (cfst (csnd (csnd (csnd (body4 fn)))))
def rest4 (fn : Func) : Code := csnd (csnd (csnd (csnd (body4 fn))))
/-- The law at its call of ray.All. -/
def fr4 (fn : Func) (lv dv sv gV : Value) (gb : Nat) : Frame := (Go.Conc.base 4).at ⟨#[lv, dv, sv, undef, undef, undef, .bool false, .pointer (some ⟨gb, 0, none⟩), undef, undef, undef, undef, undef, undef, undef, undef, undef, undef, undef, undef, undef, undef, undef, undef, .bool true, .bool false, lv, gV, undef, gV, dv, undef, undef, undef, undef, undef, undef, undef, undef, undef, undef, undef, undef, undef, undef, undef, undef, undef, undef, undef, undef, undef, undef, undef, undef, undef, undef, undef, undef, undef, undef, undef, undef, undef, undef, undef, undef, undef, undef, undef, undef, undef, undef, undef, undef, undef, undef, undef, undef, undef, undef, undef, undef, undef, undef, undef, undef, undef, undef, undef, undef, undef, undef, undef, undef, undef, undef, undef, undef, undef, undef, undef, undef, undef, undef, undef, undef, undef, undef, undef, undef, undef, undef, undef, undef, undef, undef, undef, undef, undef, undef, undef, undef, undef, undef, undef, undef, undef, undef, undef, undef, undef, undef, undef, undef, undef, undef, undef, undef, undef, undef, undef, undef, undef, undef, undef, undef, undef, undef, undef, undef, undef, undef, undef, undef, undef, undef, undef, undef, undef, undef, undef, undef, undef, undef, undef, undef, undef, undef, undef, undef, undef, undef, undef, undef, undef, undef, undef, undef, undef, undef, undef, undef], []⟩ [.inRegion (ops4 fn) [2, 3, 4, 5, 6, 7, 8], .code (rest4 fn)]
set_option maxRecDepth 100000 in
set_option maxHeartbeats 4000000 in
theorem law_to4 {T : Machine → Prop} {cs : List Frame} {n gl ol lc : Nat} {la : Option Addr} {L : List Int} {dv sv : Value} (w : World) (hn : n = sideB L.length) (hL : L.length ≤ 9223372036854775807) (hB : Bytes w la gl ol L)
    (hl : ∀ w1 gg gb, In3 w w1 n gg gb L → To T (lone (Frame.enter (barP Try.prog) 7 #[gridV n gg (n * n), dv, .int .i64 1] .normal) (fr4 Try.f4 (.slice la L.length lc) dv sv (gridV n gg (n * n)) gb :: cs) w1)) :
    To T (lone (Frame.enter (barP Try.prog) 4 #[.slice la L.length lc, dv, sv] .normal) cs w) := by
  rw [Go.Conc.enter_at _ Bar.func4 rfl]
  have kG := fun w1 (b : Below w.heap.size w w1) => gridAny (cap := lc) hL w1 (bytes_below hB b)
  rw [← hn] at kG
  clear hB hn
  obtain ⟨lv, hlv⟩ : ∃ lv : Value, .slice la L.length lc = lv := ⟨_, rfl⟩
  rw [hlv] at kG hl
  have kG := hide kG
  have hl := hide hl
  have kA := hide (fun w1 => aliveOk w1)
  have e0 : #[lv, dv, sv] ++ Array.replicate (Try.f4.ntmps - #[lv, dv, sv].size) undef = #[lv, dv, sv, undef, undef, undef, undef, undef, undef, undef, undef, undef, undef, undef, undef, undef, undef, undef, undef, undef, undef, undef, undef, undef, undef, undef, undef, undef, undef, undef, undef, undef, undef, undef, undef, undef, undef, undef, undef, undef, undef, undef, undef, undef, undef, undef, undef, undef, undef, undef, undef, undef, undef, undef, undef, undef, undef, undef, undef, undef, undef, undef, undef, undef, undef, undef, undef, undef, undef, undef, undef, undef, undef, undef, undef, undef, undef, undef, undef, undef, undef, undef, undef, undef, undef, undef, undef, undef, undef, undef, undef, undef, undef, undef, undef, undef, undef, undef, undef, undef, undef, undef, undef, undef, undef, undef, undef, undef, undef, undef, undef, undef, undef, undef, undef, undef, undef, undef, undef, undef, undef, undef, undef, undef, undef, undef, undef, undef, undef, undef, undef, undef, undef, undef, undef, undef, undef, undef, undef, undef, undef, undef, undef, undef, undef, undef, undef, undef, undef, undef, undef, undef, undef, undef, undef, undef, undef, undef, undef, undef, undef, undef, undef, undef, undef, undef, undef, undef, undef, undef, undef, undef, undef, undef, undef, undef, undef, undef, undef, undef, undef, undef, undef] := by simp
  rw [hlv, e0]
  clear hlv e0
  refine to_seq (to_wp (K := fun a w1 => a = ⟨#[lv, dv, sv, undef, undef, undef, .bool false, undef, undef, undef, undef, undef, undef, undef, undef, undef, undef, undef, undef, undef, undef, undef, undef, undef, undef, undef, undef, undef, undef, undef, undef, undef, undef, undef, undef, undef, undef, undef, undef, undef, undef, undef, undef, undef, undef, undef, undef, undef, undef, undef, undef, undef, undef, undef, undef, undef, undef, undef, undef, undef, undef, undef, undef, undef, undef, undef, undef, undef, undef, undef, undef, undef, undef, undef, undef, undef, undef, undef, undef, undef, undef, undef, undef, undef, undef, undef, undef, undef, undef, undef, undef, undef, undef, undef, undef, undef, undef, undef, undef, undef, undef, undef, undef, undef, undef, undef, undef, undef, undef, undef, undef, undef, undef, undef, undef, undef, undef, undef, undef, undef, undef, undef, undef, undef, undef, undef, undef, undef, undef, undef, undef, undef, undef, undef, undef, undef, undef, undef, undef, undef, undef, undef, undef, undef, undef, undef, undef, undef, undef, undef, undef, undef, undef, undef, undef, undef, undef, undef, undef, undef, undef, undef, undef, undef, undef, undef, undef, undef, undef, undef, undef, undef, undef, undef, undef, undef, undef, undef, undef, undef, undef, undef, undef], []⟩ ∧ w1 = w) ?c0 ?_)
  case c0 =>
    go_wp2_with fail
  rintro _ w1 ⟨rfl, rfl⟩
  refine to_seq (to_wp (K := fun a w2 => a = ⟨#[lv, dv, sv, undef, undef, undef, .bool false, undef, undef, undef, undef, undef, undef, undef, undef, undef, undef, undef, undef, undef, undef, undef, undef, undef, .bool true, .bool false, undef, undef, undef, undef, undef, undef, undef, undef, undef, undef, undef, undef, undef, undef, undef, undef, undef, undef, undef, undef, undef, undef, undef, undef, undef, undef, undef, undef, undef, undef, undef, undef, undef, undef, undef, undef, undef, undef, undef, undef, undef, undef, undef, undef, undef, undef, undef, undef, undef, undef, undef, undef, undef, undef, undef, undef, undef, undef, undef, undef, undef, undef, undef, undef, undef, undef, undef, undef, undef, undef, undef, undef, undef, undef, undef, undef, undef, undef, undef, undef, undef, undef, undef, undef, undef, undef, undef, undef, undef, undef, undef, undef, undef, undef, undef, undef, undef, undef, undef, undef, undef, undef, undef, undef, undef, undef, undef, undef, undef, undef, undef, undef, undef, undef, undef, undef, undef, undef, undef, undef, undef, undef, undef, undef, undef, undef, undef, undef, undef, undef, undef, undef, undef, undef, undef, undef, undef, undef, undef, undef, undef, undef, undef, undef, undef, undef, undef, undef, undef, undef, undef, undef, undef, undef, undef, undef, undef], []⟩ ∧ Below w1.heap.size w1 w2) ?c1 ?_)
  case c1 =>
    go_wp2_with fail
    refine (unhide kA _).mono ?_
    rintro e w2 ⟨rfl, hb⟩
    have hb := hide hb
    go_wp2_with fail
  rintro _ w2 ⟨rfl, hb2⟩
  have B2 := hide hb2
  clear hb2
  refine to_seq (to_wp (K := fun a w3 => ∃ gg gb, a = ⟨#[lv, dv, sv, undef, undef, undef, .bool false, .pointer (some ⟨gb, 0, none⟩), undef, undef, undef, undef, undef, undef, undef, undef, undef, undef, undef, undef, undef, undef, undef, undef, .bool true, .bool false, lv, gridV n gg (n * n), undef, undef, undef, undef, undef, undef, undef, undef, undef, undef, undef, undef, undef, undef, undef, undef, undef, undef, undef, undef, undef, undef, undef, undef, undef, undef, undef, undef, undef, undef, undef, undef, undef, undef, undef, undef, undef, undef, undef, undef, undef, undef, undef, undef, undef, undef, undef, undef, undef, undef, undef, undef, undef, undef, undef, undef, undef, undef, undef, undef, undef, undef, undef, undef, undef, undef, undef, undef, undef, undef, undef, undef, undef, undef, undef, undef, undef, undef, undef, undef, undef, undef, undef, undef, undef, undef, undef, undef, undef, undef, undef, undef, undef, undef, undef, undef, undef, undef, undef, undef, undef, undef, undef, undef, undef, undef, undef, undef, undef, undef, undef, undef, undef, undef, undef, undef, undef, undef, undef, undef, undef, undef, undef, undef, undef, undef, undef, undef, undef, undef, undef, undef, undef, undef, undef, undef, undef, undef, undef, undef, undef, undef, undef, undef, undef, undef, undef, undef, undef, undef, undef, undef, undef, undef, undef], []⟩ ∧ In3 w1 w3 n gg gb L) ?c2 ?_)
  case c2 =>
    go_wp2_with fail
    refine (unhide kG _ (unhide B2)).mono ?_
    rintro e w3 ⟨g', rfl, hg', hrow, hb3⟩
    have hI : Hid (In3 w1 (w3.alloc (.cells #[.int .i64 n, .slice (some ⟨g', 0, none⟩) (n * n : Nat) (n * n : Nat)] 27)) n g' w3.heap.size L) := by
      have s3 : w1.heap.size ≤ w3.heap.size := Nat.le_trans (unhide B2).size hb3.size
      have hlt := row_lt hrow
      have q0 := heap_alloc_new w3 (.cells #[.int .i64 n, .slice (some ⟨g', 0, none⟩) (n * n : Nat) (n * n : Nat)] 27)
      have bb := (Below.refl _ w3).alloc (Nat.le_refl _) (.cells #[.int .i64 n, .slice (some ⟨g', 0, none⟩) (n * n : Nat) (n * n : Nat)] 27)
      exact ⟨(((unhide B2).trans (hb3.mono (unhide B2).size))).trans (bb.mono s3), s3, q0, row_below hrow bb hlt⟩
    clear hg' hrow hb3
    go_wp2_with fail
    exact ⟨g', w3.heap.size, ⟨rfl, rfl⟩, unhide hI⟩
  rintro _ w3 ⟨gg, gb, rfl, hI⟩
  have c0 : w3.cell? ⟨gb, 0, none⟩ = some (.int .i64 n) := by simp [World.cell?, hI.g0]
  have c1 : w3.cell? ⟨gb, 1, none⟩ = some (.slice (some ⟨gg, 0, none⟩) (n * n : Nat) (n * n : Nat)) := by simp [World.cell?, hI.g0]
  refine to_seq (to_region ?_)
  refine (?_ : To T (lone ((Go.Conc.base 4).at ⟨#[lv, dv, sv, undef, undef, undef, .bool false, .pointer (some ⟨gb, 0, none⟩), undef, undef, undef, undef, undef, undef, undef, undef, undef, undef, undef, undef, undef, undef, undef, undef, .bool true, .bool false, lv, gridV n gg (n * n), undef, undef, undef, undef, undef, undef, undef, undef, undef, undef, undef, undef, undef, undef, undef, undef, undef, undef, undef, undef, undef, undef, undef, undef, undef, undef, undef, undef, undef, undef, undef, undef, undef, undef, undef, undef, undef, undef, undef, undef, undef, undef, undef, undef, undef, undef, undef, undef, undef, undef, undef, undef, undef, undef, undef, undef, undef, undef, undef, undef, undef, undef, undef, undef, undef, undef, undef, undef, undef, undef, undef, undef, undef, undef, undef, undef, undef, undef, undef, undef, undef, undef, undef, undef, undef, undef, undef, undef, undef, undef, undef, undef, undef, undef, undef, undef, undef, undef, undef, undef, undef, undef, undef, undef, undef, undef, undef, undef, undef, undef, undef, undef, undef, undef, undef, undef, undef, undef, undef, undef, undef, undef, undef, undef, undef, undef, undef, undef, undef, undef, undef, undef, undef, undef, undef, undef, undef, undef, undef, undef, undef, undef, undef, undef, undef, undef, undef, undef, undef, undef, undef, undef, undef, undef, undef], []⟩ [.inRegion (ops4 Try.f4) [0, 1, 2, 3, 4, 5, 6, 7, 8], .code (rest4 Try.f4)]) cs w3))
  refine to_value (o := { dst := some 29, op := .load 27 (.tmp 7), type := 27, pos := "law.go:121", after := #[], guard := none }) (by kernel_rfl) (aS_want rfl _) (by simp [Go.Conc.base]) (v := gridV n gg (n * n)) (w' := w3) (by simp [go_sem, c0, c1, gridV]) ?_
  refine to_value (o := { dst := some 30, op := .move (.tmp 1), type := 23, pos := "law.go:121", after := #[], guard := none }) (by kernel_rfl) (aS_want rfl _) (by simp [Go.Conc.base]) (v := dv) (w' := w3) (by simp [go_sem]) ?_
  exact to_enter (o := { dst := some 31, op := .call { callee := .value (.func 7), args := #[.tmp 29, .tmp 30, .const (.int .i64 1)], argTypes := #[27, 23, 3] }, type := 33, pos := "law.go:121", after := #[⟨0, .data⟩, ⟨1, .data⟩], guard := none }) (by kernel_rfl) (aS_want rfl _) (by simp [Go.Conc.base]) (f := 7) (args := #[gridV n gg (n * n), dv, .int .i64 1]) (w' := w3) (by simp [go_sem]) (unhide hl w3 gg gb hI)
def op4 (fn : Func) (i : Nat) : Oper := ((ops4 fn)[i]?).getD ⟨none, .move (.tmp 0), 0, "", #[], none⟩
set_option maxRecDepth 100000 in
set_option maxHeartbeats 4000000 in
theorem law_upto4 {T : Machine → Prop} {cs : List Frame} {w4 : World} {lv dv sv gV : Value} {gb gq m : Nat} {n : Int}
    (h : To T (lone ((Go.Conc.base 4).at ⟨#[lv, dv, sv, undef, undef, undef, .bool false, .pointer (some ⟨gb, 0, none⟩), .pointer (some ⟨w4.heap.size, 0, none⟩), .int .i64 0, undef, undef, undef, undef, undef, undef, undef, undef, undef, undef, undef, undef, undef, undef, .bool true, .bool false, lv, gV, .tuple #[.agg #[.int .i64 n, .slice (some ⟨gq, 0, none⟩) m m], .int .i64 0], gV, dv, .tuple #[.agg #[.int .i64 n, .slice (some ⟨gq, 0, none⟩) m m], .int .i64 0], .agg #[.int .i64 n, .slice (some ⟨gq, 0, none⟩) m m], .int .i64 0, undef, undef, undef, undef, undef, undef, undef, undef, undef, undef, undef, undef, undef, undef, undef, undef, undef, undef, undef, undef, undef, undef, undef, undef, undef, undef, undef, undef, undef, undef, undef, undef, undef, undef, undef, undef, undef, undef, undef, undef, undef, undef, undef, undef, undef, undef, undef, undef, undef, undef, undef, undef, undef, undef, undef, undef, undef, undef, undef, undef, undef, undef, undef, undef, undef, undef, undef, undef, undef, undef, undef, undef, undef, undef, undef, undef, undef, undef, undef, undef, undef, undef, undef, undef, undef, undef, undef, undef, undef, undef, undef, undef, undef, undef, undef, undef, undef, undef, undef, undef, undef, undef, undef, undef, undef, undef, undef, undef, undef, undef, undef, undef, undef, undef, undef, undef, undef, undef, undef, undef, undef, undef, undef, undef, undef, undef, undef, undef, undef, undef, undef, undef, undef, undef, undef, undef, undef, undef, undef, undef, undef, undef, undef, undef, undef, undef, undef, undef, undef], []⟩ [.code (rest4 Try.f4)]) cs (w4.alloc (.cells #[.int .i64 n, .slice (some ⟨gq, 0, none⟩) m m] 31)))) :
    To T (lone ((fr4 Try.f4 lv dv sv gV gb).finish (.tuple #[.agg #[.int .i64 n, .slice (some ⟨gq, 0, none⟩) m m], .int .i64 0])) cs w4) := by
  have d3 : (op4 Try.f4 3).dst = some 28 := by kernel_rfl
  have d4 : (op4 Try.f4 4).dst = some 32 := by kernel_rfl
  have d5 : (op4 Try.f4 5).dst = some 33 := by kernel_rfl
  have d6 : (op4 Try.f4 6).dst = some 8 := by kernel_rfl
  have d7 : (op4 Try.f4 7).dst = none := by kernel_rfl
  unfold fr4
  rw [Frame.finish_at, show ((ops4 Try.f4)[2]?).bind (·.dst) = some 31 from by kernel_rfl]
  refine to_value (o := op4 Try.f4 3) (by kernel_rfl) (aS_want (by kernel_rfl) _) (by simp [Go.Conc.base]) (v := .tuple #[.agg #[.int .i64 n, .slice (some ⟨gq, 0, none⟩) m m], .int .i64 0]) (w' := w4) (run_mv _ (show (op4 Try.f4 3).op = .move (.tmp 31) by kernel_rfl) rfl) ?_
  refine to_value (o := op4 Try.f4 4) (by kernel_rfl) (aS_want (by kernel_rfl) _) (by simp [Go.Conc.base]) (v := .agg #[.int .i64 n, .slice (some ⟨gq, 0, none⟩) m m]) (w' := w4) (by unfold execOp; rw [show (op4 Try.f4 4).op = .extract (.tmp 28) 0 by kernel_rfl]; simp [go_sem, Act.put, d3, d4, d5, d6, d7]) ?_
  refine to_value (o := op4 Try.f4 5) (by kernel_rfl) (aS_want (by kernel_rfl) _) (by simp [Go.Conc.base]) (v := .int .i64 0) (w' := w4) (by unfold execOp; rw [show (op4 Try.f4 5).op = .extract (.tmp 28) 1 by kernel_rfl]; simp [go_sem, Act.put, d3, d4, d5, d6, d7]) ?_
  refine to_value (o := op4 Try.f4 6) (by kernel_rfl) (aS_want (by kernel_rfl) _) (by simp [Go.Conc.base]) (v := .pointer (some ⟨w4.heap.size, 0, none⟩)) (w' := w4.alloc (.cells #[.int .i64 0, .slice none 0 0] 31)) (by unfold execOp; rw [show (op4 Try.f4 6).op = .alloc 31 by kernel_rfl]; simp [go_sem, Act.put, d3, d4, d5, d6, d7]) ?_
  refine to_none (o := op4 Try.f4 7) (by kernel_rfl) (aS_want (by kernel_rfl) _) (by simp [Go.Conc.base]) (w' := w4.alloc (.cells #[.int .i64 n, .slice (some ⟨gq, 0, none⟩) m m] 31)) (by unfold execOp; rw [show (op4 Try.f4 7).op = .store 31 (.tmp 8) (.tmp 32) by kernel_rfl]; simp [go_sem, Act.put, d3, d4, d5, d6, d7]) ?_
  refine to_value (o := op4 Try.f4 8) (by kernel_rfl) (aS_want (by kernel_rfl) _) (by simp [Go.Conc.base]) (v := .int .i64 0) (w' := w4.alloc (.cells #[.int .i64 n, .slice (some ⟨gq, 0, none⟩) m m] 31)) (by unfold execOp; rw [show (op4 Try.f4 8).op = .assign (.tmp 33) by kernel_rfl]; simp [go_sem, Act.put, d3, d4, d5, d6, d7]) ?_
  exact to_out h
end Go.Proofs.Ythbghcebcahlnaa

namespace Go.Proofs.Ythbghcebcahlnaa
open Go.RowKit

set_option maxRecDepth 100000 in
set_option maxHeartbeats 3200000 in
theorem boundWidth : WidthOk 11 := by
  intro A B u v w lA lB hu hv
  obtain ⟨a1, cap1, g1, o1, rfl, h1⟩ := hu
  obtain ⟨a2, cap2, g2, o2, rfl, h2⟩ := hv
  have s1 := hide h1.at_
  have s2 := hide h2.at_
  have t1 := hide (fun i (hi : i < A.length) => h1.get hi)
  have t2 := hide (fun i (hi : i < B.length) => h2.get hi)
  clear h1 h2
  have hw : widS A B = widK A B (min A.length B.length) := rfl
  rw [hw]
  clear hw
  generalize A.length = N at *
  generalize B.length = M at *
  obtain ⟨K, hK⟩ : ∃ K, min N M = K := ⟨_, rfl⟩
  rw [hK]
  have hd : ((M : Int) < (N : Int)) = True ∧ K = M ∨ ((M : Int) < (N : Int)) = False ∧ K = N := by
    rcases Nat.lt_or_ge M N with h | h
    · exact Or.inl ⟨by simp; omega, by omega⟩
    · exact Or.inr ⟨by simp; omega, by omega⟩
  rcases hd with ⟨hm, e⟩ | ⟨hm, e⟩
  all_goals
    subst e
    replace hK := hide hK
    go_enter Bar.func11, Bar.ntmps11
    go_wp2_with fail
    clear hm
    go_loopw [5, 12] (fun sv iv wr => ∃ i : Nat, i ≤ K ∧ iv = .int .i64 i ∧ sv = .int .i64 (widK A B i) ∧ Hid (wr.heap = w.heap) ∧ Hid (Below w.heap.size w wr)) (fun _ iv _ => K - (intOf iv).toNat)
    case atStart => exact ⟨0, Nat.zero_le _, rfl, rfl, rfl, Below.refl _ _⟩
    case round =>
      obtain ⟨i, hi, rfl, rfl, hh, hB⟩ := hrel
      by_cases c1 : i < K
      · have q1 : ((i : Int) < (K : Int)) = True := by simp; omega
        have hK' := unhide hK
        first | have d1 : i < N := by omega | have d1 : i < M := by omega
        have k1 := (heapCell (unhide hh) _).trans (unhide t1 i (by omega))
        have k2 := (heapCell (unhide hh) _).trans (unhide t2 i (by omega))
        rw [(unhide s1 (by omega)).1, (unhide s2 (by omega)).1]
        have hst : widK A B (i + 1) = wrap64 (widK A B i + wrap64 (B.getD i 0 - A.getD i 0)) := rfl
        have hst' := hide hst
        clear hst hK'
        generalize A.getD i 0 = x at *
        generalize B.getD i 0 = y at *
        go_wp2_with fail
        go_quiet (fail)
        go_wp2_with fail
        have hb := unhide hB
        exact ⟨⟨i + 1, by omega, by go_num, by rw [unhide hst'], unhide hh, ⟨hb.os, hb.tape, hb.output, hb.size, hb.block⟩⟩, by simp [intOf]; omega⟩
      · have q1 : ((i : Int) < (K : Int)) = False := by simp; omega
        obtain rfl : i = K := by omega
        go_wp2_with fail
        go_ret
        exact ⟨rfl, unhide hB⟩

theorem certK_get (A B : List Int) {k i : Nat} (hi : i < k) : (certK A B k)[i]? = some (A.getD i 0 == B.getD i 0) := by
  unfold certK
  rw [List.getElem?_map, List.getElem?_range hi]
  rfl

theorem vrow_bools {w : World} {g n : Nat} {f : Nat → Bool} {L : List Bool} (h : VRow w 4 g n (fun i => .bool (f i))) (hl : L.length = n) (hL : ∀ i, i < n → L[i]? = some (f i)) : Bools w (.slice (some ⟨g, 0, none⟩) n n) L := by
  refine ⟨some ⟨g, 0, none⟩, n, g, 0, by rw [hl], ⟨fun _ => ⟨rfl, vrow_lt h⟩, fun i c hi => ?_⟩⟩
  have hlt : i < n := by have := (List.getElem?_eq_some_iff.1 hi).1; omega
  rw [hL i hlt] at hi
  obtain rfl := Option.some.inj hi
  rw [Nat.zero_add]
  exact vrow_at h hlt

end Go.Proofs.Ythbghcebcahlnaa

namespace Go.Proofs.Ythbghcebcahlnaa
open Go.RowKit Go.Shelf

theorem lk_mem {n : Int} {ps : List PD} {L : List Nat × Int} : L ∈ lk n ps ps.length 0 ↔ ∃ p, p ∈ ps ∧ L ∈ allS' n p := by
  rw [lk_all, List.mem_flatMap]
/-- Some of the projections, at another place. -/
theorem Asked.sub {n : Nat} {ps qs : List PD} {g : Nat → Int} {gq gr : Nat} {w w' : World} (h : Asked n ps g gq w) (few : qs.length ≤ 64) (hq : ∀ p, p ∈ qs → p ∈ ps) (hp : ProjsAt w' gr qs) : Asked n qs g gr w' := by
  have key : ∀ i, i < qs.length → ∃ j, j < ps.length ∧ ps.getD j p0 = qs.getD i p0 := fun i hi => by
    have hm : qs.getD i p0 ∈ qs := by
      rw [List.getD_eq_getElem?_getD, List.getElem?_eq_getElem hi]
      exact List.getElem_mem hi
    exact pd_mem (hq _ hm)
  refine ⟨fun i hi => ?_, fun i j hi hj => ?_, ⟨h.so.n16, few, fun i hi => ?_, fun i j hi => ?_, fun i j k hi => ?_, fun i j hi => ?_⟩, fun L hL => ?_, hp⟩
  · obtain ⟨k, hk, e⟩ := key i hi
    rw [← e]
    exact h.hd k hk
  · obtain ⟨k, hk, e⟩ := key i hi
    rw [← e] at hj ⊢
    exact h.hz k j hk hj
  · obtain ⟨k, hk, e⟩ := key i hi
    rw [← e]
    exact h.so.bins k hk
  · obtain ⟨k, hk, e⟩ := key i hi
    rw [← e]
    exact h.so.size k j hk
  · obtain ⟨q, hk, e⟩ := key i hi
    rw [← e]
    exact h.so.cell q j k hk
  · obtain ⟨k, hk, e⟩ := key i hi
    rw [← e]
    exact h.so.conv k j hk
  · obtain ⟨p, hp, hl⟩ := lk_mem.1 hL
    exact h.own L (lk_mem.2 ⟨p, hq p hp, hl⟩)
theorem ProjsAt.take {w : World} {gq m : Nat} {ps : List PD} (h : ProjsAt w gq ps) : ProjsAt w gq (ps.take m) := by
  have key : ∀ i, i < (ps.take m).length → i < ps.length ∧ (ps.take m).getD i p0 = ps.getD i p0 := fun i hi => by
    rw [List.length_take] at hi
    refine ⟨by omega, ?_⟩
    rw [List.getD_eq_getElem?_getD, List.getD_eq_getElem?_getD, List.getElem?_take, if_pos (by omega)]
  refine ⟨h.lt, fun i hi => ?_, fun i hi => ?_⟩
  · obtain ⟨k, e⟩ := key i hi
    rw [e]
    exact h.cells i k
  · obtain ⟨k, e⟩ := key i hi
    rw [e]
    exact h.bins i k
/-- The widest bounds, of functions that are alike. -/
theorem Great.cong {M : Nat} {lines : List (List Nat × Int)} {lo0 hi0 lo1 hi1 lo hi : Nat → Int} (h : Great M lines lo0 hi0 lo hi) (h1 : ∀ i, i < M → lo0 i = lo1 i) (h2 : ∀ i, i < M → hi0 i = hi1 i) : Great M lines lo1 hi1 lo hi :=
  ⟨h.stab, fun i hi => by rw [← h1 i hi, ← h2 i hi]; exact h.ins i hi, fun l k hs hw => h.most l k hs fun i hi => by rw [h1 i hi, h2 i hi]; exact hw i hi⟩
theorem widK_tab {M : Nat} {lo hi : Nat → Int} (h : ∀ i, i < M → 0 ≤ lo i ∧ lo i ≤ hi i ∧ hi i ≤ 255) (hM : M ≤ 4096) : ∀ k, k ≤ M → widK (tab M lo) (tab M hi) k = sumL (fun i => hi i - lo i) (List.range k) ∧ 0 ≤ sumL (fun i => hi i - lo i) (List.range k) ∧ sumL (fun i => hi i - lo i) (List.range k) ≤ 255 * k
  | 0, _ => by simp [widK, sumL]
  | k + 1, hk => by
    obtain ⟨e, b1, b2⟩ := widK_tab h hM k (by omega)
    have hb := h k (by omega)
    have es : sumL (fun i => hi i - lo i) (List.range (k + 1)) = sumL (fun i => hi i - lo i) (List.range k) + (hi k - lo k) := by
      rw [List.range_succ, sumL_append]
      simp [sumL]
    refine ⟨?_, by rw [es]; omega, by rw [es]; omega⟩
    unfold widK
    rw [e, tab_get (by omega), tab_get (by omega), es]
    have e1 : wrap64 (hi k - lo k) = hi k - lo k := wrap_in (by omega) (by omega)
    rw [e1, wrap_in (by omega) (by omega)]
theorem wid_less {M : Nat} {a b c d : Nat → Int} (hab : ∀ i, i < M → 0 ≤ a i ∧ a i ≤ b i ∧ b i ≤ 255) (hcd : ∀ i, i < M → 0 ≤ c i ∧ c i ≤ d i ∧ d i ≤ 255) (hw : Within M c d a b) (hM : M ≤ 4096) : widS (tab M c) (tab M d) ≤ widS (tab M a) (tab M b) := by
  unfold widS
  rw [tab_len, tab_len, tab_len, tab_len, Nat.min_self, (widK_tab hcd hM M (Nat.le_refl _)).1, (widK_tab hab hM M (Nat.le_refl _)).1]
  refine sumL_mono fun i hi => ?_
  have hi := List.mem_range.1 hi
  have := hw i hi
  omega
end Go.Proofs.Ythbghcebcahlnaa

namespace Go.Proofs.Ythbghcebcahlnaa
open Go.RowKit Go.Shelf

/-- A cell that is allowed stays. -/
theorem dStep_still {M : Nat} {g : Nat → Int} {L : List Nat × Int} (hL : Own M g L) {p : Nat} (hp : p ∈ L.1) {lo hi : Nat → Int} (hA : Abt M g lo hi) (hf : Fine1 L lo hi p) : dStep L.2 p ⟨sumL lo L.1, sumL hi L.1, false, lo, hi⟩ = some ⟨sumL lo L.1, sumL hi L.1, false, lo, hi⟩ := by
  obtain ⟨a1, a2, a3, a4⟩ := hA p (hL.ins p hp)
  have bl := sumL_bounds (f := lo) (L := L.1) fun c hc => by have := hA c (hL.ins c hc); omega
  have bh := sumL_bounds (f := hi) (L := L.1) fun c hc => by have := hA c (hL.ins c hc); omega
  have bg := sumL_bounds (f := g) (L := L.1) fun c hc => by have := hA c (hL.ins c hc); omega
  have hs := hL.sum
  have hn := hL.len
  have e1 : wrap64 (sumL lo L.1 - lo p) = sumL lo L.1 - lo p := wrap_in (by omega) (by omega)
  have e2 : wrap64 (sumL hi L.1 - hi p) = sumL hi L.1 - hi p := wrap_in (by omega) (by omega)
  have e3 : wrap64 (L.2 - (sumL hi L.1 - hi p)) = L.2 - (sumL hi L.1 - hi p) := wrap_in (by omega) (by omega)
  have e4 : wrap64 (L.2 - (sumL lo L.1 - lo p)) = L.2 - (sumL lo L.1 - lo p) := wrap_in (by omega) (by omega)
  have f1 : L.2 - (sumL hi L.1 - hi p) ≤ lo p := hf.1
  have f2 : hi p ≤ L.2 - (sumL lo L.1 - lo p) := hf.2
  have e5 : wrap64 (sumL lo L.1 - lo p + lo p) = sumL lo L.1 := by rw [wrap_in (by omega) (by omega)]; omega
  have e6 : wrap64 (sumL hi L.1 - hi p + hi p) = sumL hi L.1 := by rw [wrap_in (by omega) (by omega)]; omega
  have u1 : updI lo p (lo p) = lo := by funext i; unfold updI; split <;> simp_all
  have u2 : updI hi p (hi p) = hi := by funext i; unfold updI; split <;> simp_all
  unfold dStep
  dsimp only
  rw [e1, e2, e3, e4, if_neg (show ¬ lo p < L.2 - (sumL hi L.1 - hi p) by omega), if_neg (show ¬ L.2 - (sumL lo L.1 - lo p) < hi p by omega), if_neg (by omega), e5, e6, u1, u2]
  simp
theorem dK_still {M : Nat} {g : Nat → Int} {L : List Nat × Int} (hL : Own M g L) {lo hi : Nat → Int} (hA : Abt M g lo hi) (hf : ∀ c, c ∈ L.1 → Fine1 L lo hi c) : ∀ k, k ≤ L.1.length → dK L.2 L.1 ⟨sumL lo L.1, sumL hi L.1, false, lo, hi⟩ k = some ⟨sumL lo L.1, sumL hi L.1, false, lo, hi⟩
  | 0, _ => rfl
  | k + 1, hk => by
    have hp := getD_mem (show k < L.1.length by omega)
    unfold dK
    rw [dK_still hL hA hf k (by omega)]
    exact dStep_still hL hp hA (hf _ hp)
theorem sweep_still {M : Nat} {g : Nat → Int} {lines : List (List Nat × Int)} (hO : Owns M g lines) {lo hi : Nat → Int} (hA : Abt M g lo hi) (hs : Stable lines lo hi) : ∀ k, k ≤ lines.length → swKp lines ⟨false, lo, hi⟩ k = some ⟨false, lo, hi⟩
  | 0, _ => rfl
  | k + 1, hk => by
    have hm : lines.getD k ([], 0) ∈ lines := by
      rw [List.getD_eq_getElem?_getD, List.getElem?_eq_getElem (by omega)]
      exact List.getElem_mem _
    have hL := hO _ hm
    have hn := hL.len
    have hin := hL.ins
    have b : ∀ f : Nat → Int, (∀ i, i < M → 0 ≤ f i ∧ f i ≤ 255) → sumK f (lines.getD k ([], 0)).1 (lines.getD k ([], 0)).1.length = sumL f (lines.getD k ([], 0)).1 := fun f hf => sumK_all (by omega) fun c hc => hf c (hin c hc)
    unfold swKp
    rw [sweep_still hO hA hs k (by omega)]
    show swStepP _ _ = _
    unfold swStepP drawS
    dsimp only
    rw [b lo fun i hi => by have := hA i hi; omega, b hi fun i hi => by have := hA i hi; omega, dK_still hL hA (fun c hc => hs _ hm c hc) _ (Nat.le_refl _)]
    rfl
theorem sumL_cong {f g : Nat → Int} {L : List Nat} (h : ∀ c, c ∈ L → f c = g c) : sumL f L = sumL g L := Int.le_antisymm (sumL_mono fun c hc => Int.le_of_eq (h c hc)) (sumL_mono fun c hc => Int.le_of_eq (h c hc).symm)
theorem Stable.cong {M : Nat} {g : Nat → Int} {lines : List (List Nat × Int)} (hO : Owns M g lines) {lo hi lo1 hi1 : Nat → Int} (h : Stable lines lo hi) (h1 : ∀ i, i < M → lo1 i = lo i) (h2 : ∀ i, i < M → hi1 i = hi i) : Stable lines lo1 hi1 := fun L hL c hc => by
  have hin := (hO L hL).ins
  rw [sumL_cong fun c hc => h1 c (hin c hc), sumL_cong fun c hc => h2 c (hin c hc), h1 c (hin c hc), h2 c (hin c hc)]
  exact h L hL c hc
/-- What Run leaves, of two rows of bounds. -/
def RunP (n M : Nat) (ps : List PD) (L : List Int) (lo hi : Nat → Int) (w : World) (e : Ending) (w' : World) : Prop :=
  (e = .returned (.tuple #[.slice none 0 0, .slice none 0 0, .int .i64 112]) ∨ ∃ gl cl gh ch lo' hi', e = .returned (.tuple #[.slice (some ⟨gl, 0, none⟩) M cl, .slice (some ⟨gh, 0, none⟩) M ch, .int .i64 0]) ∧
    IRow w' gl M lo' ∧ IRow w' gh M hi' ∧ Great M (lk n ps ps.length 0) lo hi lo' hi' ∧ Abt M (fun k => (zL L k).1) lo' hi') ∧ Below w.heap.size w w'
theorem runAt {n M gq cq gl cl gh ch : Nat} {ps : List PD} {L : List Int} {lo hi : Nat → Int} (h1 : 1 ≤ n) (h2 : n ≤ 8) (hM : n * n = M) (W : World) (ha : Asked n ps (fun k => (zL L k).1) gq W) (hA : Abt M (fun k => (zL L k).1) lo hi) (r1 : IRow W gl M lo) (r2 : IRow W gh M hi) :
    Calls (barP Try.prog) 9 #[.int .i64 n, .slice (some ⟨gq, 0, none⟩) ps.length cq, .slice (some ⟨gl, 0, none⟩) M cl, .slice (some ⟨gh, 0, none⟩) M ch] W (RunP n M ps L lo hi W) := by
  subst hM
  have hlev : levs n (tab (n * n) lo) (tab (n * n) hi) = true := levs_tab (fun k hk => by have := hA k hk; dsimp only at this; omega) (fun k hk => by have := hA k hk; dsimp only at this; omega)
  have hA2 : Abt (tab (n * n) lo).length (fun k => (zL L k).1) (fun k => (tab (n * n) lo).getD k 0) (fun k => (tab (n * n) hi).getD k 0) := by
    intro k hk
    rw [tab_len] at hk
    have := hA k hk
    dsimp only
    rw [tab_get hk, tab_get hk]
    exact this
  refine (runOwn (cq := cq) h1 (by omega) hlev ha.hd ha.hz ha.so (by rw [tab_len]; exact ha.own) hA2 W (ints_row (cap := cl) r1) (ints_row (cap := ch) r2) ha.at_).mono ?_
  rintro e w' ⟨hc, hb⟩
  refine ⟨?_, hb⟩
  rcases hc with rfl | ⟨gl', cl', gh', ch', lo', hi', rfl, q1, q2, q3, q4⟩
  · exact .inl rfl
  · rw [tab_len] at *
    exact .inr ⟨gl', cl', gh', ch', lo', hi', rfl, q1, q2, q3.cong (fun i hi => tab_get hi) (fun i hi => tab_get hi), q4⟩
/-- Run of bounds that no line draws further together: they come back. -/
theorem runDone {n M gq cq gl cl gh ch : Nat} {ps : List PD} {L : List Int} {lo hi : Nat → Int} (h1 : 1 ≤ n) (h2 : n ≤ 8) (hM : n * n = M) (hp : 1 ≤ ps.length) (W : World) (ha : Asked n ps (fun k => (zL L k).1) gq W) (hA : Abt M (fun k => (zL L k).1) lo hi) (hs : Stable (lk n ps ps.length 0) lo hi) (r1 : IRow W gl M lo) (r2 : IRow W gh M hi) :
    Calls (barP Try.prog) 9 #[.int .i64 n, .slice (some ⟨gq, 0, none⟩) ps.length cq, .slice (some ⟨gl, 0, none⟩) M cl, .slice (some ⟨gh, 0, none⟩) M ch] W fun e w' =>
      ∃ gl' cl' gh' ch', e = .returned (.tuple #[.slice (some ⟨gl', 0, none⟩) M cl', .slice (some ⟨gh', 0, none⟩) M ch', .int .i64 0]) ∧ IRow w' gl' M lo ∧ IRow w' gh' M hi ∧ Below W.heap.size W w' := by
  subst hM
  have hlev : levs n (tab (n * n) lo) (tab (n * n) hi) = true := levs_tab (fun k hk => by have := hA k hk; dsimp only at this; omega) (fun k hk => by have := hA k hk; dsimp only at this; omega)
  have hA2 : Abt (n * n) (fun k => (zL L k).1) (fun k => (tab (n * n) lo).getD k 0) (fun k => (tab (n * n) hi).getD k 0) := by
    intro k hk
    have := hA k hk
    dsimp only
    rw [tab_get hk, tab_get hk]
    exact this
  have hs2 := Stable.cong (lo1 := fun k => (tab (n * n) lo).getD k 0) (hi1 := fun k => (tab (n * n) hi).getD k 0) ha.own hs (fun i hi => tab_get hi) (fun i hi => tab_get hi)
  have hst : States (lk n ps ps.length 0) 0 (fun t => ⟨t == 0, fun k => (tab (n * n) lo).getD k 0, fun k => (tab (n * n) hi).getD k 0⟩) := by
    refine ⟨fun t ht => ?_, fun t ht => by omega, rfl⟩
    exact sweep_still ha.own hA2 hs2 _ (Nat.le_refl _)
  have hx1 : 1 ≤ (lk n ps ps.length 0).length := by
    have hm := (ha.hd 0 (by omega)).2.2
    rw [lk_all]
    match ps, hp, hm with
    | p :: r, _, hm =>
      rw [List.flatMap_cons, List.length_append, allS_len]
      have : 1 ≤ p.nb := hm
      omega
  have hx2 : (lk n ps ps.length 0).length ≤ 100000 := by
    rw [lk_all]
    have := flat_len n ps fun p hp => by
      obtain ⟨i, hi, rfl⟩ := pd_mem hp
      exact (ha.so.bins i hi).1
    have := ha.so.few
    omega
  refine (runOk (cq := cq) (T := 0) h1 (by omega) hlev ha.so.few (fun i hi => ⟨(ha.hd i hi).1, (ha.hd i hi).2.1, by have := (ha.so.bins i hi).1; omega⟩) ha.hz ha.so hx1 hx2 (fun x hx => by rw [tab_len]; exact (ha.own x hx).fit) (by omega) hst rfl rfl (fun i hi => by
    rw [tab_len] at hi
    have := hA2 i hi
    dsimp only at this ⊢
    omega) W (ints_row (cap := cl) r1) (ints_row (cap := ch) r2) ha.at_).mono ?_
  rintro e w' ⟨gl', cl', gh', ch', rfl, q1, q2, hb⟩
  rw [tab_len] at *
  exact ⟨gl', cl', gh', ch', rfl, vrow_ext q1 (fun i hi => by dsimp only; rw [tab_get hi]), vrow_ext q2 (fun i hi => by dsimp only; rw [tab_get hi]), hb⟩
end Go.Proofs.Ythbghcebcahlnaa
