/- BoundMore: up to ray.All, and behind it, as a way. (Laid by program: mb.py.) -/
import Derived.Test.YthbghcebcahlnaaLSD
set_option linter.unusedSimpArgs false
namespace Go.Proofs.Ythbghcebcahlnaa
open Go Go.RowKit Go.Shelf

def body4 (fn : Func) : Code := fn.body.getD .skip
def ops4 (fn : Func) : Array Oper := cops (cfst (csnd (csnd (csnd (body4 fn)))))
def rest4 (fn : Func) : Code := csnd (csnd (csnd (csnd (body4 fn))))
/-- The law at its call of ray.All. -/
def fr4 (fn : Func) (lv dv sv gV : Value) (gb : Nat) : Frame := (Go.Conc.base 4).at ⟨#[lv, dv, sv, undef, undef, undef, .bool false, .pointer (some ⟨gb, 0, none⟩), undef, undef, undef, undef, undef, undef, undef, undef, undef, undef, undef, undef, undef, undef, undef, undef, .bool true, .bool false, lv, gV, undef, gV, dv, undef, undef, undef, undef, undef, undef, undef, undef, undef, undef, undef, undef, undef, undef, undef, undef, undef, undef, undef, undef, undef, undef, undef, undef, undef, undef, undef, undef, undef, undef, undef, undef, undef, undef, undef, undef, undef, undef, undef, undef, undef, undef, undef, undef, undef, undef, undef, undef, undef, undef, undef, undef, undef, undef, undef, undef, undef, undef, undef, undef, undef, undef, undef, undef, undef, undef, undef, undef, undef, undef, undef, undef, undef, undef, undef, undef, undef, undef, undef, undef, undef, undef, undef, undef, undef, undef, undef, undef, undef, undef, undef, undef, undef, undef, undef, undef, undef, undef, undef, undef, undef, undef, undef, undef, undef, undef, undef, undef, undef, undef, undef, undef, undef, undef, undef, undef, undef, undef, undef, undef, undef, undef, undef, undef, undef, undef, undef, undef, undef, undef, undef, undef, undef, undef, undef, undef, undef, undef, undef, undef, undef, undef, undef, undef, undef, undef, undef, undef, undef, undef, undef, undef], []⟩ [.inRegion (ops4 fn) [2, 3, 4, 5, 6, 7, 8], .code (rest4 fn)]
set_option maxRecDepth 100000 in
set_option maxHeartbeats 4000000 in
theorem law_to4 {T : Machine → Prop} {cs : List Frame} {n gl ol lc : Nat} {la : Option Addr} {L : List Int} {dv sv : Value} (w : World) (hn : n = sideB L.length) (hL : L.length ≤ 9223372036854775807) (hB : Bytes w la gl ol L)
    (hl : ∀ w1 gg gb, In3 w w1 n gg gb L → To T (lone (Frame.enter (barP Try.prog) 7 #[gridV n gg (n * n), dv, .int .i64 1] .normal) (fr4 Try.f4 (.slice la L.length lc) dv sv (gridV n gg (n * n)) gb :: cs) w1)) :
    To T (lone (Frame.enter (barP Try.prog) 4 #[.slice la L.length lc, dv, sv] .normal) cs w) := by
  rw [Go.Conc.enter_at _ Bar.func4 rfl]
  have kG := fun w1 (b : Below w.heap.size w w1) => gridAny (cap := lc) hL w1 (bytes_below hB b)
  rw [← hn] at kG
  clear hB hn
  obtain ⟨lv, hlv⟩ : ∃ lv : Value, .slice la L.length lc = lv := ⟨_, rfl⟩
  rw [hlv] at kG hl
  have kG := hide kG
  have hl := hide hl
  have kA := hide (fun w1 => aliveOk w1)
  have e0 : #[lv, dv, sv] ++ Array.replicate (Try.f4.ntmps - #[lv, dv, sv].size) undef = #[lv, dv, sv, undef, undef, undef, undef, undef, undef, undef, undef, undef, undef, undef, undef, undef, undef, undef, undef, undef, undef, undef, undef, undef, undef, undef, undef, undef, undef, undef, undef, undef, undef, undef, undef, undef, undef, undef, undef, undef, undef, undef, undef, undef, undef, undef, undef, undef, undef, undef, undef, undef, undef, undef, undef, undef, undef, undef, undef, undef, undef, undef, undef, undef, undef, undef, undef, undef, undef, undef, undef, undef, undef, undef, undef, undef, undef, undef, undef, undef, undef, undef, undef, undef, undef, undef, undef, undef, undef, undef, undef, undef, undef, undef, undef, undef, undef, undef, undef, undef, undef, undef, undef, undef, undef, undef, undef, undef, undef, undef, undef, undef, undef, undef, undef, undef, undef, undef, undef, undef, undef, undef, undef, undef, undef, undef, undef, undef, undef, undef, undef, undef, undef, undef, undef, undef, undef, undef, undef, undef, undef, undef, undef, undef, undef, undef, undef, undef, undef, undef, undef, undef, undef, undef, undef, undef, undef, undef, undef, undef, undef, undef, undef, undef, undef, undef, undef, undef, undef, undef, undef, undef, undef, undef, undef, undef, undef, undef, undef, undef, undef, undef, undef] := by simp
  rw [hlv, e0]
  clear hlv e0
  refine to_seq (to_wp (K := fun a w1 => a = ⟨#[lv, dv, sv, undef, undef, undef, .bool false, undef, undef, undef, undef, undef, undef, undef, undef, undef, undef, undef, undef, undef, undef, undef, undef, undef, undef, undef, undef, undef, undef, undef, undef, undef, undef, undef, undef, undef, undef, undef, undef, undef, undef, undef, undef, undef, undef, undef, undef, undef, undef, undef, undef, undef, undef, undef, undef, undef, undef, undef, undef, undef, undef, undef, undef, undef, undef, undef, undef, undef, undef, undef, undef, undef, undef, undef, undef, undef, undef, undef, undef, undef, undef, undef, undef, undef, undef, undef, undef, undef, undef, undef, undef, undef, undef, undef, undef, undef, undef, undef, undef, undef, undef, undef, undef, undef, undef, undef, undef, undef, undef, undef, undef, undef, undef, undef, undef, undef, undef, undef, undef, undef, undef, undef, undef, undef, undef, undef, undef, undef, undef, undef, undef, undef, undef, undef, undef, undef, undef, undef, undef, undef, undef, undef, undef, undef, undef, undef, undef, undef, undef, undef, undef, undef, undef, undef, undef, undef, undef, undef, undef, undef, undef, undef, undef, undef, undef, undef, undef, undef, undef, undef, undef, undef, undef, undef, undef, undef, undef, undef, undef, undef, undef, undef, undef], []⟩ ∧ w1 = w) ?c0 ?_)
  case c0 =>
    go_wp2_with fail
  rintro _ w1 ⟨rfl, rfl⟩
  refine to_seq (to_wp (K := fun a w2 => a = ⟨#[lv, dv, sv, undef, undef, undef, .bool false, undef, undef, undef, undef, undef, undef, undef, undef, undef, undef, undef, undef, undef, undef, undef, undef, undef, .bool true, .bool false, undef, undef, undef, undef, undef, undef, undef, undef, undef, undef, undef, undef, undef, undef, undef, undef, undef, undef, undef, undef, undef, undef, undef, undef, undef, undef, undef, undef, undef, undef, undef, undef, undef, undef, undef, undef, undef, undef, undef, undef, undef, undef, undef, undef, undef, undef, undef, undef, undef, undef, undef, undef, undef, undef, undef, undef, undef, undef, undef, undef, undef, undef, undef, undef, undef, undef, undef, undef, undef, undef, undef, undef, undef, undef, undef, undef, undef, undef, undef, undef, undef, undef, undef, undef, undef, undef, undef, undef, undef, undef, undef, undef, undef, undef, undef, undef, undef, undef, undef, undef, undef, undef, undef, undef, undef, undef, undef, undef, undef, undef, undef, undef, undef, undef, undef, undef, undef, undef, undef, undef, undef, undef, undef, undef, undef, undef, undef, undef, undef, undef, undef, undef, undef, undef, undef, undef, undef, undef, undef, undef, undef, undef, undef, undef, undef, undef, undef, undef, undef, undef, undef, undef, undef, undef, undef, undef, undef], []⟩ ∧ Below w1.heap.size w1 w2) ?c1 ?_)
  case c1 =>
    go_wp2_with fail
    refine (unhide kA _).mono ?_
    rintro e w2 ⟨rfl, hb⟩
    have hb := hide hb
    go_wp2_with fail
  rintro _ w2 ⟨rfl, hb2⟩
  have B2 := hide hb2
  clear hb2
  refine to_seq (to_wp (K := fun a w3 => ∃ gg gb, a = ⟨#[lv, dv, sv, undef, undef, undef, .bool false, .pointer (some ⟨gb, 0, none⟩), undef, undef, undef, undef, undef, undef, undef, undef, undef, undef, undef, undef, undef, undef, undef, undef, .bool true, .bool false, lv, gridV n gg (n * n), undef, undef, undef, undef, undef, undef, undef, undef, undef, undef, undef, undef, undef, undef, undef, undef, undef, undef, undef, undef, undef, undef, undef, undef, undef, undef, undef, undef, undef, undef, undef, undef, undef, undef, undef, undef, undef, undef, undef, undef, undef, undef, undef, undef, undef, undef, undef, undef, undef, undef, undef, undef, undef, undef, undef, undef, undef, undef, undef, undef, undef, undef, undef, undef, undef, undef, undef, undef, undef, undef, undef, undef, undef, undef, undef, undef, undef, undef, undef, undef, undef, undef, undef, undef, undef, undef, undef, undef, undef, undef, undef, undef, undef, undef, undef, undef, undef, undef, undef, undef, undef, undef, undef, undef, undef, undef, undef, undef, undef, undef, undef, undef, undef, undef, undef, undef, undef, undef, undef, undef, undef, undef, undef, undef, undef, undef, undef, undef, undef, undef, undef, undef, undef, undef, undef, undef, undef, undef, undef, undef, undef, undef, undef, undef, undef, undef, undef, undef, undef, undef, undef, undef, undef, undef, undef], []⟩ ∧ In3 w1 w3 n gg gb L) ?c2 ?_)
  case c2 =>
    go_wp2_with fail
    refine (unhide kG _ (unhide B2)).mono ?_
    rintro e w3 ⟨g', rfl, hg', hrow, hb3⟩
    have hI : Hid (In3 w1 (w3.alloc (.cells #[.int .i64 n, .slice (some ⟨g', 0, none⟩) (n * n : Nat) (n * n : Nat)] 27)) n g' w3.heap.size L) := by
      have s3 : w1.heap.size ≤ w3.heap.size := Nat.le_trans (unhide B2).size hb3.size
      have hlt := row_lt hrow
      have q0 := heap_alloc_new w3 (.cells #[.int .i64 n, .slice (some ⟨g', 0, none⟩) (n * n : Nat) (n * n : Nat)] 27)
      have bb := (Below.refl _ w3).alloc (Nat.le_refl _) (.cells #[.int .i64 n, .slice (some ⟨g', 0, none⟩) (n * n : Nat) (n * n : Nat)] 27)
      exact ⟨(((unhide B2).trans (hb3.mono (unhide B2).size))).trans (bb.mono s3), s3, q0, row_below hrow bb hlt⟩
    clear hg' hrow hb3
    go_wp2_with fail
    exact ⟨g', w3.heap.size, ⟨rfl, rfl⟩, unhide hI⟩
  rintro _ w3 ⟨gg, gb, rfl, hI⟩
  have c0 : w3.cell? ⟨gb, 0, none⟩ = some (.int .i64 n) := by simp [World.cell?, hI.g0]
  have c1 : w3.cell? ⟨gb, 1, none⟩ = some (.slice (some ⟨gg, 0, none⟩) (n * n : Nat) (n * n : Nat)) := by simp [World.cell?, hI.g0]
  refine to_seq (to_region ?_)
  refine (?_ : To T (lone ((Go.Conc.base 4).at ⟨#[lv, dv, sv, undef, undef, undef, .bool false, .pointer (some ⟨gb, 0, none⟩), undef, undef, undef, undef, undef, undef, undef, undef, undef, undef, undef, undef, undef, undef, undef, undef, .bool true, .bool false, lv, gridV n gg (n * n), undef, undef, undef, undef, undef, undef, undef, undef, undef, undef, undef, undef, undef, undef, undef, undef, undef, undef, undef, undef, undef, undef, undef, undef, undef, undef, undef, undef, undef, undef, undef, undef, undef, undef, undef, undef, undef, undef, undef, undef, undef, undef, undef, undef, undef, undef, undef, undef, undef, undef, undef, undef, undef, undef, undef, undef, undef, undef, undef, undef, undef, undef, undef, undef, undef, undef, undef, undef, undef, undef, undef, undef, undef, undef, undef, undef, undef, undef, undef, undef, undef, undef, undef, undef, undef, undef, undef, undef, undef, undef, undef, undef, undef, undef, undef, undef, undef, undef, undef, undef, undef, undef, undef, undef, undef, undef, undef, undef, undef, undef, undef, undef, undef, undef, undef, undef, undef, undef, undef, undef, undef, undef, undef, undef, undef, undef, undef, undef, undef, undef, undef, undef, undef, undef, undef, undef, undef, undef, undef, undef, undef, undef, undef, undef, undef, undef, undef, undef, undef, undef, undef, undef, undef, undef, undef], []⟩ [.inRegion (ops4 Try.f4) [0, 1, 2, 3, 4, 5, 6, 7, 8], .code (rest4 Try.f4)]) cs w3))
  refine to_value (o := { dst := some 29, op := .load 27 (.tmp 7), type := 27, pos := "law.go:121", after := #[], guard := none }) (by kernel_rfl) (aS_want rfl _) (by simp [Go.Conc.base]) (v := gridV n gg (n * n)) (w' := w3) (by simp [go_sem, c0, c1, gridV]) ?_
  refine to_value (o := { dst := some 30, op := .move (.tmp 1), type := 23, pos := "law.go:121", after := #[], guard := none }) (by kernel_rfl) (aS_want rfl _) (by simp [Go.Conc.base]) (v := dv) (w' := w3) (by simp [go_sem]) ?_
  exact to_enter (o := { dst := some 31, op := .call { callee := .value (.func 7), args := #[.tmp 29, .tmp 30, .const (.int .i64 1)], argTypes := #[27, 23, 3] }, type := 33, pos := "law.go:121", after := #[⟨0, .data⟩, ⟨1, .data⟩], guard := none }) (by kernel_rfl) (aS_want rfl _) (by simp [Go.Conc.base]) (f := 7) (args := #[gridV n gg (n * n), dv, .int .i64 1]) (w' := w3) (by simp [go_sem]) (unhide hl w3 gg gb hI)
def op4 (fn : Func) (i : Nat) : Oper := ((ops4 fn)[i]?).getD ⟨none, .move (.tmp 0), 0, "", #[], none⟩
set_option maxRecDepth 100000 in
set_option maxHeartbeats 4000000 in
theorem law_upto4 {T : Machine → Prop} {cs : List Frame} {w4 : World} {lv dv sv gV : Value} {gb gq m : Nat} {n : Int}
    (h : To T (lone ((Go.Conc.base 4).at ⟨#[lv, dv, sv, undef, undef, undef, .bool false, .pointer (some ⟨gb, 0, none⟩), .pointer (some ⟨w4.heap.size, 0, none⟩), .int .i64 0, undef, undef, undef, undef, undef, undef, undef, undef, undef, undef, undef, undef, undef, undef, .bool true, .bool false, lv, gV, .tuple #[.agg #[.int .i64 n, .slice (some ⟨gq, 0, none⟩) m m], .int .i64 0], gV, dv, .tuple #[.agg #[.int .i64 n, .slice (some ⟨gq, 0, none⟩) m m], .int .i64 0], .agg #[.int .i64 n, .slice (some ⟨gq, 0, none⟩) m m], .int .i64 0, undef, undef, undef, undef, undef, undef, undef, undef, undef, undef, undef, undef, undef, undef, undef, undef, undef, undef, undef, undef, undef, undef, undef, undef, undef, undef, undef, undef, undef, undef, undef, undef, undef, undef, undef, undef, undef, undef, undef, undef, undef, undef, undef, undef, undef, undef, undef, undef, undef, undef, undef, undef, undef, undef, undef, undef, undef, undef, undef, undef, undef, undef, undef, undef, undef, undef, undef, undef, undef, undef, undef, undef, undef, undef, undef, undef, undef, undef, undef, undef, undef, undef, undef, undef, undef, undef, undef, undef, undef, undef, undef, undef, undef, undef, undef, undef, undef, undef, undef, undef, undef, undef, undef, undef, undef, undef, undef, undef, undef, undef, undef, undef, undef, undef, undef, undef, undef, undef, undef, undef, undef, undef, undef, undef, undef, undef, undef, undef, undef, undef, undef, undef, undef, undef, undef, undef, undef, undef, undef, undef, undef, undef, undef, undef, undef, undef, undef, undef, undef], []⟩ [.code (rest4 Try.f4)]) cs (w4.alloc (.cells #[.int .i64 n, .slice (some ⟨gq, 0, none⟩) m m] 31)))) :
    To T (lone ((fr4 Try.f4 lv dv sv gV gb).finish (.tuple #[.agg #[.int .i64 n, .slice (some ⟨gq, 0, none⟩) m m], .int .i64 0])) cs w4) := by
  have d3 : (op4 Try.f4 3).dst = some 28 := by kernel_rfl
  have d4 : (op4 Try.f4 4).dst = some 32 := by kernel_rfl
  have d5 : (op4 Try.f4 5).dst = some 33 := by kernel_rfl
  have d6 : (op4 Try.f4 6).dst = some 8 := by kernel_rfl
  have d7 : (op4 Try.f4 7).dst = none := by kernel_rfl
  unfold fr4
  rw [Frame.finish_at, show ((ops4 Try.f4)[2]?).bind (·.dst) = some 31 from by kernel_rfl]
  refine to_value (o := op4 Try.f4 3) (by kernel_rfl) (aS_want (by kernel_rfl) _) (by simp [Go.Conc.base]) (v := .tuple #[.agg #[.int .i64 n, .slice (some ⟨gq, 0, none⟩) m m], .int .i64 0]) (w' := w4) (run_mv _ (show (op4 Try.f4 3).op = .move (.tmp 31) by kernel_rfl) rfl) ?_
  refine to_value (o := op4 Try.f4 4) (by kernel_rfl) (aS_want (by kernel_rfl) _) (by simp [Go.Conc.base]) (v := .agg #[.int .i64 n, .slice (some ⟨gq, 0, none⟩) m m]) (w' := w4) (by unfold execOp; rw [show (op4 Try.f4 4).op = .extract (.tmp 28) 0 by kernel_rfl]; simp [go_sem, Act.put, d3, d4, d5, d6, d7]) ?_
  refine to_value (o := op4 Try.f4 5) (by kernel_rfl) (aS_want (by kernel_rfl) _) (by simp [Go.Conc.base]) (v := .int .i64 0) (w' := w4) (by unfold execOp; rw [show (op4 Try.f4 5).op = .extract (.tmp 28) 1 by kernel_rfl]; simp [go_sem, Act.put, d3, d4, d5, d6, d7]) ?_
  refine to_value (o := op4 Try.f4 6) (by kernel_rfl) (aS_want (by kernel_rfl) _) (by simp [Go.Conc.base]) (v := .pointer (some ⟨w4.heap.size, 0, none⟩)) (w' := w4.alloc (.cells #[.int .i64 0, .slice none 0 0] 31)) (by unfold execOp; rw [show (op4 Try.f4 6).op = .alloc 31 by kernel_rfl]; simp [go_sem, Act.put, d3, d4, d5, d6, d7]) ?_
  refine to_none (o := op4 Try.f4 7) (by kernel_rfl) (aS_want (by kernel_rfl) _) (by simp [Go.Conc.base]) (w' := w4.alloc (.cells #[.int .i64 n, .slice (some ⟨gq, 0, none⟩) m m] 31)) (by unfold execOp; rw [show (op4 Try.f4 7).op = .store 31 (.tmp 8) (.tmp 32) by kernel_rfl]; simp [go_sem, Act.put, d3, d4, d5, d6, d7]) ?_
  refine to_value (o := op4 Try.f4 8) (by kernel_rfl) (aS_want (by kernel_rfl) _) (by simp [Go.Conc.base]) (v := .int .i64 0) (w' := w4.alloc (.cells #[.int .i64 n, .slice (some ⟨gq, 0, none⟩) m m] 31)) (by unfold execOp; rw [show (op4 Try.f4 8).op = .assign (.tmp 33) by kernel_rfl]; simp [go_sem, Act.put, d3, d4, d5, d6, d7]) ?_
  exact to_out h
end Go.Proofs.Ythbghcebcahlnaa
