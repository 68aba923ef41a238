/- BoundSound: up to ray.All, and behind it. -/
import Derived.Test.YthbghcebcahlnaaLSB
import Derived.Test.YthbghcebcahlnaaALH
import Derived.Test.YthbghcebcahlnaaBY
namespace Go.Proofs.Ythbghcebcahlnaa
open Go Go.RowKit Go.Shelf

theorem okObj_unbar (o : Obj) (h : okObj (barP Try.prog) o) : okObj Try.prog o := by
  letI : Inhabited Junk := noJunk
  cases o with
  | loop l => exact ⟨by rw [← okCode_bar (P := Try.prog) (F := (barF Try.prog))]; exact h.1, by rw [← okCode_bar (P := Try.prog) (F := (barF Try.prog))]; exact h.2.1, fun c e => by rw [← okCode_bar (P := Try.prog) (F := (barF Try.prog))]; exact h.2.2 c e⟩
  | deferred ds => cases ds <;> exact h
  | _ => exact h
/-- The law at its call of ray.All. -/
def fr3 (fn : Func) (lv dv sv gV : Value) (gb : Nat) : Frame := (Go.Conc.base 3).at ⟨#[lv, dv, sv, undef, undef, undef, .bool false, .pointer (some ⟨gb, 0, none⟩), undef, undef, undef, undef, undef, undef, undef, undef, undef, undef, undef, .bool true, .bool false, lv, gV, undef, gV, dv, undef, undef, undef, undef, undef, undef, undef, undef, undef, undef, undef, undef, undef, undef, undef, undef, undef, undef, undef, undef, undef, undef, undef, undef, undef, undef, undef, undef, undef, undef, undef, undef, undef, undef, undef, undef, undef, undef, undef, undef, undef, undef, undef, undef, undef, undef, undef, undef, undef, undef, undef, undef, undef, undef, undef, undef, undef, undef, undef, undef, undef, undef, undef, undef, undef, undef, undef, undef, undef, undef, undef, undef, undef, undef, undef, undef, undef, undef, undef, undef, undef, undef, undef, undef, undef, undef, undef, undef, undef, undef, undef, undef, undef, undef, undef, undef, undef, undef, undef, undef, undef, undef, undef, undef, undef, undef, undef, undef, undef, undef, undef, undef, undef, undef, undef, undef], []⟩ [.inRegion (ops3 fn) [2, 3, 4, 5, 6, 7, 8], .code (rest3 fn)]
/-- The memory there. -/
structure In3 (w w1 : World) (n gg gb : Nat) (L : List Int) : Prop where
  low : Below w.heap.size w w1
  new : w.heap.size ≤ gb
  g0 : w1.heap[gb]? = some (.cells #[.int .i64 n, .slice (some ⟨gg, 0, none⟩) (n * n : Nat) (n * n : Nat)] 27)
  row : Row w1 gg (n * n) (lvlB L)
set_option maxRecDepth 100000 in
set_option maxHeartbeats 4000000 in
theorem law_to {T : Machine → Prop} {cs : List Frame} {n gl ol lc : Nat} {la : Option Addr} {L : List Int} {dv sv : Value} (w : World) (hn : n = sideB L.length) (hL : L.length ≤ 9223372036854775807) (hB : Bytes w la gl ol L)
    (hl : ∀ w1 gg gb, In3 w w1 n gg gb L → To T (lone (Frame.enter (barP Try.prog) 7 #[gridV n gg (n * n), dv, .int .i64 1] .normal) (fr3 Try.f3 (.slice la L.length lc) dv sv (gridV n gg (n * n)) gb :: cs) w1)) :
    To T (lone (Frame.enter (barP Try.prog) 3 #[.slice la L.length lc, dv, sv] .normal) cs w) := by
  rw [Go.Conc.enter_at _ Bar.func3 rfl]
  have kG := fun w1 (b : Below w.heap.size w w1) => gridAny (cap := lc) hL w1 (bytes_below hB b)
  rw [← hn] at kG
  clear hB hn
  obtain ⟨lv, hlv⟩ : ∃ lv : Value, .slice la L.length lc = lv := ⟨_, rfl⟩
  rw [hlv] at kG hl
  have kG := hide kG
  have hl := hide hl
  have kA := hide (fun w1 => aliveOk w1)
  have e0 : #[lv, dv, sv] ++ Array.replicate (Try.f3.ntmps - #[lv, dv, sv].size) undef = #[lv, dv, sv, undef, undef, undef, undef, undef, undef, undef, undef, undef, undef, undef, undef, undef, undef, undef, undef, undef, undef, undef, undef, undef, undef, undef, undef, undef, undef, undef, undef, undef, undef, undef, undef, undef, undef, undef, undef, undef, undef, undef, undef, undef, undef, undef, undef, undef, undef, undef, undef, undef, undef, undef, undef, undef, undef, undef, undef, undef, undef, undef, undef, undef, undef, undef, undef, undef, undef, undef, undef, undef, undef, undef, undef, undef, undef, undef, undef, undef, undef, undef, undef, undef, undef, undef, undef, undef, undef, undef, undef, undef, undef, undef, undef, undef, undef, undef, undef, undef, undef, undef, undef, undef, undef, undef, undef, undef, undef, undef, undef, undef, undef, undef, undef, undef, undef, undef, undef, undef, undef, undef, undef, undef, undef, undef, undef, undef, undef, undef, undef, undef, undef, undef, undef, undef, undef, undef, undef, undef, undef, undef] := by simp
  rw [hlv, e0]
  clear hlv e0
  refine to_seq (to_wp (K := fun a w1 => a = ⟨#[lv, dv, sv, undef, undef, undef, .bool false, undef, undef, undef, undef, undef, undef, undef, undef, undef, undef, undef, undef, undef, undef, undef, undef, undef, undef, undef, undef, undef, undef, undef, undef, undef, undef, undef, undef, undef, undef, undef, undef, undef, undef, undef, undef, undef, undef, undef, undef, undef, undef, undef, undef, undef, undef, undef, undef, undef, undef, undef, undef, undef, undef, undef, undef, undef, undef, undef, undef, undef, undef, undef, undef, undef, undef, undef, undef, undef, undef, undef, undef, undef, undef, undef, undef, undef, undef, undef, undef, undef, undef, undef, undef, undef, undef, undef, undef, undef, undef, undef, undef, undef, undef, undef, undef, undef, undef, undef, undef, undef, undef, undef, undef, undef, undef, undef, undef, undef, undef, undef, undef, undef, undef, undef, undef, undef, undef, undef, undef, undef, undef, undef, undef, undef, undef, undef, undef, undef, undef, undef, undef, undef, undef, undef], []⟩ ∧ w1 = w) ?c0 ?_)
  case c0 =>
    go_wp2_with fail
  rintro _ w1 ⟨rfl, rfl⟩
  refine to_seq (to_wp (K := fun a w2 => a = ⟨#[lv, dv, sv, undef, undef, undef, .bool false, undef, undef, undef, undef, undef, undef, undef, undef, undef, undef, undef, undef, .bool true, .bool false, undef, undef, undef, undef, undef, undef, undef, undef, undef, undef, undef, undef, undef, undef, undef, undef, undef, undef, undef, undef, undef, undef, undef, undef, undef, undef, undef, undef, undef, undef, undef, undef, undef, undef, undef, undef, undef, undef, undef, undef, undef, undef, undef, undef, undef, undef, undef, undef, undef, undef, undef, undef, undef, undef, undef, undef, undef, undef, undef, undef, undef, undef, undef, undef, undef, undef, undef, undef, undef, undef, undef, undef, undef, undef, undef, undef, undef, undef, undef, undef, undef, undef, undef, undef, undef, undef, undef, undef, undef, undef, undef, undef, undef, undef, undef, undef, undef, undef, undef, undef, undef, undef, undef, undef, undef, undef, undef, undef, undef, undef, undef, undef, undef, undef, undef, undef, undef, undef, undef, undef, undef], []⟩ ∧ Below w1.heap.size w1 w2) ?c1 ?_)
  case c1 =>
    go_wp2_with fail
    refine (unhide kA _).mono ?_
    rintro e w2 ⟨rfl, hb⟩
    have hb := hide hb
    go_wp2_with fail
  rintro _ w2 ⟨rfl, hb2⟩
  have B2 := hide hb2
  clear hb2
  refine to_seq (to_wp (K := fun a w3 => ∃ gg gb, a = ⟨#[lv, dv, sv, undef, undef, undef, .bool false, .pointer (some ⟨gb, 0, none⟩), undef, undef, undef, undef, undef, undef, undef, undef, undef, undef, undef, .bool true, .bool false, lv, gridV n gg (n * n), undef, undef, undef, undef, undef, undef, undef, undef, undef, undef, undef, undef, undef, undef, undef, undef, undef, undef, undef, undef, undef, undef, undef, undef, undef, undef, undef, undef, undef, undef, undef, undef, undef, undef, undef, undef, undef, undef, undef, undef, undef, undef, undef, undef, undef, undef, undef, undef, undef, undef, undef, undef, undef, undef, undef, undef, undef, undef, undef, undef, undef, undef, undef, undef, undef, undef, undef, undef, undef, undef, undef, undef, undef, undef, undef, undef, undef, undef, undef, undef, undef, undef, undef, undef, undef, undef, undef, undef, undef, undef, undef, undef, undef, undef, undef, undef, undef, undef, undef, undef, undef, undef, undef, undef, undef, undef, undef, undef, undef, undef, undef, undef, undef, undef, undef, undef, undef, undef, undef], []⟩ ∧ In3 w1 w3 n gg gb L) ?c2 ?_)
  case c2 =>
    go_wp2_with fail
    refine (unhide kG _ (unhide B2)).mono ?_
    rintro e w3 ⟨g', rfl, hg', hrow, hb3⟩
    have hI : Hid (In3 w1 (w3.alloc (.cells #[.int .i64 n, .slice (some ⟨g', 0, none⟩) (n * n : Nat) (n * n : Nat)] 27)) n g' w3.heap.size L) := by
      have s3 : w1.heap.size ≤ w3.heap.size := Nat.le_trans (unhide B2).size hb3.size
      have hlt := row_lt hrow
      have q0 := heap_alloc_new w3 (.cells #[.int .i64 n, .slice (some ⟨g', 0, none⟩) (n * n : Nat) (n * n : Nat)] 27)
      have bb := (Below.refl _ w3).alloc (Nat.le_refl _) (.cells #[.int .i64 n, .slice (some ⟨g', 0, none⟩) (n * n : Nat) (n * n : Nat)] 27)
      exact ⟨(((unhide B2).trans (hb3.mono (unhide B2).size))).trans (bb.mono s3), s3, q0, row_below hrow bb hlt⟩
    clear hg' hrow hb3
    go_wp2_with fail
    exact ⟨g', w3.heap.size, ⟨rfl, rfl⟩, unhide hI⟩
  rintro _ w3 ⟨gg, gb, rfl, hI⟩
  have c0 : w3.cell? ⟨gb, 0, none⟩ = some (.int .i64 n) := by simp [World.cell?, hI.g0]
  have c1 : w3.cell? ⟨gb, 1, none⟩ = some (.slice (some ⟨gg, 0, none⟩) (n * n : Nat) (n * n : Nat)) := by simp [World.cell?, hI.g0]
  refine to_seq (to_region ?_)
  refine (?_ : To T (lone ((Go.Conc.base 3).at ⟨#[lv, dv, sv, undef, undef, undef, .bool false, .pointer (some ⟨gb, 0, none⟩), undef, undef, undef, undef, undef, undef, undef, undef, undef, undef, undef, .bool true, .bool false, lv, gridV n gg (n * n), undef, undef, undef, undef, undef, undef, undef, undef, undef, undef, undef, undef, undef, undef, undef, undef, undef, undef, undef, undef, undef, undef, undef, undef, undef, undef, undef, undef, undef, undef, undef, undef, undef, undef, undef, undef, undef, undef, undef, undef, undef, undef, undef, undef, undef, undef, undef, undef, undef, undef, undef, undef, undef, undef, undef, undef, undef, undef, undef, undef, undef, undef, undef, undef, undef, undef, undef, undef, undef, undef, undef, undef, undef, undef, undef, undef, undef, undef, undef, undef, undef, undef, undef, undef, undef, undef, undef, undef, undef, undef, undef, undef, undef, undef, undef, undef, undef, undef, undef, undef, undef, undef, undef, undef, undef, undef, undef, undef, undef, undef, undef, undef, undef, undef, undef, undef, undef, undef, undef], []⟩ [.inRegion (ops3 Try.f3) [0, 1, 2, 3, 4, 5, 6, 7, 8], .code (rest3 Try.f3)]) cs w3))
  refine to_value (o := { dst := some 24, op := .load 27 (.tmp 7), type := 27, pos := "law.go:91", after := #[], guard := none }) (by kernel_rfl) (aS_want rfl _) (by simp [Go.Conc.base]) (v := gridV n gg (n * n)) (w' := w3) (by simp [go_sem, c0, c1, gridV]) ?_
  refine to_value (o := { dst := some 25, op := .move (.tmp 1), type := 23, pos := "law.go:91", after := #[], guard := none }) (by kernel_rfl) (aS_want rfl _) (by simp [Go.Conc.base]) (v := dv) (w' := w3) (by simp [go_sem]) ?_
  exact to_enter (o := { dst := some 26, op := .call { callee := .value (.func 7), args := #[.tmp 24, .tmp 25, .const (.int .i64 1)], argTypes := #[27, 23, 3] }, type := 33, pos := "law.go:91", after := #[⟨0, .data⟩, ⟨1, .data⟩], guard := none }) (by kernel_rfl) (aS_want rfl _) (by simp [Go.Conc.base]) (f := 7) (args := #[gridV n gg (n * n), dv, .int .i64 1]) (w' := w3) (by simp [go_sem]) (unhide hl w3 gg gb hI)
end Go.Proofs.Ythbghcebcahlnaa
