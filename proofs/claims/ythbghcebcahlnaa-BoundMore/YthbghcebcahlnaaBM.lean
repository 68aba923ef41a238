/- The landed sweep: the sum over a line. -/
import Derived.Test.YthbghcebcahlnaaBD
namespace Go.Proofs.Ythbghcebcahlnaa
open Go.RowKit

/-- All but two blocks lie as they lay. -/
structure Off (gl gh : Nat) (w w' : World) : Prop where
  os : w'.os = w.os
  tape : w'.tape = w.tape
  output : w'.output = w.output
  size : w.heap.size ≤ w'.heap.size
  block : ∀ x, x < w.heap.size → x ≠ gl → x ≠ gh → w'.heap[x]? = w.heap[x]?
theorem Off.refl (gl gh : Nat) (w : World) : Off gl gh w w := ⟨rfl, rfl, rfl, Nat.le_refl _, fun _ _ _ _ => rfl⟩
theorem Off.trans {gl gh : Nat} {a b c : World} (h : Off gl gh a b) (k : Off gl gh b c) : Off gl gh a c :=
  ⟨k.os.trans h.os, k.tape.trans h.tape, k.output.trans h.output, Nat.le_trans h.size k.size, fun i hi h1 h2 => (k.block i (Nat.lt_of_lt_of_le hi h.size) h1 h2).trans (h.block i hi h1 h2)⟩
theorem Off.below {gl gh : Nat} {w w' : World} (h : Below w.heap.size w w') : Off gl gh w w' := ⟨h.os, h.tape, h.output, h.size, fun i hi _ _ => h.block i hi⟩
theorem Off.to {gl gh B : Nat} {w w' : World} (h : Off gl gh w w') (hB : B ≤ w.heap.size) (h1 : B ≤ gl) (h2 : B ≤ gh) : Below B w w' := ⟨h.os, h.tape, h.output, h.size, fun i hi => h.block i (by omega) (by omega) (by omega)⟩
theorem Off.set {gl gh : Nat} {w w' : World} (h : Off gl gh w w') {p : Addr} (hp : p.block = gl ∨ p.block = gh) (u : Value) : Off gl gh w (w'.setCell p u) :=
  h.trans ⟨rfl, rfl, rfl, by simp [World.setCell], fun k _ h1 h2 => Below.heap_setCell _ _ _ _ (by rcases hp with hp | hp <;> omega)⟩
theorem Off.drew {gl gh : Nat} {w w' : World} (h : Off gl gh w w') : Off gl gh w w'.drew := ⟨h.os, h.tape, h.output, h.size, h.block⟩
theorem Off.cell {gl gh : Nat} {w w' : World} (h : Off gl gh w w') {p : Addr} (hp : p.block < w.heap.size) (h1 : p.block ≠ gl) (h2 : p.block ≠ gh) : w'.cell? p = w.cell? p := World.cell?_of_block (w := w) (h.block p.block hp h1 h2)

def updI (x : Nat → Int) (p : Nat) (v : Int) : Nat → Int := fun i => if i = p then v else x i
def IRow (w : World) (g M : Nat) (x : Nat → Int) : Prop := VRow w 3 g M (fun i => .int .i64 (x i))
theorem irow_set {w : World} {g M : Nat} {x : Nat → Int} (h : IRow w g M x) (p : Nat) (v : Int) : IRow (w.setCell ⟨g, p, none⟩ (.int .i64 v)) g M (updI x p v) := by
  refine vrow_ext (vrow_set h p (.int .i64 v)) fun i hi => ?_
  unfold updI
  by_cases e : i = p
  · rw [if_pos e, if_pos e]
  · rw [if_neg e, if_neg e]

/-- The sum over the first k places. -/
def sumK (x : Nat → Int) (P : List Nat) : Nat → Int
  | 0 => 0
  | k + 1 => wrap64 (sumK x P k + x (P.getD k 0))

def placesV (gp cp : Nat) (P : List Nat) : Value := .slice (some ⟨gp, 0, none⟩) P.length cp
def PRow (w : World) (gp : Nat) (P : List Nat) : Prop := VRow w 3 gp P.length (fun i => .int .i64 ((P.getD i 0 : Nat) : Int))

set_option maxRecDepth 100000 in
set_option maxHeartbeats 1600000 in
theorem sumOk {gp cp gx M cx : Nat} {P : List Nat} {b : Int} {x : Nat → Int} (hin : ∀ k, k < P.length → P.getD k 0 < M) (hP : P.length ≤ 4096) (w : World) (hp : PRow w gp P) (hx : IRow w gx M x) :
    Calls (barP Try.prog) 88 #[.agg #[placesV gp cp P, .int .i64 b], .slice (some ⟨gx, 0, none⟩) M cx] w fun e w' => e = .returned (.int .i64 (sumK x P P.length)) ∧ Below w.heap.size w w' := by
  have hb : Hid (Below w.heap.size w (w.alloc (.cells #[placesV gp cp P, .int .i64 b] 94))) := (Below.refl _ _).alloc (Nat.le_refl _) _
  have t1 := hide (fun k (hk : k < P.length) => vrow_at (vrow_keep (w' := w.alloc (.cells #[placesV gp cp P, .int .i64 b] 94)) hp ((unhide hb).block _ (vrow_lt hp))) hk)
  have t2 := hide (fun k (hk : k < M) => vrow_at (vrow_keep (w' := w.alloc (.cells #[placesV gp cp P, .int .i64 b] 94)) hx ((unhide hb).block _ (vrow_lt hx))) hk)
  have hin := hide hin
  unfold placesV at hb t1 t2 ⊢
  clear hp hx
  generalize hm : P.length = m at *
  replace hm := hide hm
  go_enter Bar.func88, Bar.ntmps88
  go_wp2_with fail
  generalize w.alloc (.cells #[.slice (some ⟨gp, 0, none⟩) m cp, .int .i64 b] 94) = w1 at *
  go_loopw [5, 11] (fun sv kv wr => ∃ k : Nat, k ≤ m ∧ kv = .int .i64 k ∧ sv = .int .i64 (sumK x P k) ∧ w1 = wr) (fun _ kv _ => m - (intOf kv).toNat)
  case atStart => exact ⟨0, Nat.zero_le _, rfl, rfl, rfl⟩
  case round =>
    obtain ⟨k, hk, rfl, rfl, rfl⟩ := hrel
    by_cases c : k < m
    · have q1 : ((k : Int) < (m : Int)) = True := by simp; omega
      have k1 := unhide t1 k c
      have hl := unhide hin k c
      have k2 := unhide t2 _ hl
      have hst : Hid (sumK x P (k + 1) = wrap64 (sumK x P k + x (P.getD k 0))) := rfl
      generalize x (P.getD k 0) = xv at *
      generalize P.getD k 0 = p at *
      go_wp2_with fail
      exact ⟨⟨k + 1, by omega, by go_num, by rw [unhide hst], trivial⟩, by simp [intOf]; omega⟩
    · have q1 : ((k : Int) < (m : Int)) = False := by simp; omega
      obtain rfl : k = m := by omega
      go_wp2_with fail
      go_ret
      exact ⟨rfl, unhide hb⟩
end Go.Proofs.Ythbghcebcahlnaa
