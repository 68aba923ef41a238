/- Nothing: wip/bound's BD speaks of a law that this seat lacks. The landed sweep: the sum over a line. The landed sweep: one line. The landed sweep and settle. -/
import Derived.Test.YtfnbcpeipoobkaaGreatM34
namespace Go.Proofs.YtfnbcpeipoobkaaGreat
end Go.Proofs.YtfnbcpeipoobkaaGreat

namespace Go.Proofs.YtfnbcpeipoobkaaGreat
open Go.RowKit

/-- All but two blocks lie as they lay. -/
structure Off (gl gh : Nat) (w w' : World) : Prop where
  os : w'.os = w.os
  tape : w'.tape = w.tape
  output : w'.output = w.output
  size : w.heap.size ≤ w'.heap.size
  block : ∀ x, x < w.heap.size → x ≠ gl → x ≠ gh → w'.heap[x]? = w.heap[x]?
theorem Off.refl (gl gh : Nat) (w : World) : Off gl gh w w := ⟨rfl, rfl, rfl, Nat.le_refl _, fun _ _ _ _ => rfl⟩
theorem Off.trans {gl gh : Nat} {a b c : World} (h : Off gl gh a b) (k : Off gl gh b c) : Off gl gh a c :=
  ⟨k.os.trans h.os, k.tape.trans h.tape, k.output.trans h.output, Nat.le_trans h.size k.size, fun i hi h1 h2 => (k.block i (Nat.lt_of_lt_of_le hi h.size) h1 h2).trans (h.block i hi h1 h2)⟩
theorem Off.below {gl gh : Nat} {w w' : World} (h : Below w.heap.size w w') : Off gl gh w w' := ⟨h.os, h.tape, h.output, h.size, fun i hi _ _ => h.block i hi⟩
theorem Off.to {gl gh B : Nat} {w w' : World} (h : Off gl gh w w') (hB : B ≤ w.heap.size) (h1 : B ≤ gl) (h2 : B ≤ gh) : Below B w w' := ⟨h.os, h.tape, h.output, h.size, fun i hi => h.block i (by omega) (by omega) (by omega)⟩
theorem Off.set {gl gh : Nat} {w w' : World} (h : Off gl gh w w') {p : Addr} (hp : p.block = gl ∨ p.block = gh) (u : Value) : Off gl gh w (w'.setCell p u) :=
  h.trans ⟨rfl, rfl, rfl, by simp [World.setCell], fun k _ h1 h2 => Below.heap_setCell _ _ _ _ (by rcases hp with hp | hp <;> omega)⟩
theorem Off.drew {gl gh : Nat} {w w' : World} (h : Off gl gh w w') : Off gl gh w w'.drew := ⟨h.os, h.tape, h.output, h.size, h.block⟩
theorem Off.cell {gl gh : Nat} {w w' : World} (h : Off gl gh w w') {p : Addr} (hp : p.block < w.heap.size) (h1 : p.block ≠ gl) (h2 : p.block ≠ gh) : w'.cell? p = w.cell? p := World.cell?_of_block (w := w) (h.block p.block hp h1 h2)

def updI (x : Nat → Int) (p : Nat) (v : Int) : Nat → Int := fun i => if i = p then v else x i
def IRow (w : World) (g M : Nat) (x : Nat → Int) : Prop := VRow w 3 g M (fun i => .int .i64 (x i))
theorem irow_set {w : World} {g M : Nat} {x : Nat → Int} (h : IRow w g M x) (p : Nat) (v : Int) : IRow (w.setCell ⟨g, p, none⟩ (.int .i64 v)) g M (updI x p v) := by
  refine vrow_ext (vrow_set h p (.int .i64 v)) fun i hi => ?_
  unfold updI
  by_cases e : i = p
  · rw [if_pos e, if_pos e]
  · rw [if_neg e, if_neg e]

/-- The sum over the first k places. -/
def sumK (x : Nat → Int) (P : List Nat) : Nat → Int
  | 0 => 0
  | k + 1 => wrap64 (sumK x P k + x (P.getD k 0))

def placesV (gp cp : Nat) (P : List Nat) : Value := .slice (some ⟨gp, 0, none⟩) P.length cp
def PRow (w : World) (gp : Nat) (P : List Nat) : Prop := VRow w 3 gp P.length (fun i => .int .i64 ((P.getD i 0 : Nat) : Int))

end Go.Proofs.YtfnbcpeipoobkaaGreat

namespace Go.Proofs.YtfnbcpeipoobkaaGreat
open Go.RowKit

structure DS where
  least : Int
  most : Int
  ch : Bool
  lo : Nat → Int
  hi : Nat → Int

/-- One cell of a line; none: a contradiction. -/
def dStep (b : Int) (p : Nat) (s : DS) : Option DS :=
  let le := wrap64 (s.least - s.lo p)
  let mo := wrap64 (s.most - s.hi p)
  let low := if s.lo p < wrap64 (b - mo) then wrap64 (b - mo) else s.lo p
  let high := if wrap64 (b - le) < s.hi p then wrap64 (b - le) else s.hi p
  if high < low then none else some ⟨wrap64 (le + low), wrap64 (mo + high), s.ch || (low != s.lo p) || (high != s.hi p), updI s.lo p low, updI s.hi p high⟩
def dK (b : Int) (P : List Nat) (s : DS) : Nat → Option DS
  | 0 => some s
  | k + 1 => (dK b P s k).bind (dStep b (P.getD k 0))
def drawS (P : List Nat) (b : Int) (lo hi : Nat → Int) : Option DS :=
  dK b P ⟨sumK lo P P.length, sumK hi P P.length, false, lo, hi⟩ P.length

theorem dK_less {b : Int} {P : List Nat} {s : DS} : ∀ {n : Nat} {d : DS}, dK b P s n = some d → ∀ k, k ≤ n → ∃ e, dK b P s k = some e
  | 0, d, h, k, hk => by
    have : k = 0 := by omega
    subst this
    exact ⟨d, h⟩
  | n + 1, d, h, k, hk => by
    by_cases e : k = n + 1
    · subst e
      exact ⟨d, h⟩
    · unfold dK at h
      cases hx : dK b P s n with
      | none => rw [hx] at h; cases h
      | some y => exact dK_less hx k (by omega)

/-- What a cell's step is, by its two tests. -/
theorem dStep_at {b : Int} {p : Nat} {s d : DS} (h : dStep b p s = some d) : ∃ le mo L2 H2 low high : Int, le = wrap64 (s.least - s.lo p) ∧ mo = wrap64 (s.most - s.hi p) ∧ L2 = wrap64 (b - mo) ∧ H2 = wrap64 (b - le) ∧
    (((s.lo p < L2) = True ∧ low = L2 ∧ ¬ low = s.lo p) ∨ ((s.lo p < L2) = False ∧ low = s.lo p)) ∧ (((H2 < s.hi p) = True ∧ high = H2 ∧ ¬ high = s.hi p) ∨ ((H2 < s.hi p) = False ∧ high = s.hi p)) ∧ (high < low) = False ∧
    d = ⟨wrap64 (le + low), wrap64 (mo + high), s.ch || (low != s.lo p) || (high != s.hi p), updI s.lo p low, updI s.hi p high⟩ := by
  unfold dStep at h
  dsimp only at h
  obtain ⟨low, hlow⟩ : ∃ low, low = (if s.lo p < wrap64 (b - wrap64 (s.most - s.hi p)) then wrap64 (b - wrap64 (s.most - s.hi p)) else s.lo p) := ⟨_, rfl⟩
  obtain ⟨high, hhigh⟩ : ∃ high, high = (if wrap64 (b - wrap64 (s.least - s.lo p)) < s.hi p then wrap64 (b - wrap64 (s.least - s.lo p)) else s.hi p) := ⟨_, rfl⟩
  rw [← hlow, ← hhigh] at h
  by_cases hn : high < low
  · rw [if_pos hn] at h
    cases h
  · rw [if_neg hn] at h
    refine ⟨_, _, _, _, low, high, rfl, rfl, rfl, rfl, ?_, ?_, ?_, (Option.some.inj h).symm⟩
    · by_cases c : s.lo p < wrap64 (b - wrap64 (s.most - s.hi p))
      · left
        rw [if_pos c] at hlow
        exact ⟨by simp [c], hlow, by omega⟩
      · right
        rw [if_neg c] at hlow
        exact ⟨by simp [c], hlow⟩
    · by_cases c : wrap64 (b - wrap64 (s.least - s.lo p)) < s.hi p
      · left
        rw [if_pos c] at hhigh
        exact ⟨by simp [c], hhigh, by omega⟩
      · right
        rw [if_neg c] at hhigh
        exact ⟨by simp [c], hhigh⟩
    · simp only [eq_iff_iff, iff_false]
      exact hn

theorem draw_end {v9 wr : World} {gl gh M p n : Nat} {low high : Int} {slo shi : Nat → Int} (hL : IRow wr gl M slo) (hH : IRow wr gh M shi) (hne : gl ≠ gh) (hO : Off gl gh v9 wr) :
    IRow (((wr.drewN n).setCell ⟨gl, p, none⟩ (.int .i64 low)).setCell ⟨gh, p, none⟩ (.int .i64 high)) gl M (updI slo p low) ∧ IRow (((wr.drewN n).setCell ⟨gl, p, none⟩ (.int .i64 low)).setCell ⟨gh, p, none⟩ (.int .i64 high)) gh M (updI shi p high) ∧
      Off gl gh v9 (((wr.drewN n).setCell ⟨gl, p, none⟩ (.int .i64 low)).setCell ⟨gh, p, none⟩ (.int .i64 high)) := by
  have hL' : IRow (wr.drewN n) gl M slo := vrow_keep hL rfl
  have hH' : IRow (wr.drewN n) gh M shi := vrow_keep hH rfl
  have hO' : Off gl gh v9 (wr.drewN n) := ⟨hO.os, hO.tape, hO.output, hO.size, hO.block⟩
  refine ⟨vrow_keep (irow_set hL' p low) (Below.heap_setCell _ _ _ _ (by show gl ≠ gh; exact hne)), irow_set (vrow_keep hH' (Below.heap_setCell _ _ _ _ (by show gh ≠ gl; exact fun e => hne e.symm))) p high, ?_⟩
  exact (hO'.set (p := ⟨gl, p, none⟩) (Or.inl rfl) _).set (p := ⟨gh, p, none⟩) (Or.inr rfl) _

end Go.Proofs.YtfnbcpeipoobkaaGreat

namespace Go.Proofs.YtfnbcpeipoobkaaGreat
open Go.RowKit

structure LineD where
  gp : Nat
  cp : Nat
  P : List Nat
  b : Int
structure SS where
  ch : Bool
  lo : Nat → Int
  hi : Nat → Int
def l0 : LineD := ⟨0, 0, [], 0⟩
def swStep (l : LineD) (s : SS) : Option SS := (drawS l.P l.b s.lo s.hi).map fun d => ⟨s.ch || d.ch, d.lo, d.hi⟩
def swK (ls : List LineD) (s : SS) : Nat → Option SS
  | 0 => some s
  | k + 1 => (swK ls s k).bind (swStep (ls.getD k l0))
def runK (ls : List LineD) (lo hi : Nat → Int) : Nat → Option SS
  | 0 => some ⟨true, lo, hi⟩
  | t + 1 => (runK ls lo hi t).bind fun s => swK ls ⟨false, s.lo, s.hi⟩ ls.length

theorem swK_less {ls : List LineD} {s : SS} : ∀ {n : Nat} {d : SS}, swK ls s n = some d → ∀ k, k ≤ n → ∃ e, swK ls s k = some e
  | 0, d, h, k, hk => by
    have : k = 0 := by omega
    subst this
    exact ⟨d, h⟩
  | n + 1, d, h, k, hk => by
    by_cases e : k = n + 1
    · subst e
      exact ⟨d, h⟩
    · unfold swK at h
      cases hx : swK ls s n with
      | none => rw [hx] at h; cases h
      | some y => exact swK_less hx k (by omega)

def lineV (ls : List LineD) (i : Nat) : Value := if i % 2 = 0 then placesV (ls.getD (i / 2) l0).gp (ls.getD (i / 2) l0).cp (ls.getD (i / 2) l0).P else .int .i64 (ls.getD (i / 2) l0).b
theorem lineV_even (ls : List LineD) (k : Nat) : lineV ls (k * 2) = placesV (ls.getD k l0).gp (ls.getD k l0).cp (ls.getD k l0).P := by
  unfold lineV
  rw [if_pos (by omega), show k * 2 / 2 = k by omega]
theorem lineV_odd (ls : List LineD) (k : Nat) : lineV ls (k * 2 + 1) = .int .i64 (ls.getD k l0).b := by
  unfold lineV
  rw [if_neg (by omega), show (k * 2 + 1) / 2 = k by omega]

end Go.Proofs.YtfnbcpeipoobkaaGreat
