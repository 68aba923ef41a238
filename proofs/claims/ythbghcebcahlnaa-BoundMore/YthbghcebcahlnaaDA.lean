/- Directions: what the document's calls answer; the greatest common divisor; the document's own Check, Normal, Cmp. -/
import Derived.Test.YthbghcebcahlnaaSP
import Derived.ProofKit
import Derived.Below
import Derived.Laws.ResultCell
import Derived.BigRegion
import Derived.BigQuiet
import Derived.WalkKit
import Derived.WalkSpells
import Derived.WalkLawsBesides
namespace Go.Proofs.Ythbghcebcahlnaa
open Go.RowKit

theorem hide {p : Prop} (h : p) : Hid p := h
theorem unhide {p : Prop} (h : Hid p) : p := h

/-- In its one form? -/
def okD (P Q : Int) : Bool := decide (0 ≤ Q ∧ Q ≤ 16 ∧ P.natAbs ≤ 16 ∧ Nat.gcd P.natAbs Q.natAbs = 1 ∧ (Q = 0 → P = 1))
def checkS (P Q : Int) : Int := if okD P Q then 0 else 60

/-- The direction of a line through the origin, and the error. -/
def normalS (p q : Int) : (Int × Int) × Int :=
  if p = 0 ∧ q = 0 then ((0, 0), 1)
  else if 16 < p.natAbs / Nat.gcd p.natAbs q.natAbs ∨ 16 < q.natAbs / Nat.gcd p.natAbs q.natAbs then ((0, 0), 60)
  else ((if q ≠ 0 ∧ (decide (p < 0)) ≠ (decide (q < 0)) then -((p.natAbs / Nat.gcd p.natAbs q.natAbs : Nat) : Int) else ((p.natAbs / Nat.gcd p.natAbs q.natAbs : Nat) : Int), ((q.natAbs / Nat.gcd p.natAbs q.natAbs : Nat) : Int)), 0)

def crossS (a b : Int × Int) : Int := a.1 * b.2 - a.2 * b.1
def cmpS (a b : Int × Int) : Int := if okD a.1 a.2 && okD b.1 b.2 then (if 0 < crossS a b then -1 else if crossS a b < 0 then 1 else 0) else 0

/-- An int. -/
def I64 (x : Int) : Prop := -9223372036854775808 ≤ x ∧ x ≤ 9223372036854775807
def dirV (a : Int × Int) : Value := .agg #[.int .i64 a.1, .int .i64 a.2]

theorem abs_lt {p : Int} (h : I64 p) : p.natAbs ≤ 9223372036854775808 := by
  unfold I64 at h
  omega

theorem below_box (w : World) (o : Obj) (k : Nat) : Below w.heap.size w ((w.alloc o).drewN k) := by
  have h := (Below.refl w.heap.size w).alloc (Nat.le_refl _) o
  exact ⟨h.os, h.tape, h.output, h.size, h.block⟩

theorem checkS_no {P Q : Int} (h : Q < 0 ∨ 16 < Q ∨ 16 < P.natAbs ∨ Nat.gcd P.natAbs Q.natAbs ≠ 1 ∨ (Q = 0 ∧ P ≠ 1)) : checkS P Q = 60 := by
  unfold checkS okD
  rw [if_neg]
  intro c
  simp only [decide_eq_true_eq] at c
  obtain ⟨c1, c2, c3, c4, c5⟩ := c
  rcases h with h | h | h | h | h
  · omega
  · omega
  · omega
  · exact h c4
  · exact h.2 (c5 h.1)

theorem checkS_yes {P Q : Int} (h1 : ¬ Q < 0) (h2 : ¬ 16 < Q) (h3 : ¬ 16 < P.natAbs) (h4 : Nat.gcd P.natAbs Q.natAbs = 1) (h5 : Q = 0 → P = 1) : checkS P Q = 0 := by
  unfold checkS okD
  rw [if_pos]
  simp only [decide_eq_true_eq]
  exact ⟨by omega, by omega, by omega, h4, h5⟩

end Go.Proofs.Ythbghcebcahlnaa
