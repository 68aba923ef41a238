/- The document's own Normal, Cmp. -/
import Derived.Test.YthbghcebcahlnaaDK
namespace Go.Proofs.Ythbghcebcahlnaa
open Go.RowKit

theorem cell_heap {w w' : World} (h : w'.heap = w.heap) (p : Addr) : w'.cell? p = w.cell? p := World.cell?_of_block (by rw [h])
theorem frozen_heap {w w' : World} (h : w'.heap = w.heap) (p : Addr) : w'.frozen? p = w.frozen? p := World.frozen?_of_block (by rw [h])

theorem gcd_pos {p q : Int} (h : ¬ (p = 0 ∧ q = 0)) : 0 < Nat.gcd p.natAbs q.natAbs := by
  rcases Nat.eq_zero_or_pos (Nat.gcd p.natAbs q.natAbs) with e | e
  · have := Nat.gcd_eq_zero_iff.1 e
    omega
  · exact e

theorem normalS_big {p q : Int} (h : ¬ (p = 0 ∧ q = 0)) (hb : 16 < p.natAbs / Nat.gcd p.natAbs q.natAbs ∨ 16 < q.natAbs / Nat.gcd p.natAbs q.natAbs) : normalS p q = ((0, 0), 60) := by
  unfold normalS
  rw [if_neg h, if_pos hb]

theorem normalS_turn {p q : Int} (h : ¬ (p = 0 ∧ q = 0)) (hb : ¬ (16 < p.natAbs / Nat.gcd p.natAbs q.natAbs ∨ 16 < q.natAbs / Nat.gcd p.natAbs q.natAbs)) (hs : q ≠ 0 ∧ (decide (p < 0)) ≠ (decide (q < 0))) :
    normalS p q = ((-((p.natAbs / Nat.gcd p.natAbs q.natAbs : Nat) : Int), ((q.natAbs / Nat.gcd p.natAbs q.natAbs : Nat) : Int)), 0) := by
  unfold normalS
  rw [if_neg h, if_neg hb, if_pos hs]

theorem normalS_stay {p q : Int} (h : ¬ (p = 0 ∧ q = 0)) (hb : ¬ (16 < p.natAbs / Nat.gcd p.natAbs q.natAbs ∨ 16 < q.natAbs / Nat.gcd p.natAbs q.natAbs)) (hs : ¬ (q ≠ 0 ∧ (decide (p < 0)) ≠ (decide (q < 0)))) :
    normalS p q = ((((p.natAbs / Nat.gcd p.natAbs q.natAbs : Nat) : Int), ((q.natAbs / Nat.gcd p.natAbs q.natAbs : Nat) : Int)), 0) := by
  unfold normalS
  rw [if_neg h, if_neg hb, if_neg hs]

end Go.Proofs.Ythbghcebcahlnaa
