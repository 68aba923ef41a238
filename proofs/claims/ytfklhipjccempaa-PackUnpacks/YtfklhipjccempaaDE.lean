/- The program's own size, divisor, Normal. -/
import Derived.Test.YtfklhipjccempaaDG
namespace Go.Proofs.Ytfklhipjccempaa
open Go.RowKit

/-- What a call leaves that makes blocks and draws, and turns nothing that was there. -/
structure Grows (w w' : World) : Prop where
  below : Below w.heap.size w w'
  drawn : w.drawn ≤ w'.drawn

theorem Grows.refl (w : World) : Grows w w := ⟨Below.refl _ _, Nat.le_refl _⟩
theorem Grows.on {a b c : World} (h : Grows a b) (k : Grows b c) : Grows a c := ⟨h.below.trans (k.below.mono h.below.size), Nat.le_trans h.drawn k.drawn⟩
theorem Grows.alloc {a w : World} (h : Grows a w) (o : Obj) : Grows a (w.alloc o) := ⟨h.below.alloc h.below.size o, h.drawn⟩
theorem Grows.setCell {a w : World} (h : Grows a w) {p : Addr} (hp : a.heap.size ≤ p.block) (u : Value) : Grows a (w.setCell p u) := ⟨h.below.setCell hp u, h.drawn⟩

end Go.Proofs.Ytfklhipjccempaa
