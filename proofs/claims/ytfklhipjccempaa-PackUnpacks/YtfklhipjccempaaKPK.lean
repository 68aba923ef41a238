/- The document's Pack. -/
import Derived.Test.YtfklhipjccempaaKH
namespace Go.Proofs.Ytfklhipjccempaa
open Go.RowKit Fl Ieee

/-- What is asked of Pack. -/
def PackOk (fn : Nat) : Prop := ∀ (n g c : Nat) (f : Nat → Nat × Nat) (w : World), 1 ≤ n → n ≤ 64 → (∀ i, i < n * n → (f i).1 < 18446744073709551616 ∧ (f i).2 < 18446744073709551616) → Row w g (n * n) f →
  Calls Try.prog fn #[fieldV n g (n * n) c] w fun r w' => ∃ (a g' c' : Nat), r = .returned (.tuple #[.slice (some ⟨g', 0, none⟩) (byL a n (n * n) f).length c', .int .i64 0]) ∧ Sh n (n * n) f a ∧ w'.ownsRow w.heap.size 5 1 (.slice (some ⟨g', 0, none⟩) (byL a n (n * n) f).length c') (byL a n (n * n) f).length (bL (byL a n (n * n) f)) ∧ Below w.heap.size w w'

end Go.Proofs.Ytfklhipjccempaa
