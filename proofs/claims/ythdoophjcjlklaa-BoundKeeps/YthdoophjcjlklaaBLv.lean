/- A call that starts no goroutine is alone when it returns: so nobody else is more than leaving. -/
import Derived.Conc.Holds
import Derived.Handed
namespace Go.Proofs.Ythdoophjcjlklaa
open Go

theorem leaving_of_alone {P : Program} {last : Machine} {w : World} {t : Trace} (h : aloneAtReturn P last w t) : leavingAtReturn P last w t := by
  obtain ⟨hq, hh, he⟩ := h
  refine ⟨hh, ⟨fun g hg => ⟨0, ?_⟩, hq.2⟩, he⟩
  have h1 := hq.1
  unfold Machine.othersDone at h1
  have h2 := List.all_eq_true.1 h1 g hg
  have h3 : g.status = .finished := by simpa using h2
  exact h3

theorem leaving_of_handed {a : Assume} {C : Checked} {os : Os} {f : FuncId} {r : Reach} {Pre : World → Array Value → Prop} {Post : World → Array Value → Value → World → Prop} (h : ReturnsInHanded a C os f r Pre Post) : ReturnsInLeavingWide a C os f r Pre Post :=
  fun enter => ReturnsInOpen.mono (fun _ _ _ x => leaving_of_alone x) (fun _ x => x) (h enter)
end Go.Proofs.Ythdoophjcjlklaa
