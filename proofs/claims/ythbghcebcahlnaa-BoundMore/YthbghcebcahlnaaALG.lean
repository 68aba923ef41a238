/- byWorkers: behind the join. -/
import Derived.Test.YthbghcebcahlnaaALF
namespace Go.Proofs.Ythbghcebcahlnaa
open Go Go.RowKit

set_option maxRecDepth 100000 in
theorem bw_back {T : Machine → Prop} {cs : List Frame} {c : Frame} {w2 : World} {b : Nat} {n : Int} {cS : Value} {da : Option Addr} {m dc : Nat} (h3 : w2.heap[b + 3]? = some (.cells #[.slice (some ⟨b + 2, 0, none⟩) m m] 29))
    (h : To T (lone (c.finish (.slice (some ⟨b + 2, 0, none⟩) m m)) cs w2)) : To T (lone (fr15 Try.f15 b n cS da m dc) (c :: cs) w2) := by
  have c0 : w2.cell? ⟨b + 3, 0, none⟩ = some (.slice (some ⟨b + 2, 0, none⟩) m m) := by simp [World.cell?, h3]
  unfold fr15
  refine to_out (to_ret (K := fun a w3 => w3 = w2 ∧ a.defers = [] ∧ a.tmps[6]?.getD undef = .slice (some ⟨b + 2, 0, none⟩) m m) ?_ ?_)
  · simp only [rest15, body15, Try.f15, Option.getD_some, csnd]
    go_wp2_with fail
  · rintro a w3 todo ⟨rfl, hd, h6⟩
    obtain ⟨fn, hf, hr⟩ : ∃ fn, (barP Try.prog).funcs[15]? = some fn ∧ fn.results = #[.tmp 6] := ⟨_, rfl, rfl⟩
    refine to_leave ⟨rfl, hd, rfl, fn, hf, ?_⟩ h
    unfold results
    rw [hr]
    simp [go_sem, Frame.at, h6]
end Go.Proofs.Ythbghcebcahlnaa
