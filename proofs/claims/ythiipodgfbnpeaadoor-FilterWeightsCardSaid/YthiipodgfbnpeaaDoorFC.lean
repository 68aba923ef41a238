/- The weights of a filter are what the document says: all numbers. -/
import Derived.Test.YthiipodgfbnpeaaDoorFB
namespace Go.Proofs.YthiipodgfbnpeaaDoor
open Go.RowKit

theorem weightsWalk (hWB : WeightsBad 6) (hWG : WeightsGood 6) (hLB : LengthBad 8) (hLG : LengthGood 8) {n kind : Int} (w : World)
    (hal : Calls Tryd.prog 5 #[] w fun e w' => e = .returned (.bool true) ∧ Below w.heap.size w w') :
    Calls Tryd.prog 3 #[.int .i64 n, .int .i64 kind] w fun e w' => e = .returned (.bool true) ∧ Below w.heap.size w w' := by
  by_cases hk : kind < 1 ∨ 3 < kind
  · exact weightsBadWalk hWB hLB hLG (Or.inr hk) w hal
  · rcases ord_or n with hW | ⟨m, s, rfl, hO⟩
    · exact weightsBadWalk hWB hLB hLG (Or.inl hW) w hal
    · obtain ⟨kd, rfl⟩ : ∃ kd : Nat, kind = kd := ⟨kind.toNat, by omega⟩
      exact weightsGoodWalk hWG hLB hLG hO (by omega) (by omega) w hal
end Go.Proofs.YthiipodgfbnpeaaDoor
