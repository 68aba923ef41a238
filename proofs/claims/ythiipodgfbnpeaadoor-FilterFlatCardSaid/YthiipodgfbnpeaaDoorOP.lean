/- A slice of pairs that came in. -/
import Derived.Test.YthiipodgfbnpeaaDoorSB
import Derived.ProofKit
import Derived.OpenShut
import Derived.ChangeOld
import Derived.Deep.Slices
namespace Go.Proofs.YthiipodgfbnpeaaDoor
open Go.ChangeShapes Go.WideShapes Go.ChangeAt Go.RowKit

theorem i32_bounds {x : Int} (h : (Lit.int .i32 x).wf = true) : -2147483648 ≤ x ∧ x ≤ 2147483647 := by
  have h' : (decide (-2147483648 ≤ x) && decide (x ≤ 2147483647)) = true := h
  simpa using h'

section
variable {H : Type} {enc : TypeId × Value → H} {P : Program} {w : World} {base : Nat} {spare : Nat → Bool} {held : Bool}

/-- A slice of pairs that came in, nil or not, as the walk wants it. -/
theorem open_pairs {t e q : TypeId} {fuel : Nat} {a0 : Option Addr} {len cap : Nat} {x : DataW H × List MemPlace} (ht : P.underlying t = some (.slice e)) (he : P.underlying e = some (.array 2 q)) (hq : P.underlying q = some (.int .i32)) (ce : P.cellsOf e = 2) (cq : P.cellsOf q = 1)
    (h : DataW.trod enc P w base (fun _ => true) held fuel t [.slice a0 len cap] = some x) :
    ∃ (g o : Nat) (p : Nat → Int × Int), len ≤ 9223372036854775807 ∧ (0 < len → a0 = some ⟨g, o, none⟩) ∧ Pairs w g o len p ∧ Small32 len p := by
  rcases Deep.open_slice ht h with ⟨hcs, _⟩ | ⟨a, len', cap', m, n, D, Pl, hcs, _, hl, hm, hmm, _, hx⟩
  · simp at hcs
    obtain ⟨rfl, rfl, rfl⟩ := hcs
    exact ⟨0, 0, fun _ => (0, 0), by omega, fun c => absurd c (by omega), ⟨fun i hi => absurd hi (by omega), fun i hi => absurd hi (by omega), fun c => absurd c (by omega)⟩, ⟨fun i hi => absurd hi (by omega), fun i hi => absurd hi (by omega)⟩⟩
  · simp at hcs
    obtain ⟨rfl, rfl, rfl⟩ := hcs
    simp only [if_true] at hmm
    have each : ∀ i, i < len → ∃ r : Int × Int, w.cell? (a.add (i * 2)) = some (.int .i32 r.1) ∧ w.cell? (a.add (i * 2 + 1)) = some (.int .i32 r.2) ∧ (Lit.int .i32 r.1).wf = true ∧ (Lit.int .i32 r.2).wf = true := by
      intro i hi
      obtain ⟨cs', h1, h2⟩ := hx i (by omega)
      rw [ce] at h1
      obtain ⟨_, hlen, hcell⟩ := World.cells?_some h1
      obtain ⟨ys, k, _, hxy, _, hyl, hall⟩ := DataW.trod_array he h2
      have g0 := hall 0 (by decide)
      have g1 := hall 1 (by decide)
      rw [cq] at g0 g1
      match ys, hyl, cs', hlen with
      | [y0, y1], _, [v0, v1], _ =>
        simp at g0 g1
        obtain ⟨r0, e0, rfl, w0⟩ := DataW.trod_int hq g0
        obtain ⟨r1, e1, rfl, w1⟩ := DataW.trod_int hq g1
        have c0 := hcell 0 (by omega)
        have c1 := hcell 1 (by omega)
        rw [Deep.add_add] at c0 c1
        simp at e0 e1
        subst e0 e1
        exact ⟨(r0, r1), by simpa using c0, by simpa using c1, w0, w1⟩
    obtain ⟨p, hp⟩ := Deep.choose_lt each
    obtain ⟨b, off, spot⟩ := a
    have hspot : 0 < len → spot = none := fun c => by simpa [Addr.add] using World.cell?_spot (hp 0 c).1
    refine ⟨b, off, p, by unfold maxLen at hm; omega, fun c => by rw [hspot c], ⟨fun i hi => ?_, fun i hi => ?_, fun c => ?_⟩, ⟨fun i hi => i32_bounds (hp i hi).2.2.1, fun i hi => i32_bounds (hp i hi).2.2.2⟩⟩
    · have hs := hspot (by omega)
      subst hs
      have := (hp i hi).1
      rwa [add_plain] at this
    · have hs := hspot (by omega)
      subst hs
      have := (hp i hi).2.1
      rwa [add_plain, ← Nat.add_assoc] at this
    · have hs := hspot c
      subst hs
      have := (hp 0 c).1
      rw [add_plain] at this
      exact World.block_lt_of_cell? w _ this
end
end Go.Proofs.YthiipodgfbnpeaaDoor
