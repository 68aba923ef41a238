/- A slice of directions that came in. -/
import Derived.Test.YtgbkfmjkemkajaaPO
import Derived.Test.YtgbkfmjkemkajaaM4
import Derived.Test.YtgbkfmjkemkajaaRows
import Derived.ProofKit
import Derived.Deep.Slices
import Derived.SizedLaws
namespace Go.Proofs.Ytgbkfmjkemkajaa
open Go.ChangeShapes Go.WideShapes Go.ChangeAt Go.RowKit

section
variable {H : Type} {enc : TypeId × Value → H} {P : Program} {w : World} {base : Nat} {spare : Nat → Bool} {held : Bool}

/-- A slice of directions that came in, nil or not, as the walk wants it. -/
theorem open_dirs {t e q : TypeId} {f0 f1 : Field} {fuel : Nat} {a0 : Option Addr} {len cap : Nat} {x : DataW H × List MemPlace} (ht : P.underlying t = some (.slice e)) (he : P.underlying e = some (.struct #[f0, f1])) (hq : P.underlying q = some (.int .i64)) (ce : P.cellsOf e = 2) (cq : P.cellsOf q = 1)
    (e0 : f0.type = q ∧ f0.offset = 0) (e1 : f1.type = q ∧ f1.offset = 1) (h : DataW.trod enc P w base (fun _ => true) held fuel t [.slice a0 len cap] = some x) :
    ∃ (g o : Nat) (L : List (Int × Int)), L.length = len ∧ All64 L ∧ Dirs w a0 g o L ∧ (a0 = none → cap = 0) ∧ (a0 = none ∨ ∃ els sp, x.1 = .slice els sp ∧ els.length = len) := by
  rcases Deep.open_slice ht h with ⟨hcs, _⟩ | ⟨a, len', cap', m, n, D, Pl, hcs, hxx, hl, hm, hmm, hbb, hx⟩
  · simp at hcs
    obtain ⟨rfl, rfl, rfl⟩ := hcs
    exact ⟨0, 0, [], rfl, fun i d hd => by simp at hd, ⟨fun c => absurd c (by simp), fun i c hc => by simp at hc⟩, fun _ => rfl, Or.inl rfl⟩
  · simp at hcs
    obtain ⟨rfl, rfl, rfl⟩ := hcs
    simp only [if_true] at hmm
    have each : ∀ i, i < len → ∃ r : Int × Int, w.cell? (a.add (i * 2)) = some (.int .i64 r.1) ∧ w.cell? (a.add (i * 2 + 1)) = some (.int .i64 r.2) ∧ (Lit.int .i64 r.1).wf = true ∧ (Lit.int .i64 r.2).wf = true := by
      intro i hi
      obtain ⟨cs', h1, h2⟩ := hx i (by omega)
      rw [ce] at h1
      obtain ⟨_, hlen, hcell⟩ := World.cells?_some h1
      obtain ⟨y0, y1, k, _, _, g0, g1⟩ := trod_struct2 he h2
      rw [e0.1, e0.2, cq] at g0
      rw [e1.1, e1.2, cq] at g1
      match cs', hlen with
      | [v0, v1], _ =>
        simp at g0 g1
        obtain ⟨r0, u0, rfl, w0⟩ := DataW.trod_int hq g0
        obtain ⟨r1, u1, rfl, w1⟩ := DataW.trod_int hq g1
        have c0 := hcell 0 (by omega)
        have c1 := hcell 1 (by omega)
        rw [Deep.add_add] at c0 c1
        simp at u0 u1
        subst u0 u1
        exact ⟨(r0, r1), by simpa using c0, by simpa using c1, w0, w1⟩
    obtain ⟨p, hp⟩ := Deep.choose_lt each
    obtain ⟨b, off, spot⟩ := a
    have hspot : 0 < len → spot = none := fun c => by simpa [Addr.add] using World.cell?_spot (hp 0 c).1
    have hget : ∀ (i : Nat) (c : Int × Int), ((List.range len).map p)[i]? = some c → i < len ∧ c = p i := by
      intro i c hc
      have hi := (List.getElem?_eq_some_iff.1 hc).1
      simp at hi
      refine ⟨hi, ?_⟩
      rw [List.getElem?_map, List.getElem?_range hi] at hc
      simpa using hc.symm
    refine ⟨b, off, (List.range len).map p, by simp, fun i d hd => ?_, ⟨fun hl2 => ?_, fun i c hc => ?_⟩, (fun h => by cases h), Or.inr ⟨_, _, by rw [hbb], by simp⟩⟩
    · obtain ⟨hi, rfl⟩ := hget i d hd
      exact ⟨i64_bounds (hp i hi).2.2.1, i64_bounds (hp i hi).2.2.2⟩
    · simp at hl2
      have hs := hspot hl2
      subst hs
      refine ⟨rfl, ?_⟩
      have := (hp 0 hl2).1
      rw [addr_plus] at this
      exact World.block_lt_of_cell? w _ this
    · obtain ⟨hi, rfl⟩ := hget i c hc
      have hs := hspot (by omega)
      subst hs
      have h1 := (hp i hi).1
      have h2 := (hp i hi).2.1
      rw [addr_plus] at h1 h2
      exact ⟨h1, by rw [Nat.add_assoc]; exact h2⟩
end

theorem own : ownKnob Try.prog.godebug = none := by kernel_rfl
theorem laidOut : laidOutB Try.prog = true := by kernel_rfl
theorem bytesDir : Try.prog.bytesOf 35 = 16 := by kernel_rfl
end Go.Proofs.Ytgbkfmjkemkajaa
