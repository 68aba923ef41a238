/- Bytes that came in, as the walk wants them. -/
import Derived.Test.YtpmbgjoilfdkaaaKI
import Derived.Test.YtpmbgjoilfdkaaaRows
import Derived.ProofKit
import Derived.Deep.Slices
import Derived.SizedLaws
namespace Go.Proofs.Ytpmbgjoilfdkaaa
open Go.ChangeShapes Go.WideShapes Go.ChangeAt Go.RowKit

theorem addr_one (b o i : Nat) : (⟨b, o, none⟩ : Addr).add i = ⟨b, o + i, none⟩ := by unfold Addr.add; simp
theorem u8_bounds {n : Int} (h : (Lit.int .u8 n).wf = true) : 0 ≤ n ∧ n < 256 := by
  simp [Lit.wf, IntKind.min, IntKind.max, IntKind.signed, IntKind.bits] at h
  omega

section
variable {H : Type} {enc : TypeId × Value → H} {P : Program} {w : World} {base : Nat} {held : Bool}

/-- A slice of bytes that came in, nil or not, as the walk wants it. -/
theorem open_bytesN {t e : TypeId} {fuel : Nat} {a0 : Option Addr} {len cap : Nat} {x : DataW H × List MemPlace} (ht : P.underlying t = some (.slice e)) (he : P.underlying e = some (.int .u8)) (ce : P.cellsOf e = 1)
    (h : DataW.trod enc P w base (fun _ => true) held fuel t [.slice a0 len cap] = some x) :
    ∃ (g o : Nat) (L : List Nat), L.length = len ∧ BAt w a0 g o L ∧ (a0 = none → cap = 0) ∧ len ≤ cap ∧ (a0 = none ∨ ∃ els sp, x.1 = .slice els sp ∧ els.length = len) := by
  rcases Deep.open_slice ht h with ⟨hcs, _⟩ | ⟨a, len', cap', m, n, D, Pl, hcs, hxx, hl, hm, hmm, hbb, hx⟩
  · simp at hcs
    obtain ⟨rfl, rfl, rfl⟩ := hcs
    exact ⟨0, 0, [], rfl, ⟨fun i => by simp, fun c => absurd c (by simp), fun i hi => absurd hi (by simp)⟩, fun _ => rfl, Nat.le_refl 0, Or.inl rfl⟩
  · simp at hcs
    obtain ⟨rfl, rfl, rfl⟩ := hcs
    simp only [if_true] at hmm
    have each : ∀ i, i < len → ∃ r : Nat, w.cell? (a.add i) = some (.int .u8 (r : Nat)) ∧ r < 256 := by
      intro i hi
      obtain ⟨cs', h1, h2⟩ := hx i (by omega)
      rw [ce] at h1
      obtain ⟨_, hlen, hcell⟩ := World.cells?_some h1
      match cs', hlen with
      | [v0], _ =>
        obtain ⟨r0, u0, _, w0⟩ := DataW.trod_int he h2
        have c0 := hcell 0 (by omega)
        rw [Deep.add_add] at c0
        simp at u0
        subst u0
        obtain ⟨k1, k2⟩ := u8_bounds w0
        refine ⟨r0.toNat, ?_, by omega⟩
        rw [show ((r0.toNat : Nat) : Int) = r0 by omega]
        simpa using c0
    obtain ⟨p, hp⟩ := Deep.choose_lt each
    obtain ⟨b, off, spot⟩ := a
    have hspot : 0 < len → spot = none := fun c => by simpa [Addr.add] using World.cell?_spot (hp 0 c).1
    have hget : ∀ i, i < len → ((List.range len).map p).getD i 0 = p i := fun i hi => by simp [List.getD, hi]
    refine ⟨b, off, (List.range len).map p, by simp, ⟨fun i => ?_, fun hl2 => ?_, fun i hi => ?_⟩, (fun h => by cases h), hl, Or.inr ⟨_, _, by rw [hbb], by simp⟩⟩
    · by_cases c : i < len
      · rw [hget i c]
        exact (hp i c).2
      · simp [List.getD, c]
    · simp at hl2
      have hs := hspot hl2
      subst hs
      refine ⟨rfl, ?_⟩
      have := (hp 0 hl2).1
      rw [addr_one] at this
      exact World.block_lt_of_cell? w _ this
    · simp at hi
      have hs := hspot (by omega)
      subst hs
      have h1 := (hp i hi).1
      rw [addr_one] at h1
      rw [hget i hi]
      exact h1
end

theorem own : ownKnob Try.prog.godebug = none := by kernel_rfl
theorem laidOut : laidOutB Try.prog = true := by kernel_rfl
theorem bytesByte : Try.prog.bytesOf 5 = 1 := by kernel_rfl
theorem cellsByte : Try.prog.cellsOf 5 = 1 := by kernel_rfl

end Go.Proofs.Ytpmbgjoilfdkaaa
