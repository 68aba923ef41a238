/- FitFalls: its arguments, opened. -/
import Derived.Test.YtfnbcpeipoobkaaGreatM44
import Derived.Test.YtfnbcpeipoobkaaGreatRows
import Derived.Conc.LeavingOf
import Derived.ProofKit
import Derived.OpenShut
import Derived.ChangeOld
import Derived.ChangeSame
import Derived.Deep.Slices
import Derived.SizedLaws
namespace Go.Proofs.YtfnbcpeipoobkaaGreat
open Go.ChangeShapes Go.WideShapes Go.ChangeAt Go.RowKit

/-- Bytes. -/
def Byte8 (L : List Int) : Prop := ∀ i, i < L.length → 0 ≤ L.getD i 0 ∧ L.getD i 0 ≤ 255

theorem addr_one (b o i : Nat) : (⟨b, o, none⟩ : Addr).add i = ⟨b, o + i, none⟩ := by unfold Addr.add; simp
theorem u8_bounds {n : Int} (h : (Lit.int .u8 n).wf = true) : 0 ≤ n ∧ n ≤ 255 := by
  simp [Lit.wf, IntKind.min, IntKind.max, IntKind.bits, IntKind.signed] at h
  omega

section
variable {H : Type} {enc : TypeId × Value → H} {P : Program} {w : World} {base : Nat} {held : Bool}

/-- A slice of bytes that came in, nil or not. -/
theorem open_bytes {t e : TypeId} {fuel : Nat} {a0 : Option Addr} {len cap : Nat} {x : DataW H × List MemPlace} (ht : P.underlying t = some (.slice e)) (he : P.underlying e = some (.int .u8)) (ce : P.cellsOf e = 1)
    (h : DataW.trod enc P w base (fun _ => true) held fuel t [.slice a0 len cap] = some x) :
    ∃ (g o : Nat) (L : List Int), L.length = len ∧ Byte8 L ∧ Bytes w a0 g o L ∧ len ≤ 9223372036854775807 := by
  rcases Deep.open_slice ht h with ⟨hcs, _⟩ | ⟨a, len', cap', m, n, D, Pl, hcs, hxx, hl, hm, hmm, hbb, hx⟩
  · simp at hcs
    obtain ⟨rfl, rfl, rfl⟩ := hcs
    exact ⟨0, 0, [], rfl, fun i hi => absurd hi (by simp), ⟨fun c => absurd c (by simp), fun i c hc => by simp at hc⟩, by omega⟩
  · simp at hcs
    obtain ⟨rfl, rfl, rfl⟩ := hcs
    simp only [if_true] at hmm
    have each : ∀ i, i < len → ∃ r : Int, w.cell? (a.add i) = some (.int .u8 r) ∧ 0 ≤ r ∧ r ≤ 255 := by
      intro i hi
      obtain ⟨cs', h1, h2⟩ := hx i (by omega)
      rw [ce] at h1
      obtain ⟨_, hlen, hcell⟩ := World.cells?_some h1
      match cs', hlen with
      | [v0], _ =>
        obtain ⟨r0, u0, _, wf⟩ := DataW.trod_int he h2
        have c0 := hcell 0 (by omega)
        rw [Deep.add_add] at c0
        simp at u0
        subst u0
        exact ⟨r0, by simpa using c0, u8_bounds wf⟩
    obtain ⟨p, hp⟩ := Deep.choose_lt each
    obtain ⟨b, off, spot⟩ := a
    have hspot : 0 < len → spot = none := fun c => by simpa [Addr.add] using World.cell?_spot (hp 0 c).1
    have hm : cap ≤ 2 ^ 63 - 1 := hm
    refine ⟨b, off, (List.range len).map p, by simp, fun i hi => ?_, ⟨fun hl2 => ?_, fun i c hc => ?_⟩, by omega⟩
    · simp at hi
      have : ((List.range len).map p).getD i 0 = p i := by simp [List.getD_eq_getElem?_getD, List.getElem?_range hi]
      rw [this]
      exact (hp i hi).2
    · simp at hl2
      have hs := hspot hl2
      subst hs
      refine ⟨rfl, ?_⟩
      have := (hp 0 hl2).1
      rw [addr_one] at this
      exact World.block_lt_of_cell? w _ this
    · have hi := (List.getElem?_eq_some_iff.1 hc).1
      simp at hi
      rw [List.getElem?_map, List.getElem?_range hi] at hc
      simp at hc
      subst hc
      have hs := hspot (by omega)
      subst hs
      have h1 := (hp i hi).1
      rw [addr_one] at h1
      exact h1
/-- A slice of directions that came in, nil or not. -/
theorem open_dirs {t e q : TypeId} {f0 f1 : Field} {fuel : Nat} {a0 : Option Addr} {len cap : Nat} {x : DataW H × List MemPlace} (ht : P.underlying t = some (.slice e)) (he : P.underlying e = some (.struct #[f0, f1])) (hq : P.underlying q = some (.int .i64)) (ce : P.cellsOf e = 2) (cq : P.cellsOf q = 1)
    (e0 : f0.type = q ∧ f0.offset = 0) (e1 : f1.type = q ∧ f1.offset = 1) (h : DataW.trod enc P w base (fun _ => true) held fuel t [.slice a0 len cap] = some x) :
    ∃ (g o : Nat) (L : List (Int × Int)), L.length = len ∧ (∀ i, i < L.length → I64 (L.getD i (0, 0)).1 ∧ I64 (L.getD i (0, 0)).2) ∧ Dirs w a0 g o L ∧ len ≤ cap ∧ len ≤ 9223372036854775807 := by
  rcases Deep.open_slice ht h with ⟨hcs, _⟩ | ⟨a, len', cap', m, n, D, Pl, hcs, hxx, hl, hm, hmm, hbb, hx⟩
  · simp at hcs
    obtain ⟨rfl, rfl, rfl⟩ := hcs
    exact ⟨0, 0, [], rfl, fun i hi => absurd hi (by simp), ⟨fun c => absurd c (by simp), fun i c hc => by simp at hc⟩, Nat.le_refl _, by omega⟩
  · simp at hcs
    obtain ⟨rfl, rfl, rfl⟩ := hcs
    simp only [if_true] at hmm
    have each : ∀ i, i < len → ∃ r : Int × Int, w.cell? (a.add (i * 2)) = some (.int .i64 r.1) ∧ w.cell? (a.add (i * 2 + 1)) = some (.int .i64 r.2) ∧ (Lit.int .i64 r.1).wf = true ∧ (Lit.int .i64 r.2).wf = true := by
      intro i hi
      obtain ⟨cs', h1, h2⟩ := hx i (by omega)
      rw [ce] at h1
      obtain ⟨_, hlen, hcell⟩ := World.cells?_some h1
      obtain ⟨y0, y1, k, _, _, g0, g1⟩ := trod_struct2 he h2
      rw [e0.1, e0.2, cq] at g0
      rw [e1.1, e1.2, cq] at g1
      match cs', hlen with
      | [v0, v1], _ =>
        simp at g0 g1
        obtain ⟨r0, u0, rfl, w0⟩ := DataW.trod_int hq g0
        obtain ⟨r1, u1, rfl, w1⟩ := DataW.trod_int hq g1
        have c0 := hcell 0 (by omega)
        have c1 := hcell 1 (by omega)
        rw [Deep.add_add] at c0 c1
        simp at u0 u1
        subst u0 u1
        exact ⟨(r0, r1), by simpa using c0, by simpa using c1, w0, w1⟩
    obtain ⟨p, hp⟩ := Deep.choose_lt each
    obtain ⟨b, off, spot⟩ := a
    have hspot : 0 < len → spot = none := fun c => by simpa [Addr.add] using World.cell?_spot (hp 0 c).1
    have hm : cap ≤ 2 ^ 63 - 1 := hm
    refine ⟨b, off, (List.range len).map p, by simp, fun i hi => ?_, ⟨fun hl2 => ?_, fun i c hc => ?_⟩, hl, by omega⟩
    · simp at hi
      have : ((List.range len).map p).getD i (0, 0) = p i := by simp [List.getD_eq_getElem?_getD, List.getElem?_range hi]
      rw [this]
      exact ⟨i64_bounds (hp i hi).2.2.1, i64_bounds (hp i hi).2.2.2⟩
    · simp at hl2
      have hs := hspot hl2
      subst hs
      refine ⟨rfl, ?_⟩
      have := (hp 0 hl2).1
      rw [addr_one] at this
      exact World.block_lt_of_cell? w _ this
    · have hi := (List.getElem?_eq_some_iff.1 hc).1
      simp at hi
      rw [List.getElem?_map, List.getElem?_range hi] at hc
      simp at hc
      subst hc
      have hs := hspot (by omega)
      subst hs
      have h1 := (hp i hi).1
      have h2 := (hp i hi).2.1
      rw [addr_one] at h1 h2
      exact ⟨h1, by rw [Nat.add_assoc]; exact h2⟩
end

theorem ownT : ownKnob Tryz.prog.godebug = none := by kernel_rfl
theorem laidOutT : laidOutB Tryz.prog = true := by kernel_rfl
theorem cellsByteT : Tryz.prog.cellsOf 5 = 1 := by kernel_rfl
theorem cellsDirT : Tryz.prog.cellsOf 38 = 2 := by kernel_rfl
theorem cellsIntT : Tryz.prog.cellsOf 3 = 1 := by kernel_rfl
end Go.Proofs.YtfnbcpeipoobkaaGreat
