/- A projection against any bins is the grid against the bins spread back; no condition. -/
import Derived.Test.YtjmdlgekheehgaaYM
import Derived.Test.YtjmdlgekheehgaaDO
import Derived.Test.YtjmdlgekheehgaaRows
import Derived.ProofKit
import Derived.Deep.Slices
namespace Go.Proofs.Ytjmdlgekheehgaa
open Go.ChangeShapes Go.WideShapes Go.ChangeAt Go.RowKit

theorem addr_one (b o i : Nat) : (⟨b, o, none⟩ : Addr).add i = ⟨b, o + i, none⟩ := by unfold Addr.add; simp

section
variable {H : Type} {enc : TypeId × Value → H} {P : Program} {w : World} {base : Nat} {held : Bool}

/-- A slice of bytes that came in, nil or not, as the walk wants it. -/
theorem open_bytes {t e : TypeId} {fuel : Nat} {a0 : Option Addr} {len cap : Nat} {x : DataW H × List MemPlace} (ht : P.underlying t = some (.slice e)) (he : P.underlying e = some (.int .u8)) (ce : P.cellsOf e = 1)
    (h : DataW.trod enc P w base (fun _ => true) held fuel t [.slice a0 len cap] = some x) :
    ∃ (g o : Nat) (L : List Int), L.length = len ∧ Bytes w a0 g o L := by
  rcases Deep.open_slice ht h with ⟨hcs, _⟩ | ⟨a, len', cap', m, n, D, Pl, hcs, hxx, hl, hm, hmm, hbb, hx⟩
  · simp at hcs
    obtain ⟨rfl, rfl, rfl⟩ := hcs
    exact ⟨0, 0, [], rfl, ⟨fun c => absurd c (by simp), fun i c hc => by simp at hc⟩⟩
  · simp at hcs
    obtain ⟨rfl, rfl, rfl⟩ := hcs
    simp only [if_true] at hmm
    have each : ∀ i, i < len → ∃ r : Int, w.cell? (a.add i) = some (.int .u8 r) := by
      intro i hi
      obtain ⟨cs', h1, h2⟩ := hx i (by omega)
      rw [ce] at h1
      obtain ⟨_, hlen, hcell⟩ := World.cells?_some h1
      match cs', hlen with
      | [v0], _ =>
        obtain ⟨r0, u0, _, _⟩ := DataW.trod_int he h2
        have c0 := hcell 0 (by omega)
        rw [Deep.add_add] at c0
        simp at u0
        subst u0
        exact ⟨r0, by simpa using c0⟩
    obtain ⟨p, hp⟩ := Deep.choose_lt each
    obtain ⟨b, off, spot⟩ := a
    have hspot : 0 < len → spot = none := fun c => by simpa [Addr.add] using World.cell?_spot (hp 0 c)
    refine ⟨b, off, (List.range len).map p, by simp, ⟨fun hl2 => ?_, fun i c hc => ?_⟩⟩
    · simp at hl2
      have hs := hspot hl2
      subst hs
      refine ⟨rfl, ?_⟩
      have := hp 0 hl2
      rw [addr_one] at this
      exact World.block_lt_of_cell? w _ this
    · have hi := (List.getElem?_eq_some_iff.1 hc).1
      simp at hi
      rw [List.getElem?_map, List.getElem?_range hi] at hc
      simp at hc
      subst hc
      have hs := hspot (by omega)
      subst hs
      have h1 := hp i hi
      rw [addr_one] at h1
      exact h1
end

theorem own : ownKnob Try.prog.godebug = none := by kernel_rfl
theorem laidOut : laidOutB Try.prog = true := by kernel_rfl
theorem cellsByte : Try.prog.cellsOf 5 = 1 := by kernel_rfl

set_option maxRecDepth 100000 in
theorem lifted (os : Os) (started : os.Started) (H : Type) (enc : TypeId × Value → H) :
    ReturnsInHanded {} Try.checked os 3 .any (Rows.rayAdjointSpec.pre6 enc Try.prog Try.f3 Rows.rayAdjointRow.domain false) (Rows.rayAdjointSpec.post enc Try.prog Try.f3 false true false false) := by
  refine returnsInHanded_of_change (C := Try.checked) own started (by kernel_rfl) Try.func3
    (ChangeSpec.witness6 (enc := enc) (C := Try.checked) false ⟨#[], #[.slice none 0 0, .slice none 0 0, .agg #[.int .i64 0, .int .i64 0]], []⟩ 8 (by kernel_rfl) (by kernel_rfl) (by kernel_rfl) (by kernel_rfl)) ?_
  intro W base args ds gs before hval0 hW hcnd _
  have hval : ∀ (j : Nat) t v, Try.f3.params[j]? = some t → args[j]? = some v → Value.okWide Try.prog W .any base t v := hval0
  have hW' := hW
  obtain ⟨p, q, hA0, hV, rfl, hfz, hnd⟩ := hW
  have hA : DataW.TrodAll enc Try.prog W 0 (fun _ => true) true Try.f3.params.toList args.toList ds p := hA0
  rw [Try.params3] at hA hval
  obtain ⟨v0, vs0, d0, ds0, p0, q0, hargs, rfl, rfl, h0, r0⟩ := trodAll_cons hA
  obtain ⟨v1, vs1, d1, ds1, p1, q1, rfl, rfl, rfl, h1, r1⟩ := trodAll_cons r0
  obtain ⟨v2, vs2, d2, ds2, p2, q2, rfl, rfl, rfl, h2, r2⟩ := trodAll_cons r1
  obtain ⟨rfl, rfl, rfl⟩ := trodAll_nil r2
  obtain rfl : args = #[v0, v1, v2] := by cases args; simp_all
  obtain ⟨rfl, rfl⟩ := trodVars_none hV
  obtain ⟨a0, len0, cap0, rfl⟩ := okWide_slice Try.underlying22 (hval 0 22 v0 rfl rfl)
  obtain ⟨a1, len1, cap1, rfl⟩ := okWide_slice Try.underlying22 (hval 1 22 v1 rfl rfl)
  have h0k := h0
  have h1k := h1
  obtain ⟨fuel0, hf0⟩ := h0
  obtain ⟨fuel1, hf1⟩ := h1
  obtain ⟨g0, o0, L0, rfl, hD0⟩ := open_bytes Try.underlying22 Try.underlying5 cellsByte hf0
  obtain ⟨g1, o1, L1, rfl, hD1⟩ := open_bytes Try.underlying22 Try.underlying5 cellsByte hf1
  obtain ⟨x, y, rfl, rfl, rfl, wx, wy⟩ := open_pair Try.underlying24 Try.underlying3 Try.underlying3 cellsDir rfl rfl cellsInt cellsInt (hval 2 24 v2 rfl rfl) h2
  clear hA0 hval0
  simp only [List.append_nil] at hW'
  have hlt : ∀ x ∈ p0 ++ p1, x.block < W.heap.size := fun x hx => by simpa using hW'.lt x (by simpa using hx)
  refine (adjointWalk (c1 := cap0) (c2 := cap1) (d := (x, y)) ⟨i64_bounds wx, i64_bounds wy⟩ W hD0 hD1).mono fun e W' ⟨he, bel⟩ => ?_
  subst he
  have hend := trodAll_cons_mk (Below.trod laidOut (by kernel_rfl) (of_decide_eq_true (by kernel_rfl)) h0k bel fun x hx => hlt x (List.mem_append_left _ hx))
    (trodAll_cons_mk (Below.trod laidOut (by kernel_rfl) (of_decide_eq_true (by kernel_rfl)) h1k bel fun x hx => hlt x (List.mem_append_right _ hx))
    (trodAll_cons_mk (shut_pair Try.underlying24 Try.underlying3 Try.underlying3 cellsDir rfl rfl cellsInt cellsInt wx wy) trodAll_mk0))
  simp only [List.append_nil] at hend
  exact ⟨_, rfl, _, _, _, [], p0 ++ p1, [], hW', trodAll_cons_mk (shut_bool Try.underlying4 _) trodAll_mk0, hend, rfl, bel.frame _, fun h => by cases h⟩

theorem proved : Rows.RayAdjointSaid :=
  OpenClaim.holds_of_wide 3 Try.f3 rfl rfl rfl rfl rfl rfl rfl ⟨rfl, rfl, rfl, rfl, rfl⟩ rfl rfl rfl rfl rfl (by kernel_rfl) Try.func3 (by kernel_rfl)
    (of_decide_eq_true (by kernel_rfl)) (by unfold Func.isWrapper; first | (rw [if_pos (by decide +kernel)]; kernel_rfl) | (rw [if_neg (by decide +kernel)]; exact ⟨rfl, rfl⟩))
    (fun os started H enc _ => lifted os started H enc)
end Go.Proofs.Ytjmdlgekheehgaa
