/- Whether directions determine every grid is told as the document says; no condition. -/
import Derived.Test.YtkjjhllmedkfhaaDKW
import Derived.Test.YtkjjhllmedkfhaaDO
import Derived.Test.YtkjjhllmedkfhaaRows
import Derived.ProofKit
import Derived.Deep.Slices
import Derived.SizedLaws
namespace Go.Proofs.Ytkjjhllmedkfhaa
open Go.ChangeShapes Go.WideShapes Go.ChangeAt Go.RowKit

section
variable {H : Type} {enc : TypeId × Value → H} {P : Program} {w : World} {base : Nat} {spare : Nat → Bool} {held : Bool}

/-- A slice of directions that came in, nil or not, as the walk wants it. -/
theorem open_dirs {t e q : TypeId} {f0 f1 : Field} {fuel : Nat} {a0 : Option Addr} {len cap : Nat} {x : DataW H × List MemPlace} (ht : P.underlying t = some (.slice e)) (he : P.underlying e = some (.struct #[f0, f1])) (hq : P.underlying q = some (.int .i64)) (ce : P.cellsOf e = 2) (cq : P.cellsOf q = 1)
    (e0 : f0.type = q ∧ f0.offset = 0) (e1 : f1.type = q ∧ f1.offset = 1) (h : DataW.trod enc P w base (fun _ => true) held fuel t [.slice a0 len cap] = some x) :
    ∃ (g o : Nat) (L : List (Int × Int)), L.length = len ∧ All64 L ∧ Dirs w a0 g o L ∧ (a0 = none → cap = 0) ∧ (a0 = none ∨ ∃ els sp, x.1 = .slice els sp ∧ els.length = len) := by
  rcases Deep.open_slice ht h with ⟨hcs, _⟩ | ⟨a, len', cap', m, n, D, Pl, hcs, hxx, hl, hm, hmm, hbb, hx⟩
  · simp at hcs
    obtain ⟨rfl, rfl, rfl⟩ := hcs
    exact ⟨0, 0, [], rfl, fun i d hd => by simp at hd, ⟨fun c => absurd c (by simp), fun i c hc => by simp at hc⟩, fun _ => rfl, Or.inl rfl⟩
  · simp at hcs
    obtain ⟨rfl, rfl, rfl⟩ := hcs
    simp only [if_true] at hmm
    have each : ∀ i, i < len → ∃ r : Int × Int, w.cell? (a.add (i * 2)) = some (.int .i64 r.1) ∧ w.cell? (a.add (i * 2 + 1)) = some (.int .i64 r.2) ∧ (Lit.int .i64 r.1).wf = true ∧ (Lit.int .i64 r.2).wf = true := by
      intro i hi
      obtain ⟨cs', h1, h2⟩ := hx i (by omega)
      rw [ce] at h1
      obtain ⟨_, hlen, hcell⟩ := World.cells?_some h1
      obtain ⟨y0, y1, k, _, _, g0, g1⟩ := trod_struct2 he h2
      rw [e0.1, e0.2, cq] at g0
      rw [e1.1, e1.2, cq] at g1
      match cs', hlen with
      | [v0, v1], _ =>
        simp at g0 g1
        obtain ⟨r0, u0, rfl, w0⟩ := DataW.trod_int hq g0
        obtain ⟨r1, u1, rfl, w1⟩ := DataW.trod_int hq g1
        have c0 := hcell 0 (by omega)
        have c1 := hcell 1 (by omega)
        rw [Deep.add_add] at c0 c1
        simp at u0 u1
        subst u0 u1
        exact ⟨(r0, r1), by simpa using c0, by simpa using c1, w0, w1⟩
    obtain ⟨p, hp⟩ := Deep.choose_lt each
    obtain ⟨b, off, spot⟩ := a
    have hspot : 0 < len → spot = none := fun c => by simpa [Addr.add] using World.cell?_spot (hp 0 c).1
    have hget : ∀ (i : Nat) (c : Int × Int), ((List.range len).map p)[i]? = some c → i < len ∧ c = p i := by
      intro i c hc
      have hi := (List.getElem?_eq_some_iff.1 hc).1
      simp at hi
      refine ⟨hi, ?_⟩
      rw [List.getElem?_map, List.getElem?_range hi] at hc
      simpa using hc.symm
    refine ⟨b, off, (List.range len).map p, by simp, fun i d hd => ?_, ⟨fun hl2 => ?_, fun i c hc => ?_⟩, (fun h => by cases h), Or.inr ⟨_, _, by rw [hbb], by simp⟩⟩
    · obtain ⟨hi, rfl⟩ := hget i d hd
      exact ⟨i64_bounds (hp i hi).2.2.1, i64_bounds (hp i hi).2.2.2⟩
    · simp at hl2
      have hs := hspot hl2
      subst hs
      refine ⟨rfl, ?_⟩
      have := (hp 0 hl2).1
      rw [addr_plus] at this
      exact World.block_lt_of_cell? w _ this
    · obtain ⟨hi, rfl⟩ := hget i c hc
      have hs := hspot (by omega)
      subst hs
      have h1 := (hp i hi).1
      have h2 := (hp i hi).2.1
      rw [addr_plus] at h1 h2
      exact ⟨h1, by rw [Nat.add_assoc]; exact h2⟩
end

theorem own : ownKnob Try.prog.godebug = none := by kernel_rfl
theorem laidOut : laidOutB Try.prog = true := by kernel_rfl
theorem bytesDir : Try.prog.bytesOf 23 = 16 := by kernel_rfl

set_option maxRecDepth 100000 in
theorem lifted (os : Os) (started : os.Started) (H : Type) (enc : TypeId × Value → H) :
    ReturnsInHanded {} Try.checked os 6 .any (Rows.dirKatzSpec.pre6 enc Try.prog Try.f6 Rows.dirKatzRow.domain false) (Rows.dirKatzSpec.post enc Try.prog Try.f6 false true false false) := by
  refine returnsInHanded_of_change_sized (C := Try.checked) own started (by kernel_rfl) Try.func6
    (ChangeSpec.witness6 (enc := enc) (C := Try.checked) false ⟨#[], #[.int .i64 0, .slice none 0 0], []⟩ 8 (by kernel_rfl) (by kernel_rfl) (by kernel_rfl) (by kernel_rfl)) ?_
  intro W base args ds gs before hval0 hW hcnd hsz _
  have hval : ∀ (j : Nat) t v, Try.f6.params[j]? = some t → args[j]? = some v → Value.okWide Try.prog W .any base t v := hval0
  have hW' := hW
  obtain ⟨p, q, hA0, hV, rfl, hfz, hnd⟩ := hW
  have hA : DataW.TrodAll enc Try.prog W 0 (fun _ => true) true Try.f6.params.toList args.toList ds p := hA0
  rw [Try.params6] at hA hval
  obtain ⟨v0, vs0, d0, ds0, p0, q0, hargs, rfl, rfl, h0, r0⟩ := trodAll_cons hA
  obtain ⟨v1, vs1, d1, ds1, p1, q1, rfl, rfl, rfl, h1, r1⟩ := trodAll_cons r0
  obtain ⟨rfl, rfl, rfl⟩ := trodAll_nil r1
  obtain rfl : args = #[v0, v1] := by cases args; simp_all
  obtain ⟨rfl, rfl⟩ := trodVars_none hV
  obtain ⟨n, rfl, rfl, rfl, w0⟩ := open_int Try.underlying3 (hval 0 3 v0 rfl rfl) h0
  obtain ⟨a0, len, cap, rfl⟩ := okWide_slice Try.underlying32 (hval 1 32 v1 rfl rfl)
  have h1k := h1
  obtain ⟨fuel, hf⟩ := h1
  obtain ⟨g, o, L, hlen, h64, hD, hnil, hel⟩ := open_dirs Try.underlying32 Try.underlying23 Try.underlying3 cellsDir cellsInt ⟨rfl, rfl⟩ ⟨rfl, rfl⟩ hf
  have hsmall : L.length * 16 ≤ 140737488351232 := by
    rcases hel with hn | ⟨els, sp, he, hel⟩
    · rcases Nat.eq_zero_or_pos L.length with hz | hz
      · omega
      · have := (hD.at_ hz).1
        rw [hn] at this
        cases this
    · obtain rfl : d1 = .slice els sp := he
      have h2 := sized_slice hsz (j := 1) (t := 32) (e := 23) rfl rfl Try.underlying32
      have hb : Try.checked.prog.bytesOf 23 = 16 := bytesDir
      rw [hb] at h2
      have hr : reachBytes = 140737488351232 := by decide
      rw [hr] at h2
      omega
  subst hlen
  clear hA0 hval0
  simp only [List.append_nil, List.nil_append] at hW'
  have hlt : ∀ x ∈ p1, x.block < W.heap.size := fun x hx => by simpa using hW'.lt x (by simpa using hx)
  refine (katzWalk (n := n) (cap := cap) hsmall h64 W hD hnil).mono fun e W' ⟨he, bel⟩ => ?_
  subst he
  have hend := trodAll_cons_mk (shut_int Try.underlying3 w0) (trodAll_cons_mk (Below.trod laidOut (by kernel_rfl) (of_decide_eq_true (by kernel_rfl)) h1k bel hlt) trodAll_mk0)
  simp only [List.append_nil, List.nil_append] at hend
  exact ⟨_, rfl, _, _, _, [], p1, [], hW', trodAll_cons_mk (shut_bool Try.underlying4 _) trodAll_mk0, hend, rfl, bel.frame _, fun h => by cases h⟩

theorem proved : Rows.DirKatzSaid :=
  OpenClaim.holds_of_wide 6 Try.f6 rfl rfl rfl rfl rfl rfl rfl ⟨rfl, rfl, rfl, rfl, rfl⟩ rfl rfl rfl rfl rfl (by kernel_rfl) Try.func6 (by kernel_rfl)
    (of_decide_eq_true (by kernel_rfl)) (by unfold Func.isWrapper; first | (rw [if_pos (by decide +kernel)]; kernel_rfl) | (rw [if_neg (by decide +kernel)]; exact ⟨rfl, rfl⟩))
    (fun os started H enc _ => lifted os started H enc)
end Go.Proofs.Ytkjjhllmedkfhaa
