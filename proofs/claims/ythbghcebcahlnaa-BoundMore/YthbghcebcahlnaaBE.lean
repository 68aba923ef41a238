/- The landed Width and Certain. -/
import Derived.Test.YthbghcebcahlnaaBC
namespace Go.Proofs.Ythbghcebcahlnaa
open Go.RowKit

set_option maxRecDepth 100000 in
set_option maxHeartbeats 3200000 in
theorem boundWidth : WidthOk 11 := by
  intro A B u v w lA lB hu hv
  obtain ⟨a1, cap1, g1, o1, rfl, h1⟩ := hu
  obtain ⟨a2, cap2, g2, o2, rfl, h2⟩ := hv
  have s1 := hide h1.at_
  have s2 := hide h2.at_
  have t1 := hide (fun i (hi : i < A.length) => h1.get hi)
  have t2 := hide (fun i (hi : i < B.length) => h2.get hi)
  clear h1 h2
  have hw : widS A B = widK A B (min A.length B.length) := rfl
  rw [hw]
  clear hw
  generalize A.length = N at *
  generalize B.length = M at *
  obtain ⟨K, hK⟩ : ∃ K, min N M = K := ⟨_, rfl⟩
  rw [hK]
  have hd : ((M : Int) < (N : Int)) = True ∧ K = M ∨ ((M : Int) < (N : Int)) = False ∧ K = N := by
    rcases Nat.lt_or_ge M N with h | h
    · exact Or.inl ⟨by simp; omega, by omega⟩
    · exact Or.inr ⟨by simp; omega, by omega⟩
  rcases hd with ⟨hm, e⟩ | ⟨hm, e⟩
  all_goals
    subst e
    replace hK := hide hK
    go_enter Bar.func11, Bar.ntmps11
    go_wp2_with fail
    clear hm
    go_loopw [5, 12] (fun sv iv wr => ∃ i : Nat, i ≤ K ∧ iv = .int .i64 i ∧ sv = .int .i64 (widK A B i) ∧ Hid (wr.heap = w.heap) ∧ Hid (Below w.heap.size w wr)) (fun _ iv _ => K - (intOf iv).toNat)
    case atStart => exact ⟨0, Nat.zero_le _, rfl, rfl, rfl, Below.refl _ _⟩
    case round =>
      obtain ⟨i, hi, rfl, rfl, hh, hB⟩ := hrel
      by_cases c1 : i < K
      · have q1 : ((i : Int) < (K : Int)) = True := by simp; omega
        have hK' := unhide hK
        first | have d1 : i < N := by omega | have d1 : i < M := by omega
        have k1 := (heapCell (unhide hh) _).trans (unhide t1 i (by omega))
        have k2 := (heapCell (unhide hh) _).trans (unhide t2 i (by omega))
        rw [(unhide s1 (by omega)).1, (unhide s2 (by omega)).1]
        have hst : widK A B (i + 1) = wrap64 (widK A B i + wrap64 (B.getD i 0 - A.getD i 0)) := rfl
        have hst' := hide hst
        clear hst hK'
        generalize A.getD i 0 = x at *
        generalize B.getD i 0 = y at *
        go_wp2_with fail
        go_quiet (fail)
        go_wp2_with fail
        have hb := unhide hB
        exact ⟨⟨i + 1, by omega, by go_num, by rw [unhide hst'], unhide hh, ⟨hb.os, hb.tape, hb.output, hb.size, hb.block⟩⟩, by simp [intOf]; omega⟩
      · have q1 : ((i : Int) < (K : Int)) = False := by simp; omega
        obtain rfl : i = K := by omega
        go_wp2_with fail
        go_ret
        exact ⟨rfl, unhide hB⟩

theorem certK_get (A B : List Int) {k i : Nat} (hi : i < k) : (certK A B k)[i]? = some (A.getD i 0 == B.getD i 0) := by
  unfold certK
  rw [List.getElem?_map, List.getElem?_range hi]
  rfl

theorem vrow_bools {w : World} {g n : Nat} {f : Nat → Bool} {L : List Bool} (h : VRow w 4 g n (fun i => .bool (f i))) (hl : L.length = n) (hL : ∀ i, i < n → L[i]? = some (f i)) : Bools w (.slice (some ⟨g, 0, none⟩) n n) L := by
  refine ⟨some ⟨g, 0, none⟩, n, g, 0, by rw [hl], ⟨fun _ => ⟨rfl, vrow_lt h⟩, fun i c hi => ?_⟩⟩
  have hlt : i < n := by have := (List.getElem?_eq_some_iff.1 hi).1; omega
  rw [hL i hlt] at hi
  obtain rfl := Option.some.inj hi
  rw [Nat.zero_add]
  exact vrow_at h hlt

end Go.Proofs.Ythbghcebcahlnaa
