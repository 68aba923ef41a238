/- The landed Width and Certain. -/
import Derived.Test.YthdoophjcjlklaaBC
namespace Go.Proofs.Ythdoophjcjlklaa
open Go.RowKit

set_option maxRecDepth 100000 in
set_option maxHeartbeats 3200000 in
theorem boundWidth : WidthOk 13 := by
  intro A B u v w lA lB hu hv
  obtain ⟨a1, cap1, g1, o1, rfl, h1⟩ := hu
  obtain ⟨a2, cap2, g2, o2, rfl, h2⟩ := hv
  have s1 := hide h1.at_
  have s2 := hide h2.at_
  have t1 := hide (fun i (hi : i < A.length) => h1.get hi)
  have t2 := hide (fun i (hi : i < B.length) => h2.get hi)
  clear h1 h2
  have hw : widS A B = widK A B (min A.length B.length) := rfl
  rw [hw]
  clear hw
  generalize A.length = N at *
  generalize B.length = M at *
  obtain ⟨K, hK⟩ : ∃ K, min N M = K := ⟨_, rfl⟩
  rw [hK]
  have hd : ((M : Int) < (N : Int)) = True ∧ K = M ∨ ((M : Int) < (N : Int)) = False ∧ K = N := by
    rcases Nat.lt_or_ge M N with h | h
    · exact Or.inl ⟨by simp; omega, by omega⟩
    · exact Or.inr ⟨by simp; omega, by omega⟩
  rcases hd with ⟨hm, e⟩ | ⟨hm, e⟩
  all_goals
    subst e
    replace hK := hide hK
    go_enter Try.func13, Try.ntmps13
    go_wp2_with fail
    clear hm
    go_loopw [5, 12] (fun sv iv wr => ∃ i : Nat, i ≤ K ∧ iv = .int .i64 i ∧ sv = .int .i64 (widK A B i) ∧ Hid (wr.heap = w.heap) ∧ Hid (Below w.heap.size w wr)) (fun _ iv _ => K - (intOf iv).toNat)
    case atStart => exact ⟨0, Nat.zero_le _, rfl, rfl, rfl, Below.refl _ _⟩
    case round =>
      obtain ⟨i, hi, rfl, rfl, hh, hB⟩ := hrel
      by_cases c1 : i < K
      · have q1 : ((i : Int) < (K : Int)) = True := by simp; omega
        have hK' := unhide hK
        first | have d1 : i < N := by omega | have d1 : i < M := by omega
        have k1 := (heapCell (unhide hh) _).trans (unhide t1 i (by omega))
        have k2 := (heapCell (unhide hh) _).trans (unhide t2 i (by omega))
        rw [(unhide s1 (by omega)).1, (unhide s2 (by omega)).1]
        have hst : widK A B (i + 1) = wrap64 (widK A B i + wrap64 (B.getD i 0 - A.getD i 0)) := rfl
        have hst' := hide hst
        clear hst hK'
        generalize A.getD i 0 = x at *
        generalize B.getD i 0 = y at *
        go_wp2_with fail
        go_quiet (fail)
        go_wp2_with fail
        have hb := unhide hB
        exact ⟨⟨i + 1, by omega, by go_num, by rw [unhide hst'], unhide hh, ⟨hb.os, hb.tape, hb.output, hb.size, hb.block⟩⟩, by simp [intOf]; omega⟩
      · have q1 : ((i : Int) < (K : Int)) = False := by simp; omega
        obtain rfl : i = K := by omega
        go_wp2_with fail
        go_ret
        exact ⟨rfl, unhide hB⟩

theorem certK_get (A B : List Int) {k i : Nat} (hi : i < k) : (certK A B k)[i]? = some (A.getD i 0 == B.getD i 0) := by
  unfold certK
  rw [List.getElem?_map, List.getElem?_range hi]
  rfl

theorem vrow_bools {w : World} {g n : Nat} {f : Nat → Bool} {L : List Bool} (h : VRow w 4 g n (fun i => .bool (f i))) (hl : L.length = n) (hL : ∀ i, i < n → L[i]? = some (f i)) : Bools w (.slice (some ⟨g, 0, none⟩) n n) L := by
  refine ⟨some ⟨g, 0, none⟩, n, g, 0, by rw [hl], ⟨fun _ => ⟨rfl, vrow_lt h⟩, fun i c hi => ?_⟩⟩
  have hlt : i < n := by have := (List.getElem?_eq_some_iff.1 hi).1; omega
  rw [hL i hlt] at hi
  obtain rfl := Option.some.inj hi
  rw [Nat.zero_add]
  exact vrow_at h hlt

set_option maxRecDepth 100000 in
set_option maxHeartbeats 3200000 in
theorem boundCertain : CertOk 10 := by
  intro A B u v w lA lB hu hv
  obtain ⟨a1, cap1, g1, o1, rfl, h1⟩ := hu
  obtain ⟨a2, cap2, g2, o2, rfl, h2⟩ := hv
  have s1 := hide h1.at_
  have s2 := hide h2.at_
  have t1 := hide (fun i (hi : i < A.length) => h1.get hi)
  have t2 := hide (fun i (hi : i < B.length) => h2.get hi)
  have ck := hide (fun k i (hi : i < k) => certK_get A B hi)
  have lk := hide (certK_len A B)
  have hw : certL A B = certK A B (min A.length B.length) := rfl
  rw [hw]
  clear h1 h2 hw
  generalize A.length = N at *
  generalize B.length = M at *
  generalize certK A B = CK at *
  obtain ⟨K, hK⟩ : ∃ K, min N M = K := ⟨_, rfl⟩
  rw [hK]
  have hd : ((M : Int) < (N : Int)) = True ∧ K = M ∨ ((M : Int) < (N : Int)) = False ∧ K = N := by
    rcases Nat.lt_or_ge M N with h | h
    · exact Or.inl ⟨by simp; omega, by omega⟩
    · exact Or.inr ⟨by simp; omega, by omega⟩
  rcases hd with ⟨hm, e⟩ | ⟨hm, e⟩
  all_goals
    subst e
    have hmk := run_make_row' (P := Try.prog) 29 4 (.bool false) 1 Try.underlying29 infoBool rfl .i64 .i64 K (by omega) (by omega)
    have R0 : Hid (VRow (w.alloc (.cells (madeCells #[.bool false] K) 4)) 4 w.heap.size K (fun _ => .bool false)) := vrow_new w (.bool false) K 4
    have HB : Hid (Below w.heap.size w (w.alloc (.cells (madeCells #[.bool false] K) 4))) := (Below.refl _ _).alloc (Nat.le_refl _) _
    replace hK := hide hK
    go_enter Try.func10, Try.ntmps10
    go_wp2_with fail
    clear hm hmk
    generalize w.alloc (.cells (madeCells #[.bool false] K) 4) = w1 at *
    go_loopw [15] (fun iv wr => ∃ i : Nat, i ≤ K ∧ iv = .int .i64 i ∧ Hid (VRow wr 4 w.heap.size K (fun j => .bool (if j < i then A.getD j 0 == B.getD j 0 else false))) ∧ Hid (Below w.heap.size w wr)) (fun iv _ => K - (intOf iv).toNat)
    case atStart => exact ⟨0, Nat.zero_le _, rfl, vrow_ext (unhide R0) (fun j hj => by simp), HB⟩
    case round =>
      clear R0 HB
      obtain ⟨i, hi, rfl, hR, hB⟩ := hrel
      by_cases c1 : i < K
      · have q1 : ((i : Int) < (K : Int)) = True := by simp; omega
        have hK' := unhide hK
        first | have d1 : i < N := by omega | have d1 : i < M := by omega
        obtain ⟨e1, l1⟩ := unhide s1 (by omega)
        obtain ⟨e2, l2⟩ := unhide s2 (by omega)
        have k1 := ((unhide hB).cell (p := ⟨g1, o1 + i, none⟩) l1).trans (unhide t1 i (by omega))
        have k2 := ((unhide hB).cell (p := ⟨g2, o2 + i, none⟩) l2).trans (unhide t2 i (by omega))
        have k3 := vrow_at (unhide hR) c1
        rw [if_neg (Nat.lt_irrefl i)] at k3
        have f1 := vrow_frozen (unhide hR) i
        rw [e1, e2]
        have R2 : Hid (VRow ((wr.setCell ⟨w.heap.size, i, none⟩ (.bool (A.getD i 0 == B.getD i 0))).drew) 4 w.heap.size K (fun j => .bool (if j < i + 1 then A.getD j 0 == B.getD j 0 else false))) := vrow_ext (vrow_keep (vrow_set (unhide hR) i (.bool (A.getD i 0 == B.getD i 0))) rfl) fun j hj => by
          by_cases e : j = i
          · subst e
            rw [if_pos rfl, if_pos (by omega)]
          · rw [if_neg e]
            by_cases e2 : j < i
            · rw [if_pos e2, if_pos (by omega)]
            · rw [if_neg e2, if_neg (by omega)]
        have B2 := hide ((unhide hB).setCell (p := ⟨w.heap.size, i, none⟩) (by show w.heap.size ≤ w.heap.size; omega) (.bool (A.getD i 0 == B.getD i 0))).drew
        clear e1 e2 l1 l2 hR hB hK'
        generalize A.getD i 0 = x at *
        generalize B.getD i 0 = y at *
        go_wp2_with fail
        go_region
        all_goals go_wp2_with fail
        all_goals exact ⟨⟨i + 1, by omega, by go_num, R2, B2⟩, by simp [intOf]; omega⟩
      · have q1 : ((i : Int) < (K : Int)) = False := by simp; omega
        obtain rfl : i = K := by omega
        have Z := hide (vrow_bools (L := CK i) (f := fun j => A.getD j 0 == B.getD j 0) (vrow_ext (unhide hR) (fun j hj => by simp [hj])) (unhide lk i) (fun j hj => unhide ck i j hj))
        clear hR
        go_wp2_with fail
        go_ret
        exact ⟨_, rfl, unhide Z, unhide hB⟩
end Go.Proofs.Ythdoophjcjlklaa
