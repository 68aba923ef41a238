/- The statement's own grid of levels. -/
import Derived.Test.YthbghcebcahlnaaYR
import Derived.Test.YthbghcebcahlnaaYB
import Derived.Test.YthbghcebcahlnaaBA
import Derived.BigRegion
namespace Go.Proofs.Ythbghcebcahlnaa
open Go.RowKit Fl
attribute [local go_sem] store_complex

/-- The side of so many levels. -/
def sideB (l : Nat) : Nat := if 64 ≤ l then 8 else if 49 ≤ l then 7 else if 36 ≤ l then 6 else if 25 ≤ l then 5 else if 16 ≤ l then 4 else if 9 ≤ l then 3 else if 4 ≤ l then 2 else 1
theorem sideB_of {l n : Nat} (h1 : 1 ≤ n) (h8 : n ≤ 8) (ha : n = 1 ∨ n * n ≤ l) (hb : n = 8 ∨ l < (n + 1) * (n + 1)) : sideB l = n := by
  unfold sideB
  have : n = 1 ∨ n = 2 ∨ n = 3 ∨ n = 4 ∨ n = 5 ∨ n = 6 ∨ n = 7 ∨ n = 8 := by omega
  rcases this with rfl | rfl | rfl | rfl | rfl | rfl | rfl | rfl
  all_goals
    simp at ha hb
    repeat (first | rw [if_pos (by omega)] | rw [if_neg (by omega)])
theorem sideB_le (l : Nat) : 1 ≤ sideB l ∧ sideB l ≤ 8 := by
  unfold sideB
  repeat (first | omega | split)

def lvlB (L : List Int) (i : Nat) : Nat × Nat := if i < L.length then (floatOfInt .f64 (L.getD i 0), 0) else (0, 0)
def lvlTo (L : List Int) (k i : Nat) : Nat × Nat := if i < k then lvlB L i else (0, 0)
theorem lvlTo_step (L : List Int) (k i : Nat) : upd (lvlTo L k) k (lvlB L k) i = lvlTo L (k + 1) i := by
  unfold upd lvlTo
  by_cases c : i = k
  · subst c
    rw [if_pos rfl, if_pos (by omega)]
  · rw [if_neg c]
    by_cases d : i < k
    · rw [if_pos d, if_pos (by omega)]
    · rw [if_neg d, if_neg (by omega)]
theorem lvlTo_out {L : List Int} {k : Nat} (h : ¬ k < L.length) (i : Nat) : lvlTo L k i = lvlB L i := by
  unfold lvlTo
  split
  · rfl
  · unfold lvlB
    rw [if_neg (by omega)]

set_option maxHeartbeats 3200000 in
theorem gridAny {L : List Int} {a : Option Addr} {cap g o : Nat} (hL : L.length ≤ 9223372036854775807) (w : World) (h : Bytes w a g o L) :
    Calls (barP Try.prog) 6 #[.slice a L.length cap] w fun e w' =>
      ∃ g', e = .returned (.agg #[.int .i64 (sideB L.length : Nat), .slice (some ⟨g', 0, none⟩) (sideB L.length * sideB L.length : Nat) (sideB L.length * sideB L.length : Nat)]) ∧ w.heap.size ≤ g' ∧ Row w' g' (sideB L.length * sideB L.length) (lvlB L) ∧ Below w.heap.size w w' := by
  obtain ⟨i0, hi0, hz0, hz1, hz2⟩ := info_parts infoC
  have H := hide h
  have hsd := hide (fun n a b c d => sideB_of (l := L.length) (n := n) a b c d)
  clear h
  obtain ⟨N, hN⟩ : ∃ N, L.length = N := ⟨_, rfl⟩
  have hNN := hide hN
  rw [hN] at hsd hL ⊢
  clear hN
  generalize sideB N = sd at *
  go_enter Bar.func6, Bar.ntmps6
  go_wp2_with fail
  generalize hw0 : w.alloc (.cells #[.int .i64 0, .slice none 0 0] 27) = w0
  have B0 : Hid (Below w.heap.size w w0) := by rw [← hw0]; exact (Below.refl _ _).alloc (Nat.le_refl _) _
  have s0 : Hid (w0.heap.size = w.heap.size + 1) := by show _ = _; rw [← hw0]; simp
  have s1 : w.heap.size < w0.heap.size := by have := unhide s0; omega
  have r0 : Hid (w0.heap[w.heap.size]? = some (.cells #[.int .i64 0, .slice none 0 0] 27 (0, 0))) := by rw [← hw0]; exact heap_alloc_new w _
  clear hw0
  go_loopw [3] (fun nv wr => ∃ n : Nat, 1 ≤ n ∧ n ≤ 8 ∧ nv = .int .i64 n ∧ Hid (n = 1 ∨ n * n ≤ N) ∧ w0 = wr) (fun nv _ => 8 - (intOf nv).toNat)
  case atStart => exact ⟨1, Nat.le_refl _, by decide, rfl, Or.inl rfl, rfl⟩
  case round =>
    obtain ⟨n, hn1, hn8, rfl, hsq, rfl⟩ := hrel
    have m0 : (n + 1) * (n + 1) ≤ 81 := Nat.mul_le_mul (show n + 1 ≤ 9 by omega) (show n + 1 ≤ 9 by omega)
    have a0 : IntKind.i64.wrap ((n : Int) + 1) = ((n + 1 : Nat) : Int) := by rw [IntKind.wrap_i64]; omega
    have a1 : IntKind.i64.wrap (((n + 1 : Nat) : Int) * ((n + 1 : Nat) : Int)) = (((n + 1) * (n + 1) : Nat) : Int) := by rw [← Int.natCast_mul, IntKind.wrap_i64]; omega
    have a2 : IntKind.i64.wrap (((n : Int) + 1) * ((n : Int) + 1)) = (((n + 1) * (n + 1) : Nat) : Int) := by
      rw [show ((n : Int) + 1) = ((n + 1 : Nat) : Int) by omega]; exact a1
    by_cases c : (n + 1) * (n + 1) ≤ N ∧ n < 8
    · have q1 : ((((n + 1) * (n + 1) : Nat) : Int) ≤ (N : Int)) = True := by simp only [eq_iff_iff, iff_true]; omega
      have q2 : ((n : Int) < 8) = True := by simp; omega
      have hsq2 : Hid (n + 1 = 1 ∨ (n + 1) * (n + 1) ≤ N) := Or.inr c.1
      have c8 := c.2
      generalize (n + 1) * (n + 1) = sq at q1 a1 a2
      clear hsq c m0
      go_wp2_with fail
      exact ⟨⟨n + 1, by omega, by omega, by go_num, hsq2, trivial⟩, by simp [intOf]; omega⟩
    · have hsd2 := unhide hsd n hn1 hn8 (unhide hsq) (by omega)
      have hd : ((((n + 1) * (n + 1) : Nat) : Int) ≤ (N : Int)) = False ∨ (((((n + 1) * (n + 1) : Nat) : Int) ≤ (N : Int)) = True ∧ ((n : Int) < 8) = False) := by
        by_cases c1 : (n + 1) * (n + 1) ≤ N
        · exact Or.inr ⟨by simp only [eq_iff_iff, iff_true]; omega, by simp; omega⟩
        · exact Or.inl (by simp only [eq_iff_iff, iff_false]; omega)
      obtain ⟨M, hM⟩ : ∃ M, n * n = M := ⟨_, rfl⟩
      have hM2 : M ≤ 64 := by rw [← hM]; exact Nat.mul_le_mul hn8 hn8
      have hM1 : 1 ≤ M := by rw [← hM]; exact Nat.mul_le_mul hn1 hn1
      have a3 : IntKind.i64.wrap ((n : Int) * (n : Int)) = (M : Int) := by rw [← Int.natCast_mul, hM, IntKind.wrap_i64]; omega
      have hMM := hide hM
      have hss := hide hsd2
      generalize (n + 1) * (n + 1) = sq at *
      clear hsq c hM hsd2 hsd
      rcases hd with d1 | ⟨d1, d2⟩
      all_goals
        go_wp2_with (first
          | (at_make; refine wpList_make_full _ rfl (.tmp 23) (.tmp 23) 25 rfl w0.heap.size 39 i0 (.complex .f64 0 0) 1 Bar.underlying25 hi0 hz0 hz1 .i64 .i64 M M M rfl rfl rfl rfl ?c1 ?c2 ?c3 ?_))
        case c1 => rw [hz2]; omega
        case c2 => unfold maxLen; omega
        case c3 => exact Nat.le_refl _
        intro w2 hown2 hg2
        have hT : Hid (Row w2 w0.heap.size M (lvlTo L 0)) := row_ext (row_made hown2 (fun _ => (0, 0)) (fun i hi => zeros_get M i hi) (fun _ _ => rfl)) fun i _ => by unfold lvlTo; rw [if_neg (by omega)]
        have hb2 := grown_below hg2
        have B2 := hide ((unhide B0).trans (hb2.mono (unhide B0).size))
        have r2 : Hid (w2.heap[w.heap.size]? = some (.cells #[.int .i64 0, .slice none 0 0] 27 (0, 0))) := (hb2.block _ (by omega)).trans (unhide r0)
        have l2 : w0.heap.size < w2.heap.size := row_lt (unhide hT)
        clear hown2 hg2 hb2
        go_wp2_with fail
        have h4 : Hid ((w2.alloc (.cells #[.int .i64 n, .slice (some ⟨w0.heap.size, 0, none⟩) M M] 27)).heap[w2.heap.size]? = some (.cells #[.int .i64 n, .slice (some ⟨w0.heap.size, 0, none⟩) M M] 27 (0, 0))) := heap_alloc_new w2 _
        have h2 : Hid ((w2.alloc (.cells #[.int .i64 n, .slice (some ⟨w0.heap.size, 0, none⟩) M M] 27)).heap[w.heap.size]? = some (.cells #[.int .i64 0, .slice none 0 0] 27 (0, 0))) := (Below.heap_alloc _ _ _ (by omega)).trans (unhide r2)
        have hT3 : Hid (Row (w2.alloc (.cells #[.int .i64 n, .slice (some ⟨w0.heap.size, 0, none⟩) M M] 27)) w0.heap.size M (lvlTo L 0)) := row_keep (unhide hT) (Below.heap_alloc _ _ _ l2)
        have B3 := hide ((unhide B2).alloc (unhide B2).size (.cells #[.int .i64 n, .slice (some ⟨w0.heap.size, 0, none⟩) M M] 27))
        clear hT r2 r0 B0 B2
        generalize w2.alloc (.cells #[.int .i64 n, .slice (some ⟨w0.heap.size, 0, none⟩) M M] 27) = w3 at *
        generalize w2.heap.size = b4 at *
        generalize w0.heap.size = gr at *
        go_loopw [5] (fun iv wr => ∃ k : Nat, k ≤ M ∧ iv = .int .i64 k ∧ Hid (Row wr gr M (lvlTo L k)) ∧ Hid (wr.heap[b4]? = some (.cells #[.int .i64 n, .slice (some ⟨gr, 0, none⟩) M M] 27 (0, 0))) ∧ Hid (wr.heap[w.heap.size]? = some (.cells #[.int .i64 0, .slice none 0 0] 27 (0, 0))) ∧ Hid (Below w.heap.size w wr)) (fun iv _ => M - (intOf iv).toNat)
        case atStart => exact ⟨0, Nat.zero_le _, rfl, hT3, h4, h2, B3⟩
        case round =>
          clear hT3 h4 h2 B3
          obtain ⟨k, hk, rfl, hR, h4, h2, hB⟩ := hrel
          by_cases hkM : k < M
          · have q3 : ((k : Int) < (M : Int)) = True := by simp; omega
            by_cases hkN : k < N
            · have q4 : ((k : Int) < (N : Int)) = True := by simp; omega
              have hl : 0 < L.length := by rw [unhide hNN]; omega
              obtain ⟨e1, hg⟩ := (unhide H).at_ hl
              obtain ⟨x, hx⟩ : ∃ x, L[k]? = some x := ⟨_, List.getElem?_eq_getElem (by rw [unhide hNN]; omega)⟩
              have r1 := ((unhide hB).cell (p := ⟨g, o + k, none⟩) hg).trans ((unhide H).cell _ _ hx)
              have c1 : wr.cell? ⟨b4, 1, none⟩ = some (.slice (some ⟨gr, 0, none⟩) M M) := cell_of_row wr b4 1 _ _ (0, 0) (unhide h4)
              have c2 := row_at (unhide hR) hkM
              have f2 := row_frozen (unhide hR) k
              unfold cv at c2
              have hRn := hide (row_set (unhide hR) k (lvlB L k))
              have hBn := hide ((unhide hB).setCell (p := ⟨gr, k, none⟩) (by show w.heap.size ≤ gr; omega) (cv (lvlB L k)))
              have h4n : Hid ((wr.setCell ⟨gr, k, none⟩ (cv (lvlB L k))).heap[b4]? = some (.cells #[.int .i64 n, .slice (some ⟨gr, 0, none⟩) M M] 27 (0, 0))) := (Below.heap_setCell _ _ _ _ (by show b4 ≠ gr; omega)).trans (unhide h4)
              have h2n : Hid ((wr.setCell ⟨gr, k, none⟩ (cv (lvlB L k))).heap[w.heap.size]? = some (.cells #[.int .i64 0, .slice none 0 0] 27 (0, 0))) := (Below.heap_setCell _ _ _ _ (by show w.heap.size ≠ gr; omega)).trans (unhide h2)
              have hst := hide (fun i => lvlTo_step L k i)
              have hv : lvlB L k = (floatOfInt .f64 x, 0) := by
                unfold lvlB
                rw [if_pos (by rw [unhide hNN]; exact hkN), List.getD_eq_getElem?_getD, hx]
                rfl
              rw [hv] at hRn hBn hst h4n h2n
              rw [e1]
              clear hR hB h4 h2 hv hx hl
              go_wp2_with fail
              go_big_region
              all_goals go_wp2_with fail
              all_goals exact ⟨⟨k + 1, hkM, by go_num, row_drew (row_ext (unhide hRn) fun i _ => unhide hst i), unhide h4n, unhide h2n, (unhide hBn).drew⟩, by simp [intOf]; omega⟩
            · have q4 : ((k : Int) < (N : Int)) = False := by simp; omega
              have RL : Row wr gr M (lvlB L) := row_ext (unhide hR) fun i _ => lvlTo_out (by rw [unhide hNN]; exact hkN) i
              obtain ⟨c0, c1⟩ : wr.cell? ⟨b4, 0, none⟩ = some (.int .i64 n) ∧ wr.cell? ⟨b4, 1, none⟩ = some (.slice (some ⟨gr, 0, none⟩) M M) := ⟨cell_of_row wr b4 0 _ _ (0, 0) (unhide h4), cell_of_row wr b4 1 _ _ (0, 0) (unhide h4)⟩
              have z0 : wr.cell? ⟨w.heap.size, 0, none⟩ = some (.int .i64 0) := cell_of_row wr w.heap.size 0 _ _ (0, 0) (unhide h2)
              have z1 : wr.cell? ⟨w.heap.size, 1, none⟩ = some (.slice none 0 0) := cell_of_row wr w.heap.size 1 _ _ (0, 0) (unhide h2)
              have y0 := frozen_of_row wr w.heap.size 0 _ _ (unhide h2)
              have y1 := frozen_of_row wr w.heap.size 1 _ _ (unhide h2)
              have RW : Hid (Row ((wr.setCell ⟨w.heap.size, 0, none⟩ (.int .i64 n)).setCell ⟨w.heap.size, 1, none⟩ (.slice (some ⟨gr, 0, none⟩) M M)) gr M (lvlB L)) := row_keep RL (by rw [Below.heap_setCell _ _ _ _ (by show gr ≠ w.heap.size; omega), Below.heap_setCell _ _ _ _ (by show gr ≠ w.heap.size; omega)])
              have BW := hide (((unhide hB).setCell (p := ⟨w.heap.size, 0, none⟩) (Nat.le_refl _) (.int .i64 n)).setCell (p := ⟨w.heap.size, 1, none⟩) (Nat.le_refl _) (.slice (some ⟨gr, 0, none⟩) M M))
              clear RL hR h4 h2 hB
              go_wp2_with fail
              refine bodyPost_ret (results_two (P := (barP Try.prog)) rfl _ _ w.heap.size (.int .i64 n) (.slice (some ⟨gr, 0, none⟩) M M) _ rfl (by simp [go_sem, z0]) (by simp [go_sem, z1]) Bar.underlying27 rfl (by kernel_rfl)) rfl ?_
              rw [unhide hss, unhide hMM]
              exact ⟨gr, rfl, by omega, unhide RW, unhide BW⟩
          · have q3 : ((k : Int) < (M : Int)) = False := by simp; omega
            have RL : Row wr gr M (lvlB L) := row_ext (unhide hR) fun i hi => by unfold lvlTo; rw [if_pos (by omega)]
            obtain ⟨c0, c1⟩ : wr.cell? ⟨b4, 0, none⟩ = some (.int .i64 n) ∧ wr.cell? ⟨b4, 1, none⟩ = some (.slice (some ⟨gr, 0, none⟩) M M) := ⟨cell_of_row wr b4 0 _ _ (0, 0) (unhide h4), cell_of_row wr b4 1 _ _ (0, 0) (unhide h4)⟩
            have z0 : wr.cell? ⟨w.heap.size, 0, none⟩ = some (.int .i64 0) := cell_of_row wr w.heap.size 0 _ _ (0, 0) (unhide h2)
            have z1 : wr.cell? ⟨w.heap.size, 1, none⟩ = some (.slice none 0 0) := cell_of_row wr w.heap.size 1 _ _ (0, 0) (unhide h2)
            have y0 := frozen_of_row wr w.heap.size 0 _ _ (unhide h2)
            have y1 := frozen_of_row wr w.heap.size 1 _ _ (unhide h2)
            have RW : Hid (Row ((wr.setCell ⟨w.heap.size, 0, none⟩ (.int .i64 n)).setCell ⟨w.heap.size, 1, none⟩ (.slice (some ⟨gr, 0, none⟩) M M)) gr M (lvlB L)) := row_keep RL (by rw [Below.heap_setCell _ _ _ _ (by show gr ≠ w.heap.size; omega), Below.heap_setCell _ _ _ _ (by show gr ≠ w.heap.size; omega)])
            have BW := hide (((unhide hB).setCell (p := ⟨w.heap.size, 0, none⟩) (Nat.le_refl _) (.int .i64 n)).setCell (p := ⟨w.heap.size, 1, none⟩) (Nat.le_refl _) (.slice (some ⟨gr, 0, none⟩) M M))
            clear RL hR h4 h2 hB
            go_wp2_with fail
            refine bodyPost_ret (results_two (P := (barP Try.prog)) rfl _ _ w.heap.size (.int .i64 n) (.slice (some ⟨gr, 0, none⟩) M M) _ rfl (by simp [go_sem, z0]) (by simp [go_sem, z1]) Bar.underlying27 rfl (by kernel_rfl)) rfl ?_
            rw [unhide hss, unhide hMM]
            exact ⟨gr, rfl, by omega, unhide RW, unhide BW⟩
end Go.Proofs.Ythbghcebcahlnaa
