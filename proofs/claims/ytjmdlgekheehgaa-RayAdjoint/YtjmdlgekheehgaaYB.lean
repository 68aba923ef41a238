/- Bytes as small whole numbers: the statement's own list. -/
import Derived.Test.YtjmdlgekheehgaaYG
import Derived.BigRegion
namespace Go.Proofs.Ytjmdlgekheehgaa
open Go.RowKit Fl

attribute [local go_sem] store_complex

/-- A slice of bytes in memory. -/
structure Bytes (w : World) (a : Option Addr) (g o : Nat) (L : List Int) : Prop where
  at_ : 0 < L.length → a = some ⟨g, o, none⟩ ∧ g < w.heap.size
  cell : ∀ i c, L[i]? = some c → w.cell? ⟨g, o + i, none⟩ = some (.int .u8 c)

theorem bytes_below {w w' : World} {a : Option Addr} {g o : Nat} {L : List Int} (h : Bytes w a g o L) (hb : Below w.heap.size w w') : Bytes w' a g o L := by
  refine ⟨fun hl => ⟨(h.at_ hl).1, Nat.lt_of_lt_of_le (h.at_ hl).2 hb.size⟩, fun i c hi => ?_⟩
  have hl : 0 < L.length := by
    have := (List.getElem?_eq_some_iff.1 hi).1
    omega
  exact (hb.cell (h.at_ hl).2).trans (h.cell i c hi)

/-- The numbers that a list of bytes makes, and their bits. -/
def smallZ (L : List Int) (i : Nat) : Int × Int := if 2 * i + 1 < L.length then (IntKind.i8.wrap (L.getD (2 * i) 0), IntKind.i8.wrap (L.getD (2 * i + 1) 0)) else (0, 0)
def smallB (L : List Int) (i : Nat) : Nat × Nat := (floatOfInt .f64 (smallZ L i).1, floatOfInt .f64 (smallZ L i).2)
/-- So far. -/
def smallTo (L : List Int) (k i : Nat) : Nat × Nat := if i < k then smallB L i else (0, 0)

theorem wrap8_le (x : Int) : (IntKind.i8.wrap x).natAbs ≤ 128 := by
  have e : IntKind.i8.wrap x = if x % 256 ≥ 128 then x % 256 - 256 else x % 256 := by simp [IntKind.wrap, IntKind.bits, IntKind.signed]
  rw [e]
  split <;> omega

theorem float8_all : ((List.range 257).all fun k => decide (floatOfInt .f64 ((k : Int) - 128) < 18446744073709551616)) = true := by decide +kernel
theorem float8_lt {z : Int} (h : z.natAbs ≤ 128) : floatOfInt .f64 z < 18446744073709551616 := by
  have h1 := List.all_eq_true.1 float8_all (z + 128).toNat (List.mem_range.2 (by omega))
  have h2 := of_decide_eq_true h1
  rw [show (((z + 128).toNat : Nat) : Int) - 128 = z by omega] at h2
  exact h2

theorem smallZ_le (L : List Int) (i : Nat) : (smallZ L i).1.natAbs ≤ 128 ∧ (smallZ L i).2.natAbs ≤ 128 := by
  unfold smallZ
  split
  · exact ⟨wrap8_le _, wrap8_le _⟩
  · exact ⟨by decide, by decide⟩

theorem float_zero {z : Int} (h : z = 0) : floatOfInt .f64 z = 0 := by subst h; rfl

theorem small_cell (L : List Int) (i : Nat) : Cell (smallB L i) (smallZ L i) 128 := by
  obtain ⟨h1, h2⟩ := smallZ_le L i
  exact ⟨⟨iv_ofInt _ (by omega), iv_ofInt _ (by omega)⟩, float8_lt h1, float8_lt h2, float_zero, float_zero, h1, h2⟩

theorem smallB_out {L : List Int} {i : Nat} (h : ¬ 2 * i + 1 < L.length) : smallB L i = (0, 0) := by
  unfold smallB smallZ
  rw [if_neg h]
  rfl

theorem smallTo_step (L : List Int) (k i : Nat) : upd (smallTo L k) k (smallB L k) i = smallTo L (k + 1) i := by
  unfold upd smallTo
  by_cases c : i = k
  · subst c
    rw [if_pos rfl, if_pos (by omega)]
  · rw [if_neg c]
    by_cases d : i < k
    · rw [if_pos d, if_pos (by omega)]
    · rw [if_neg d, if_neg (by omega)]

theorem smallTo_out {L : List Int} {k : Nat} (h : ¬ 2 * k + 1 < L.length) (i : Nat) : smallTo L k i = smallB L i := by
  unfold smallTo
  split
  · rfl
  · rw [smallB_out (by omega)]

set_option maxHeartbeats 1600000 in
theorem smallAny {L : List Int} {a : Option Addr} {cap g o n : Nat} (h1 : 1 ≤ n) (hn : n ≤ 4096) (w : World) (h : Bytes w a g o L) :
    Calls Try.prog 5 #[.slice a L.length cap, .int .i64 n] w fun e w' =>
      ∃ g', e = .returned (.slice (some ⟨g', 0, none⟩) n n) ∧ w.heap.size ≤ g' ∧ Row w' g' n (smallB L) ∧ Below w.heap.size w w' := by
  obtain ⟨i0, hi0, hz0, hz1, hz2⟩ := info_parts infoC
  have H := hide h
  clear h
  obtain ⟨N, hN⟩ : ∃ N, L.length = N := ⟨_, rfl⟩
  have hNN := hide hN
  rw [hN]
  clear hN
  go_enter Try.func5, Try.ntmps5
  go_wp2_with (first
    | (at_make; refine wpList_make_full _ rfl (.tmp 7) (.tmp 7) 26 rfl w.heap.size 37 i0 (.complex .f64 0 0) 1 Try.underlying26 hi0 hz0 hz1 .i64 .i64 n n n rfl rfl rfl rfl ?c1 ?c2 ?c3 ?_))
  case c1 => rw [hz2]; omega
  case c2 => unfold maxLen; omega
  case c3 => exact Nat.le_refl _
  intro w2 hown2 hg2
  have hT : Hid (Row w2 w.heap.size n (smallTo L 0)) := row_ext (row_made hown2 (fun _ => (0, 0)) (fun i hi => zeros_get n i hi) (fun _ _ => rfl)) fun i _ => by unfold smallTo; rw [if_neg (by omega)]
  have hB := hide (grown_below hg2)
  clear hown2 hg2
  go_wp2_with fail
  go_loopw [6] (fun ix wr => ∃ k : Nat, k ≤ n ∧ ix = .int .i64 k ∧ Hid (Row wr w.heap.size n (smallTo L k)) ∧ Hid (Below w.heap.size w wr)) (fun ix _ => n - (intOf ix).toNat)
  case atStart => exact ⟨0, Nat.zero_le _, rfl, hT, hB⟩
  case round =>
    obtain ⟨k, hk, rfl, hRr, hBr⟩ := hrel
    by_cases hkn : k < n
    · have q1 : ((k : Int) < (n : Int)) = True := by simp; omega
      by_cases hkN : 2 * k + 1 < N
      · have q2 : (2 * (k : Int) + 1 < (N : Int)) = True := by simp; omega
        have hl : 0 < L.length := by rw [unhide hNN]; omega
        obtain ⟨e1, hg⟩ := (unhide H).at_ hl
        obtain ⟨x, hx⟩ : ∃ x, L[2 * k]? = some x := ⟨_, List.getElem?_eq_getElem (by rw [unhide hNN]; omega)⟩
        obtain ⟨y, hy⟩ : ∃ y, L[2 * k + 1]? = some y := ⟨_, List.getElem?_eq_getElem (by rw [unhide hNN]; omega)⟩
        have r1 := ((unhide hBr).cell (p := ⟨g, o + 2 * k, none⟩) hg).trans ((unhide H).cell _ _ hx)
        have r2 := ((unhide hBr).cell (p := ⟨g, o + (2 * k + 1), none⟩) hg).trans ((unhide H).cell _ _ hy)
        have c1 := row_at (unhide hRr) hkn
        have f1 := row_frozen (unhide hRr) k
        unfold cv at c1
        have hRn := hide (row_set (unhide hRr) k (smallB L k))
        have hBn := hide ((unhide hBr).setCell (p := ⟨w.heap.size, k, none⟩) (Nat.le_refl _) (cv (smallB L k)))
        have hst := hide (fun i => smallTo_step L k i)
        have hv : smallB L k = (floatOfInt .f64 (IntKind.i8.wrap x), floatOfInt .f64 (IntKind.i8.wrap y)) := by
          unfold smallB smallZ
          rw [if_pos (by rw [unhide hNN]; exact hkN), List.getD_eq_getElem?_getD, List.getD_eq_getElem?_getD, hx, hy]
          rfl
        rw [hv] at hRn hBn hst
        rw [e1]
        clear hRr hBr hv hx hy hl
        go_wp2_with fail
        go_big_region
        all_goals go_wp2_with fail
        all_goals exact ⟨⟨k + 1, hkn, by go_num, row_drew (row_ext (unhide hRn) fun i _ => unhide hst i), (unhide hBn).drew⟩, by simp [intOf]; omega⟩
      · have q2 : (2 * (k : Int) + 1 < (N : Int)) = False := by simp; omega
        go_wp2_with fail
        go_ret
        exact ⟨_, rfl, Nat.le_refl _, row_ext (unhide hRr) fun i _ => smallTo_out (by rw [unhide hNN]; exact hkN) i, unhide hBr⟩
    · have q1 : ((k : Int) < (n : Int)) = False := by simp; omega
      go_wp2_with fail
      go_ret
      exact ⟨_, rfl, Nat.le_refl _, row_ext (unhide hRr) fun i hi => by unfold smallTo; rw [if_pos (by omega)], unhide hBr⟩
end Go.Proofs.Ytjmdlgekheehgaa
