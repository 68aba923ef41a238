/- The document's Wide and Certain. -/
import Derived.Test.YthdoophjcjlklaaBA
import Derived.Deep.OwnRows
namespace Go.Proofs.Ythdoophjcjlklaa
open Go.RowKit

def wideLo (n : Int) : List Int := if n < 1 ∨ 16 < n then [] else List.replicate (n.toNat * n.toNat) 0
def wideHi (n : Int) : List Int := if n < 1 ∨ 16 < n then [] else List.replicate (n.toNat * n.toNat) 255
def wideE (n : Int) : Int := if n < 1 ∨ 16 < n then 1 else 0

def WideOk (f : Nat) : Prop := ∀ (n : Int) (w : World), Calls Try.prog f #[.int .i64 n] w fun e w' =>
  ∃ u v, e = .returned (.tuple #[u, v, .int .i64 (wideE n)]) ∧ Ints w' u (wideLo n) ∧ Ints w' v (wideHi n) ∧ Below w.heap.size w w'

theorem infoInt : (Try.prog.info? 3).map (fun i => (i.zero, i.size, i.bytes)) = some (some (.int .i64 0), 1, 8) := by kernel_rfl
theorem infoBool : (Try.prog.info? 4).map (fun i => (i.zero, i.size, i.bytes)) = some (some (.bool false), 1, 1) := by kernel_rfl

/-- A row of cells. -/
def VRow (w : World) (t : TypeId) (g n : Nat) (f : Nat → Value) : Prop := ∃ cur : Array Value, w.heap[g]? = some (.cells cur t (0, 0)) ∧ n ≤ cur.size ∧ ∀ i, i < n → cur[i]? = some (f i)
theorem vrow_at {w : World} {t : TypeId} {g n : Nat} {f : Nat → Value} (h : VRow w t g n f) {i : Nat} (hi : i < n) : w.cell? ⟨g, i, none⟩ = some (f i) := by
  obtain ⟨cur, h1, h2, h3⟩ := h
  simp [World.cell?, h1, h3 i hi]
theorem vrow_lt {w : World} {t : TypeId} {g n : Nat} {f : Nat → Value} (h : VRow w t g n f) : g < w.heap.size := by
  obtain ⟨cur, h1, _⟩ := h
  exact (Array.getElem?_eq_some_iff.1 h1).1
theorem vrow_keep {w w' : World} {t : TypeId} {g n : Nat} {f : Nat → Value} (h : VRow w t g n f) (hb : w'.heap[g]? = w.heap[g]?) : VRow w' t g n f := by
  obtain ⟨cur, h1, h2, h3⟩ := h
  exact ⟨cur, by rw [hb]; exact h1, h2, h3⟩
theorem vrow_ext {w : World} {t : TypeId} {g n : Nat} {f f' : Nat → Value} (h : VRow w t g n f) (he : ∀ i, i < n → f' i = f i) : VRow w t g n f' := by
  obtain ⟨cur, h1, h2, h3⟩ := h
  exact ⟨cur, h1, h2, fun i hi => by rw [he i hi]; exact h3 i hi⟩
theorem vrow_frozen {w : World} {t : TypeId} {g n : Nat} {f : Nat → Value} (h : VRow w t g n f) (i : Nat) : w.frozen? ⟨g, i, none⟩ = false := by
  obtain ⟨cur, h1, _⟩ := h
  exact frozen_of_row w _ i cur _ h1
theorem vrow_set {w : World} {t : TypeId} {g n : Nat} {f : Nat → Value} (h : VRow w t g n f) (k : Nat) (v : Value) : VRow (w.setCell ⟨g, k, none⟩ v) t g n (fun i => if i = k then v else f i) := by
  obtain ⟨cur, h1, h2, h3⟩ := h
  refine ⟨cur.setIfInBounds k v, heap_setCell_same w g k cur _ _ h1, by simpa using h2, fun i hi => ?_⟩
  dsimp only
  by_cases c : i = k
  · subst c
    rw [if_pos rfl, Array.getElem?_setIfInBounds_self_of_lt (by omega)]
  · rw [if_neg c, Array.getElem?_setIfInBounds_ne (by omega)]
    exact h3 i hi
theorem vrow_new (w : World) (z : Value) (n : Nat) (t : TypeId) : VRow (w.alloc (.cells (madeCells #[z] n) t)) t w.heap.size n (fun _ => z) := by
  have e : (madeCells #[z] n).toList.length = n := by rw [toList_madeCells_one, List.length_replicate]
  refine ⟨_, heap_alloc_new w _, by rw [Array.length_toList] at e; omega, fun i hi => ?_⟩
  have : (madeCells #[z] n).toList[i]? = some z := by rw [toList_madeCells_one, List.getElem?_replicate, if_pos hi]
  simpa using this
theorem vrow_ints {w : World} {g n : Nat} {x : Int} (h : VRow w 3 g n (fun _ => .int .i64 x)) : Ints w (.slice (some ⟨g, 0, none⟩) n n) (List.replicate n x) := by
  refine ⟨some ⟨g, 0, none⟩, n, g, 0, by rw [List.length_replicate], ⟨fun _ => ⟨rfl, vrow_lt h⟩, fun i c hi => ?_⟩⟩
  rw [List.getElem?_replicate] at hi
  split at hi
  · next hlt =>
    rw [Nat.zero_add]
    obtain rfl := Option.some.inj hi
    exact vrow_at h hlt
  · cases hi

set_option maxHeartbeats 3200000 in
theorem refWide : WideOk 9 := by
  intro n w
  by_cases h : n < 1 ∨ 16 < n
  · unfold wideLo wideHi wideE
    rw [if_pos h, if_pos h, if_pos h]
    have hd : (n < 1) = True ∨ ((n < 1) = False ∧ (16 < n) = True) := by
      by_cases d1 : n < 1
      · exact Or.inl (by simp; omega)
      · exact Or.inr ⟨by simp; omega, by simp; omega⟩
    clear h
    rcases hd with d1 | ⟨d1, d2⟩
    all_goals
      go_enter Try.func9, Try.ntmps9
      go_wp2_with fail
      go_ret3
      exact ⟨_, _, rfl, ints_none _, ints_none _, Below.refl _ _⟩
  · unfold wideLo wideHi wideE
    rw [if_neg h, if_neg h, if_neg h]
    obtain ⟨N, rfl⟩ : ∃ N : Nat, n = N := ⟨n.toNat, by omega⟩
    rw [Int.toNat_natCast]
    have d1 : ((N : Int) < 1) = False := by simp; omega
    have d2 : ((16 : Int) < (N : Int)) = False := by simp; omega
    obtain ⟨M, hM⟩ : ∃ M, N * N = M := ⟨_, rfl⟩
    have hM2 : M ≤ 256 := by rw [← hM]; exact Nat.mul_le_mul (show N ≤ 16 by omega) (show N ≤ 16 by omega)
    have m1 : IntKind.i64.wrap ((N : Int) * (N : Int)) = (M : Int) := by rw [← Int.natCast_mul, hM, IntKind.wrap_i64]; omega
    rw [hM]
    have hmk := run_make_row' (P := Try.prog) 22 3 (.int .i64 0) 8 Try.underlying22 infoInt rfl .i64 .i64 M (by omega) (by omega)
    have R0 : Hid (VRow (((w.alloc (.cells (madeCells #[.int .i64 0] M) 3)).alloc (.cells (madeCells #[.int .i64 0] M) 3)).drew) 3 w.heap.size M (fun _ => .int .i64 0)) := vrow_keep (vrow_new w (.int .i64 0) M 3) (Below.heap_alloc _ _ _ (by simp))
    have R1 : Hid (VRow (((w.alloc (.cells (madeCells #[.int .i64 0] M) 3)).alloc (.cells (madeCells #[.int .i64 0] M) 3)).drew) 3 (w.heap.size + 1) M (fun _ => .int .i64 0)) := by
      have h := vrow_new (w.alloc (.cells (madeCells #[.int .i64 0] M) 3)) (.int .i64 0) M 3
      rw [World.size_alloc] at h
      exact h
    have HB : Hid (Below w.heap.size w (((w.alloc (.cells (madeCells #[.int .i64 0] M) 3)).alloc (.cells (madeCells #[.int .i64 0] M) 3)).drew)) := (((Below.refl _ _).alloc (Nat.le_refl _) _).alloc (by simp) _).drew
    clear h hM
    go_enter Try.func9, Try.ntmps9
    go_wp2_with fail
    go_region
    all_goals
      first
      | go_wp2_with fail
        go_loopw [7] (fun iv wr => ∃ i : Nat, i ≤ M ∧ iv = .int .i64 i ∧ Hid (VRow wr 3 (w.heap.size + 1) M (fun _ => .int .i64 0)) ∧ Hid (VRow wr 3 (w.heap.size) M (fun j => .int .i64 (if j < i then 255 else 0))) ∧ Hid (Below w.heap.size w wr)) (fun iv _ => M - (intOf iv).toNat)
        case atStart => exact ⟨0, Nat.zero_le _, rfl, R1, vrow_ext (unhide R0) (fun j hj => by simp), HB⟩
        case round =>
          clear R0 R1 HB
          obtain ⟨i, hi, rfl, hL, hH, hB⟩ := hrel
          by_cases c : i < M
          · have q1 : ((i : Int) < (M : Int)) = True := by simp; omega
            have k1 := vrow_at (unhide hH) c
            have f1 := vrow_frozen (unhide hH) i
            have hH2 : Hid (VRow (wr.setCell ⟨w.heap.size, i, none⟩ (.int .i64 255)) 3 (w.heap.size) M (fun j => .int .i64 (if j < i + 1 then 255 else 0))) := vrow_ext (vrow_set (unhide hH) i (.int .i64 255)) fun j hj => by
              by_cases e : j = i
              · rw [if_pos e, if_pos (by omega)]
              · rw [if_neg e]
                by_cases e2 : j < i
                · rw [if_pos e2, if_pos (by omega)]
                · rw [if_neg e2, if_neg (by omega)]
            have hL2 : Hid (VRow (wr.setCell ⟨w.heap.size, i, none⟩ (.int .i64 255)) 3 (w.heap.size + 1) M (fun _ => .int .i64 0)) := vrow_keep (unhide hL) (Below.heap_setCell _ _ _ _ (by show w.heap.size + 1 ≠ w.heap.size; omega))
            have hB2 := hide ((unhide hB).setCell (p := ⟨w.heap.size, i, none⟩) (by show w.heap.size ≤ w.heap.size; omega) (.int .i64 255))
            rw [if_neg (Nat.lt_irrefl i)] at k1
            clear hL hH hB
            go_wp2_with fail
            exact ⟨⟨i + 1, c, by go_num, hL2, hH2, hB2⟩, by simp [intOf]; omega⟩
          · have q1 : ((i : Int) < (M : Int)) = False := by simp; omega
            have e : i = M := by omega
            have hH2 := hide (vrow_ints (vrow_ext (unhide hH) (f' := fun _ => .int .i64 255) fun j hj => by rw [if_pos (by omega)]))
            have hL2 := hide (vrow_ints (unhide hL))
            have e' := hide e
            clear e hL hH
            go_wp2_with fail
            go_ret3
            exact ⟨_, _, rfl, unhide hL2, unhide hH2, unhide hB⟩
      | go_wp2_with fail
        go_loopw [7] (fun iv wr => ∃ i : Nat, i ≤ M ∧ iv = .int .i64 i ∧ Hid (VRow wr 3 (w.heap.size) M (fun _ => .int .i64 0)) ∧ Hid (VRow wr 3 (w.heap.size + 1) M (fun j => .int .i64 (if j < i then 255 else 0))) ∧ Hid (Below w.heap.size w wr)) (fun iv _ => M - (intOf iv).toNat)
        case atStart => exact ⟨0, Nat.zero_le _, rfl, R0, vrow_ext (unhide R1) (fun j hj => by simp), HB⟩
        case round =>
          clear R0 R1 HB
          obtain ⟨i, hi, rfl, hL, hH, hB⟩ := hrel
          by_cases c : i < M
          · have q1 : ((i : Int) < (M : Int)) = True := by simp; omega
            have k1 := vrow_at (unhide hH) c
            have f1 := vrow_frozen (unhide hH) i
            have hH2 : Hid (VRow (wr.setCell ⟨w.heap.size + 1, i, none⟩ (.int .i64 255)) 3 (w.heap.size + 1) M (fun j => .int .i64 (if j < i + 1 then 255 else 0))) := vrow_ext (vrow_set (unhide hH) i (.int .i64 255)) fun j hj => by
              by_cases e : j = i
              · rw [if_pos e, if_pos (by omega)]
              · rw [if_neg e]
                by_cases e2 : j < i
                · rw [if_pos e2, if_pos (by omega)]
                · rw [if_neg e2, if_neg (by omega)]
            have hL2 : Hid (VRow (wr.setCell ⟨w.heap.size + 1, i, none⟩ (.int .i64 255)) 3 (w.heap.size) M (fun _ => .int .i64 0)) := vrow_keep (unhide hL) (Below.heap_setCell _ _ _ _ (by show w.heap.size ≠ w.heap.size + 1; omega))
            have hB2 := hide ((unhide hB).setCell (p := ⟨w.heap.size + 1, i, none⟩) (by show w.heap.size ≤ w.heap.size + 1; omega) (.int .i64 255))
            rw [if_neg (Nat.lt_irrefl i)] at k1
            clear hL hH hB
            go_wp2_with fail
            exact ⟨⟨i + 1, c, by go_num, hL2, hH2, hB2⟩, by simp [intOf]; omega⟩
          · have q1 : ((i : Int) < (M : Int)) = False := by simp; omega
            have e : i = M := by omega
            have hH2 := hide (vrow_ints (vrow_ext (unhide hH) (f' := fun _ => .int .i64 255) fun j hj => by rw [if_pos (by omega)]))
            have hL2 := hide (vrow_ints (unhide hL))
            have e' := hide e
            clear e hL hH
            go_wp2_with fail
            go_ret3
            exact ⟨_, _, rfl, unhide hL2, unhide hH2, unhide hB⟩
end Go.Proofs.Ythdoophjcjlklaa
