/- The look through directions. -/
import Derived.Test.YthbghcebcahlnaaWKD
namespace Go.Proofs.Ythbghcebcahlnaa
open Go.RowKit

/-- Where a direction stands among the first of a list. -/
def Found (L : List (Int × Int)) (k : Nat) (d : Int × Int) (r : Int) : Prop := (r = -1 ∧ ∀ j, j < k → L.getD j (0, 0) ≠ d) ∨ ∃ j, j < k ∧ r = j ∧ L.getD j (0, 0) = d
theorem dirs_get {w : World} {a : Option Addr} {g o : Nat} {L : List (Int × Int)} (h : Dirs w a g o L) {i : Nat} (hi : i < L.length) : w.cell? ⟨g, o + i * 2, none⟩ = some (.int .i64 (L.getD i (0, 0)).1) ∧ w.cell? ⟨g, o + i * 2 + 1, none⟩ = some (.int .i64 (L.getD i (0, 0)).2) := by
  refine h.cell i _ ?_
  rw [List.getD_eq_getElem?_getD]
  cases hh : L[i]? with
  | none => rw [List.getElem?_eq_none_iff] at hh; omega
  | some x => rfl
set_option maxRecDepth 100000 in
set_option maxHeartbeats 3200000 in
theorem indexDir {a : Option Addr} {g o k cap : Nat} {L : List (Int × Int)} {x y : Int} (hk : k ≤ L.length) (hL : L.length ≤ 4096) (w : World) (h : Dirs w a g o L) :
    Calls (barP Try.prog) 41 #[.slice a k cap, .agg #[.int .i64 x, .int .i64 y]] w fun e w' => ∃ r, e = .returned (.int .i64 r) ∧ Found L k (x, y) r ∧ Below w.heap.size w w' := by
  have H := hide h
  have bx : Hid (Below w.heap.size w (w.alloc (.cells #[.int .i64 x, .int .i64 y] 47))) := (Below.refl _ _).alloc (Nat.le_refl _) _
  have b0 := cell_of (i := 0) (heap_alloc_new w (.cells #[.int .i64 x, .int .i64 y] 47)) rfl
  have b1 := cell_of (i := 1) (heap_alloc_new w (.cells #[.int .i64 x, .int .i64 y] 47)) rfl
  clear h
  go_enter Bar.func41, Bar.ntmps41
  go_wp2_with fail
  generalize w.alloc (.cells #[.int .i64 x, .int .i64 y] 47) = w1 at *
  go_loopw [8] (fun iv wr => ∃ i : Nat, i ≤ k ∧ iv = .int .i64 i ∧ Hid (wr.heap = w1.heap) ∧ Hid (Below w1.heap.size w1 wr) ∧ Hid (∀ j, j < i → L.getD j (0, 0) ≠ (x, y))) (fun iv _ => k - (intOf iv).toNat)
  case atStart => exact ⟨0, Nat.zero_le _, rfl, rfl, Below.refl _ _, fun j hj => absurd hj (by omega)⟩
  case round =>
    obtain ⟨i, hi, rfl, hh, hB, hne⟩ := hrel
    by_cases c1 : i < k
    · have q1 : ((i : Int) < (k : Int)) = True := by simp; omega
      have hda := ((unhide H).at_ (by omega)).1
      have hgl := ((unhide H).at_ (by omega)).2
      subst hda
      obtain ⟨e1, e2⟩ := dirs_get (unhide H) (i := i) (by omega)
      obtain ⟨u, v, huv⟩ : ∃ u v, L.getD i (0, 0) = (u, v) := ⟨_, _, rfl⟩
      rw [huv] at e1 e2
      have huv := hide huv
      have k1 : wr.cell? ⟨g, o + i * 2, none⟩ = some (.int .i64 u) := (heapCell (unhide hh) _).trans (((unhide bx).cell (p := ⟨g, o + i * 2, none⟩) hgl).trans e1)
      have k2 : wr.cell? ⟨g, o + i * 2 + 1, none⟩ = some (.int .i64 v) := (heapCell (unhide hh) _).trans (((unhide bx).cell (p := ⟨g, o + i * 2 + 1, none⟩) hgl).trans e2)
      have k3 : wr.cell? ⟨w.heap.size, 0, none⟩ = some (.int .i64 x) := (heapCell (unhide hh) _).trans b0
      have k4 : wr.cell? ⟨w.heap.size, 1, none⟩ = some (.int .i64 y) := (heapCell (unhide hh) _).trans b1
      clear e1 e2
      have done : ∀ r : Int, Found L k (x, y) r → ∀ wz : World, Below w1.heap.size w1 wz → ∃ r', Ending.returned (.int .i64 r) = .returned (.int .i64 r') ∧ Found L k (x, y) r' ∧ Below w.heap.size w wz := fun r hr wz hz => ⟨r, rfl, hr, (unhide bx).trans (hz.mono (unhide bx).size)⟩
      have done := hide done
      by_cases cu : x = u
      · subst cu
        by_cases cv : y = v
        · subst cv
          go_wp2_with fail
          go_quiet (fail)
          go_wp2_with fail
          go_ret
          exact unhide done i (.inr ⟨i, c1, rfl, unhide huv⟩) _ ⟨(unhide hB).os, (unhide hB).tape, (unhide hB).output, (unhide hB).size, (unhide hB).block⟩
        · have q2 : (y == v) = false := by simp; exact cv
          go_wp2_with fail
          go_quiet (fail)
          go_wp2_with fail
          have hb := unhide hB
          exact ⟨⟨i + 1, by omega, by go_num, unhide hh, ⟨hb.os, hb.tape, hb.output, hb.size, hb.block⟩, fun j hj => by
            by_cases e : j = i
            · subst e; rw [unhide huv]; intro e; exact cv (by injection e with _ e; exact e.symm)
            · exact unhide hne j (by omega)⟩, by simp [intOf]; omega⟩
      · have q2 : (x == u) = false := by simp; exact cu
        go_wp2_with fail
        go_quiet (fail)
        go_wp2_with fail
        have hb := unhide hB
        exact ⟨⟨i + 1, by omega, by go_num, unhide hh, ⟨hb.os, hb.tape, hb.output, hb.size, hb.block⟩, fun j hj => by
            by_cases e : j = i
            · subst e; rw [unhide huv]; intro e; exact cu (by injection e with e _; exact e.symm)
            · exact unhide hne j (by omega)⟩, by simp [intOf]; omega⟩
    · have q1 : ((i : Int) < (k : Int)) = False := by simp; omega
      obtain rfl : i = k := by omega
      go_wp2_with fail
      go_ret
      have hb := unhide hB
      exact ⟨-1, rfl, .inl ⟨rfl, unhide hne⟩, (unhide bx).trans (hb.mono (unhide bx).size)⟩
set_option maxRecDepth 100000 in
set_option maxHeartbeats 3200000 in
theorem containsDir {a : Option Addr} {g o k cap : Nat} {L : List (Int × Int)} {x y : Int} (hk : k ≤ L.length) (hL : L.length ≤ 4096) (w : World) (h : Dirs w a g o L) :
    Calls (barP Try.prog) 24 #[.slice a k cap, .agg #[.int .i64 x, .int .i64 y]] w fun e w' => ∃ r : Bool, e = .returned (.bool r) ∧ (r = true ↔ ∃ j, j < k ∧ L.getD j (0, 0) = (x, y)) ∧ Below w.heap.size w w' := by
  have H := hide h
  clear h
  have bx : Hid (Below w.heap.size w (w.alloc (.cells #[.int .i64 x, .int .i64 y] 47))) := (Below.refl _ _).alloc (Nat.le_refl _) _
  have b0 := cell_of (i := 0) (heap_alloc_new w (.cells #[.int .i64 x, .int .i64 y] 47)) rfl
  have b1 := cell_of (i := 1) (heap_alloc_new w (.cells #[.int .i64 x, .int .i64 y] 47)) rfl
  go_enter Bar.func24, Bar.ntmps24
  go_wp2_with fail
  generalize w.alloc (.cells #[.int .i64 x, .int .i64 y] 47) = w1 at *
  refine (indexDir hk hL w1 (dirs_below (unhide H) (unhide bx))).mono ?_
  rintro e w2 ⟨r, rfl, hr, hb⟩
  have hB := hide ((unhide bx).trans (hb.mono (unhide bx).size))
  have hr := hide hr
  clear hb
  by_cases c : (0 : Int) ≤ r
  · have q : ((0 : Int) ≤ r) = True := by simp [c]
    go_wp2_with fail
    go_ret
    refine ⟨true, rfl, ⟨fun _ => ?_, fun _ => rfl⟩, unhide hB⟩
    rcases unhide hr with ⟨e, _⟩ | ⟨j, h1, _, h3⟩
    · omega
    · exact ⟨j, h1, h3⟩
  · have q : ((0 : Int) ≤ r) = False := by simp [c]
    go_wp2_with fail
    go_ret
    refine ⟨false, rfl, ⟨fun x => (by cases x), fun ⟨j, h1, h2⟩ => ?_⟩, unhide hB⟩
    rcases unhide hr with ⟨_, e⟩ | ⟨j, h1, h3, _⟩
    · exact absurd h2 (e j h1)
    · omega
end Go.Proofs.Ythbghcebcahlnaa
