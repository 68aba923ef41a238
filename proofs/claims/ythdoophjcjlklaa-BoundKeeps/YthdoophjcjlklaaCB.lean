/- The document's Run without projections. -/
import Derived.Test.YthdoophjcjlklaaCA
namespace Go.Proofs.Ythdoophjcjlklaa
open Go.RowKit Go.Shelf

def clashB (A B : List Int) : Bool := (List.range A.length).any fun i => decide (B.getD i 0 < A.getD i 0)
def badB (n : Int) (A B : List Int) : Bool := decide (n < 1) || decide (16 < n) || !levs n A B
/-- What Run answers without projections. -/
def errS (n : Int) (A B : List Int) : Int := if badB n A B then 1 else if clashB A B then 111 else 0
def outS (n : Int) (A B L : List Int) : List Int := if errS n A B = 0 then L else []

theorem bad_cases (n : Int) (A B : List Int) : (badB n A B = true ∧ ((n < 1 ∨ 16 < n) ∨ levs n A B = false)) ∨ (badB n A B = false ∧ 1 ≤ n ∧ n ≤ 16 ∧ levs n A B = true) := by
  unfold badB
  by_cases h1 : n < 1
  · exact Or.inl ⟨by simp [h1], Or.inl (Or.inl h1)⟩
  · by_cases h2 : 16 < n
    · exact Or.inl ⟨by simp [h2], Or.inl (Or.inr h2)⟩
    · cases h3 : levs n A B
      · exact Or.inl ⟨by simp, Or.inr rfl⟩
      · exact Or.inr ⟨by simp [h1, h2], by omega, by omega, rfl⟩
theorem clash_yes {A B : List Int} (h : clashB A B = true) : ∃ i, i < A.length ∧ B.getD i 0 < A.getD i 0 := by
  unfold clashB at h
  obtain ⟨i, h1, h2⟩ := List.any_eq_true.1 h
  exact ⟨i, List.mem_range.1 h1, by simpa using h2⟩
theorem clash_no {A B : List Int} (h : clashB A B = false) : ∀ i, i < A.length → A.getD i 0 ≤ B.getD i 0 := fun i hi => by
  unfold clashB at h
  have := List.any_eq_false.1 h i (List.mem_range.2 hi)
  simp at this
  simpa using this
theorem errS_cases (n : Int) (A B : List Int) : (errS n A B = 1 ∧ ((n < 1 ∨ 16 < n) ∨ levs n A B = false)) ∨ (1 ≤ n ∧ n ≤ 16 ∧ levs n A B = true ∧ errS n A B = 111 ∧ ∃ i, i < A.length ∧ B.getD i 0 < A.getD i 0) ∨ (1 ≤ n ∧ n ≤ 16 ∧ levs n A B = true ∧ errS n A B = 0 ∧ ∀ i, i < A.length → A.getD i 0 ≤ B.getD i 0) := by
  unfold errS
  rcases bad_cases n A B with ⟨h1, h2⟩ | ⟨h1, h2, h3, h4⟩
  · exact Or.inl ⟨by rw [h1]; rfl, h2⟩
  · rw [h1]
    cases hc : clashB A B
    · exact Or.inr (Or.inr ⟨h2, h3, h4, rfl, clash_no hc⟩)
    · exact Or.inr (Or.inl ⟨h2, h3, h4, rfl, clash_yes hc⟩)

set_option maxRecDepth 100000 in
set_option maxHeartbeats 3200000 in
theorem refCheckBad {n : Int} {u v pv : Value} {A B : List Int} (h : (n < 1 ∨ 16 < n) ∨ levs n A B = false) (lA : A.length ≤ 9223372036854775807) (lB : B.length ≤ 9223372036854775807) (w : World) (hu : Ints w u A) (hv : Ints w v B) :
    Calls Try.prog 30 #[.int .i64 n, pv, u, v] w fun e w' => e = .returned (.int .i64 1) ∧ w' = w := by
  by_cases hs : n < 1 ∨ 16 < n
  · have hd : (n < 1) = True ∨ ((n < 1) = False ∧ (16 < n) = True) := by
      by_cases d1 : n < 1
      · exact Or.inl (by simp; omega)
      · exact Or.inr ⟨by simp; omega, by simp; omega⟩
    clear h hs hu hv
    rcases hd with d1 | ⟨d1, d2⟩
    all_goals
      go_enter Try.func30, Try.ntmps30
      go_wp2_with fail
      go_ret
      exact ⟨rfl, rfl⟩
  · obtain ⟨N, rfl⟩ : ∃ N : Nat, n = N := ⟨n.toNat, by omega⟩
    have hl : levs (N : Int) A B = false := h.resolve_left hs
    unfold levs at hl
    rw [Int.toNat_natCast] at hl
    have k1 := hide (refLevels (n := N) (by omega) rfl lA w hu)
    have k2 := hide (refLevels (n := N) (by omega) rfl lB w hv)
    have d1 : ((N : Int) < 1) = False := by simp; omega
    have d2 : ((16 : Int) < (N : Int)) = False := by simp; omega
    generalize levS (N * N) A = b1 at *
    generalize levS (N * N) B = b2 at *
    clear h hs hu hv
    rcases (by cases b1 <;> simp : b1 = true ∨ b1 = false) with rfl | rfl
    · obtain rfl : b2 = false := by simpa using hl
      go_enter Try.func30, Try.ntmps30
      go_wp2_with fail
      refine (unhide k1).mono ?_
      rintro e w1 ⟨rfl, rfl⟩
      go_wp2_with fail
      refine (unhide k2).mono ?_
      rintro e w1 ⟨rfl, rfl⟩
      go_wp2_with fail
      go_ret
      exact ⟨rfl, rfl⟩
    · go_enter Try.func30, Try.ntmps30
      go_wp2_with fail
      refine (unhide k1).mono ?_
      rintro e w1 ⟨rfl, rfl⟩
      go_wp2_with fail
      go_ret
      exact ⟨rfl, rfl⟩

set_option maxRecDepth 100000 in
set_option maxHeartbeats 3200000 in
theorem refCheckNil {n : Int} {u v : Value} {A B : List Int} (h1 : 1 ≤ n) (h2 : n ≤ 16) (hl : levs n A B = true) (lA : A.length ≤ 9223372036854775807) (lB : B.length ≤ 9223372036854775807) (w : World) (hu : Ints w u A) (hv : Ints w v B) :
    Calls Try.prog 30 #[.int .i64 n, .slice none 0 0, u, v] w fun e w' => e = .returned (.int .i64 0) ∧ w' = w := by
  obtain ⟨N, rfl⟩ : ∃ N : Nat, n = N := ⟨n.toNat, by omega⟩
  unfold levs at hl
  rw [Int.toNat_natCast, Bool.and_eq_true] at hl
  have k1 := refLevels (n := N) (by omega) rfl lA w hu
  have k2 := refLevels (n := N) (by omega) rfl lB w hv
  rw [hl.1] at k1
  rw [hl.2] at k2
  have k1 := hide k1
  have k2 := hide k2
  have d1 : ((N : Int) < 1) = False := by simp; omega
  have d2 : ((16 : Int) < (N : Int)) = False := by simp; omega
  clear hl hu hv
  go_enter Try.func30, Try.ntmps30
  go_wp2_with fail
  refine (unhide k1).mono ?_
  rintro e w1 ⟨rfl, rfl⟩
  go_wp2_with fail
  refine (unhide k2).mono ?_
  rintro e w1 ⟨rfl, rfl⟩
  go_wp2_with fail
  go_loopw [9] (fun kv wr => kv = .int .i64 0 ∧ w1 = wr) (fun _ _ => 0)
  case atStart => exact ⟨rfl, rfl⟩
  case round =>
    obtain ⟨rfl, rfl⟩ := hrel
    go_wp2_with fail
    go_ret
    exact ⟨rfl, rfl⟩

set_option maxHeartbeats 800000 in
theorem refSweepNil {p : Value} {n : Int} (w : World) : Calls Try.prog 32 #[p, .int .i64 n, .slice none 0 0, .slice none 0 0] w fun e w' => e = .returned (.bool true) ∧ w' = w := by
  go_enter Try.func32, Try.ntmps32
  go_wp2_with fail
  go_loopw [9] (fun kv wr => kv = .int .i64 0 ∧ w = wr) (fun _ _ => 0)
  case atStart => exact ⟨rfl, rfl⟩
  case round =>
    obtain ⟨rfl, rfl⟩ := hrel
    go_wp2_with fail
    go_ret
    exact ⟨rfl, rfl⟩

set_option maxRecDepth 100000 in
set_option maxHeartbeats 1600000 in
theorem refRunBad {n : Int} {u v pv : Value} {A B : List Int} (h : (n < 1 ∨ 16 < n) ∨ levs n A B = false) (lA : A.length ≤ 9223372036854775807) (lB : B.length ≤ 9223372036854775807) (w : World) (hu : Ints w u A) (hv : Ints w v B) :
    Calls Try.prog 20 #[.int .i64 n, pv, u, v] w fun e w' => e = .returned (.tuple #[.slice none 0 0, .slice none 0 0, .int .i64 1]) ∧ Below w.heap.size w w' := by
  have kl := hide (refCheckBad (pv := pv) h lA lB w hu hv)
  clear h hu hv
  go_enter Try.func20, Try.ntmps20
  go_wp2_with fail
  refine (unhide kl).mono ?_
  rintro e w1 ⟨rfl, rfl⟩
  clear kl
  go_wp2_with fail
  go_ret3
  exact ⟨rfl, Below.refl _ _⟩

theorem newI_same {base : Nat} {w w' : World} {v : Value} {L : List Int} (h : NewI base w v L) (hb : ∀ x : Nat, w'.heap[x]? = w.heap[x]?) (hs : w'.heap.size = w.heap.size) : NewI base w' v L := by
  obtain ⟨a, g, cap, h1, h2, h3⟩ := h
  refine ⟨a, g, cap, h1, ⟨fun hl => ⟨(h2.at_ hl).1, by rw [hs]; exact (h2.at_ hl).2⟩, fun i c hi => ?_⟩, h3⟩
  exact (World.cell?_of_block (w := w) (a := ⟨g, 0 + i, none⟩) (hb g)).trans (h2.cell i c hi)

set_option maxRecDepth 100000 in
set_option maxHeartbeats 6400000 in
theorem refRunNil {n : Int} {u v : Value} {A B : List Int} (h1 : 1 ≤ n) (h2 : n ≤ 16) (hl : levs n A B = true) (w : World) (hu : Ints w u A) (hv : Ints w v B) :
    Calls Try.prog 20 #[.int .i64 n, .slice none 0 0, u, v] w fun e w' =>
      ((∃ i, i < A.length ∧ B.getD i 0 < A.getD i 0) ∧ e = .returned (.tuple #[.slice none 0 0, .slice none 0 0, .int .i64 111]) ∧ Below w.heap.size w w') ∨
      ((∀ i, i < A.length → A.getD i 0 ≤ B.getD i 0) ∧ ∃ x y, e = .returned (.tuple #[x, y, .int .i64 0]) ∧ NewI w.heap.size w' x A ∧ NewI w.heap.size w' y B ∧ Below w.heap.size w w') := by
  obtain ⟨lA, lB⟩ := levs_len hl
  obtain ⟨m1, m2⟩ := sq_small h1 h2
  have kl := hide (refCheckNil h1 h2 hl (by omega) (by omega) w hu hv)
  obtain ⟨N, rfl⟩ : ∃ N : Nat, n = N := ⟨n.toNat, by omega⟩
  rw [Int.toNat_natCast] at lA lB m1 m2
  have mm : wrap64 ((N : Int) * (N : Int)) = ((N * N : Nat) : Int) := by
    rw [← Int.natCast_mul]
    exact IntWalk.wrap64_in _ ⟨by omega, by omega⟩
  obtain ⟨a1, cap1, g1, o1, rfl, i1⟩ := hu
  obtain ⟨a2, cap2, g2, o2, rfl, i2⟩ := hv
  have I1 := hide i1
  have I2 := hide i2
  have s1 := hide i1.at_
  have s2 := hide i2.at_
  have t1 := hide (fun i (hi : i < A.length) => i1.get hi)
  have t2 := hide (fun i (hi : i < B.length) => i2.get hi)
  have nA : A.length * 8 ≤ 140737488351232 := by omega
  have nB : B.length * 8 ≤ 140737488351232 := by omega
  generalize N * N = M at *
  replace lA := hide lA
  replace lB := hide lB
  clear hl i1 i2
  go_enter Try.func20, Try.ntmps20
  go_wp2_with fail
  refine (unhide kl).mono ?_
  rintro e w1 ⟨rfl, rfl⟩
  clear kl
  go_wp2_with (first
    | (at_builtin; refine wpList_copy_ints rfl (.tmp 31) (.tmp 32) w1 rfl rfl rfl (unhide I1) nA ?_))
  intro x2 w2 hx2 hb2
  have hx2 := hide hx2
  have I2b := hide ((unhide I2).below hb2)
  have hb2 := hide hb2
  go_wp2_with (first
    | (at_builtin; refine wpList_copy_ints rfl (.tmp 34) (.tmp 35) w2 rfl rfl rfl (unhide I2b) nB ?_))
  intro y3 w3 hy3 hb3
  have hx3 := hide ((unhide hx2).below hb3)
  have hy3 := hide hy3
  have hs12 : w1.heap.size ≤ w2.heap.size := (unhide hb2).size
  have hb3 := hide ((unhide hb2).trans (hb3.mono (unhide hb2).size))
  clear hx2 I2b hb2 I1 I2
  have hs2 : w1.heap.size ≤ w3.heap.size := (unhide hb3).size
  have hyb : Hid (NewI w1.heap.size w3 y3 B) := by
    obtain ⟨a, g, c, e1, e2, e3⟩ := unhide hy3
    exact ⟨a, g, c, e1, e2, fun h => Nat.le_trans hs12 (e3 h)⟩
  clear hy3
  obtain ⟨ax, gx, cx, rfl, _, _⟩ := unhide hx3
  obtain ⟨ay, gy, cy, rfl, _, _⟩ := unhide hyb
  have y4 := (Below.refl w3.heap.size w3).alloc (Nat.le_refl _) (.cells #[.slice ax A.length cx, .slice ay B.length cy, .bool false] 69)
  have hx4 := hide ((unhide hx3).below y4)
  have hy4 := hide ((unhide hyb).below y4)
  have hb4 := hide ((unhide hb3).trans (y4.mono hs2))
  have r4 := hide (heap_alloc_new w3 (.cells #[.slice ax A.length cx, .slice ay B.length cy, .bool false] 69))
  have c4 : Hid (∀ p : Addr, p.block < w1.heap.size → (w3.alloc (.cells #[.slice ax A.length cx, .slice ay B.length cy, .bool false] 69)).cell? p = w1.cell? p) := fun p hp => (unhide hb4).cell hp
  clear y4 hx3 hyb hb3
  go_wp2_with fail
  generalize w3.alloc (.cells #[.slice ax A.length cx, .slice ay B.length cy, .bool false] 69) = w4 at *
  generalize w3.heap.size = sb at *
  have lA' := unhide lA
  have lB' := unhide lB
  go_loopw [13] (fun kv wr => ∃ k : Nat, k ≤ M ∧ kv = .int .i64 k ∧ Hid (∀ i, i < k → A.getD i 0 ≤ B.getD i 0) ∧ Hid (wr.heap = w4.heap) ∧ Hid (Below w1.heap.size w1 wr)) (fun kv _ => M - (intOf kv).toNat)
  case atStart => exact ⟨0, Nat.zero_le _, rfl, fun i hi => by omega, rfl, hb4⟩
  case round =>
    obtain ⟨k, hk, rfl, hn, hw, hB⟩ := hrel
    by_cases c : k < M
    · have q1 : ((k : Int) < (M : Int)) = True := by simp; omega
      have kA : k < A.length := by omega
      have kB : k < B.length := by omega
      obtain ⟨e1, l1⟩ := unhide s1 (by omega)
      obtain ⟨e2, l2⟩ := unhide s2 (by omega)
      have k1 := (heapCell (unhide hw) ⟨g1, o1 + k, none⟩).trans ((unhide c4 _ l1).trans (unhide t1 k kA))
      have k2 := (heapCell (unhide hw) ⟨g2, o2 + k, none⟩).trans ((unhide c4 _ l2).trans (unhide t2 k kB))
      have hn2 : Hid (A.getD k 0 ≤ B.getD k 0 → ∀ i, i < k + 1 → A.getD i 0 ≤ B.getD i 0) := fun h i hi => by
        by_cases e : i = k
        · subst e
          exact h
        · exact unhide hn i (by omega)
      have hy : Hid (B.getD k 0 < A.getD k 0 → ∃ i, i < A.length ∧ B.getD i 0 < A.getD i 0) := fun h => ⟨k, kA, h⟩
      clear lA' lB' hn
      rw [e1, e2]
      by_cases d : B.getD k 0 < A.getD k 0
      · have q2 : (B.getD k 0 < A.getD k 0) = True := eq_true d
        have hyy := hide (unhide hy d)
        clear hn2 hy d
        generalize A.getD k 0 = x at *
        generalize B.getD k 0 = y at *
        go_wp2_with fail
        go_quiet (fail)
        go_wp2_with fail
        go_ret3
        have hb := unhide hB
        exact Or.inl ⟨unhide hyy, rfl, ⟨hb.os, hb.tape, hb.output, hb.size, hb.block⟩⟩
      · have q2 : (B.getD k 0 < A.getD k 0) = False := eq_false d
        have hn3 := hide (unhide hn2 (by omega))
        clear hn2 hy d
        generalize A.getD k 0 = x at *
        generalize B.getD k 0 = y at *
        go_wp2_with fail
        go_quiet (fail)
        go_wp2_with fail
        have hb := unhide hB
        exact ⟨⟨k + 1, by omega, by go_num, hn3, unhide hw, ⟨hb.os, hb.tape, hb.output, hb.size, hb.block⟩⟩, by simp [intOf]; omega⟩
    · have q1 : ((k : Int) < (M : Int)) = False := by simp; omega
      obtain rfl : k = M := by omega
      have hok : Hid (∀ i, i < A.length → A.getD i 0 ≤ B.getD i 0) := fun i hi => unhide hn i (by omega)
      clear lA' lB'
      have r5 : wr.heap[sb]? = some (.cells #[.slice ax A.length cx, .slice ay B.length cy, .bool false] 69 (0, 0)) := by rw [unhide hw]; exact unhide r4
      have f5 := frozen_of_row wr sb 2 _ _ r5
      have c5 := cell_of_row _ sb 2 _ _ (0, 0) r5
      simp only [List.getElem?_toArray, List.getElem?_cons_zero, List.getElem?_cons_succ] at c5
      have r6 : (wr.setCell ⟨sb, 2, none⟩ (.bool false)).heap[sb]? = some (.cells #[.slice ax A.length cx, .slice ay B.length cy, .bool false] 69 (0, 0)) := heap_setCell_same wr sb 2 _ _ _ r5
      have c60 := cell_of_row _ sb 0 _ _ (0, 0) r6
      have c61 := cell_of_row _ sb 1 _ _ (0, 0) r6
      have c62 := cell_of_row _ sb 2 _ _ (0, 0) r6
      simp only [List.getElem?_toArray, List.getElem?_cons_zero, List.getElem?_cons_succ] at c60 c61 c62
      have hsame : ∀ x : Nat, (wr.setCell ⟨sb, 2, none⟩ (.bool false)).heap[x]? = w4.heap[x]? := fun x => by
        by_cases e : x = sb
        · rw [e, r6]
          exact (unhide r4).symm
        · rw [Below.heap_setCell _ _ _ _ (by show x ≠ sb; exact e), unhide hw]
      have hx6 : Hid (NewI w1.heap.size (wr.setCell ⟨sb, 2, none⟩ (.bool false)) (.slice ax A.length cx) A) := newI_same (unhide hx4) hsame (by simp [World.setCell, unhide hw])
      have hy6 : Hid (NewI w1.heap.size (wr.setCell ⟨sb, 2, none⟩ (.bool false)) (.slice ay B.length cy) B) := newI_same (unhide hy4) hsame (by simp [World.setCell, unhide hw])
      have hb6 := hide ((unhide hB).setCell (p := ⟨sb, 2, none⟩) hs2 (.bool false))
      have r5 := hide r5
      clear hx4 hy4 hb4 r4 c4 hw hB hsame r6 hn s1 s2 t1 t2
      go_wp2_with fail
      go_loopw [14, 15] (fun lv kv wx => lv = .slice none 0 0 ∧ kv = .int .i64 0 ∧ wr = wx) (fun _ _ _ => 0)
      case atStart => exact ⟨rfl, rfl, rfl⟩
      case round =>
        obtain ⟨rfl, rfl, rfl⟩ := hrel
        go_wp2_with fail
        go_loopw [22] (fun tv wx => tv = .int .i64 0 ∧ wr = wx) (fun _ _ => 0)
        case atStart => exact ⟨rfl, rfl⟩
        case round =>
          obtain ⟨rfl, rfl⟩ := hrel
          go_wp2_with fail
          refine (refSweepNil _).mono ?_
          rintro e w7 ⟨rfl, rfl⟩
          go_wp2_with fail
          go_quiet (fail)
          go_wp2_with fail
          go_ret3
          have hb := unhide hb6
          exact Or.inr ⟨unhide hok, _, _, rfl, newI_same (unhide hx6) (fun _ => rfl) rfl, newI_same (unhide hy6) (fun _ => rfl) rfl, ⟨hb.os, hb.tape, hb.output, hb.size, hb.block⟩⟩
end Go.Proofs.Ythdoophjcjlklaa
