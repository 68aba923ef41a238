/- The law's own fields of whole numbers. -/
import Derived.Test.YtgbffbikieikdaaPF
namespace Go.Proofs.Ytgbffbikieikdaa
open Go.RowKit Fl
attribute [local go_sem] store_complex

set_option maxHeartbeats 6400000 in
theorem wholesAny {N g o cap : Nat} {p : Nat → Int × Int} (hN : N ≤ 9223372036854775807) (w : World) (a : Option Addr) (ha : 0 < N → a = some ⟨g, o, none⟩) (hp : Pairs w g o N p) :
    Calls Try.prog 5 #[.slice a N cap] w fun e w' =>
      ∃ L g', L ≤ 5 ∧ e = .returned (gridV (2 ^ L) g' (2 ^ L * 2 ^ L) (2 ^ L * 2 ^ L)) ∧ w.heap.size ≤ g' ∧ Row w' g' (2 ^ L * 2 ^ L) (wx N p) ∧ Below w.heap.size w w' := by
  obtain ⟨i0, hi0, hz0, hz1, hz2⟩ := info_parts infoC
  have hp := hide hp
  have ha := hide ha
  unfold gridV
  obtain ⟨w1, hw1⟩ : ∃ w1, w1 = w.alloc (.cells #[.int .i64 0, .slice none 0 0] 26) := ⟨_, rfl⟩
  have Hw := hide hw1
  clear hw1
  go_enter Try.func5, Try.ntmps5
  go_wp2_with fail
  go_loopw [3] (fun nv wr => ∃ L n : Nat, n ≤ 32 ∧ Hid (n = 2 ^ L ∧ L ≤ 5) ∧ nv = .int .i64 n ∧ w1 = wr) (fun nv _ => 32 - (intOf nv).toNat)
  case atStart => exact ⟨0, 1, by decide, ⟨rfl, Nat.zero_le _⟩, rfl, unhide Hw⟩
  case round =>
    obtain ⟨L, n, hn32, hL, rfl, rfl⟩ := hrel
    have hn1 : 1 ≤ n := by rw [(unhide hL).1]; exact Nat.one_le_two_pow
    have hmm := square_le hn32
    have hq1 : IntKind.i64.wrap (4 * (n : Int)) = 4 * (n : Int) := by rw [IntKind.wrap_i64]; omega
    have hq2 : IntKind.i64.wrap (4 * (n : Int) * (n : Int)) = ((4 * (n * n) : Nat) : Int) := by
      rw [show 4 * (n : Int) * (n : Int) = ((4 * (n * n) : Nat) : Int) by push_cast; grind]
      exact wrap_small (by omega)
    have hq3 : IntKind.i64.wrap ((n : Int) * (n : Int)) = ((n * n : Nat) : Int) := wrap_mul (by omega)
    obtain ⟨m, hm⟩ : ∃ m, m = n * n := ⟨_, rfl⟩
    obtain ⟨q, hq⟩ : ∃ q, q = 4 * (n * n) := ⟨_, rfl⟩
    rw [← hq] at hq2
    rw [← hm] at hq3 hmm hq
    have Hm := hide hm
    have hq4 : q ≤ 4096 := by omega
    clear hm hq
    by_cases c1 : q ≤ N ∧ n < 32
    · have d1 : ((q : Int) ≤ (N : Int)) = True := by simp; omega
      have d2 : ((n : Int) < 32) = True := by simp; omega
      go_wp2_with fail
      obtain ⟨e1, e2⟩ := unhide hL
      have h3 : 2 ^ (L + 1) ≤ 2 ^ 5 := by
        have e5 : n < 2 ^ 5 := c1.2
        rw [e1] at e5
        have := (Nat.pow_lt_pow_iff_right (show 1 < 2 by decide)).1 e5
        exact Nat.pow_le_pow_right (by decide) this
      exact ⟨⟨L + 1, n * 2, by rw [e1, ← Nat.pow_succ]; exact h3, ⟨by rw [Nat.pow_succ, e1], (Nat.pow_le_pow_iff_right (by decide)).1 h3⟩, by go_num, trivial⟩, by simp [intOf]; omega⟩
    · have hd : (((q : Int) ≤ (N : Int)) = True ∧ ((n : Int) < 32) = False) ∨ ((q : Int) ≤ (N : Int)) = False := by
        by_cases c2 : q ≤ N
        · exact Or.inl ⟨by simp; omega, by simp; omega⟩
        · exact Or.inr (by simp; omega)
      have hm1 : 1 ≤ m := by rw [unhide Hm]; exact Nat.mul_le_mul hn1 hn1
      clear c1
      rcases hd with ⟨d1, d2⟩ | d1
      all_goals go_wp2_with (first
        | (at_make; refine wpList_make_full _ rfl (.tmp 22) (.tmp 22) 24 rfl w.heap.size 28 i0 (.complex .f64 0 0) 1 Try.underlying24 hi0 hz0 hz1 .i64 .i64 m m m rfl rfl rfl rfl (by rw [hz2]; omega) (by unfold maxLen; omega) (by have := unhide Hw; subst this; simp) ?_))
      all_goals
        intro w2 hown2 hg2
        have hT : Row w2 w1.heap.size m (wxTo N p 0) := row_ext (row_made hown2 (fun _ => (0, 0)) (fun i hi => zeros_get m i hi) (fun _ _ => rfl)) fun i _ => by unfold wxTo; rw [if_neg (by omega)]
        have hs1 : w1.heap.size = w.heap.size + 1 := by rw [unhide Hw]; simp
        have hz : w1.heap.size < w2.heap.size := row_lt hT
        have B : Hid (Box w2 n w1.heap.size m w.heap.size) := box_of (cell_grown hg2 (by rw [unhide Hw]; simp [go_sem]) (by simp)) (cell_grown hg2 (by rw [unhide Hw]; simp [go_sem]) (by simp))
          (frozen_grown hg2 (by show w.heap.size < _; omega) (by rw [unhide Hw]; simp [go_sem]) (by simp)) (frozen_grown hg2 (by show w.heap.size < _; omega) (by rw [unhide Hw]; simp [go_sem]) (by simp)) (by omega) ⟨hz, by omega⟩
        have hB1 : Below w.heap.size w w1 := by
          rw [unhide Hw]
          exact (Below.refl _ _).alloc (Nat.le_refl _) _
        have hB2 : Below w.heap.size w w2 := hB1.grown hg2 (by omega) (fun k hk => by cases hk)
        have hB3 : Hid (Below w.heap.size w (w2.alloc (.cells #[.int .i64 n, .slice (some ⟨w1.heap.size, 0, none⟩) m m] 26))) := hB2.alloc hB2.size _
        have hR3 : Hid (Row (w2.alloc (.cells #[.int .i64 n, .slice (some ⟨w1.heap.size, 0, none⟩) m m] 26)) w1.heap.size m (wxTo N p 0)) := row_keep hT (Below.heap_alloc _ _ _ hz)
        have hgg : Hid (w.heap.size ≤ w1.heap.size ∧ w.heap.size ≠ w1.heap.size) := ⟨by omega, by omega⟩
        obtain ⟨g1, hg1⟩ : ∃ g1, g1 = w1.heap.size := ⟨_, rfl⟩
        rw [← hg1] at B hB3 hR3 hgg ⊢
        clear hown2 hg2 hT hs1 hz hB1 hB2 hg1 Hw
        go_wp2_with fail
        obtain ⟨w3, hw3⟩ : ∃ w3, w3 = w2.alloc (.cells #[.int .i64 n, .slice (some ⟨g1, 0, none⟩) m m] 26) := ⟨_, rfl⟩
        have Hw3 := hide hw3
        unfold Box at B
        rw [← hw3] at B hB3 hR3
        clear hw3
        go_loopw [5] (fun ix wr => ∃ k : Nat, k ≤ m ∧ ix = .int .i64 k ∧ Hid (Row wr g1 m (wxTo N p k)) ∧ Hid (w3.grownBy wr (some g1))) (fun ix _ => m - (intOf ix).toNat)
        case atStart => exact ⟨0, Nat.zero_le _, rfl, by rw [← unhide Hw3]; exact hR3, by rw [← unhide Hw3]; exact grown_refl _ _⟩
        case round =>
          obtain ⟨k, hk, rfl, hRr, hgr⟩ := hrel
          obtain ⟨b1, b2, b3, b4, b5, b6⟩ := unhide B _ (unhide hgr)
          have hBr : Hid (Below w.heap.size w wr) := below_grow (Nat.le_refl _) (unhide hgg).1 (unhide hgr) (unhide hB3)
          by_cases hkk : k < m ∧ k < N
          · obtain ⟨hkm, hkN⟩ := hkk
            have q1 : ((k : Int) < (m : Int)) = True := by simp; omega
            have q2 : ((k : Int) < (N : Int)) = True := by simp; omega
            have hg : g < w.heap.size := (unhide hp).lt (by omega)
            have r1 := ((unhide hBr).cell (p := ⟨g, o + k * 2, none⟩) hg).trans ((unhide hp).one k hkN)
            have r2 := ((unhide hBr).cell (p := ⟨g, o + k * 2 + 1, none⟩) hg).trans ((unhide hp).two k hkN)
            have c1 := row_at (unhide hRr) hkm
            have f1 := row_frozen (unhide hRr) k
            unfold cv at c1
            have hRn := hide (row_set (unhide hRr) k (wx N p k))
            have hgn : Hid (w3.grownBy (wr.setCell ⟨g1, k, none⟩ (cv (wx N p k))) (some g1)) := grown_trans (unhide hgr) (grown_set _ _ _ _)
            have hv : Hid (wx N p k = (floatOfInt .f64 ((p k).1 / 2048), floatOfInt .f64 ((p k).2 / 2048))) := by show _ = _; unfold wx wv; rw [if_pos hkN]
            have hst := hide (fun i => wxTo_step N p k i)
            rw [unhide hv] at hRn hgn hst
            rw [unhide ha (by omega)]
            generalize (p k).1 = x at r1 hRn hgn hst
            generalize (p k).2 = y at r2 hRn hgn hst
            clear hRr hgr hBr hv b3 b4 b5 b6
            go_wp2_with fail
            go_big_region
            all_goals go_wp2_with fail
            all_goals exact ⟨⟨k + 1, hkm, by go_num, row_drew (row_ext (unhide hRn) fun i _ => unhide hst i), grown_drew' (unhide hgn)⟩, by simp [intOf]; omega⟩
          · have hRe : Hid (Row wr g1 m (wx N p)) := row_ext (unhide hRr) fun i hi => by
              by_cases hkN : k < N
              · unfold wxTo
                rw [if_pos (by omega)]
              · exact wxTo_out hkN i
            have hd : (((k : Int) < (m : Int)) = True ∧ ((k : Int) < (N : Int)) = False) ∨ ((k : Int) < (m : Int)) = False := by
              by_cases c2 : k < m
              · exact Or.inl ⟨by simp; omega, by simp; omega⟩
              · exact Or.inr (by simp; omega)
            clear hRr hgr hkk
            rcases hd with ⟨q1, q2⟩ | q1
            all_goals
              go_wp2_with fail
              refine bodyPost_ret (results_two (P := Try.prog) rfl _ _ w.heap.size (.int .i64 n) (.slice (some ⟨g1, 0, none⟩) m m) _ rfl (by simp [go_sem, b3]) (by simp [go_sem, b4]) Try.underlying26 rfl (by kernel_rfl)) rfl ?_
              refine ⟨L, g1, (unhide hL).2, by rw [← (unhide hL).1, ← unhide Hm], (unhide hgg).1, ?_, ((unhide hBr).setCell (by simp) _).setCell (by simp) _⟩
              rw [← (unhide hL).1, ← unhide Hm]
              refine row_keep (unhide hRe) ?_
              have hne : g1 ≠ w.heap.size := fun e => (unhide hgg).2 e.symm
              rw [Below.heap_setCell _ _ _ _ (by simpa using hne), Below.heap_setCell _ _ _ _ (by simpa using hne)]

/-- A list as a field of n rows. -/
def grid (n : Nat) (x : Nat → Nat × Nat) (j i : Nat) : Nat × Nat := x (j * n + i)

theorem flat_grid {n : Nat} (x : Nat → Nat × Nat) (k : Nat) : flat n (grid n x) k = x k := by
  unfold flat grid
  congr 1
  rw [Nat.mul_comm, Nat.div_add_mod]

theorem row_ints {n : Nat} {x : Nat → Nat × Nat} {v : Nat → Int × Int} (h : Ints (n * n) x v) {j : Nat} (hj : j < n) : Ints n (grid n x j) (fun i => v (j * n + i)) :=
  ⟨fun _ hi => h.ic _ (place_lt hj hi), fun _ hi => h.le _ (place_lt hj hi), fun _ hi => h.w2 _ (place_lt hj hi)⟩

theorem field_grid {L n : Nat} {x : Nat → Nat × Nat} {v : Nat → Int × Int} (hn : n = 2 ^ L) (h : Ints (n * n) x v) (q b : Nat) (hq : q = 1074) (hb : b = 1095) : Field (2 ^ L) b (grid n x) (fun j i => ((v (j * n + i)).1 * 2 ^ q, (v (j * n + i)).2 * 2 ^ q)) :=
  field_ints (v := fun j i => v (j * n + i)) q b hq hb fun j hj => by rw [← hn] at hj ⊢; exact row_ints h hj

theorem flat_place {n k : Nat} (hk : k < n * n) : k / n < n ∧ k % n < n ∧ k / n * n + k % n = k := by
  have h0 : 0 < n := by
    rcases Nat.eq_zero_or_pos n with e | e
    · subst e; omega
    · exact e
  exact ⟨Nat.div_lt_of_lt_mul hk, Nat.mod_lt _ h0, by rw [Nat.mul_comm, Nat.div_add_mod]⟩

/-- A grid in a box of its own. -/
structure Boxed (w : World) (b n g m cap : Nat) : Prop where
  one : w.cell? ⟨b, 0, none⟩ = some (.int .i64 n)
  two : w.cell? ⟨b, 1, none⟩ = some (.slice (some ⟨g, 0, none⟩) m cap)
  lt : b < w.heap.size

theorem boxed_below {w w' : World} {b n g m cap : Nat} (h : Boxed w b n g m cap) (hb : Below w.heap.size w w') : Boxed w' b n g m cap :=
  ⟨(hb.cell h.lt).trans h.one, (hb.cell h.lt).trans h.two, Nat.lt_of_lt_of_le h.lt hb.size⟩
theorem boxed_new (w : World) (n g m cap : Nat) : Boxed (w.alloc (.cells #[.int .i64 n, .slice (some ⟨g, 0, none⟩) m cap] 26)) w.heap.size n g m cap :=
  ⟨by simp [go_sem], by simp [go_sem], by simp⟩
theorem below_alloc (w : World) (o : Obj) : Below w.heap.size w (w.alloc o) := (Below.refl _ _).alloc (Nat.le_refl _) _
theorem row_on {w w' : World} {g n : Nat} {f : Nat → Nat × Nat} (h : Row w g n f) (hb : Below w.heap.size w w') : Row w' g n f := row_below h hb (row_lt h)
theorem below_on {w0 w w' : World} (h : Below w0.heap.size w0 w) (hb : Below w.heap.size w w') : Below w0.heap.size w0 w' := h.trans (hb.mono h.size)
end Go.Proofs.Ytgbffbikieikdaa
