/- The program's Change. -/
import Derived.Test.YtpmbgjoilfdkaaaM7
import Derived.Test.YtpmbgjoilfdkaaaLO
namespace Go.Proofs.Ytpmbgjoilfdkaaa
open Go.RowKit Fl Ieee
attribute [local go_sem] store_complex

set_option maxRecDepth 100000 in
set_option maxHeartbeats 800000 in
theorem unlikeOk {x y : Nat} (hx : x < 18446744073709551616) (hy : y < 18446744073709551616) (w : World) : Calls Try.prog 40 #[.float .f64 x, .float .f64 y] w fun r w' => r = .returned (.float .f64 (x ^^^ y)) ∧ w' = w := by
  have k1 := bits32
  have k2 := from31
  have x1 : bits .xor .u64 (x : Int) (y : Int) = ((x ^^^ y : Nat) : Int) := u64_xor_nat _ _ hx hy
  generalize x ^^^ y = z at *
  go_enter Try.func40, Try.ntmps40
  go_wp2
  go_ret
  exact ⟨rfl, rfl⟩

/-- The boxes of two fields, and of the answer. -/
structure Box3 (w wr : World) (n g m c n' g' m' c' : Nat) : Prop where
  one : wr.heap[w.heap.size]? = some (.cells #[.int .i64 n, .slice (some ⟨g, 0, none⟩) m c] 30 (0, 0))
  two : wr.heap[w.heap.size + 1]? = some (.cells #[.int .i64 n', .slice (some ⟨g', 0, none⟩) m' c'] 30 (0, 0))
  res : wr.heap[w.heap.size + 1 + 1]? = some (.cells #[.int .i64 0, .slice none 0 0] 30 (0, 0))
  bel : Below w.heap.size w wr
theorem box3_new (w : World) (n g m c n' g' m' c' : Nat) : Box3 w (((w.alloc (.cells #[.int .i64 n, .slice (some ⟨g, 0, none⟩) m c] 30)).alloc (.cells #[.int .i64 n', .slice (some ⟨g', 0, none⟩) m' c'] 30)).alloc (.cells #[.int .i64 0, .slice none 0 0] 30)) n g m c n' g' m' c' := by
  have s1 : (w.alloc (.cells #[.int .i64 n, .slice (some ⟨g, 0, none⟩) m c] 30)).heap.size = w.heap.size + 1 := World.size_alloc _ _
  have s2 : ((w.alloc (.cells #[.int .i64 n, .slice (some ⟨g, 0, none⟩) m c] 30)).alloc (.cells #[.int .i64 n', .slice (some ⟨g', 0, none⟩) m' c'] 30)).heap.size = w.heap.size + 1 + 1 := by rw [World.size_alloc, s1]
  refine ⟨?_, ?_, ?_, (((Below.refl _ _).alloc (Nat.le_refl _) _).alloc (by rw [s1]; omega) _).alloc (by rw [s2]; omega) _⟩
  · rw [Below.heap_alloc _ _ _ (by rw [s2]; omega), Below.heap_alloc _ _ _ (by rw [s1]; omega)]
    exact heap_alloc_new w _
  · rw [Below.heap_alloc _ _ _ (by rw [s2]; omega), ← s1]
    exact heap_alloc_new _ _
  · rw [← s2]
    exact heap_alloc_new _ _
theorem box3_size {w wr : World} {n g m c n' g' m' c' : Nat} (h : Box3 w wr n g m c n' g' m' c') : w.heap.size + 1 + 1 < wr.heap.size := (Array.getElem?_eq_some_iff.1 h.res).1
theorem box3_keep {w wr wx : World} {n g m c n' g' m' c' : Nat} (h : Box3 w wr n g m c n' g' m' c') (hb : Below wr.heap.size wr wx) : Box3 w wx n g m c n' g' m' c' := by
  have hs := box3_size h
  exact ⟨by rw [hb.block _ (by omega)]; exact h.one, by rw [hb.block _ (by omega)]; exact h.two, by rw [hb.block _ (by omega)]; exact h.res, h.bel.trans (hb.mono h.bel.size)⟩
theorem box3_set {w wr : World} {n g m c n' g' m' c' G i : Nat} {v : Value} (h : Box3 w wr n g m c n' g' m' c') (hG : w.heap.size + 1 + 1 < G) : Box3 w (wr.setCell ⟨G, i, none⟩ v) n g m c n' g' m' c' :=
  ⟨by rw [Below.heap_setCell _ _ _ _ (by show w.heap.size ≠ G; omega)]; exact h.one, by rw [Below.heap_setCell _ _ _ _ (by show w.heap.size + 1 ≠ G; omega)]; exact h.two, by rw [Below.heap_setCell _ _ _ _ (by show w.heap.size + 1 + 1 ≠ G; omega)]; exact h.res, h.bel.setCell (by show w.heap.size ≤ G; omega) _⟩

set_option maxRecDepth 100000 in
set_option maxHeartbeats 6400000 in
theorem progChange : ChangeOk 27 := by
  intro n g c g' c' f p w h1 h2 hf hp hR hR'
  have kR := hide (fun W => isFieldOk (g := g) (c := c) h1 h2 W)
  have kR' := hide (fun W => isFieldOk (g := g') (c := c') h1 h2 W)
  have R1 := hide hR
  have R2 := hide hR'
  have HF := hide hf
  have HP := hide hp
  have hM2 : n * n ≤ 4096 := Nat.mul_le_mul h2 h2
  generalize hM : n * n = M at *
  have B0 := hide (box3_new w n g M c n g' M c')
  obtain ⟨i0, hi0, hz0, hz1, hz2⟩ := info_parts infoCx
  clear hR hR' hf hp hM
  unfold fieldV at *
  go_enter Try.func27, Try.ntmps27
  go_wp2_with fail
  generalize ((w.alloc (.cells #[.int .i64 n, .slice (some ⟨g, 0, none⟩) M c] 30)).alloc (.cells #[.int .i64 n, .slice (some ⟨g', 0, none⟩) M c'] 30)).alloc (.cells #[.int .i64 0, .slice none 0 0] 30) = W0 at *
  refine (unhide kR _).mono ?_
  rintro e W1 ⟨rfl, hb1⟩
  have B1 := hide (box3_keep (unhide B0) hb1)
  clear hb1 B0 kR
  obtain ⟨a0, a1, _, _⟩ := box2_cells (unhide B1).one
  obtain ⟨b0, b1, _, _⟩ := box2_cells (unhide B1).two
  go_wp2_with fail
  refine (unhide kR' _).mono ?_
  rintro e W2 ⟨rfl, hb2⟩
  have B2 := hide (box3_keep (unhide B1) hb2)
  clear hb2 B1 kR' a0 a1 b0 b1
  obtain ⟨a0, a1, _, _⟩ := box2_cells (unhide B2).one
  obtain ⟨b0, b1, _, _⟩ := box2_cells (unhide B2).two
  have s2 := box3_size (unhide B2)
  have q0 : ((n : Int) != (n : Int)) = false := by simp
  go_wp2_with (first
    | (at_make; refine wpList_make_full _ rfl (.tmp 28) (.tmp 28) 28 rfl W2.heap.size 40 i0 (.complex .f64 0 0) 1 Try.underlying28 hi0 hz0 hz1 .i64 .i64 M M M rfl rfl rfl rfl ?c1 ?c2 ?c3 ?_))
  case c1 => rw [hz2]; omega
  case c2 => unfold maxLen; omega
  case c3 => simp
  intro W3 hown3 hg3
  have hT : Hid (Row W3 W2.heap.size M (fun _ => (0, 0))) := row_made hown3 (fun _ => (0, 0)) (fun i hi => zeros_get M i hi) (fun _ _ => rfl)
  have B3 := hide (box3_keep (unhide B2) (grown_below hg3))
  clear hown3 hg3 B2 a0 a1 b0 b1
  generalize W2.heap.size = G at *
  obtain ⟨a0, a1, _, _⟩ := box2_cells (unhide B3).one
  obtain ⟨b0, b1, _, _⟩ := box2_cells (unhide B3).two
  go_wp2_with fail
  clear a0 a1 b0 b1
  go_loopw [33] (fun iv wr => ∃ (i : Nat) (q : Nat → Nat × Nat), i ≤ M ∧ iv = .int .i64 i ∧ Hid (Row wr G M q) ∧ Hid (∀ j, j < i → q j = xorC f p j) ∧ Hid (Box3 w wr n g M c n g' M c')) (fun iv _ => M - (intOf iv).toNat)
  case atStart => exact ⟨0, fun _ => (0, 0), Nat.zero_le _, rfl, hT, fun j hj => absurd hj (Nat.not_lt_zero j), B3⟩
  case round =>
    clear hT B3
    obtain ⟨i, q, hi, rfl, hR, hQ, hB⟩ := hrel
    obtain ⟨a0, a1, _, _⟩ := box2_cells (unhide hB).one
    obtain ⟨b0, b1, _, _⟩ := box2_cells (unhide hB).two
    by_cases hic : i < M
    · have q1 : ((i : Int) < (M : Int)) = True := by simp; omega
      have c1 := row_at (row_below (unhide R1) (unhide hB).bel (row_lt (unhide R1))) hic
      have c2 := row_at (row_below (unhide R2) (unhide hB).bel (row_lt (unhide R2))) hic
      have c3 := row_at (unhide hR) hic
      have f3 := row_frozen (unhide hR) i
      unfold cv at c1 c2 c3
      have u1 := hide (unlikeOk (unhide HF i hic).1 (unhide HP i hic).1)
      have u2 := hide (unlikeOk (unhide HF i hic).2 (unhide HP i hic).2)
      have Q2 : Hid (∀ j, j < i + 1 → upd q i ((f i).1 ^^^ (p i).1, (f i).2 ^^^ (p i).2) j = xorC f p j) := upd_all (Q := fun j c => c = xorC f p j) (unhide hQ) rfl
      have R4 := hide (row_set (unhide hR) i ((f i).1 ^^^ (p i).1, (f i).2 ^^^ (p i).2))
      have B4 := hide (box3_set (G := G) (i := i) (v := cv ((f i).1 ^^^ (p i).1, (f i).2 ^^^ (p i).2)) (unhide hB) s2)
      unfold cv at R4 B4
      generalize (f i).1 ^^^ (p i).1 = z1 at *
      generalize (f i).2 ^^^ (p i).2 = z2 at *
      generalize (f i).1 = x1 at *
      generalize (f i).2 = x2 at *
      generalize (p i).1 = y1 at *
      generalize (p i).2 = y2 at *
      clear hQ
      go_wp2_with fail
      refine (unhide u1 _).mono ?_
      rintro e w5 ⟨rfl, hw5⟩
      obtain rfl := hw5.symm
      go_wp2_with fail
      refine (unhide u2 _).mono ?_
      rintro e w5 ⟨rfl, hw5⟩
      obtain rfl := hw5.symm
      go_wp2_with fail
      go_roundw
      case rel => exact ⟨i + 1, _, hic, by go_num, R4, Q2, B4⟩
      case measure => simp [intOf]; omega
    · have q1 : ((i : Int) < (M : Int)) = False := by simp; omega
      have e : i = M := by omega
      subst e
      have r4 := (unhide hB).res
      obtain ⟨z0, z1, z2, z3⟩ := box2_cells r4
      have R4 := hide r4
      clear r4
      go_wp2_with fail
      obtain ⟨t1, t2, t3, t4⟩ := two_set (unhide R4) (.int .i64 n) (.slice (some ⟨G, 0, none⟩) i i)
      refine bodyPost_ret (results_two_tmp (P := Try.prog) rfl _ _ (w.heap.size + 1 + 1) (.int .i64 n) (.slice (some ⟨G, 0, none⟩) i i) (.int .i64 0) _ rfl rfl t1 t2 Try.underlying30 rfl (by kernel_rfl)) rfl ?_
      exact ⟨G, i, rfl, row_ext (row_keep (unhide hR) (t3 G (by omega))) (unhide hQ), by omega, ((unhide hB).bel.setCell (by show w.heap.size ≤ w.heap.size + 1 + 1; omega) _).setCell (by show w.heap.size ≤ w.heap.size + 1 + 1; omega) _⟩

/-- Two fields of unlike sides have no change. -/
def ChangeNo (fn : Nat) : Prop := ∀ (n n' g c g' c' : Nat) (w : World), 1 ≤ n → n ≤ 64 → 1 ≤ n' → n' ≤ 64 → n ≠ n' →
  Calls Try.prog fn #[fieldV n g (n * n) c, fieldV n' g' (n' * n') c'] w fun r w' => r = .returned (.tuple #[noneV, .int .i64 1]) ∧ Below w.heap.size w w'
set_option maxRecDepth 100000 in
set_option maxHeartbeats 6400000 in
theorem progChangeNo : ChangeNo 27 := by
  intro n n' g c g' c' w h1 h2 h3 h4 hne
  have kR := hide (fun W => isFieldOk (g := g) (c := c) h1 h2 W)
  have kR' := hide (fun W => isFieldOk (g := g') (c := c') h3 h4 W)
  generalize n * n = M at *
  generalize n' * n' = M' at *
  have B0 := hide (box3_new w n g M c n' g' M' c')
  unfold fieldV at *
  have q0 : ((n : Int) != (n' : Int)) = true := by rw [bne_iff_ne]; omega
  clear hne
  go_enter Try.func27, Try.ntmps27
  go_wp2_with fail
  generalize ((w.alloc (.cells #[.int .i64 n, .slice (some ⟨g, 0, none⟩) M c] 30)).alloc (.cells #[.int .i64 n', .slice (some ⟨g', 0, none⟩) M' c'] 30)).alloc (.cells #[.int .i64 0, .slice none 0 0] 30) = W0 at *
  refine (unhide kR _).mono ?_
  rintro e W1 ⟨rfl, hb1⟩
  have B1 := hide (box3_keep (unhide B0) hb1)
  clear hb1 B0 kR
  obtain ⟨a0, a1, _, _⟩ := box2_cells (unhide B1).one
  obtain ⟨b0, b1, _, _⟩ := box2_cells (unhide B1).two
  go_wp2_with fail
  refine (unhide kR' _).mono ?_
  rintro e W2 ⟨rfl, hb2⟩
  have B2 := hide (box3_keep (unhide B1) hb2)
  clear hb2 B1 kR' a0 a1 b0 b1
  obtain ⟨a0, a1, _, _⟩ := box2_cells (unhide B2).one
  obtain ⟨b0, b1, _, _⟩ := box2_cells (unhide B2).two
  have r4 := (unhide B2).res
  obtain ⟨z0, z1, z2, z3⟩ := box2_cells r4
  have R4 := hide r4
  clear r4
  go_wp2_with fail
  obtain ⟨t1, t2, t3, t4⟩ := two_set (unhide R4) (.int .i64 0) (.slice none 0 0)
  refine bodyPost_ret (results_two_tmp (P := Try.prog) rfl _ _ (w.heap.size + 1 + 1) (.int .i64 0) (.slice none 0 0) (.int .i64 1) _ rfl rfl t1 t2 Try.underlying30 rfl (by kernel_rfl)) rfl ?_
  exact ⟨rfl, ((unhide B2).bel.setCell (by show w.heap.size ≤ w.heap.size + 1 + 1; omega) _).setCell (by show w.heap.size ≤ w.heap.size + 1 + 1; omega) _⟩
end Go.Proofs.Ytpmbgjoilfdkaaa
