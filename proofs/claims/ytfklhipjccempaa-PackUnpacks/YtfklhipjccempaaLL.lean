/- The program's steps, read. -/
import Derived.Test.YtfklhipjccempaaLI
import Derived.Test.YtfklhipjccempaaLK
import Derived.Test.YtfklhipjccempaaYQ
namespace Go.Proofs.Ytfklhipjccempaa
open Go.RowKit Fl Ieee
attribute [local go_sem] store_complex

/-- What the bytes that are left tell, ahead of a cell, within it, behind it. -/
def S0 (K : List Nat) (M i p : Nat) (a b : Int) : Prop := ∀ f, StepsOf K M f → K.drop p = K.drop (cellsL 2 f i).length ∧ a = valZ (aheadC f i).1 ∧ b = valZ (aheadC f i).2
def S1 (K : List Nat) (M i p : Nat) (a b : Int) : Prop := ∀ f, StepsOf K M f → K.drop p = lowL (foldZ (valZ (f i).2 - valZ (aheadC f i).2)) ++ K.drop (cellsL 2 f (i + 1)).length ∧ a = valZ (f i).1 ∧ b = valZ (aheadC f i).2
def S2 (K : List Nat) (M i p : Nat) (a b : Int) : Prop := ∀ f, StepsOf K M f → K.drop p = K.drop (cellsL 2 f (i + 1)).length ∧ a = valZ (f i).1 ∧ b = valZ (f i).2
def Told (K : List Nat) (p v k : Nat) : Prop := ∀ x T, x < 34359738368 → K.drop p = lowL x ++ T → v = x ∧ (K.drop p).drop (k + 1) = T
theorem wrap_small {z : Int} (h : z.natAbs ≤ 2147483648) : IntKind.i64.wrap z = z := by rw [IntKind.wrap_i64]; omega
theorem s0_next {K : List Nat} {M i p v k : Nat} {a b : Int} (hi : i < M) (h : S0 K M i p a b) (ht : Told K p v k) : S1 K M i (p + (k + 1)) (IntKind.i64.wrap (a + unfoldZ v)) b := fun f hf => by
  obtain ⟨h1, h2, h3⟩ := h f hf
  obtain ⟨T, e1, e2⟩ := steps_at hf hi
  have a1 := ahead_le hf.can (i := i) (by omega)
  have v1 := val_le hf.can hi
  rw [e1] at h1
  obtain ⟨rfl, e3⟩ := ht _ _ (fold_lt35 (by omega)) h1
  refine ⟨?_, ?_, h3⟩
  · rw [← List.drop_drop, e3, e2]
  · rw [h2, fold_back, show valZ (aheadC f i).1 + (valZ (f i).1 - valZ (aheadC f i).1) = valZ (f i).1 by omega, wrap_small v1.1]
theorem s1_next {K : List Nat} {M i p v k : Nat} {a b : Int} (hi : i < M) (h : S1 K M i p a b) (ht : Told K p v k) : S2 K M i (p + (k + 1)) a (IntKind.i64.wrap (b + unfoldZ v)) := fun f hf => by
  obtain ⟨h1, h2, h3⟩ := h f hf
  have a1 := ahead_le hf.can (i := i) (by omega)
  have v1 := val_le hf.can hi
  obtain ⟨rfl, e3⟩ := ht _ _ (fold_lt35 (by omega)) h1
  refine ⟨?_, h2, ?_⟩
  · rw [← List.drop_drop, e3]
  · rw [h3, fold_back, show valZ (aheadC f i).2 + (valZ (f i).2 - valZ (aheadC f i).2) = valZ (f i).2 by omega, wrap_small v1.2]
theorem s0_no {K : List Nat} {M i p : Nat} {a b : Int} (hi : i < M) (h : S0 K M i p a b) (ht : ∀ x T, x < 34359738368 → K.drop p ≠ lowL x ++ T) : ∀ f, ¬ StepsOf K M f := fun f hf => by
  obtain ⟨h1, _, _⟩ := h f hf
  obtain ⟨T, e1, _⟩ := steps_at hf hi
  have a1 := ahead_le hf.can (i := i) (by omega)
  have v1 := val_le hf.can hi
  rw [e1] at h1
  exact ht _ _ (fold_lt35 (by omega)) h1
theorem s1_no {K : List Nat} {M i p : Nat} {a b : Int} (hi : i < M) (h : S1 K M i p a b) (ht : ∀ x T, x < 34359738368 → K.drop p ≠ lowL x ++ T) : ∀ f, ¬ StepsOf K M f := fun f hf => by
  obtain ⟨h1, _, _⟩ := h f hf
  have a1 := ahead_le hf.can (i := i) (by omega)
  have v1 := val_le hf.can hi
  exact ht _ _ (fold_lt35 (by omega)) h1
theorem s2_next {K : List Nat} {M i p : Nat} {a b : Int} (h : S2 K M i p a b) : S0 K M (i + 1) p a b := fun f hf => by
  obtain ⟨h1, h2, h3⟩ := h f hf
  rw [ahead_next]
  exact ⟨h1, h2, h3⟩
theorem s2_cell {K : List Nat} {M i p : Nat} {a b : Int} (hi : i < M) (h : S2 K M i p a b) : ∀ f, StepsOf K M f → (floatOfInt .f64 a, floatOfInt .f64 b) = f i := fun f hf => by
  obtain ⟨_, rfl, rfl⟩ := h f hf
  have c := can_two hf.can hi
  exact Prod.ext (wh_bits (hf.bits i hi).1 c.1) (wh_bits (hf.bits i hi).2 c.2)
theorem s0_start (K : List Nat) (M : Nat) : S0 K M 0 0 0 0 := fun _ _ => ⟨rfl, val_zero.symm, val_zero.symm⟩
def InS (K : List Nat) (M i s p : Nat) (a b : Int) : Prop := (s = 0 ∧ S0 K M i p a b) ∨ (s = 1 ∧ S1 K M i p a b) ∨ (s = 2 ∧ S2 K M i p a b)

/-- The cells that are read, and the parts of the cell ahead. -/
structure SM (w wr : World) (G M : Nat) (f : Nat → Nat × Nat) (a b : Int) : Prop where
  row : Row wr w.heap.size M f
  arr : wr.heap[G]? = some (.cells #[.int .i64 a, .int .i64 b] 77 (0, 0))
  bel : Below w.heap.size w wr
theorem sm_drew {w wr : World} {G M d : Nat} {f : Nat → Nat × Nat} {a b : Int} (h : SM w wr G M f a b) : SM w (wr.drewN d) G M f a b := ⟨h.row, h.arr, below_drewN' h.bel⟩
theorem sm_set0 {w wr : World} {G M : Nat} {f : Nat → Nat × Nat} {a b : Int} (hG : w.heap.size < G) (h : SM w wr G M f a b) (c : Int) : SM w (wr.setCell ⟨G, 0, none⟩ (.int .i64 c)) G M f c b :=
  ⟨row_keep h.row (Below.heap_setCell _ _ _ _ (by show w.heap.size ≠ G; omega)), heap_setCell_same wr _ 0 _ _ _ h.arr, h.bel.setCell (by show w.heap.size ≤ G; omega) _⟩
theorem sm_set1 {w wr : World} {G M : Nat} {f : Nat → Nat × Nat} {a b : Int} (hG : w.heap.size < G) (h : SM w wr G M f a b) (c : Int) : SM w (wr.setCell ⟨G, 1, none⟩ (.int .i64 c)) G M f a c :=
  ⟨row_keep h.row (Below.heap_setCell _ _ _ _ (by show w.heap.size ≠ G; omega)), heap_setCell_same wr _ 1 _ _ _ h.arr, h.bel.setCell (by show w.heap.size ≤ G; omega) _⟩
theorem sm_row {w wr : World} {G M i : Nat} {f : Nat → Nat × Nat} {a b : Int} (hG : w.heap.size < G) (h : SM w wr G M f a b) (c : Nat × Nat) : SM w (wr.setCell ⟨w.heap.size, i, none⟩ (cv c)) G M (upd f i c) a b :=
  ⟨row_set h.row i c, by rw [Below.heap_setCell _ _ _ _ (by show G ≠ w.heap.size; omega)]; exact h.arr, h.bel.setCell (Nat.le_refl _) _⟩
theorem sm_cells {w wr : World} {G M : Nat} {f : Nat → Nat × Nat} {a b : Int} (h : SM w wr G M f a b) : wr.cell? ⟨G, 0, none⟩ = some (.int .i64 a) ∧ wr.cell? ⟨G, 1, none⟩ = some (.int .i64 b) ∧ wr.frozen? ⟨G, 0, none⟩ = false ∧ wr.frozen? ⟨G, 1, none⟩ = false :=
  ⟨by simp [World.cell?, h.arr], by simp [World.cell?, h.arr], by simp [World.frozen?, h.arr], by simp [World.frozen?, h.arr]⟩

/-- What is told of bytes that are steps. -/
def StepsPost (w : World) (M : Nat) (K : List Nat) (r : Ending) (w' : World) : Prop :=
  ((∃ gz f, r = .returned (.tuple #[.slice (some ⟨gz, 0, none⟩) M M, .bool true]) ∧ Row w' gz M f ∧ w.heap.size ≤ gz ∧ (∀ j, j < M → (f j).1 < 18446744073709551616 ∧ (f j).2 < 18446744073709551616) ∧ (∀ f', StepsOf K M f' → ∀ j, j < M → f j = f' j)) ∨ ((∀ f', ¬ StepsOf K M f') ∧ r = .returned (.tuple #[.slice none 0 0, .bool false]))) ∧ Below w.heap.size w w'

set_option maxRecDepth 100000 in
set_option maxHeartbeats 12800000 in
theorem progReadSteps {a : Option Addr} {g o c l M : Nat} {K : List Nat} (hM : M ≤ 4096) (hl : l = K.length) (hc : l ≤ c) (hbig : l ≤ 140737488355328) (w : World) (h : BAt w a g o K) :
    Calls Try.prog 26 #[.slice a l c, .int .i64 M] w (StepsPost w M K) := by
  have H := hide h
  have HL := hide hl
  obtain ⟨i0, hi0, hz0, hz1, hz2⟩ := info_parts infoC
  clear h hl
  go_enter Try.func26, Try.ntmps26
  go_wp2_with (first
    | (at_make; refine wpList_make_full _ rfl (.tmp 13) (.tmp 13) 24 rfl w.heap.size 34 i0 (.complex .f64 0 0) 1 Try.underlying24 hi0 hz0 hz1 .i64 .i64 M M M rfl rfl rfl rfl ?c1 ?c2 ?c3 ?_))
  case c1 => rw [hz2]; omega
  case c2 => unfold maxLen; omega
  case c3 => simp
  intro W2 hown2 hg2
  have hT : Row W2 w.heap.size M (fun _ => (0, 0)) := row_made hown2 (fun _ => (0, 0)) (fun i hi => zeros_get M i hi) (fun _ _ => rfl)
  have hb2 := grown_below hg2
  clear hown2 hg2
  have hG := row_lt hT
  have SM0 : Hid (SM w (W2.alloc (.cells #[.int .i64 0, .int .i64 0] 77)) W2.heap.size M (fun _ => (0, 0)) 0 0) := ⟨row_keep hT (Below.heap_alloc _ _ _ hG), heap_alloc_new _ _, hb2.alloc hb2.size _⟩
  clear hT hb2
  go_wp2_with fail
  generalize W2.heap.size = G at *
  generalize W2.alloc (.cells #[.int .i64 0, .int .i64 0] 77) = W3 at *
  go_loopw [0, 17] (fun fv iv wr => ∃ (i p : Nat) (a1 : Option Addr) (l1 c1 : Nat) (f : Nat → Nat × Nat) (x y : Int), i ≤ M ∧ fv = .slice a1 l1 c1 ∧ iv = .int .i64 i ∧ l1 ≤ c1 ∧ l1 ≤ 140737488355328 ∧ Hid (l1 = (K.drop p).length) ∧ Hid (∀ W, BAt W a g o K → BAt W a1 g (o + p) (K.drop p)) ∧ Hid (SM w wr G M f x y) ∧ Hid (S0 K M i p x y) ∧ Hid (∀ j, j < i → (f j).1 < 18446744073709551616 ∧ (f j).2 < 18446744073709551616) ∧ Hid (∀ f', StepsOf K M f' → ∀ j, j < i → f j = f' j)) (fun _ iv _ => M - (intOf iv).toNat)
  case atStart => exact ⟨0, 0, a, l, c, fun _ => (0, 0), 0, 0, Nat.zero_le _, rfl, rfl, hc, hbig, HL, fun W hW => hW, SM0, s0_start K M, fun j hj => absurd hj (Nat.not_lt_zero j), fun _ _ j hj => absurd hj (Nat.not_lt_zero j)⟩
  case round =>
    clear SM0
    obtain ⟨i, p, a1, l1, c1, f, x, y, hi, rfl, rfl, hc1, hb1, hd1, hF, hS, hI, hbs, hcs⟩ := hrel
    by_cases hic : i < M
    · have q1 : ((i : Int) < (M : Int)) = True := by simp; omega
      have I0 : Hid (InS K M i 0 p x y) := .inl ⟨rfl, unhide hI⟩
      clear hI
      go_wp2_with fail
      go_loopw [0, 20] (fun fv sv wr => ∃ (s p : Nat) (a1 : Option Addr) (l1 c1 : Nat) (x y : Int), s ≤ 2 ∧ fv = .slice a1 l1 c1 ∧ sv = .int .i64 s ∧ l1 ≤ c1 ∧ l1 ≤ 140737488355328 ∧ Hid (l1 = (K.drop p).length) ∧ Hid (∀ W, BAt W a g o K → BAt W a1 g (o + p) (K.drop p)) ∧ Hid (SM w wr G M f x y) ∧ Hid (InS K M i s p x y)) (fun _ sv _ => 2 - (intOf sv).toNat)
      case atStart => exact ⟨0, p, a1, l1, c1, x, y, by decide, rfl, rfl, hc1, hb1, hd1, hF, hS, I0⟩
      case round =>
        clear hd1 hF hS I0 hc1 hb1
        obtain ⟨s, p, a1, l1, c1, x, y, hs, rfl, rfl, hc1, hb1, hd1, hF, hS, hI⟩ := hrel
        have hs' : s = 0 ∨ s = 1 ∨ s = 2 := by omega
        rcases hs' with rfl | rfl | rfl
        · have hI0 : Hid (S0 K M i p x y) := by
            rcases unhide hI with ⟨h0, h⟩ | ⟨h0, h⟩ | ⟨h0, h⟩
            all_goals first | exact h | (exfalso; omega)
          have kG := hide (progGroups (c := c1) (unhide hd1) hc1 hb1 wr (unhide hF wr (bat_keep (unhide H) (unhide hS).bel)))
          clear hI
          go_wp2_with fail
          refine (unhide kG).mono ?_
          rintro e w3 (⟨v, k, a2, d, rfl, hv, hk, hR, ht, rfl⟩ | ⟨rfl, hno, hw3⟩)
          · have U := hide (progUnfolded hv)
            have N1 := hide (s0_next (k := k) (v := v) hic (unhide hI0) ht)
            have F1 : Hid (∀ W, BAt W a g o K → BAt W a2 g (o + (p + (k + 1))) (K.drop (p + (k + 1)))) := fun W hW => by
              have := hR W (unhide hF W hW)
              rw [List.drop_drop, Nat.add_assoc o p (k + 1)] at this
              exact this
            have D1 : Hid (l1 - (k + 1) = (K.drop (p + (k + 1))).length) := by
              show _ = _
              have := unhide hd1
              rw [List.length_drop] at this ⊢
              omega
            have S4 := hide (sm_drew (d := d) (unhide hS))
            clear hR ht kG hI0 hS hF hd1
            go_wp2_with fail
            generalize wr.drewN d = w4 at *
            generalize unfoldZ v = z at *
            obtain ⟨e0, e1, e2, e3⟩ := sm_cells (unhide S4)
            obtain ⟨z1, hz1⟩ : ∃ z1, z1 = IntKind.i64.wrap (x + z) := ⟨_, rfl⟩
            rw [← hz1] at N1
            have hz1' : IntKind.i64.wrap (x + z) = z1 := hz1.symm
            clear hz1
            have S5 := hide (fun nq => sm_set0 hG (sm_drew (d := nq) (unhide S4)) z1)
            have hfn : ∀ f, Fence.wide.fn f = True := fun _ => rfl
            refine (wpIn_wide (n := 0)).1 ?_
            refine region_quiet 7 mixedK (by kernel_rfl) ?_
            simp only [List.take_succ_cons, List.take_zero, List.drop_succ_cons, List.drop_zero]
            repeat (gi_big_quiet_step ((refine ⟨rfl, CallsIn.quiet_of_same (callsIn_wide.2 (unhide U _))⟩)))
            refine wpQuietIn_nil ?_
            intro _ hw'
            obtain ⟨nq, rfl⟩ := hw'
            gi_wp2
            have S6 := hide (unhide S5 nq)
            have I6 : Hid (InS K M i 1 (p + (k + 1)) z1 y) := .inr (.inl ⟨rfl, unhide N1⟩)
            clear S5 N1
            go_wp2_with fail
            go_roundw
            case rel => exact ⟨1, p + (k + 1), a2, l1 - (k + 1), c1 - (k + 1), z1, y, by decide, rfl, by go_num, by omega, by omega, D1, F1, S6, I6⟩
            case measure => simp [intOf]
          · obtain rfl := hw3.symm
            have NO := hide (s0_no hic (unhide hI0) hno)
            clear hno hI0 kG
            go_wp2_with fail
            go_ret2
            exact ⟨.inr ⟨unhide NO, rfl⟩, (unhide hS).bel⟩
        · have hI0 : Hid (S1 K M i p x y) := by
            rcases unhide hI with ⟨h0, h⟩ | ⟨h0, h⟩ | ⟨h0, h⟩
            all_goals first | exact h | (exfalso; omega)
          have kG := hide (progGroups (c := c1) (unhide hd1) hc1 hb1 wr (unhide hF wr (bat_keep (unhide H) (unhide hS).bel)))
          clear hI
          go_wp2_with fail
          refine (unhide kG).mono ?_
          rintro e w3 (⟨v, k, a2, d, rfl, hv, hk, hR, ht, rfl⟩ | ⟨rfl, hno, hw3⟩)
          · have U := hide (progUnfolded hv)
            have N1 := hide (s1_next (k := k) (v := v) hic (unhide hI0) ht)
            have F1 : Hid (∀ W, BAt W a g o K → BAt W a2 g (o + (p + (k + 1))) (K.drop (p + (k + 1)))) := fun W hW => by
              have := hR W (unhide hF W hW)
              rw [List.drop_drop, Nat.add_assoc o p (k + 1)] at this
              exact this
            have D1 : Hid (l1 - (k + 1) = (K.drop (p + (k + 1))).length) := by
              show _ = _
              have := unhide hd1
              rw [List.length_drop] at this ⊢
              omega
            have S4 := hide (sm_drew (d := d) (unhide hS))
            clear hR ht kG hI0 hS hF hd1
            go_wp2_with fail
            generalize wr.drewN d = w4 at *
            generalize unfoldZ v = z at *
            obtain ⟨e0, e1, e2, e3⟩ := sm_cells (unhide S4)
            obtain ⟨z1, hz1⟩ : ∃ z1, z1 = IntKind.i64.wrap (y + z) := ⟨_, rfl⟩
            rw [← hz1] at N1
            have hz1' : IntKind.i64.wrap (y + z) = z1 := hz1.symm
            clear hz1
            have S5 := hide (fun nq => sm_set1 hG (sm_drew (d := nq) (unhide S4)) z1)
            have hfn : ∀ f, Fence.wide.fn f = True := fun _ => rfl
            refine (wpIn_wide (n := 0)).1 ?_
            refine region_quiet 7 mixedK (by kernel_rfl) ?_
            simp only [List.take_succ_cons, List.take_zero, List.drop_succ_cons, List.drop_zero]
            repeat (gi_big_quiet_step ((refine ⟨rfl, CallsIn.quiet_of_same (callsIn_wide.2 (unhide U _))⟩)))
            refine wpQuietIn_nil ?_
            intro _ hw'
            obtain ⟨nq, rfl⟩ := hw'
            gi_wp2
            have S6 := hide (unhide S5 nq)
            have I6 : Hid (InS K M i 2 (p + (k + 1)) x z1) := .inr (.inr ⟨rfl, unhide N1⟩)
            clear S5 N1
            go_wp2_with fail
            go_roundw
            case rel => exact ⟨2, p + (k + 1), a2, l1 - (k + 1), c1 - (k + 1), x, z1, by decide, rfl, by go_num, by omega, by omega, D1, F1, S6, I6⟩
            case measure => simp [intOf]
          · obtain rfl := hw3.symm
            have NO := hide (s1_no hic (unhide hI0) hno)
            clear hno hI0 kG
            go_wp2_with fail
            go_ret2
            exact ⟨.inr ⟨unhide NO, rfl⟩, (unhide hS).bel⟩
        · have hI2 : Hid (S2 K M i p x y) := by
            rcases unhide hI with ⟨h0, h⟩ | ⟨h0, h⟩ | ⟨h0, h⟩
            all_goals first | exact h | (exfalso; omega)
          clear hI
          have C2 := hide (s2_cell hic (unhide hI2))
          have N2 := hide (s2_next (unhide hI2))
          obtain ⟨e0, e1, e2, e3⟩ := sm_cells (unhide hS)
          have c0 := row_at (unhide hS).row hic
          have f0 := row_frozen (unhide hS).row i
          have S3 := hide (sm_row (i := i) hG (unhide hS) (floatOfInt .f64 x, floatOfInt .f64 y))
          have bs2 : Hid (∀ j, j < i + 1 → (upd f i (floatOfInt .f64 x, floatOfInt .f64 y) j).1 < 18446744073709551616 ∧ (upd f i (floatOfInt .f64 x, floatOfInt .f64 y) j).2 < 18446744073709551616) := upd_all (Q := fun _ c => c.1 < 18446744073709551616 ∧ c.2 < 18446744073709551616) (unhide hbs) ⟨float_lt _, float_lt _⟩
          have cs2 : Hid (∀ f', StepsOf K M f' → ∀ j, j < i + 1 → upd f i (floatOfInt .f64 x, floatOfInt .f64 y) j = f' j) := fun f' hf' => upd_all (Q := fun j c => c = f' j) (unhide hcs f' hf') (unhide C2 f' hf')
          unfold cv at c0 S3
          clear hbs hcs C2 hI2
          go_wp2_with fail
          go_roundw
          case rel => exact ⟨i + 1, p, a1, l1, c1, _, x, y, hic, rfl, by go_num, hc1, hb1, hd1, hF, S3, N2, bs2, cs2⟩
          case measure => simp [intOf]; omega
    · have q1 : ((i : Int) < (M : Int)) = False := by simp; omega
      have e : i = M := by omega
      subst e
      clear hF hI hd1
      go_wp2_with fail
      go_ret2
      exact ⟨.inl ⟨_, f, rfl, (unhide hS).row, Nat.le_refl _, unhide hbs, unhide hcs⟩, (unhide hS).bel⟩
end Go.Proofs.Ytfklhipjccempaa
