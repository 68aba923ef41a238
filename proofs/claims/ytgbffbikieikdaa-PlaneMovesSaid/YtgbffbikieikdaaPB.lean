/- A field taken by copy; rows and columns exchanged. -/
import Derived.Test.YtgbffbikieikdaaPA
namespace Go.Proofs.Ytgbffbikieikdaa
open Go.RowKit Fl
attribute [local go_sem] store_complex

theorem over_all {F h : Nat → Nat × Nat} {n i : Nat} (hi : i < n) : over F h 0 n i = h i := by
  unfold over
  rw [if_pos (by omega), Nat.sub_zero]

theorem cell_grown {w w' : World} {r : Option Nat} (h : w.grownBy w' r) {p : Addr} {v : Value} (hc : w.cell? p = some v) (hr : some p.block ≠ r) : w'.cell? p = some v := h.cell hc hr
theorem frozen_grown {w w' : World} {r : Option Nat} (h : w.grownBy w' r) {p : Addr} (hlt : p.block < w.heap.size) (hc : w.frozen? p = false) (hr : some p.block ≠ r) : w'.frozen? p = false :=
  (World.frozen?_of_block (h.block p.block hlt hr)).trans hc

theorem frozen_heap {w w' : World} (h : w'.heap = w.heap) (p : Addr) : w'.frozen? p = w.frozen? p := World.frozen?_of_block (by rw [h])

set_option maxHeartbeats 1600000 in
theorem takenAny {n g m cap : Nat} {f : Nat → Nat × Nat} (hm : m ≤ 4096) (w : World) (hR : Row w g m f) :
    Calls Try.prog 18 #[gridV n g m cap] w fun e w' =>
      ∃ g', e = .returned (gridV n g' m m) ∧ w.heap.size ≤ g' ∧ Row w' g' m f ∧ Below w.heap.size w w' := by
  obtain ⟨i0, hi0, hz0, hz1, hz2⟩ := info_parts infoC
  have hR := hide hR
  unfold gridV
  go_enter Try.func18, Try.ntmps18
  go_wp2_with (first
    | (at_make; refine wpList_make_full _ rfl (.tmp 6) (.tmp 6) 24 rfl w.heap.size 28 i0 (.complex .f64 0 0) 1 Try.underlying24 hi0 hz0 hz1 .i64 .i64 m m m rfl rfl rfl rfl ?c1 ?c2 ?c3 ?_))
  case c1 => rw [hz2]; omega
  case c2 => unfold maxLen; omega
  case c3 => simp; omega
  intro w2 hown2 hg2
  have hT := row_made hown2 (fun _ => (0, 0)) (fun i hi => zeros_get m i hi) (fun _ _ => rfl)
  have hA : Below w.heap.size w w2 := (((Below.refl _ _).alloc (Nat.le_refl _) _).alloc (by simp) _).grown hg2 (by simp; omega) (fun k hk => by cases hk)
  have hS := span_row (row_below (unhide hR) hA (row_lt (unhide hR)))
  have b1 : w2.cell? ⟨w.heap.size, 0, none⟩ = some (.int .i64 n) := cell_grown hg2 (by simp [go_sem]) (by simp)
  have b2 : w2.cell? ⟨w.heap.size, 1, none⟩ = some (.slice (some ⟨g, 0, none⟩) m cap) := cell_grown hg2 (by simp [go_sem]) (by simp)
  have b3 : w2.cell? ⟨w.heap.size + 1, 0, none⟩ = some (.int .i64 0) := cell_grown hg2 (by simp [go_sem]) (by simp)
  have b4 : w2.cell? ⟨w.heap.size + 1, 1, none⟩ = some (.slice none 0 0) := cell_grown hg2 (by simp [go_sem]) (by simp)
  have b5 : w2.frozen? ⟨w.heap.size + 1, 0, none⟩ = false := frozen_grown hg2 (by simp) (by simp [go_sem]) (by simp)
  have b6 : w2.frozen? ⟨w.heap.size + 1, 1, none⟩ = false := frozen_grown hg2 (by simp) (by simp [go_sem]) (by simp)
  have hz : Hid (w.heap.size + 1 + 1 < w2.heap.size) := row_lt hT
  have hT := hide hT
  have hS := hide hS
  have hA := hide hA
  clear hown2 hg2 hR
  go_wp2_with (first
    | (refine wpList_copy_rows rfl (.tmp 8) (.tmp 10) 24 24 rfl 28 Try.underlying24 ?d1 (w.heap.size + 1 + 1) 0 m m g 0 m cap m m rfl rfl rfl rfl (fun _ => (0, 0)) f (unhide hT) (unhide hS) ?d2 ?_))
  case d1 => rw [hi0]; simp [hz1]
  case d2 => omega
  intro w3 hR3 hg3
  have e1 : w3.cell? ⟨w.heap.size, 0, none⟩ = some (.int .i64 n) := cell_grown hg3 b1 (by simp; omega)
  have e3 : w3.cell? ⟨w.heap.size + 1, 0, none⟩ = some (.int .i64 0) := cell_grown hg3 b3 (by simp)
  have e4 : w3.cell? ⟨w.heap.size + 1, 1, none⟩ = some (.slice none 0 0) := cell_grown hg3 b4 (by simp)
  have e5 : w3.frozen? ⟨w.heap.size + 1, 0, none⟩ = false := frozen_grown hg3 (by show w.heap.size + 1 < _; have := unhide hz; omega) b5 (by simp)
  have e6 : w3.frozen? ⟨w.heap.size + 1, 1, none⟩ = false := frozen_grown hg3 (by show w.heap.size + 1 < _; have := unhide hz; omega) b6 (by simp)
  have hA3 : Hid (Below w.heap.size w w3) := (unhide hA).grown hg3 (by have := unhide hz; omega) (fun k hk => by cases hk; omega)
  have hR3 : Hid (Row w3 (w.heap.size + 1 + 1) m f) := row_ext hR3 fun i hi => over_all hi
  clear b1 b2 b3 b4 b5 b6 hg3 hT hS hA
  go_wp2_with fail
  refine bodyPost_ret (results_two (P := Try.prog) rfl _ _ (w.heap.size + 1) (.int .i64 n) (.slice (some ⟨w.heap.size + 1 + 1, 0, none⟩) m m) _ rfl ?r0 ?r1 Try.underlying26 rfl (by kernel_rfl)) rfl ?_
  case r0 => simp [go_sem, e3]
  case r1 => simp [go_sem, e4]
  refine ⟨_, rfl, by omega, row_keep (unhide hR3) ?_, ((unhide hA3).setCell (by simp) _).setCell (by simp) _⟩
  rw [Below.heap_setCell _ _ _ _ (by simp), Below.heap_setCell _ _ _ _ (by simp)]

/-- What the field holds in the middle of the exchange: rows up to y are done, of row y the cells up to x. -/
def half (f : Nat → Nat → Nat × Nat) (y x j i : Nat) : Nat × Nat := if (j < y ∧ i < y) ∨ (j = y ∧ i < x) ∨ (i = y ∧ j < x) then f i j else f j i

theorem half_next (f : Nat → Nat → Nat × Nat) (y : Nat) : half f y y = half f (y + 1) 0 := by
  funext j i
  unfold half
  by_cases h : j = y ∧ i = y
  · obtain ⟨rfl, rfl⟩ := h
    split <;> split <;> rfl
  · by_cases h2 : j < y + 1 ∧ i < y + 1
    · rw [if_pos (by omega), if_pos (by omega)]
    · rw [if_neg (by omega), if_neg (by omega)]

theorem half_zero (f : Nat → Nat → Nat × Nat) : half f 0 0 = f := by
  funext j i
  unfold half
  rw [if_neg (by omega)]

theorem place_iff {n k j i : Nat} (hi : i < n) : k = j * n + i ↔ k / n = j ∧ k % n = i := by
  constructor
  · rintro rfl
    constructor
    · rw [Nat.mul_comm, Nat.mul_add_div (by omega), Nat.div_eq_of_lt hi, Nat.add_zero]
    · rw [Nat.mul_comm, Nat.mul_add_mod, Nat.mod_eq_of_lt hi]
  · rintro ⟨rfl, rfl⟩
    rw [Nat.mul_comm, Nat.div_add_mod]

theorem flat_upd {n j i : Nat} (hi : i < n) (F : Nat → Nat → Nat × Nat) (v : Nat × Nat) (k : Nat) : upd (flat n F) (j * n + i) v k = flat n (fun a b => if a = j ∧ b = i then v else F a b) k := by
  unfold upd flat
  dsimp only
  by_cases h : k = j * n + i
  · rw [if_pos h, if_pos ((place_iff hi).1 h)]
  · rw [if_neg h, if_neg (fun c => h ((place_iff hi).2 c))]

theorem half_step {n y x : Nat} (hy : y < n) (hx : x < y) (f : Nat → Nat → Nat × Nat) (k : Nat) :
    upd (upd (flat n (half f y x)) (y * n + x) (f x y)) (x * n + y) (f y x) k = flat n (half f y (x + 1)) k := by
  have e : upd (flat n (half f y x)) (y * n + x) (f x y) = flat n (fun a b => if a = y ∧ b = x then f x y else half f y x a b) := by
    funext k
    exact flat_upd (by omega) _ _ _
  rw [e, flat_upd hy]
  unfold flat half
  generalize k / n = a
  generalize k % n = b
  dsimp only
  by_cases h1 : a = x ∧ b = y
  · obtain ⟨rfl, rfl⟩ := h1
    rw [if_pos ⟨rfl, rfl⟩, if_pos (by omega)]
  · rw [if_neg h1]
    by_cases h2 : a = y ∧ b = x
    · obtain ⟨rfl, rfl⟩ := h2
      rw [if_pos ⟨rfl, rfl⟩, if_pos (by omega)]
    · rw [if_neg h2]
      by_cases h3 : (a < y ∧ b < y) ∨ (a = y ∧ b < x) ∨ (b = y ∧ a < x)
      · rw [if_pos h3, if_pos (by omega)]
      · rw [if_neg h3, if_neg (by omega)]

theorem half_here {f : Nat → Nat → Nat × Nat} {y x : Nat} (hx : x < y) : half f y x y x = f y x ∧ half f y x x y = f x y := by
  unfold half
  exact ⟨if_neg (by omega), if_neg (by omega)⟩

set_option maxHeartbeats 3200000 in
theorem exchangeAny {n g cap : Nat} {f : Nat → Nat → Nat × Nat} (hn : n ≤ 64) (w : World) (hR : Row w g (n * n) (flat n f)) :
    Calls Try.prog 20 #[gridV n g (n * n) cap] w fun e w' =>
      e = .returned (.tuple #[]) ∧ Row w' g (n * n) (flat n (fun j i => f i j)) ∧ w.grownBy w' (some g) := by
  have hg := row_lt hR
  have hR0 : Hid (Row (w.alloc (.cells #[.int .i64 n, .slice (some ⟨g, 0, none⟩) (n * n : Nat) cap] 26)) g (n * n) (flat n (half f 0 0))) := by
    rw [half_zero]
    exact row_keep hR (Below.heap_alloc _ _ _ hg)
  obtain ⟨w1, hw1⟩ : ∃ w1, w1 = w.alloc (.cells #[.int .i64 n, .slice (some ⟨g, 0, none⟩) (n * n : Nat) cap] 26) := ⟨_, rfl⟩
  have b1 : Hid (w1.cell? ⟨w.heap.size, 0, none⟩ = some (.int .i64 n) ∧ w1.cell? ⟨w.heap.size, 1, none⟩ = some (.slice (some ⟨g, 0, none⟩) (n * n : Nat) cap)) := by
    rw [hw1]
    exact ⟨by simp [go_sem], by simp [go_sem]⟩
  have hg1 : Hid (w.grownBy w1 (some g)) := by
    rw [hw1]
    exact grown_any (World.grownBy_alloc w _ none)
  rw [← hw1] at hR0
  have hmm := Nat.le_trans (square_le hn) (show 64 * 64 ≤ 1000000 by decide)
  obtain ⟨m, hm⟩ : ∃ m, m = n * n := ⟨_, rfl⟩
  rw [← hm] at b1 hR0 hw1 hmm ⊢
  have Hm := hide hm
  unfold gridV
  clear hR hm
  go_enter Try.func20, Try.ntmps20
  go_wp2_with fail
  go_loopw [8] (fun ix wr => ∃ y : Nat, y ≤ n ∧ ix = .int .i64 y ∧ Hid (Row wr g m (flat n (half f y 0))) ∧ Hid (w1.grownBy wr (some g))) (fun ix _ => n - (intOf ix).toNat)
  case atStart => exact ⟨0, Nat.zero_le _, rfl, by rw [← hw1]; exact hR0, by rw [← hw1]; exact grown_refl _ _⟩
  case round =>
    obtain ⟨y, hy, rfl, hRr, hgr⟩ := hrel
    by_cases hyn : y < n
    · have q1 : ((y : Int) < (n : Int)) = True := by simp; omega
      go_wp2_with fail
      go_loopw [12] (fun ix wr => ∃ x : Nat, x ≤ y ∧ ix = .int .i64 x ∧ Hid (Row wr g m (flat n (half f y x))) ∧ Hid (w1.grownBy wr (some g))) (fun ix _ => y - (intOf ix).toNat)
      case atStart => exact ⟨0, Nat.zero_le _, rfl, hRr, hgr⟩
      case round =>
        clear hRr hgr
        obtain ⟨x, hx, rfl, hRr, hgr⟩ := hrel
        by_cases hxy : x < y
        · have q2 : ((x : Int) < (y : Int)) = True := by simp; omega
          have p1 := place_lt hyn (show x < n by omega)
          have p2 := place_lt (show x < n by omega) hyn
          rw [← unhide Hm] at p1 p2
          have c1 := row_at (unhide hRr) p1
          have c2 := row_at (unhide hRr) p2
          rw [flat_at _ (show x < n by omega), (half_here hxy).1] at c1
          rw [flat_at _ hyn, (half_here hxy).2] at c2
          have f1 := row_frozen (unhide hRr) (y * n + x)
          have f2 := row_frozen (unhide hRr) (x * n + y)
          have hRn : Hid (Row ((wr.setCell ⟨g, y * n + x, none⟩ (cv (f x y))).setCell ⟨g, x * n + y, none⟩ (cv (f y x))) g m (flat n (half f y (x + 1)))) :=
            row_ext (row_set (row_set (unhide hRr) (y * n + x) (f x y)) (x * n + y) (f y x)) fun k _ => half_step hyn hxy f k
          have hgn : Hid (w1.grownBy ((wr.setCell ⟨g, y * n + x, none⟩ (cv (f x y))).setCell ⟨g, x * n + y, none⟩ (cv (f y x))) (some g)) :=
            grown_trans (unhide hgr) (grown_trans (grown_set _ _ _ _) (grown_set _ _ _ _))
          have a1 := cell_grown (unhide hgr) (unhide b1).1 (by simp; omega)
          have a2 := cell_grown (unhide hgr) (unhide b1).2 (by simp; omega)
          have m1 : IntKind.i64.wrap ((y : Int) * (n : Int)) = ((y * n : Nat) : Int) := wrap_mul (by omega)
          have m2 : IntKind.i64.wrap ((x : Int) * (n : Int)) = ((x * n : Nat) : Int) := wrap_mul (by omega)
          have m3 : IntKind.i64.wrap (((y * n : Nat) : Int) + (x : Int)) = ((y * n + x : Nat) : Int) := by rw [← Int.natCast_add]; exact wrap_small (by omega)
          have m4 : IntKind.i64.wrap (((x * n : Nat) : Int) + (y : Int)) = ((x * n + y : Nat) : Int) := by rw [← Int.natCast_add]; exact wrap_small (by omega)
          unfold cv at c1 c2 hRn hgn
          generalize (f y x).1 = u1 at *
          generalize (f y x).2 = u2 at *
          generalize (f x y).1 = v1 at *
          generalize (f x y).2 = v2 at *
          have hne : ¬ y * n + x = x * n + y := by
            intro e
            have := (place_iff (k := y * n + x) (j := x) (i := y) (n := n) hyn).1 e
            have h2 := (place_iff (k := y * n + x) (j := y) (i := x) (n := n) (by omega)).1 rfl
            omega
          generalize y * n + x = here at *
          generalize x * n + y = there at *
          generalize y * n = yn at *
          generalize x * n = xn at *
          have q3 : (here : Int) < (m : Int) := by omega
          have q4 : (there : Int) < (m : Int) := by omega
          have n1 : ¬ g = w.heap.size := by omega
          have n2 : ¬ w.heap.size = g := by omega
          have hne2 : ¬ there = here := fun e => hne e.symm
          clear hRr hgr
          go_wp2_with fail
          go_quiet (fail)
          go_wp2_with fail
          generalize hD : wr.drewN _ = wd
          have hh : wd.heap = wr.heap := by rw [← hD]; rfl
          have c1 := (cell_heap hh _).trans c1
          have c2 := (cell_heap hh _).trans c2
          have f1 := (frozen_heap hh _).trans f1
          have f2 := (frozen_heap hh _).trans f2
          have a1 := (cell_heap hh _).trans a1
          have a2 := (cell_heap hh _).trans a2
          have hRn : Hid (Row ((wd.setCell ⟨g, here, none⟩ (.complex .f64 v1 v2)).setCell ⟨g, there, none⟩ (.complex .f64 u1 u2)) g m (flat n (half f y (x + 1)))) := by
            rw [← hD]
            exact unhide hRn
          have hgn : Hid (w1.grownBy ((wd.setCell ⟨g, here, none⟩ (.complex .f64 v1 v2)).setCell ⟨g, there, none⟩ (.complex .f64 u1 u2)) (some g)) := by
            rw [← hD]
            have h := unhide hgn
            exact ⟨h.os, h.tape, h.output, h.size, h.block⟩
          clear hD hh
          go_big_region
          all_goals go_wp2_with fail
          exact ⟨⟨x + 1, hxy, by go_num, row_drew (unhide hRn), grown_drew' (unhide hgn)⟩, by simp [intOf]; omega⟩
        · have q2 : ((x : Int) < (y : Int)) = False := by simp; omega
          have e : x = y := by omega
          rw [e, half_next] at hRr
          go_wp2_with fail
          exact ⟨⟨y + 1, hyn, by go_num, hRr, hgr⟩, by simp [intOf]; omega⟩
    · have q1 : ((y : Int) < (n : Int)) = False := by simp; omega
      go_wp2_with fail
      go_end0
      refine ⟨rfl, row_ext (unhide hRr) fun k hk => ?_, grown_trans (unhide hg1) (unhide hgr)⟩
      unfold flat half
      have h1 := unhide Hm
      have h2 : k / n < n := Nat.div_lt_of_lt_mul (by omega)
      have h3 : k % n < n := Nat.mod_lt _ (by rcases Nat.eq_zero_or_pos n with e | e
                                              · subst e; omega
                                              · exact e)
      rw [if_pos (by omega)]
end Go.Proofs.Ytgbffbikieikdaa
