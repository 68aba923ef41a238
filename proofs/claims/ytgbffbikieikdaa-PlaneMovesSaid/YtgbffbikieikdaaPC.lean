/- Each row's transform laid in its place; the transform of a field. -/
import Derived.Test.YtgbffbikieikdaaPB
namespace Go.Proofs.Ytgbffbikieikdaa
open Go.RowKit Fl
attribute [local go_sem] store_complex

/-- What a transform of the rows does to one row of a field f: row y becomes R y. K: what it asks of the world. -/
theorem ent_forward (w : World) (args : Array Value) : (callFunc 12 args).run Try.prog w = .ok (.enter 12 args) w := by
  simp [go_sem]

def RowDo (fid n g : Nat) (K : World → Prop) (f R : Nat → Nat → Nat × Nat) : Prop :=
  ∀ y, y < n → ∀ (w : World) (cap : Nat), n ≤ cap → K w → Span w g (y * n) n (f y) → Calls Try.prog fid #[.slice (some ⟨g, y * n, none⟩) n cap] w fun e w' =>
    ∃ g', e = .returned (.tuple #[.slice (some ⟨g', 0, none⟩) n n, .int .i64 0]) ∧ w.heap.size ≤ g' ∧ Row w' g' n (R y) ∧ Below w.heap.size w w'

/-- The rows up to y changed. -/
def upto (f R : Nat → Nat → Nat × Nat) (y j i : Nat) : Nat × Nat := if j < y then R j i else f j i

theorem upto_zero (f R : Nat → Nat → Nat × Nat) : upto f R 0 = f := by
  funext j i
  unfold upto
  rw [if_neg (by omega)]

theorem upto_step {f R : Nat → Nat → Nat × Nat} {n y k : Nat} (hn : 0 < n) : over (flat n (upto f R y)) (R y) (y * n) n k = flat n (upto f R (y + 1)) k := by
  unfold over flat upto
  have h1 : k / n = y ↔ y * n ≤ k ∧ k < y * n + n := by
    rw [Nat.div_eq_iff hn]
    omega
  have h2 := Nat.div_add_mod k n
  by_cases c : y * n ≤ k ∧ k < y * n + n
  · rw [if_pos c, if_pos (by have := h1.2 c; omega)]
    have e := h1.2 c
    rw [e, Nat.mul_comm] at h2
    rw [e, show k - y * n = k % n by omega]
  · rw [if_neg c]
    have e : ¬ k / n = y := fun x => c (h1.1 x)
    by_cases c2 : k / n < y
    · rw [if_pos c2, if_pos (by omega)]
    · rw [if_neg c2, if_neg (by omega)]

set_option maxHeartbeats 3200000 in
theorem rowsAny {fid n g cap : Nat} {K : World → Prop} {f R : Nat → Nat → Nat × Nat} (hn1 : 1 ≤ n) (hn : n ≤ 64) (hcap : n * n ≤ cap) (hK : ∀ w w' : World, w.grownBy w' (some g) → K w → K w') (hdo : RowDo fid n g K f R) (hent : ∀ (w : World) (args : Array Value), (callFunc fid args).run Try.prog w = .ok (.enter fid args) w) (w : World) (hw : K w) (hR : Row w g (n * n) (flat n f)) :
    Calls Try.prog 19 #[gridV n g (n * n) cap, .func (.func fid) #[] #[]] w fun e w' =>
      e = .returned (.tuple #[]) ∧ Row w' g (n * n) (flat n R) ∧ w.grownBy w' (some g) := by
  have hg := row_lt hR
  obtain ⟨i0, hi0, hz0, hz1, hz2⟩ := info_parts infoC
  have hR0 : Hid (Row (w.alloc (.cells #[.int .i64 n, .slice (some ⟨g, 0, none⟩) (n * n : Nat) cap] 26)) g (n * n) (flat n (upto f R 0))) := by
    rw [upto_zero]
    exact row_keep hR (Below.heap_alloc _ _ _ hg)
  obtain ⟨w1, hw1⟩ : ∃ w1, w1 = w.alloc (.cells #[.int .i64 n, .slice (some ⟨g, 0, none⟩) (n * n : Nat) cap] 26) := ⟨_, rfl⟩
  have b1 : Hid (w1.cell? ⟨w.heap.size, 0, none⟩ = some (.int .i64 n) ∧ w1.cell? ⟨w.heap.size, 1, none⟩ = some (.slice (some ⟨g, 0, none⟩) (n * n : Nat) cap)) := by
    rw [hw1]
    exact ⟨by simp [go_sem], by simp [go_sem]⟩
  have hg1 : Hid (w.grownBy w1 (some g)) := by
    rw [hw1]
    exact grown_any (World.grownBy_alloc w _ none)
  have hs1 : Hid (w1.heap.size = w.heap.size + 1) := by
    rw [hw1]
    show _ = _
    simp
  rw [← hw1] at hR0
  have hmm := Nat.le_trans (square_le hn) (show 64 * 64 ≤ 1000000 by decide)
  have hKw := hide hw
  have HK := hide hK
  have Hdo := hide hdo
  obtain ⟨m, hm⟩ : ∃ m, m = n * n := ⟨_, rfl⟩
  rw [← hm] at b1 hR0 hw1 hmm hcap ⊢
  have Hm := hide hm
  unfold gridV
  clear hR hm hw hK hdo
  go_enter Try.func19, Try.ntmps19
  go_wp2_with fail
  go_loopw [10] (fun ix wr => ∃ y : Nat, y ≤ n ∧ ix = .int .i64 y ∧ Hid (Row wr g m (flat n (upto f R y))) ∧ Hid (w1.grownBy wr (some g))) (fun ix _ => n - (intOf ix).toNat)
  case atStart => exact ⟨0, Nat.zero_le _, rfl, by rw [← hw1]; exact hR0, by rw [← hw1]; exact grown_refl _ _⟩
  case round =>
    obtain ⟨y, hy, rfl, hRr, hgr⟩ := hrel
    by_cases hyn : y < n
    · have q1 : ((y : Int) < (n : Int)) = True := by simp; omega
      have p1 : y * n + n ≤ m := by
        have := Nat.mul_le_mul_right n (show y + 1 ≤ n from hyn)
        rw [Nat.add_mul, Nat.one_mul] at this
        have := unhide Hm
        omega
      have hsp : Span wr g (y * n) n (f y) := by
        refine ⟨row_lt (unhide hRr), fun i hi => ?_⟩
        rw [row_at (unhide hRr) (show y * n + i < m by omega), flat_at _ hi]
        unfold upto
        rw [if_neg (by omega)]
      have hC := hide (unhide Hdo y hyn wr (cap - y * n) (by omega) (unhide HK _ _ (grown_trans (unhide hg1) (unhide hgr)) (unhide hKw)) hsp)
      have a1 := cell_grown (unhide hgr) (unhide b1).1 (by simp; omega)
      have a2 := cell_grown (unhide hgr) (unhide b1).2 (by simp; omega)
      have m1 : IntKind.i64.wrap ((y : Int) * (n : Int)) = ((y * n : Nat) : Int) := wrap_mul (by omega)
      have m2 : IntKind.i64.wrap (((y : Int) + 1) * (n : Int)) = ((y * n + n : Nat) : Int) := by
        rw [Int.add_mul, Int.one_mul, ← Int.natCast_mul, ← Int.natCast_add]
        exact wrap_small (by omega)
      have hst := hide (fun k => upto_step (f := f) (R := R) (n := n) (y := y) (k := k) hn1)
      have hlt : Hid (w.heap.size < wr.heap.size) := by
        have h1 := (unhide hgr).size
        have h2 := unhide hs1
        show _ < _
        omega
      generalize y * n = yn at *
      have q2 : (yn : Int) ≤ ((yn + n : Nat) : Int) := by omega
      have q3 : ((yn + n : Nat) : Int) ≤ (cap : Int) := by omega
      have q4 : ¬ cap = yn := by omega
      clear hsp
      go_wp2_with fail
      refine (unhide hC).mono ?_
      rintro e w2 ⟨g2, rfl, hg2, hR2, hb2⟩
      have hgn : w1.grownBy w2 (some g) := grown_trans (unhide hgr) (below_grown hb2)
      have hgr2 := row_below (unhide hRr) hb2 (row_lt (unhide hRr))
      have a1 := cell_grown hgn (unhide b1).1 (by simp; omega)
      have a2 := cell_grown hgn (unhide b1).2 (by simp; omega)
      have hS2 := hide (span_row hR2)
      have hgr2 := hide hgr2
      have hgn := hide hgn
      have e1 : yn + n - yn = n := by omega
      clear hC hb2 hR2 hRr hgr
      go_wp2_with (first
        | (refine wpList_copy_rows rfl (.tmp 31) (.tmp 32) 24 24 rfl 28 Try.underlying24 ?d1 g yn n (cap - yn) g2 0 n n n m rfl rfl rfl rfl (flat n (upto f R y)) (R y) (unhide hgr2) (unhide hS2) ?d2 ?_))
      case d1 => rw [hi0]; simp [hz1]
      case d2 => omega
      intro w3 hR3 hg3
      have hR3 : Hid (Row w3 g m (flat n (upto f R (y + 1)))) := row_ext hR3 fun k _ => unhide hst k
      have hg3 : Hid (w1.grownBy w3 (some g)) := grown_trans (unhide hgn) hg3
      go_wp2_with fail
      exact ⟨⟨y + 1, hyn, by go_num, hR3, hg3⟩, by simp [intOf]; omega⟩
    · have q1 : ((y : Int) < (n : Int)) = False := by simp; omega
      go_wp2_with fail
      go_end0
      refine ⟨rfl, row_ext (unhide hRr) fun k hk => ?_, grown_trans (unhide hg1) (unhide hgr)⟩
      unfold flat upto
      have h1 := unhide Hm
      have h2 : k / n < n := Nat.div_lt_of_lt_mul (by omega)
      rw [if_pos (by omega)]
end Go.Proofs.Ytgbffbikieikdaa
