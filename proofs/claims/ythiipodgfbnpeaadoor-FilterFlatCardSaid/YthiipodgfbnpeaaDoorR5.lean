/- A row of complex numbers in memory; sums, differences, conjugates. -/
import Derived.Test.YthiipodgfbnpeaaDoorM2
import Derived.Test.YthiipodgfbnpeaaDoorM1
namespace Go.Proofs.YthiipodgfbnpeaaDoor
open Go.RowKit

def cv (a : Nat × Nat) : Value := .complex .f64 a.1 a.2

/-- Block g is a row of n complex numbers, f i at place i. -/
def Row (w : World) (g n : Nat) (f : Nat → Nat × Nat) : Prop := ∃ cur, w.heap[g]? = some (.cells cur 33 (0, 0)) ∧ n ≤ cur.size ∧ ∀ i, i < n → cur[i]? = some (cv (f i))

theorem row_at {w : World} {g n : Nat} {f : Nat → Nat × Nat} (h : Row w g n f) {i : Nat} (hi : i < n) : w.cell? ⟨g, i, none⟩ = some (cv (f i)) := by
  obtain ⟨cur, h1, h2, h3⟩ := h
  rw [cell_of_row w g i cur _ (0, 0) h1]
  exact h3 i hi

theorem row_frozen {w : World} {g n : Nat} {f : Nat → Nat × Nat} (h : Row w g n f) (i : Nat) : w.frozen? ⟨g, i, none⟩ = false := by
  obtain ⟨cur, h1, h2, h3⟩ := h
  exact frozen_of_row w g i cur _ h1

theorem row_lt {w : World} {g n : Nat} {f : Nat → Nat × Nat} (h : Row w g n f) : g < w.heap.size := by
  obtain ⟨cur, h1, h2, h3⟩ := h
  exact (Array.getElem?_eq_some_iff.1 h1).1

theorem row_ext {w : World} {g n : Nat} {f f' : Nat → Nat × Nat} (h : Row w g n f) (he : ∀ i, i < n → f i = f' i) : Row w g n f' := by
  obtain ⟨cur, h1, h2, h3⟩ := h
  exact ⟨cur, h1, h2, fun i hi => by rw [← he i hi]; exact h3 i hi⟩

theorem row_keep {w w' : World} {g n : Nat} {f : Nat → Nat × Nat} (h : Row w g n f) (hb : w'.heap[g]? = w.heap[g]?) : Row w' g n f := by
  obtain ⟨cur, h1, h2, h3⟩ := h
  exact ⟨cur, by rw [hb]; exact h1, h2, h3⟩

theorem row_grown {w w' : World} {g n : Nat} {f : Nat → Nat × Nat} {r : Option Nat} (h : Row w g n f) (hg : w.grownBy w' r) (hr : some g ≠ r) : Row w' g n f := row_keep h (hg.block g (row_lt h) hr)
theorem row_below {w w' : World} {g n B : Nat} {f : Nat → Nat × Nat} (h : Row w g n f) (hg : Below B w w') (hr : g < B) : Row w' g n f := row_keep h (hg.block g hr)

/-- From place q on block g holds n complex numbers, f i at place q + i. -/
structure Span (w : World) (g q n : Nat) (f : Nat → Nat × Nat) : Prop where
  lt : g < w.heap.size
  at_ : ∀ i, i < n → w.cell? ⟨g, q + i, none⟩ = some (cv (f i))

theorem span_keep {w w' : World} {g q n : Nat} {f : Nat → Nat × Nat} (h : Span w g q n f) (hs : g < w'.heap.size) (hb : w'.heap[g]? = w.heap[g]?) : Span w' g q n f :=
  ⟨hs, fun i hi => (World.cell?_of_block (w := w) (w' := w') hb).trans (h.at_ i hi)⟩
theorem span_grown {w w' : World} {g q n : Nat} {f : Nat → Nat × Nat} {r : Option Nat} (h : Span w g q n f) (hg : w.grownBy w' r) (hr : some g ≠ r) : Span w' g q n f := span_keep h (Nat.lt_of_lt_of_le h.lt hg.size) (hg.block g h.lt hr)
theorem span_below {w w' : World} {g q n B : Nat} {f : Nat → Nat × Nat} (h : Span w g q n f) (hg : Below B w w') (hr : g < B) : Span w' g q n f := span_keep h (Nat.lt_of_lt_of_le h.lt hg.size) (hg.block g hr)
theorem span_drew {w : World} {g q n : Nat} {f : Nat → Nat × Nat} (h : Span w g q n f) : Span w.drew g q n f := ⟨h.lt, h.at_⟩
theorem span_row {w : World} {g n : Nat} {f : Nat → Nat × Nat} (h : Row w g n f) : Span w g 0 n f := ⟨row_lt h, fun i hi => by rw [Nat.zero_add]; exact row_at h hi⟩
theorem span_part {w : World} {g N q n : Nat} {f : Nat → Nat × Nat} (h : Row w g N f) (hq : q + n ≤ N) : Span w g q n (fun i => f (q + i)) := ⟨row_lt h, fun i hi => row_at h (by omega)⟩

def upd (f : Nat → Nat × Nat) (k : Nat) (v : Nat × Nat) : Nat → Nat × Nat := fun i => if i = k then v else f i

theorem row_set {w : World} {g n : Nat} {f : Nat → Nat × Nat} (h : Row w g n f) (k : Nat) (v : Nat × Nat) : Row (w.setCell ⟨g, k, none⟩ (cv v)) g n (upd f k v) := by
  obtain ⟨cur, h1, h2, h3⟩ := h
  refine ⟨cur.setIfInBounds k (cv v), heap_setCell_same w g k cur _ _ h1, by simpa using h2, fun i hi => ?_⟩
  unfold upd
  by_cases c : i = k
  · subst c
    rw [if_pos rfl, Array.getElem?_setIfInBounds_self_of_lt (by omega)]
  · rw [if_neg c, Array.getElem?_setIfInBounds_ne (by omega)]
    exact h3 i hi

theorem row_of_tab {w : World} {g n s : Nat} (h : Tab w g n s n) : Row w g n (fun i => full (i * s)) := by
  obtain ⟨xs, h1, h2⟩ := h
  rcases h1.2 with ⟨h', _⟩ | ⟨g', cap, cur, h', _, hg, _, _, hcs, htake⟩
  · simp at h'
  · simp only [Value.slice.injEq, Option.some.injEq, Addr.mk.injEq, and_true, true_and] at h'
    obtain ⟨rfl, rfl⟩ := h'
    refine ⟨cur, hg, by omega, fun i hi => ?_⟩
    have h3 := h2 i hi
    rw [← htake, List.getElem?_take, if_pos (by omega)] at h3
    have h4 : cur[i]? = some (val s i) := by simpa using h3
    exact h4

theorem row_made {w w' : World} {g n : Nat} {z : Value} {xs : List Value} (h : w'.ownsRow w.heap.size 33 1 (.slice (some ⟨g, 0, none⟩) n n) n xs) (f : Nat → Nat × Nat) (hx : ∀ i, i < n → xs[i]? = some z) (hz : ∀ i, i < n → z = cv (f i)) : Row w' g n f := by
  rcases h.2 with ⟨h', _⟩ | ⟨g', cap, cur, h', _, hg, _, _, hcs, htake⟩
  · simp at h'
  · simp only [Value.slice.injEq, Option.some.injEq, Addr.mk.injEq, and_true, true_and] at h'
    obtain ⟨rfl, rfl⟩ := h'
    refine ⟨cur, hg, by omega, fun i hi => ?_⟩
    have h3 := hx i hi
    rw [← htake, List.getElem?_take, if_pos (by omega), hz i hi] at h3
    simpa using h3

theorem grown_refl (w : World) (r : Option Nat) : w.grownBy w r := ⟨rfl, rfl, rfl, Nat.le_refl _, fun _ _ _ => rfl⟩
theorem grown_trans {a b c : World} {r : Option Nat} (h : a.grownBy b r) (k : b.grownBy c r) : a.grownBy c r :=
  ⟨k.os.trans h.os, k.tape.trans h.tape, k.output.trans h.output, Nat.le_trans h.size k.size, fun i hi hr => (k.block i (Nat.lt_of_lt_of_le hi h.size) hr).trans (h.block i hi hr)⟩
theorem grown_set (w : World) (g k : Nat) (u : Value) : w.grownBy (w.setCell ⟨g, k, none⟩ u) (some g) :=
  ⟨rfl, rfl, rfl, by simp [World.setCell], fun i _ hr => Below.heap_setCell _ _ _ _ (fun e => hr (by rw [e]))⟩
theorem grown_below' {w w' : World} {g B : Nat} (h : w.grownBy w' (some g)) (hg : B ≤ g) (hB : B ≤ w.heap.size) : Below B w w' := (Below.refl _ _).grown h hB (fun k hk => by cases hk; exact hg)
theorem below_grown {w w' : World} {r : Option Nat} (h : Below w.heap.size w w') : w.grownBy w' r := ⟨h.os, h.tape, h.output, h.size, fun k hk _ => h.block k hk⟩

set_option maxHeartbeats 400000 in
theorem addAny {a b r : Nat × Nat} (h : AddTo a b r) (w : World) :
    Calls Tryd.prog 63 #[.complex .f64 a.1 a.2, .complex .f64 b.1 b.2] w fun e w' => e = .returned (.complex .f64 r.1 r.2) ∧ w' = w := by
  obtain ⟨a1, a2⟩ := a
  obtain ⟨b1, b2⟩ := b
  obtain ⟨r1, r2⟩ := r
  have k1 := fun (w : World) t => run_float_arith (P := Tryd.prog) w .add t .f64 a1 b1 r1 h.one
  have k2 := fun (w : World) t => run_float_arith (P := Tryd.prog) w .add t .f64 a2 b2 r2 h.two
  clear h
  go_enter Tryd.func63, Tryd.ntmps63
  go_wp2
  go_ret
  exact ⟨rfl, rfl⟩

set_option maxHeartbeats 400000 in
theorem subAny {a b r : Nat × Nat} (h : SubTo a b r) (w : World) :
    Calls Tryd.prog 64 #[.complex .f64 a.1 a.2, .complex .f64 b.1 b.2] w fun e w' => e = .returned (.complex .f64 r.1 r.2) ∧ w' = w := by
  obtain ⟨a1, a2⟩ := a
  obtain ⟨b1, b2⟩ := b
  obtain ⟨r1, r2⟩ := r
  have k1 := fun (w : World) t => run_float_arith (P := Tryd.prog) w .sub t .f64 a1 b1 r1 h.one
  have k2 := fun (w : World) t => run_float_arith (P := Tryd.prog) w .sub t .f64 a2 b2 r2 h.two
  clear h
  go_enter Tryd.func64, Tryd.ntmps64
  go_wp2
  go_ret
  exact ⟨rfl, rfl⟩

set_option maxHeartbeats 400000 in
theorem conjAny (a b : Nat) (w : World) :
    Calls Tryd.prog 52 #[.complex .f64 a b] w fun e w' => e = .returned (.complex .f64 a (negB b)) ∧ w' = w := by
  have k1 := bits32
  have k2 := from31
  go_enter Tryd.func52, Tryd.ntmps52
  go_wp2
  go_ret
  exact ⟨rfl, rfl⟩
end Go.Proofs.YthiipodgfbnpeaaDoor
