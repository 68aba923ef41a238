/- A row of complex numbers in memory; sums, products, conjugates, plain parts. -/
import Derived.Test.YthbghcebcahlnaaDJ
import Derived.Test.YthbghcebcahlnaaYS
import Derived.Laws.BitsAllLaws
namespace Go.Proofs.Ythbghcebcahlnaa
open Go.RowKit

theorem bits32 (b : Nat) (w : World) : (callFunc 93 #[.float .f64 b]).run (barP Try.prog) w = .ok (.value (.int .u64 b)) w := by
  rw [run_callFunc_extern (e := Extern.MathFloatBits.float64bits) Bar.func93 (by kernel_rfl) (by kernel_rfl) (by kernel_rfl) (by kernel_rfl)]
  rfl

theorem from31 (n : Int) (w : World) : (callFunc 94 #[.int .u64 n]).run (barP Try.prog) w = .ok (.value (.float .f64 n.toNat)) w := by
  rw [run_callFunc_extern (e := Extern.MathFloatBits.float64frombits) Bar.func94 (by kernel_rfl) (by kernel_rfl) (by kernel_rfl) (by kernel_rfl)]
  rfl

def cv (a : Nat × Nat) : Value := .complex .f64 a.1 a.2

/-- Block g is a row of n complex numbers, f i at place i. -/
def Row (w : World) (g n : Nat) (f : Nat → Nat × Nat) : Prop := ∃ cur, w.heap[g]? = some (.cells cur 39 (0, 0)) ∧ n ≤ cur.size ∧ ∀ i, i < n → cur[i]? = some (cv (f i))

theorem row_at {w : World} {g n : Nat} {f : Nat → Nat × Nat} (h : Row w g n f) {i : Nat} (hi : i < n) : w.cell? ⟨g, i, none⟩ = some (cv (f i)) := by
  obtain ⟨cur, h1, h2, h3⟩ := h
  rw [cell_of_row w g i cur _ (0, 0) h1]
  exact h3 i hi

theorem row_frozen {w : World} {g n : Nat} {f : Nat → Nat × Nat} (h : Row w g n f) (i : Nat) : w.frozen? ⟨g, i, none⟩ = false := by
  obtain ⟨cur, h1, h2, h3⟩ := h
  exact frozen_of_row w g i cur _ h1

theorem row_lt {w : World} {g n : Nat} {f : Nat → Nat × Nat} (h : Row w g n f) : g < w.heap.size := by
  obtain ⟨cur, h1, h2, h3⟩ := h
  exact (Array.getElem?_eq_some_iff.1 h1).1

theorem row_ext {w : World} {g n : Nat} {f f' : Nat → Nat × Nat} (h : Row w g n f) (he : ∀ i, i < n → f i = f' i) : Row w g n f' := by
  obtain ⟨cur, h1, h2, h3⟩ := h
  exact ⟨cur, h1, h2, fun i hi => by rw [← he i hi]; exact h3 i hi⟩

theorem row_keep {w w' : World} {g n : Nat} {f : Nat → Nat × Nat} (h : Row w g n f) (hb : w'.heap[g]? = w.heap[g]?) : Row w' g n f := by
  obtain ⟨cur, h1, h2, h3⟩ := h
  exact ⟨cur, by rw [hb]; exact h1, h2, h3⟩

theorem row_grown {w w' : World} {g n : Nat} {f : Nat → Nat × Nat} {r : Option Nat} (h : Row w g n f) (hg : w.grownBy w' r) (hr : some g ≠ r) : Row w' g n f := row_keep h (hg.block g (row_lt h) hr)
theorem row_below {w w' : World} {g n B : Nat} {f : Nat → Nat × Nat} (h : Row w g n f) (hg : Below B w w') (hr : g < B) : Row w' g n f := row_keep h (hg.block g hr)

def upd (f : Nat → Nat × Nat) (k : Nat) (v : Nat × Nat) : Nat → Nat × Nat := fun i => if i = k then v else f i

theorem row_set {w : World} {g n : Nat} {f : Nat → Nat × Nat} (h : Row w g n f) (k : Nat) (v : Nat × Nat) : Row (w.setCell ⟨g, k, none⟩ (cv v)) g n (upd f k v) := by
  obtain ⟨cur, h1, h2, h3⟩ := h
  refine ⟨cur.setIfInBounds k (cv v), heap_setCell_same w g k cur _ _ h1, by simpa using h2, fun i hi => ?_⟩
  unfold upd
  by_cases c : i = k
  · subst c
    rw [if_pos rfl, Array.getElem?_setIfInBounds_self_of_lt (by omega)]
  · rw [if_neg c, Array.getElem?_setIfInBounds_ne (by omega)]
    exact h3 i hi

theorem row_made {w w' : World} {g n : Nat} {z : Value} {xs : List Value} (h : w'.ownsRow w.heap.size 39 1 (.slice (some ⟨g, 0, none⟩) n n) n xs) (f : Nat → Nat × Nat) (hx : ∀ i, i < n → xs[i]? = some z) (hz : ∀ i, i < n → z = cv (f i)) : Row w' g n f := by
  rcases h.2 with ⟨h', _⟩ | ⟨g', cap, cur, h', _, hg, _, _, hcs, htake⟩
  · simp at h'
  · simp only [Value.slice.injEq, Option.some.injEq, Addr.mk.injEq, and_true, true_and] at h'
    obtain ⟨rfl, rfl⟩ := h'
    refine ⟨cur, hg, by omega, fun i hi => ?_⟩
    have h3 := hx i hi
    rw [← htake, List.getElem?_take, if_pos (by omega), hz i hi] at h3
    simpa using h3

theorem grown_refl (w : World) (r : Option Nat) : w.grownBy w r := ⟨rfl, rfl, rfl, Nat.le_refl _, fun _ _ _ => rfl⟩
theorem grown_trans {a b c : World} {r : Option Nat} (h : a.grownBy b r) (k : b.grownBy c r) : a.grownBy c r :=
  ⟨k.os.trans h.os, k.tape.trans h.tape, k.output.trans h.output, Nat.le_trans h.size k.size, fun i hi hr => (k.block i (Nat.lt_of_lt_of_le hi h.size) hr).trans (h.block i hi hr)⟩
theorem grown_set (w : World) (g k : Nat) (u : Value) : w.grownBy (w.setCell ⟨g, k, none⟩ u) (some g) :=
  ⟨rfl, rfl, rfl, by simp [World.setCell], fun i _ hr => Below.heap_setCell _ _ _ _ (fun e => hr (by rw [e]))⟩
theorem grown_below' {w w' : World} {g B : Nat} (h : w.grownBy w' (some g)) (hg : B ≤ g) (hB : B ≤ w.heap.size) : Below B w w' := (Below.refl _ _).grown h hB (fun k hk => by cases hk; exact hg)
theorem below_grown {w w' : World} {r : Option Nat} (h : Below w.heap.size w w') : w.grownBy w' r := ⟨h.os, h.tape, h.output, h.size, fun k hk _ => h.block k hk⟩

theorem store_complex {P : Program} {w : World} {a : Addr} {m : Mode} (k : FloatKind) (x y : Nat) : (store a (.complex k x y) m).run P w = stored P w a (.complex k x y) m := run_store P w a _ m rfl
theorem row_drew {w : World} {g n : Nat} {f : Nat → Nat × Nat} (h : Row w g n f) : Row w.drew g n f := h
theorem grown_below {w w' : World} (h : w.grownBy w' none) : Below w.heap.size w w' := (Below.refl _ _).grown h (Nat.le_refl _) (fun k hk => by cases hk)
theorem infoC : ((barP Try.prog).info? 39).map (fun i => (i.zero, i.size, i.bytes)) = some (some (.complex .f64 0 0), 1, 16) := by kernel_rfl
theorem zeros_get (n i : Nat) (hi : i < n) : (madeCells #[Value.complex .f64 0 0] n).toList[i]? = some (.complex .f64 0 0) := by
  rw [toList_madeCells_one, List.getElem?_replicate, if_pos (by omega)]

end Go.Proofs.Ythbghcebcahlnaa
