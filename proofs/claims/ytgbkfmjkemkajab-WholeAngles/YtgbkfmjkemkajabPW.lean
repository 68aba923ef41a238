/- What the statements of peeling ask of Open and Left; two lists of bools alike; where directions determine every grid no cell stays open: the statement's own walk. -/
import Derived.Test.YtgbkfmjkemkajabM3
import Derived.Test.YtgbkfmjkemkajabM4
namespace Go.Proofs.Ytgbkfmjkemkajab
open Go.RowKit

def openErr (n : Int) (L : List (Int × Int)) : Int := if n < 1 ∨ 64 < n then 1 else if 64 < L.length then 2 else twiceS L

/-- A row of bools. -/
def BRow (w : World) (g n : Nat) (b : Nat → Bool) : Prop := ∃ cur : Array Value, w.heap[g]? = some (.cells cur 4 (0, 0)) ∧ n ≤ cur.size ∧ ∀ i, i < n → cur[i]? = some (.bool (b i))
theorem brow_at {w : World} {g n : Nat} {b : Nat → Bool} (h : BRow w g n b) {i : Nat} (hi : i < n) : w.cell? ⟨g, i, none⟩ = some (.bool (b i)) := by
  obtain ⟨cur, h1, h2, h3⟩ := h
  rw [cell_of_row w g i cur _ (0, 0) h1]
  exact h3 i hi
theorem brow_frozen {w : World} {g n : Nat} {b : Nat → Bool} (h : BRow w g n b) (i : Nat) : w.frozen? ⟨g, i, none⟩ = false := by
  obtain ⟨cur, h1, h2, h3⟩ := h
  exact frozen_of_row w g i cur _ h1
theorem brow_lt {w : World} {g n : Nat} {b : Nat → Bool} (h : BRow w g n b) : g < w.heap.size := by
  obtain ⟨cur, h1, h2, h3⟩ := h
  exact (Array.getElem?_eq_some_iff.1 h1).1
theorem brow_keep {w w' : World} {g n : Nat} {b : Nat → Bool} (h : BRow w g n b) (hb : w'.heap[g]? = w.heap[g]?) : BRow w' g n b := by
  obtain ⟨cur, h1, h2, h3⟩ := h
  exact ⟨cur, by rw [hb]; exact h1, h2, h3⟩
theorem brow_below {w w' : World} {g n B : Nat} {b : Nat → Bool} (h : BRow w g n b) (hg : Below B w w') (hr : g < B) : BRow w' g n b := brow_keep h (hg.block g hr)
theorem brow_set {w : World} {g n : Nat} {b : Nat → Bool} (h : BRow w g n b) (k : Nat) (v : Bool) : BRow (w.setCell ⟨g, k, none⟩ (.bool v)) g n (fun i => if i = k then v else b i) := by
  obtain ⟨cur, h1, h2, h3⟩ := h
  refine ⟨cur.setIfInBounds k (.bool v), heap_setCell_same w g k cur _ _ h1, by simpa using h2, fun i hi => ?_⟩
  dsimp only
  by_cases c : i = k
  · subst c
    rw [if_pos rfl, Array.getElem?_setIfInBounds_self_of_lt (by omega)]
  · rw [if_neg c, Array.getElem?_setIfInBounds_ne (by omega)]
    exact h3 i hi

def OpenBad (F : Nat) : Prop := ∀ (n : Int) (L : List (Int × Int)) (a : Option Addr) (cap g o : Nat) (w : World), L.length ≤ 9223372036854775807 → All64 L → Dirs w a g o L → openErr n L ≠ 0 →
  Calls Try.prog F #[.int .i64 n, .slice a L.length cap] w fun e w' => e = .returned (.tuple #[.slice none 0 0, .int .i64 (openErr n L)]) ∧ Below w.heap.size w w'
def OpenGood (F : Nat) : Prop := ∀ (n : Nat) (L : List (Int × Int)) (a : Option Addr) (cap g o : Nat) (w : World), All64 L → Dirs w a g o L → openErr n L = 0 →
  Calls Try.prog F #[.int .i64 n, .slice a L.length cap] w fun e w' => ∃ g' c b, e = .returned (.tuple #[.slice (some ⟨g', 0, none⟩) (n * n : Nat) c, .int .i64 0]) ∧ w.heap.size ≤ g' ∧ BRow w' g' (n * n) b ∧ Final n L b ∧ Below w.heap.size w w'
def LeftBad (F : Nat) : Prop := ∀ (n : Int) (L : List (Int × Int)) (a : Option Addr) (cap g o : Nat) (w : World), L.length ≤ 9223372036854775807 → All64 L → Dirs w a g o L → openErr n L ≠ 0 →
  Calls Try.prog F #[.int .i64 n, .slice a L.length cap] w fun e w' => e = .returned (.tuple #[.int .i64 0, .int .i64 (openErr n L)]) ∧ Below w.heap.size w w'
def LeftGood (F : Nat) : Prop := ∀ (n : Nat) (L : List (Int × Int)) (a : Option Addr) (cap g o : Nat) (w : World), All64 L → Dirs w a g o L → openErr n L = 0 →
  Calls Try.prog F #[.int .i64 n, .slice a L.length cap] w fun e w' => ∃ b, e = .returned (.tuple #[.int .i64 (cntB b (n * n) : Nat), .int .i64 0]) ∧ Final n L b ∧ Below w.heap.size w w'

structure Sound (n : Nat) (L : List (Int × Int)) : Prop where
  n1 : 1 ≤ n
  n64 : n ≤ 64
  len : L.length ≤ 64
  twice : twiceS L = 0
  ok : ∀ d, d ∈ L → okD d.1 d.2 = true
  nodup : L.Nodup

theorem sound_of {n : Int} {L : List (Int × Int)} (h : openErr n L = 0) : ∃ m : Nat, n = (m : Int) ∧ Sound m L := by
  unfold openErr at h
  by_cases c1 : n < 1 ∨ 64 < n
  · rw [if_pos c1] at h; cases h
  · rw [if_neg c1] at h
    by_cases c2 : 64 < L.length
    · rw [if_pos c2] at h; cases h
    · rw [if_neg c2] at h
      obtain ⟨g1, g2, _⟩ := twice_good h
      exact ⟨n.toNat, by omega, by omega, by omega, by omega, h, g1, g2⟩

end Go.Proofs.Ytgbkfmjkemkajab
