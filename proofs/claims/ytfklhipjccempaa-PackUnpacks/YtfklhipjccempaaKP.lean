/- The document's bytes of a field by a way: what is asked. -/
import Derived.Test.YtfklhipjccempaaKO
import Derived.Test.YtfklhipjccempaaKB
namespace Go.Proofs.Ytfklhipjccempaa
open Go.RowKit Fl Ieee

def fieldV (n g m c : Nat) : Value := .agg #[.int .i64 n, .slice (some ⟨g, 0, none⟩) m c]

/-- x made narrow without loss. -/
def narB (x : Nat) : Option Nat := match floatToFloatBits .f64 x .f32 with
  | some r => if floatToFloatBits .f32 r .f64 = some x then some r else none
  | none => none
theorem narB_iff {x r : Nat} : narB x = some r ↔ Nar x r := by
  unfold narB Nar
  cases h : floatToFloatBits .f64 x .f32 with
  | none => simp
  | some r' =>
    by_cases c : floatToFloatBits .f32 r' .f64 = some x
    · simp only [if_pos c, Option.some.injEq]
      constructor
      · rintro rfl; exact ⟨rfl, c⟩
      · rintro ⟨rfl, _⟩; rfl
    · simp only [if_neg c, Option.some.injEq]
      constructor
      · intro h; cases h
      · rintro ⟨rfl, h⟩; exact absurd h c
/-- A whole number of at most M, and no nought with a sign. -/
def whB (M b : Nat) : Bool := if double.order b 0 == some .eq then b == 0 else (double.order b (truncB b) == some .eq) && (match double.order (b % 9223372036854775808) (floatOfInt .f64 (M : Int)) with
  | some o => o != .gt
  | none => false)
def valZ (b : Nat) : Int := ((FloatKind.f64.decode b).toInt .zero).getD 0
theorem valZ_iv {b : Nat} {n : Int} (h : IV b n) : valZ b = n := by unfold valZ; rw [iv_toInt h]; rfl

/-- The bytes of one cell by a way, behind the cell ahead. -/
def cellL (way : Nat) (p z : Nat × Nat) : List Nat :=
  if way = 0 then highL z.1 8 ++ highL z.2 8
  else if way = 1 then highL ((narB z.1).getD 0) 4 ++ highL ((narB z.2).getD 0) 4
  else lowL (foldZ (valZ z.1 - valZ p.1)) ++ lowL (foldZ (valZ z.2 - valZ p.2))
/-- The cell ahead of the i-th. -/
def aheadC (f : Nat → Nat × Nat) (i : Nat) : Nat × Nat := if i = 0 then (0, 0) else f (i - 1)
def cellsL (way : Nat) (f : Nat → Nat × Nat) : Nat → List Nat
  | 0 => []
  | i + 1 => cellsL way f i ++ cellL way (aheadC f i) (f i)
def byL (way n m : Nat) (f : Nat → Nat × Nat) : List Nat := [way, n] ++ cellsL way f m
/-- Whether a cell can be written by a way. -/
def CanC (way : Nat) (z : Nat × Nat) : Prop := way = 0 ∨ (way = 1 ∧ (∃ r, Nar z.1 r) ∧ ∃ r, Nar z.2 r) ∨ (way = 2 ∧ Wh 2147483648 z.1 ∧ Wh 2147483648 z.2)
def Can (way m : Nat) (f : Nat → Nat × Nat) : Prop := ∀ i, i < m → CanC way (f i)

theorem high_len (x n : Nat) : (highL x n).length = n := highL_len x n
theorem lowF_len : ∀ (f v : Nat), (lowF f v).length ≤ f + 1
  | 0, _ => Nat.le_refl _
  | f + 1, v => by
    unfold lowF
    by_cases c : v < 128
    · rw [if_pos c]; simp
    · rw [if_neg c]
      have := lowF_len f (v / 128)
      simp
      omega
theorem lowL_len (v : Nat) : (lowL v).length ≤ 65 := lowF_len 64 v
theorem cellL_len (way : Nat) (p z : Nat × Nat) : (cellL way p z).length ≤ 130 := by
  unfold cellL
  split
  · simp [highL_len]
  · split
    · simp [highL_len]
    · have := lowL_len (foldZ (valZ z.1 - valZ p.1))
      have := lowL_len (foldZ (valZ z.2 - valZ p.2))
      simp
      omega
theorem cellsL_len (way : Nat) (f : Nat → Nat × Nat) (m : Nat) : (cellsL way f m).length ≤ 130 * m := by
  induction m with
  | zero => simp [cellsL]
  | succ m ih =>
    unfold cellsL
    have := cellL_len way (aheadC f m) (f m)
    simp
    omega

theorem byte2 (x : Nat) (h : x ≤ 255) : IntKind.u8.wrap (x : Int) = (x : Int) := by rw [IntKind.wrap_u8']; omega

theorem two_own {w : World} {B : Nat} (hB : B ≤ w.heap.size) (x y : Nat) : (w.alloc (.cells #[.int .u8 x, .int .u8 y] 5)).ownsRow B 5 1 (.slice (some ⟨w.heap.size, 0, none⟩) 2 2) 2 (bL [x, y]) :=
  ⟨rfl, .inr ⟨w.heap.size, 2, #[.int .u8 x, .int .u8 y], rfl, hB, heap_alloc_new w _, by omega, by decide, rfl, rfl⟩⟩
end Go.Proofs.Ytfklhipjccempaa
