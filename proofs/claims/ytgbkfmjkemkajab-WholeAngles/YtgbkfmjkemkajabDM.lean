/- The program's own row, Line. -/
import Derived.Test.YtgbkfmjkemkajabDZ
namespace Go.Proofs.Ytgbkfmjkemkajab
open Go.RowKit

theorem row_flat {st bin : Int} {y k : Nat} : rowL 1 0 st bin y k = if st - bin = (y : Int) then (List.range k).map fun (x : Nat) => ((x : Int), (y : Int)) else [] := by
  unfold rowL
  by_cases c : st - bin = (y : Int)
  · rw [if_pos c, List.filter_eq_self.2]
    intro x _
    simp only [decide_eq_true_eq]
    omega
  · rw [if_neg c, List.map_eq_nil_iff, List.filter_eq_nil_iff]
    intro x _
    simp only [decide_eq_true_eq]
    omega

theorem flat_line {st bin : Int} {N y0 : Nat} (h : st - bin = (y0 : Int)) (hy : y0 < N) : lineL 1 0 st bin N (N * N) = (List.range N).map fun (x : Nat) => ((x : Int), (y0 : Int)) := by
  have key : ∀ j, j ≤ N → lineL 1 0 st bin N (j * N) = if y0 < j then (List.range N).map fun (x : Nat) => ((x : Int), (y0 : Int)) else [] := by
    intro j
    induction j with
    | zero =>
      intro _
      rw [Nat.zero_mul, lineL_zero, if_neg (by omega)]
    | succ j ih =>
      intro hj
      rw [row_next, ih (by omega), row_flat]
      by_cases c : y0 < j
      · rw [if_pos c, if_neg (by omega), if_pos (by omega), List.append_nil]
      · rw [if_neg c]
        by_cases c2 : y0 = j
        · subst c2
          rw [if_pos h, if_pos (by omega), List.nil_append]
        · rw [if_neg (by omega), if_neg (by omega), List.nil_append]
  rw [key N (Nat.le_refl _), if_pos hy]

theorem pairs2_nil (w : World) : Pairs2 w (.slice none 0 0) [] := ⟨none, 0, 0, 0, rfl, fun h => absurd h (by simp), fun i c h => by simp at h⟩

theorem okD_flat {P : Int} (h : okD P 0 = true) : P = 1 := (okD_form h).2.1 rfl

end Go.Proofs.Ytgbkfmjkemkajab
