/- The list of all directions, as the document makes it: each put in its place from behind. -/
import Derived.Test.YtgbkfmjkemkajabM4
namespace Go.Proofs.Ytgbkfmjkemkajab
open Go.RowKit

/-- A direction among those that lie before it, the last first. -/
def insR (d : Int × Int) : List (Int × Int) → List (Int × Int)
  | [] => [d]
  | a :: l => if cmpS d a < 0 then a :: insR d l else d :: a :: l
def cand (k j : Nat) : Int × Int := (((j % (2 * k + 1) : Nat) : Int) - (k : Int), ((j / (2 * k + 1) : Nat) : Int))
/-- The first j places, the last direction first. -/
def allR (k : Nat) : Nat → List (Int × Int)
  | 0 => []
  | j + 1 => if okD (cand k j).1 (cand k j).2 then insR (cand k j) (allR k j) else allR k j
def allL (k j : Nat) : List (Int × Int) := (allR k j).reverse
def allS (k : Int) : List (Int × Int) × Int := if k < 1 ∨ 16 < k then ([], 1) else (allL k.toNat ((k.toNat + 1) * (2 * k.toNat + 1)), 0)

theorem insR_mem {d x : Int × Int} : ∀ {l : List (Int × Int)}, x ∈ insR d l → x = d ∨ x ∈ l
  | [], h => by simp [insR] at h; exact Or.inl h
  | a :: l, h => by
    unfold insR at h
    split at h
    · rcases List.mem_cons.1 h with h | h
      · exact Or.inr (by simp [h])
      · rcases insR_mem h with h | h
        · exact Or.inl h
        · exact Or.inr (by simp [h])
    · rcases List.mem_cons.1 h with h | h
      · exact Or.inl h
      · exact Or.inr h
theorem insR_len (d : Int × Int) : ∀ l : List (Int × Int), (insR d l).length = l.length + 1
  | [] => rfl
  | a :: l => by
    unfold insR
    split
    · simp [insR_len d l]
    · simp
theorem allR_len (k : Nat) : ∀ j, (allR k j).length ≤ j
  | 0 => Nat.le_refl _
  | j + 1 => by
    have := allR_len k j
    unfold allR
    split
    · rw [insR_len]; omega
    · omega
theorem allR_ok (k : Nat) : ∀ j d, d ∈ allR k j → okD d.1 d.2 = true
  | 0, d, h => by simp [allR] at h
  | j + 1, d, h => by
    unfold allR at h
    split at h
    · rcases insR_mem h with rfl | h
      · assumption
      · exact allR_ok k j d h
    · exact allR_ok k j d h
theorem allL_len (k j : Nat) : (allL k j).length ≤ j := by unfold allL; rw [List.length_reverse]; exact allR_len k j
theorem allL_ok (k j : Nat) (d : Int × Int) (h : d ∈ allL k j) : okD d.1 d.2 = true := allR_ok k j d (by unfold allL at h; simpa using h)
theorem allL_zero (k : Nat) : allL k 0 = [] := rfl
theorem allL_no {k j : Nat} (h : okD (cand k j).1 (cand k j).2 = false) : allL k (j + 1) = allL k j := by
  unfold allL
  rw [allR, if_neg (by rw [h]; decide)]
/-- What is left to do, where the new one stands behind L and ahead of R. -/
def putIn (d : Int × Int) (L R : List (Int × Int)) : List (Int × Int) := (insR d L.reverse).reverse ++ R
theorem allL_yes {k j : Nat} (h : okD (cand k j).1 (cand k j).2 = true) : allL k (j + 1) = putIn (cand k j) (allL k j) [] := by
  unfold allL putIn
  rw [allR, if_pos h, List.append_nil, List.reverse_reverse]
theorem putIn_nil (d : Int × Int) (R : List (Int × Int)) : putIn d [] R = d :: R := rfl
theorem putIn_on {d a : Int × Int} {L R : List (Int × Int)} (h : cmpS d a < 0) : putIn d (L ++ [a]) R = putIn d L (a :: R) := by
  unfold putIn
  simp [insR, h]
theorem putIn_stop {d a : Int × Int} {L R : List (Int × Int)} (h : ¬ cmpS d a < 0) : putIn d (L ++ [a]) R = (L ++ [a]) ++ d :: R := by
  unfold putIn
  simp [insR, h]

theorem cand_at {k q p : Nat} (hp : p < 2 * k + 1) : cand k (q * (2 * k + 1) + p) = ((p : Int) - (k : Int), (q : Int)) := by
  obtain ⟨e1, e2⟩ := place_div (y := q) hp
  unfold cand
  rw [e1, e2]

/-- Rising, each pair of neighbours told so both ways. -/
def risesB : List (Int × Int) → Bool
  | [] => true
  | [_] => true
  | a :: b :: l => cmpS a b == -1 && cmpS b a == 1 && risesB (b :: l)
theorem rises_at : ∀ {L : List (Int × Int)} {i : Nat} {a b : Int × Int}, risesB L = true → L[i]? = some a → L[i + 1]? = some b → cmpS a b = -1 ∧ cmpS b a = 1
  | [], i, a, b, _, h, _ => by simp at h
  | [x], i, a, b, _, h, h' => by simp at h'
  | x :: y :: l, i, a, b, hr, h, h' => by
    unfold risesB at hr
    simp at hr
    cases i with
    | zero => simp at h h'; subst h h'; exact ⟨hr.1.1, hr.1.2⟩
    | succ i => exact rises_at hr.2 (by simpa using h) (by simpa using h')
set_option maxRecDepth 100000 in
theorem all_rise : ∀ k, k < 17 → risesB (allL k ((k + 1) * (2 * k + 1))) = true := by decide +kernel

theorem flat2_app (L M : List (Int × Int)) : flat2 (L ++ M) = flat2 L ++ flat2 M := by unfold flat2; simp
theorem flat2_swap (L R : List (Int × Int)) (a d : Int × Int) :
    ((((flat2 (L ++ a :: d :: R)).set (L.length * 2 + 2) (.int .i64 a.1)).set (L.length * 2 + 2 + 1) (.int .i64 a.2)).set (L.length * 2) (.int .i64 d.1)).set (L.length * 2 + 1) (.int .i64 d.2) = flat2 (L ++ d :: a :: R) := by
  have e : flat2 (a :: d :: R) = .int .i64 a.1 :: .int .i64 a.2 :: .int .i64 d.1 :: .int .i64 d.2 :: flat2 R := by simp [flat2]
  have e' : flat2 (d :: a :: R) = .int .i64 d.1 :: .int .i64 d.2 :: .int .i64 a.1 :: .int .i64 a.2 :: flat2 R := by simp [flat2]
  rw [flat2_app, flat2_app, e, e', ← flat2_length L]
  rw [List.set_append_right _ _ (by omega), List.set_append_right _ _ (by omega), List.set_append_right _ _ (by omega), List.set_append_right _ _ (by omega)]
  have h1 : (flat2 L).length + 2 - (flat2 L).length = 2 := by omega
  have h2 : (flat2 L).length + 2 + 1 - (flat2 L).length = 3 := by omega
  have h3 : (flat2 L).length - (flat2 L).length = 0 := by omega
  have h4 : (flat2 L).length + 1 - (flat2 L).length = 1 := by omega
  rw [h1, h2, h3, h4]
  rfl
end Go.Proofs.Ytgbkfmjkemkajab
