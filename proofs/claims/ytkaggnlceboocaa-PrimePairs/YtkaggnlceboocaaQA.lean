/- Primes, the lines of a grid of prime side, whole numbers alone. -/
import Derived.Test.YtkaggnlceboocaaDZ
namespace Go.Proofs.Ytkaggnlceboocaa
open Go.RowKit

/-- No divisor from 2 on below k. -/
def noDiv (p k : Nat) : Bool := (List.range k).all fun d => decide (d < 2) || decide (p % d ≠ 0)
def isP (p : Int) : Bool := decide (2 ≤ p) && decide (p ≤ 61) && noDiv p.toNat p.toNat

theorem noDiv_succ (p k : Nat) : noDiv p (k + 1) = (noDiv p k && (decide (k < 2) || decide (p % k ≠ 0))) := by
  unfold noDiv
  rw [List.range_succ, List.all_append]
  simp

theorem noDiv_yes {p k : Nat} (h : noDiv p k = true) (hk : p % k ≠ 0) : noDiv p (k + 1) = true := by rw [noDiv_succ, h]; simp [hk]
theorem noDiv_no {p k d : Nat} (hd : 2 ≤ d) (hk : d < k) (h : p % d = 0) : noDiv p k = false := by
  cases hq : noDiv p k with
  | false => rfl
  | true =>
    exfalso
    unfold noDiv at hq
    rw [List.all_eq_true] at hq
    have := hq d (List.mem_range.2 hk)
    simp at this
    rcases this with h1 | h1
    · omega
    · exact h1 h

theorem isP_nat {p : Int} (h : isP p = true) : ∃ n : Nat, p = n ∧ 2 ≤ n ∧ n ≤ 61 ∧ noDiv n n = true := by
  unfold isP at h
  simp at h
  obtain ⟨⟨h1, h2⟩, h3⟩ := h
  exact ⟨p.toNat, by omega, by omega, by omega, h3⟩

/-- The cells of a line. -/
def lineP (p m t : Nat) : List (Int × Int) := if m = p then (List.range p).map fun (y : Nat) => ((t : Int), (y : Int)) else (List.range p).map fun (x : Nat) => ((x : Int), (((m * x + t) % p : Nat) : Int))

def linePS (p m t : Int) : List (Int × Int) × Int := if isP p = false then ([], 150) else if m < 0 ∨ p < m ∨ t < 0 ∨ p ≤ t then ([], 1) else (lineP p.toNat m.toNat t.toNat, 0)

theorem lineP_len (p m t : Nat) : (lineP p m t).length = p := by unfold lineP; split <;> simp

/-- The document's way: all cells gone through. -/
def condP (p m t x y : Nat) : Bool := (decide (m = p) && decide (x = t)) || (decide (m < p) && decide ((m * x + t) % p = y))
def cellsP (p m t k : Nat) : List (Int × Int) := ((List.range k).filter fun i => condP p m t (i / p) (i % p)).map fun i => (((i / p : Nat) : Int), ((i % p : Nat) : Int))

theorem cellsP_zero (p m t : Nat) : cellsP p m t 0 = [] := rfl
theorem cellsP_len (p m t k : Nat) : (cellsP p m t k).length ≤ k := by
  unfold cellsP
  rw [List.length_map]
  exact Nat.le_trans (List.length_filter_le _ _) (by rw [List.length_range]; exact Nat.le_refl _)
theorem div_of {p x y : Nat} (hy : y < p) : (x * p + y) / p = x ∧ (x * p + y) % p = y := by
  constructor
  · rw [Nat.mul_comm, Nat.mul_add_div (by omega), Nat.div_eq_of_lt hy, Nat.add_zero]
  · rw [Nat.mul_comm, Nat.mul_add_mod, Nat.mod_eq_of_lt hy]
theorem cellsP_yes {p m t x y : Nat} (hy : y < p) (h : condP p m t x y = true) : cellsP p m t (x * p + y + 1) = cellsP p m t (x * p + y) ++ [((x : Int), (y : Int))] := by
  unfold cellsP
  rw [List.range_succ, List.filter_append, List.map_append]
  simp only [List.filter_cons, List.filter_nil, (div_of (x := x) hy).1, (div_of (x := x) hy).2, h, if_true, List.map_cons, List.map_nil]
theorem cellsP_no {p m t x y : Nat} (hy : y < p) (h : condP p m t x y = false) : cellsP p m t (x * p + y + 1) = cellsP p m t (x * p + y) := by
  unfold cellsP
  rw [List.range_succ, List.filter_append, List.map_append]
  simp only [List.filter_cons, List.filter_nil, (div_of (x := x) hy).1, (div_of (x := x) hy).2, h, Bool.false_eq_true, if_false, List.map_nil, List.append_nil]

theorem row_last {p m t x : Nat} (hm : m = p) : ∀ y, y ≤ p → cellsP p m t (x * p + y) = cellsP p m t (x * p) ++ (if x = t then (List.range y).map fun (y : Nat) => ((t : Int), (y : Int)) else []) := by
  intro y
  induction y with
  | zero => intro _; simp
  | succ y ih =>
    intro hy
    rw [← Nat.add_assoc]
    by_cases c : x = t
    · rw [cellsP_yes (by omega) (by unfold condP; simp [hm, c]), ih (by omega), if_pos c, if_pos c, List.range_succ, List.map_append, List.append_assoc, c]
      rfl
    · rw [cellsP_no (by omega) (by unfold condP; simp [hm, c]), ih (by omega), if_neg c, if_neg c]

theorem row_line {p m t x : Nat} (hm : m < p) : ∀ y, y ≤ p → cellsP p m t (x * p + y) = cellsP p m t (x * p) ++ (if (m * x + t) % p < y then [((x : Int), (((m * x + t) % p : Nat) : Int))] else []) := by
  intro y
  induction y with
  | zero => intro _; simp
  | succ y ih =>
    intro hy
    rw [← Nat.add_assoc]
    by_cases c : (m * x + t) % p = y
    · rw [cellsP_yes (by omega) (by unfold condP; simp [hm, c]), ih (by omega), if_neg (by omega), if_pos (by omega), List.append_nil, c]
    · rw [cellsP_no (by omega) (by unfold condP; simp [c]; omega), ih (by omega)]
      by_cases d : (m * x + t) % p < y
      · rw [if_pos d, if_pos (by omega)]
      · rw [if_neg d, if_neg (by omega)]

theorem cellsP_all {p m t : Nat} (hp : 1 ≤ p) (hm : m ≤ p) (ht : t < p) : cellsP p m t (p * p) = lineP p m t := by
  unfold lineP
  by_cases c : m = p
  · rw [if_pos c]
    have key : ∀ x, x ≤ p → cellsP p m t (x * p) = if t < x then (List.range p).map fun (y : Nat) => ((t : Int), (y : Int)) else [] := by
      intro x
      induction x with
      | zero => intro _; rw [Nat.zero_mul, cellsP_zero, if_neg (by omega)]
      | succ x ih =>
        intro hx
        rw [Nat.add_mul, Nat.one_mul, row_last c p (Nat.le_refl _), ih (by omega)]
        by_cases d : x = t
        · rw [if_pos d, if_neg (by omega), if_pos (by omega), List.nil_append]
        · rw [if_neg d, List.append_nil]
          by_cases e : t < x
          · rw [if_pos e, if_pos (by omega)]
          · rw [if_neg e, if_neg (by omega)]
    rw [key p (Nat.le_refl _), if_pos ht]
  · rw [if_neg c]
    have key : ∀ x, x ≤ p → cellsP p m t (x * p) = (List.range x).map fun (x : Nat) => ((x : Int), (((m * x + t) % p : Nat) : Int)) := by
      intro x
      induction x with
      | zero => intro _; rw [Nat.zero_mul, cellsP_zero]; rfl
      | succ x ih =>
        intro hx
        rw [Nat.add_mul, Nat.one_mul, row_line (by omega) p (Nat.le_refl _), ih (by omega), if_pos (Nat.mod_lt _ (by omega)), List.range_succ, List.map_append]
        rfl
    exact key p (Nat.le_refl _)
end Go.Proofs.Ytkaggnlceboocaa
