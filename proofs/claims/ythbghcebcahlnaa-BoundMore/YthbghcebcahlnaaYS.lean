/- Sums over cells and over bins: what each bin gathers, measured against any bins, is what the cells are, measured against the bins spread back. -/
import Derived.Test.YthbghcebcahlnaaYN
namespace Go.Proofs.Ythbghcebcahlnaa

/-- What the bins hold behind k cells, the cell j having gone into the bin ix j. -/
def accZ (ix : Nat → Nat) (v : Nat → Int × Int) : Nat → Nat → Int × Int
  | 0 => fun _ => (0, 0)
  | k + 1 => fun j => if j = ix k then addZ (accZ ix v k j) (v k) else accZ ix v k j

/-- The sum of the products with conjugates. -/
def dotZ (a b : Nat → Int × Int) : Nat → Int × Int
  | 0 => (0, 0)
  | m + 1 => addZ (dotZ a b m) (mulZ (a m) (b m))

theorem dot_ext {a b a' b' : Nat → Int × Int} {m : Nat} (h : ∀ j, j < m → a j = a' j ∧ b j = b' j) : dotZ a b m = dotZ a' b' m := by
  induction m with
  | zero => rfl
  | succ m ih =>
    show addZ _ _ = addZ _ _
    rw [ih fun j hj => h j (by omega), (h m (by omega)).1, (h m (by omega)).2]

theorem dot_put (f l : Nat → Int × Int) (i : Nat) (z : Int × Int) (m : Nat) :
    dotZ (fun j => if j = i then addZ (f j) z else f j) l m = if i < m then addZ (dotZ f l m) (mulZ z (l i)) else dotZ f l m := by
  induction m with
  | zero => rfl
  | succ m ih =>
    show addZ (dotZ _ l m) (mulZ (if m = i then addZ (f m) z else f m) (l m)) = if i < m + 1 then addZ (addZ (dotZ f l m) (mulZ (f m) (l m))) (mulZ z (l i)) else addZ (dotZ f l m) (mulZ (f m) (l m))
    rw [ih]
    by_cases c : i < m
    · have c1 : i < m + 1 := by omega
      have c2 : ¬ m = i := by omega
      rw [if_pos c, if_pos c1, if_neg c2]
      unfold addZ
      refine Prod.ext ?_ ?_
      · dsimp only; omega
      · dsimp only; omega
    · rw [if_neg c]
      by_cases c2 : m = i
      · subst c2
        rw [if_pos rfl, if_pos (Nat.lt_succ_self m)]
        unfold addZ mulZ
        refine Prod.ext ?_ ?_
        · dsimp only; rw [Int.add_mul, Int.add_mul]; omega
        · dsimp only; rw [Int.add_mul, Int.add_mul]; omega
      · have c3 : ¬ i < m + 1 := by omega
        rw [if_neg c2, if_neg c3]

theorem adjoint {ix : Nat → Nat} {v l : Nat → Int × Int} {m : Nat} (k : Nat) (h : ∀ j, j < k → ix j < m) :
    dotZ (accZ ix v k) l m = dotZ v (fun j => l (ix j)) k := by
  induction k with
  | zero =>
    show dotZ (fun _ => (0, 0)) l m = (0, 0)
    clear h
    induction m with
    | zero => rfl
    | succ m ih =>
      show addZ (dotZ _ l m) (mulZ (0, 0) (l m)) = _
      rw [ih]
      unfold addZ mulZ
      refine Prod.ext ?_ ?_ <;> (dsimp only; rw [Int.zero_mul, Int.zero_mul]; rfl)
  | succ k ih =>
    show dotZ (fun j => if j = ix k then addZ (accZ ix v k j) (v k) else accZ ix v k j) l m = _
    rw [dot_put, if_pos (h k (by omega)), ih fun j hj => h j (by omega)]
    rfl

theorem acc_le {ix : Nat → Nat} {v : Nat → Int × Int} {M : Nat} {k : Nat} (h : ∀ j, j < k → (v j).1.natAbs ≤ M ∧ (v j).2.natAbs ≤ M) (j : Nat) : (accZ ix v k j).1.natAbs ≤ k * M ∧ (accZ ix v k j).2.natAbs ≤ k * M := by
  induction k with
  | zero => exact ⟨Nat.zero_le _, Nat.zero_le _⟩
  | succ k ih =>
    have i1 := ih fun j hj => h j (by omega)
    have i2 := h k (by omega)
    rw [Nat.add_mul, Nat.one_mul]
    show (if j = ix k then addZ (accZ ix v k j) (v k) else accZ ix v k j).1.natAbs ≤ _ ∧ (if j = ix k then addZ (accZ ix v k j) (v k) else accZ ix v k j).2.natAbs ≤ _
    split
    · unfold addZ
      dsimp only
      omega
    · omega

theorem part_le {d : Int × Int} {q1 q2 q3 q4 : Int} {C D : Nat} (h : d.1.natAbs ≤ D ∧ d.2.natAbs ≤ D) (h1 : q1.natAbs ≤ C) (h2 : q2.natAbs ≤ C) (h3 : q3.natAbs ≤ C) (h4 : q4.natAbs ≤ C) :
    (d.1 + (q1 + q2)).natAbs ≤ D + 2 * C ∧ (d.2 + (q4 - q3)).natAbs ≤ D + 2 * C := by omega

theorem dot_le {a b : Nat → Int × Int} {A B m : Nat} (ha : ∀ j, j < m → (a j).1.natAbs ≤ A ∧ (a j).2.natAbs ≤ A) (hb : ∀ j, j < m → (b j).1.natAbs ≤ B ∧ (b j).2.natAbs ≤ B) :
    (dotZ a b m).1.natAbs ≤ m * (2 * (A * B)) ∧ (dotZ a b m).2.natAbs ≤ m * (2 * (A * B)) := by
  induction m with
  | zero => exact ⟨Nat.zero_le _, Nat.zero_le _⟩
  | succ m ih =>
    have i1 := ih (fun j hj => ha j (by omega)) (fun j hj => hb j (by omega))
    obtain ⟨a1, a2⟩ := ha m (by omega)
    obtain ⟨b1, b2⟩ := hb m (by omega)
    have p1 := prod_le a1 b1
    have p2 := prod_le a2 b2
    have p3 := prod_le a1 b2
    have p4 := prod_le a2 b1
    rw [Nat.add_mul, Nat.one_mul]
    show (addZ (dotZ a b m) (mulZ (a m) (b m))).1.natAbs ≤ _ ∧ (addZ (dotZ a b m) (mulZ (a m) (b m))).2.natAbs ≤ _
    unfold addZ mulZ
    dsimp only
    generalize (a m).1 * (b m).1 = q1 at *
    generalize (a m).2 * (b m).2 = q2 at *
    generalize (a m).1 * (b m).2 = q3 at *
    generalize (a m).2 * (b m).1 = q4 at *
    generalize A * B = C at *
    generalize m * (2 * C) = D at *
    exact part_le i1 p1 p2 p3 p4
end Go.Proofs.Ythbghcebcahlnaa
