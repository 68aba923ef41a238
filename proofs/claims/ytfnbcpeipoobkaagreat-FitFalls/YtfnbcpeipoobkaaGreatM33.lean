/- The squares of what is left never rise: whole numbers alone. -/
import Derived.Control
namespace Go.Proofs.YtfnbcpeipoobkaaGreat

/-- What the bin j holds behind k cells, the cell i having gone into the bin ix i. -/
def gat (ix : Nat → Nat) (v : Nat → Int) : Nat → Nat → Int
  | 0 => fun _ => 0
  | k + 1 => fun j => if j = ix k then gat ix v k j + v k else gat ix v k j
/-- Sums of products, of squares. -/
def dt (f g : Nat → Int) : Nat → Int
  | 0 => 0
  | m + 1 => dt f g m + f m * g m
def sumW (f : Nat → Int) : Nat → Int
  | 0 => 0
  | p + 1 => sumW f p + f p
theorem dt_ext {f g f' g' : Nat → Int} {m : Nat} (h : ∀ j, j < m → f j = f' j ∧ g j = g' j) : dt f g m = dt f' g' m := by
  induction m with
  | zero => rfl
  | succ m ih =>
    unfold dt
    rw [ih fun j hj => h j (by omega), (h m (by omega)).1, (h m (by omega)).2]
theorem sumW_ext {f g : Nat → Int} {m : Nat} (h : ∀ j, j < m → f j = g j) : sumW f m = sumW g m := by
  induction m with
  | zero => rfl
  | succ m ih =>
    unfold sumW
    rw [ih fun j hj => h j (by omega), h m (by omega)]
theorem sumW_le {f g : Nat → Int} {m : Nat} (h : ∀ j, j < m → f j ≤ g j) : sumW f m ≤ sumW g m := by
  induction m with
  | zero => exact Int.le_refl _
  | succ m ih =>
    have h1 := ih fun j hj => h j (by omega)
    have h2 := h m (by omega)
    unfold sumW
    omega
theorem sumW_add (f g : Nat → Int) (m : Nat) : sumW (fun j => f j + g j) m = sumW f m + sumW g m := by
  induction m with
  | zero => rfl
  | succ m ih =>
    unfold sumW
    rw [ih]
    omega
theorem sumW_mul (c : Int) (f : Nat → Int) (m : Nat) : sumW (fun j => c * f j) m = c * sumW f m := by
  induction m with
  | zero => simp [sumW]
  | succ m ih =>
    unfold sumW
    rw [ih, Int.mul_add]
theorem dt_sum (f g : Nat → Int) (m : Nat) : dt f g m = sumW (fun j => f j * g j) m := by
  induction m with
  | zero => rfl
  | succ m ih => unfold dt sumW; rw [ih]
theorem sq_nonneg (f : Nat → Int) (m : Nat) : 0 ≤ dt f f m := by
  induction m with
  | zero => exact Int.le_refl _
  | succ m ih =>
    unfold dt
    have : 0 ≤ f m * f m := by
      rcases Int.le_total 0 (f m) with h | h
      · exact Int.mul_nonneg h h
      · exact Int.mul_nonneg_of_nonpos_of_nonpos h h
    omega
theorem dt_put (f l : Nat → Int) (i : Nat) (z : Int) (m : Nat) : dt (fun j => if j = i then f j + z else f j) l m = if i < m then dt f l m + z * l i else dt f l m := by
  induction m with
  | zero => rfl
  | succ m ih =>
    show dt (fun j => if j = i then f j + z else f j) l m + (if m = i then f m + z else f m) * l m = if i < m + 1 then dt f l m + f m * l m + z * l i else dt f l m + f m * l m
    rw [ih]
    by_cases c : i < m
    · rw [if_pos c, if_pos (show i < m + 1 by omega), if_neg (show ¬ m = i by omega)]
      omega
    · rw [if_neg c]
      by_cases c2 : m = i
      · subst c2
        rw [if_pos rfl, if_pos (Nat.lt_succ_self m), Int.add_mul]
        omega
      · rw [if_neg c2, if_neg (show ¬ i < m + 1 by omega)]
/-- Measured against any bins. -/
theorem gat_adj {ix : Nat → Nat} {v l : Nat → Int} {m : Nat} (k : Nat) (h : ∀ j, j < k → ix j < m) : dt (gat ix v k) l m = dt v (fun j => l (ix j)) k := by
  induction k with
  | zero =>
    show dt (fun _ => 0) l m = 0
    clear h
    induction m with
    | zero => rfl
    | succ m ih => unfold dt; rw [ih]; simp
  | succ k ih =>
    show dt (fun j => if j = ix k then gat ix v k j + v k else gat ix v k j) l m = _
    rw [dt_put, if_pos (h k (by omega)), ih fun j hj => h j (by omega)]
    rfl
/-- How many cells lie in a bin; the sum of their squares. -/
def cnt (ix : Nat → Nat) (k j : Nat) : Int := gat ix (fun _ => 1) k j
theorem cnt_nonneg (ix : Nat → Nat) (j : Nat) : ∀ k, 0 ≤ cnt ix k j
  | 0 => Int.le_refl _
  | k + 1 => by
    have h := cnt_nonneg ix j k
    show 0 ≤ if j = ix k then cnt ix k j + 1 else cnt ix k j
    split <;> omega
theorem sqs_nonneg (ix : Nat → Nat) (v : Nat → Int) (j : Nat) : ∀ k, 0 ≤ gat ix (fun i => v i * v i) k j
  | 0 => Int.le_refl _
  | k + 1 => by
    have := sqs_nonneg ix v j k
    have h2 : 0 ≤ v k * v k := by
      rcases Int.le_total 0 (v k) with h | h
      · exact Int.mul_nonneg h h
      · exact Int.mul_nonneg_of_nonpos_of_nonpos h h
    unfold gat
    split <;> omega
theorem sq_ge (x : Int) : 0 ≤ x * x := by
  rcases Int.le_total 0 x with h | h
  · exact Int.mul_nonneg h h
  · exact Int.mul_nonneg_of_nonpos_of_nonpos h h
theorem cauchy_step {g v c s : Int} (hc : 0 ≤ c) (hs : 0 ≤ s) (h : g * g ≤ c * s) : (g + v) * (g + v) ≤ (c + 1) * (s + v * v) := by
  have key : 2 * (g * v) ≤ s + c * (v * v) := by
    rcases Int.lt_or_le 0 c with hp | hp
    · have e : c * (s + c * (v * v) - 2 * (g * v)) = (c * s - g * g) + (g - c * v) * (g - c * v) := by grind
      have hn : 0 ≤ c * (s + c * (v * v) - 2 * (g * v)) := by
        rw [e]
        have := sq_ge (g - c * v)
        omega
      have := Int.nonneg_of_mul_nonneg_right hn hp
      omega
    · have hc0 : c = 0 := by omega
      subst hc0
      have hg : g = 0 := by
        have h' : g * g ≤ 0 := by simpa using h
        have := sq_ge g
        have h2 : g * g = 0 := by omega
        rcases Int.mul_eq_zero.1 h2 with h3 | h3 <;> exact h3
      subst hg
      simp
      exact hs
  have e1 : (g + v) * (g + v) = g * g + 2 * (g * v) + v * v := by grind
  have e2 : (c + 1) * (s + v * v) = c * s + c * (v * v) + s + v * v := by grind
  rw [e1, e2]
  omega
theorem cauchy (ix : Nat → Nat) (v : Nat → Int) (j : Nat) : ∀ k, gat ix v k j * gat ix v k j ≤ cnt ix k j * gat ix (fun i => v i * v i) k j
  | 0 => by simp [gat]
  | k + 1 => by
    have ih := cauchy ix v j k
    have h1 := cnt_nonneg ix j k
    have h2 := sqs_nonneg ix v j k
    unfold cnt at *
    unfold gat
    split
    · exact cauchy_step h1 h2 ih
    · exact ih
theorem gat_all {ix : Nat → Nat} {v : Nat → Int} {m : Nat} (k : Nat) (h : ∀ j, j < k → ix j < m) : sumW (gat ix v k) m = sumW v k := by
  have e := gat_adj (v := v) (l := fun _ => 1) k h
  rw [dt_sum, dt_sum] at e
  simpa using e
/-- The squares of what bins gather. -/
theorem sq_gat {ix : Nat → Nat} {v : Nat → Int} {m k : Nat} {c : Int} (h : ∀ j, j < k → ix j < m) (hc : ∀ j, j < m → cnt ix k j ≤ c) : dt (gat ix v k) (gat ix v k) m ≤ c * dt v v k := by
  rw [dt_sum, dt_sum, ← gat_all (v := fun i => v i * v i) k h, ← sumW_mul]
  refine sumW_le fun j hj => ?_
  have h1 := cauchy ix v j k
  have h2 := sqs_nonneg ix v j k
  have h3 := Int.mul_le_mul_of_nonneg_right (hc j hj) h2
  exact Int.le_trans h1 h3
/-- What the cells get: the rests of their lines. -/
def lay (P : Nat) (ix : Nat → Nat → Nat) (R : Nat → Nat → Int) (i : Nat) : Int := sumW (fun p => R p (ix p i)) P
/-- What is left behind a round, thirty-two times as great. -/
def nextR (P K : Nat) (ix : Nat → Nat → Nat) (R : Nat → Nat → Int) (p j : Nat) : Int := 32 * R p j - gat (ix p) (lay P ix R) K j
/-- All squares. -/
def SQ (P : Nat) (nb : Nat → Nat) (R : Nat → Nat → Int) : Int := sumW (fun p => dt (R p) (R p) (nb p)) P
theorem dt_next (f g : Nat → Int) (m : Nat) : dt (fun j => 32 * f j - g j) (fun j => 32 * f j - g j) m = 1024 * dt f f m - 64 * dt g f m + dt g g m := by
  induction m with
  | zero => rfl
  | succ m ih =>
    unfold dt
    rw [ih]
    have e : (32 * f m - g m) * (32 * f m - g m) = 1024 * (f m * f m) - 64 * (g m * f m) + g m * g m := by grind
    rw [e]
    omega
theorem lay_dt (K : Nat) (ix : Nat → Nat → Nat) (R : Nat → Nat → Int) (Y : Nat → Int) : ∀ P, sumW (fun p => dt Y (fun i => R p (ix p i)) K) P = dt Y (lay P ix R) K
  | 0 => by
    show 0 = dt Y (fun _ => 0) K
    rw [dt_sum]
    have : sumW (fun j => Y j * 0) K = 0 := by
      rw [sumW_ext (g := fun j => 0 * Y j) (fun j _ => by simp), sumW_mul]
      simp
    exact this.symm
  | P + 1 => by
    unfold sumW
    rw [lay_dt K ix R Y P, dt_sum, dt_sum, dt_sum, ← sumW_add]
    refine sumW_ext fun j _ => ?_
    show _ = Y j * (lay P ix R j + R P (ix P j))
    rw [Int.mul_add]
/-- ████ A round does not make the squares greater. ████ -/
theorem falls {P K : Nat} {ix : Nat → Nat → Nat} {nb : Nat → Nat} {R : Nat → Nat → Int} (hP : P ≤ 4) (hix : ∀ p i, p < P → i < K → ix p i < nb p) (hc : ∀ p j, p < P → j < nb p → cnt (ix p) K j ≤ 8) : SQ P nb (nextR P K ix R) ≤ 1024 * SQ P nb R := by
  have hY := sq_nonneg (lay P ix R) K
  have e1 : SQ P nb (nextR P K ix R) = sumW (fun p => 1024 * dt (R p) (R p) (nb p) + ((-64) * dt (lay P ix R) (fun i => R p (ix p i)) K + dt (gat (ix p) (lay P ix R) K) (gat (ix p) (lay P ix R) K) (nb p))) P := by
    refine sumW_ext fun p hp => ?_
    show dt (fun j => 32 * R p j - gat (ix p) (lay P ix R) K j) (fun j => 32 * R p j - gat (ix p) (lay P ix R) K j) (nb p) = _
    rw [dt_next, gat_adj K fun i hi => hix p i hp hi]
    omega
  rw [e1, sumW_add, sumW_add, sumW_mul, sumW_mul, lay_dt]
  have e2 : sumW (fun p => dt (gat (ix p) (lay P ix R) K) (gat (ix p) (lay P ix R) K) (nb p)) P ≤ sumW (fun _ => 8 * dt (lay P ix R) (lay P ix R) K) P := sumW_le fun p hp => sq_gat (fun i hi => hix p i hp hi) fun j hj => hc p j hp hj
  have e3 : ∀ (x : Int) (m : Nat), sumW (fun _ => x) m = m * x := fun x m => by
    induction m with
    | zero => simp [sumW]
    | succ m ih => unfold sumW; rw [ih]; push_cast; rw [Int.add_mul]; omega
  rw [e3] at e2
  have e4 : (P : Int) * (8 * dt (lay P ix R) (lay P ix R) K) ≤ 4 * (8 * dt (lay P ix R) (lay P ix R) K) := Int.mul_le_mul_of_nonneg_right (by omega) (by omega)
  show 1024 * SQ P nb R + _ ≤ _
  omega
end Go.Proofs.YtfnbcpeipoobkaaGreat
