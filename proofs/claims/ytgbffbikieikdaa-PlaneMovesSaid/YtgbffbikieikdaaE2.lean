/- Sums of complex whole numbers; the transform by its definition, and by halves. -/
import Derived.Test.YtgbffbikieikdaaE1
namespace Go.Proofs.Ytgbffbikieikdaa

def csum : Nat → (Nat → Int × Int) → Int × Int
  | 0, _ => (0, 0)
  | n + 1, f => ca (csum n f) (f n)

theorem ca_assoc (a b c : Int × Int) : ca (ca a b) c = ca a (ca b c) := Prod.ext (Int.add_assoc _ _ _) (Int.add_assoc _ _ _)
theorem ca_comm (a b : Int × Int) : ca a b = ca b a := Prod.ext (Int.add_comm _ _) (Int.add_comm _ _)

theorem csum_congr {n : Nat} {f g : Nat → Int × Int} (h : ∀ j, j < n → f j = g j) : csum n f = csum n g := by
  induction n with
  | zero => rfl
  | succ n ih =>
    show ca (csum n f) (f n) = ca (csum n g) (g n)
    rw [ih (fun j hj => h j (by omega)), h n (by omega)]

theorem csum_split (h : Nat) (f : Nat → Int × Int) : csum (2 * h) f = ca (csum h (fun j => f (2 * j))) (csum h (fun j => f (2 * j + 1))) := by
  induction h with
  | zero => rfl
  | succ h ih =>
    rw [show 2 * (h + 1) = 2 * h + 1 + 1 by omega]
    show ca (ca (csum (2 * h) f) (f (2 * h))) (f (2 * h + 1)) = ca (ca (csum h (fun j => f (2 * j))) (f (2 * h))) (ca (csum h (fun j => f (2 * j + 1))) (f (2 * h + 1)))
    rw [ih]
    refine Prod.ext ?_ ?_
    · simp only [ca]; omega
    · simp only [ca]; omega

theorem gm_ca (w a b : Int × Int) : gm w (ca a b) = ca (gm w a) (gm w b) := by
  refine Prod.ext ?_ ?_
  · simp only [gm, ca]; grind
  · simp only [gm, ca]; grind

theorem csum_gm (w : Int × Int) (n : Nat) (f : Nat → Int × Int) : gm w (csum n f) = csum n (fun j => gm w (f j)) := by
  induction n with
  | zero =>
    refine Prod.ext ?_ ?_
    · simp [gm, csum]
    · simp [gm, csum]
  | succ n ih =>
    show gm w (ca (csum n f) (f n)) = ca (csum n (fun j => gm w (f j))) (gm w (f n))
    rw [gm_ca, ih]

theorem sm_ca (c : Int) (a b : Int × Int) : sm c (ca a b) = ca (sm c a) (sm c b) := Prod.ext (Int.mul_add _ _ _) (Int.mul_add _ _ _)

theorem csum_sm (c : Int) (n : Nat) (f : Nat → Int × Int) : sm c (csum n f) = csum n (fun j => sm c (f j)) := by
  induction n with
  | zero => exact Prod.ext (Int.mul_zero _) (Int.mul_zero _)
  | succ n ih =>
    show sm c (ca (csum n f) (f n)) = ca (csum n (fun j => sm c (f j))) (sm c (f n))
    rw [sm_ca, ih]

theorem csum_cs (n : Nat) (f g : Nat → Int × Int) : cs (csum n f) (csum n g) = csum n (fun j => cs (f j) (g j)) := by
  induction n with
  | zero => rfl
  | succ n ih =>
    show cs (ca (csum n f) (f n)) (ca (csum n g) (g n)) = ca (csum n (fun j => cs (f j) (g j))) (cs (f n) (g n))
    rw [← ih]
    refine Prod.ext ?_ ?_
    · simp only [cs, ca]; omega
    · simp only [cs, ca]; omega

theorem csum_neg (n : Nat) (f : Nat → Int × Int) : csum n (fun j => (-(f j).1, -(f j).2)) = (-(csum n f).1, -(csum n f).2) := by
  induction n with
  | zero => rfl
  | succ n ih =>
    show ca (csum n (fun j => (-(f j).1, -(f j).2))) (-(f n).1, -(f n).2) = (-(ca (csum n f) (f n)).1, -(ca (csum n f) (f n)).2)
    rw [ih]
    refine Prod.ext ?_ ?_
    · simp only [ca]; omega
    · simp only [ca]; omega

theorem n2_zero (B : Nat) : N2 (0, 0) B := by
  show (0 : Int) * 0 + 0 * 0 ≤ _
  exact sq_nonneg _

theorem n2_csum {n B : Nat} {f : Nat → Int × Int} (h : ∀ j, j < n → N2 (f j) B) : N2 (csum n f) (n * B) := by
  induction n with
  | zero => exact n2_zero _
  | succ n ih =>
    rw [Nat.add_mul, Nat.one_mul]
    exact n2_add (ih fun j hj => h j (by omega)) (h n (by omega))

/-- The transform by its definition, in units of 2 to the -64 of the list's; c: which way round. -/
def dsum (l c : Nat) (x : Nat → Int × Int) (k : Nat) : Int × Int := csum (2 ^ l) (fun j => gm (x j) (vz (c * (j * k) * 2 ^ (12 - l))))

theorem n2_dsum {l c k B : Nat} {x : Nat → Int × Int} (h : ∀ j, j < 2 ^ l → N2 (x j) B) : N2 (dsum l c x k) (2 ^ l * (B * 18446744073709559808)) :=
  n2_csum fun j hj => n2_mul (h j hj) (n2_vz _)

/-- What the odd places bring, at the place k of twice the length. -/
def osum (l c : Nat) (x : Nat → Int × Int) (k : Nat) : Int × Int := csum (2 ^ l) (fun j => gm (x (2 * j + 1)) (vz (c * ((2 * j + 1) * k) * 2 ^ (11 - l))))

theorem pow11 {l : Nat} (hl : l ≤ 11) : 2 ^ (12 - l) = 2 * 2 ^ (11 - l) := by
  rw [show 12 - l = 11 - l + 1 by omega, Nat.pow_succ]; omega

theorem pow_2048 {l : Nat} (hl : l ≤ 11) : 2 ^ l * 2 ^ (11 - l) = 2048 := by
  rw [← Nat.pow_add, show l + (11 - l) = 11 by omega]

theorem dsum_low {l c : Nat} (hl : l ≤ 11) (x : Nat → Int × Int) (k : Nat) :
    dsum (l + 1) c x k = ca (dsum l c (fun j => x (2 * j)) k) (osum l c x k) := by
  unfold dsum osum
  rw [Nat.pow_succ, Nat.mul_comm (2 ^ l) 2, csum_split, show 12 - (l + 1) = 11 - l by omega]
  congr 1
  refine csum_congr fun j _ => ?_
  have : c * (2 * j * k) * 2 ^ (11 - l) = c * (j * k) * 2 ^ (12 - l) := by
    rw [pow11 hl]
    generalize 2 ^ (11 - l) = P
    grind
  rw [this]

theorem gm_neg_right (a b : Int × Int) : gm a (-b.1, -b.2) = (-(gm a b).1, -(gm a b).2) := by
  refine Prod.ext ?_ ?_
  · simp only [gm]; grind
  · simp only [gm]; grind

theorem dsum_high {l c : Nat} (hl : l ≤ 11) (hc : c % 2 = 1) (x : Nat → Int × Int) (k : Nat) :
    dsum (l + 1) c x (k + 2 ^ l) = cs (dsum l c (fun j => x (2 * j)) k) (osum l c x k) := by
  have hp := pow_2048 hl
  unfold dsum osum
  rw [Nat.pow_succ, Nat.mul_comm (2 ^ l) 2, csum_split, show 12 - (l + 1) = 11 - l by omega]
  have e1 : csum (2 ^ l) (fun j => gm (x (2 * j)) (vz (c * (2 * j * (k + 2 ^ l)) * 2 ^ (11 - l)))) = csum (2 ^ l) (fun j => gm (x (2 * j)) (vz (c * (j * k) * 2 ^ (12 - l)))) := by
    refine csum_congr fun j _ => ?_
    have : c * (2 * j * (k + 2 ^ l)) * 2 ^ (11 - l) = c * (j * k) * 2 ^ (12 - l) + 4096 * (c * j) := by
      rw [pow11 hl]
      generalize 2 ^ (11 - l) = P at *
      generalize 2 ^ l = Q at *
      grind
    rw [this, vz_rounds]
  have e2 : csum (2 ^ l) (fun j => gm (x (2 * j + 1)) (vz (c * ((2 * j + 1) * (k + 2 ^ l)) * 2 ^ (11 - l)))) =
      csum (2 ^ l) (fun j => (-(gm (x (2 * j + 1)) (vz (c * ((2 * j + 1) * k) * 2 ^ (11 - l)))).1, -(gm (x (2 * j + 1)) (vz (c * ((2 * j + 1) * k) * 2 ^ (11 - l)))).2)) := by
    refine csum_congr fun j _ => ?_
    obtain ⟨d, rfl⟩ : ∃ d, c = 2 * d + 1 := ⟨c / 2, by omega⟩
    have : (2 * d + 1) * ((2 * j + 1) * (k + 2 ^ l)) * 2 ^ (11 - l) = (2 * d + 1) * ((2 * j + 1) * k) * 2 ^ (11 - l) + 2048 + 4096 * (d * (2 * j + 1) + j) := by
      generalize 2 ^ (11 - l) = P at *
      generalize 2 ^ l = Q at *
      grind
    rw [this, vz_rounds, vz_opp, gm_neg_right]
  rw [e1, e2, csum_neg]
  refine Prod.ext ?_ ?_
  · simp only [cs, ca]; omega
  · simp only [cs, ca]; omega

theorem gm_assoc_l (w a b : Int × Int) : gm w (gm a b) = gm a (gm w b) := by
  refine Prod.ext ?_ ?_
  · simp only [gm]; grind
  · simp only [gm]; grind
theorem gm_cs (w a b : Int × Int) : gm w (cs a b) = cs (gm w a) (gm w b) := by
  refine Prod.ext ?_ ?_
  · simp only [gm, cs]; grind
  · simp only [gm, cs]; grind
theorem gm_sm (c : Int) (w a : Int × Int) : gm w (sm c a) = sm c (gm w a) := by
  refine Prod.ext ?_ ?_
  · simp only [gm, sm]; grind
  · simp only [gm, sm]; grind

/-- The root at the place, times the odd half's transform, is near to what the odd places bring. -/
theorem odd_near {l c k B : Nat} (hl : l ≤ 11) {x : Nat → Int × Int} (h : ∀ j, j < 2 ^ l → N2 (x (2 * j + 1)) B) :
    N2 (cs (gm (vz (c * k * 2 ^ (11 - l))) (dsum l c (fun j => x (2 * j + 1)) k)) (sm 18446744073709551616 (osum l c x k))) (2 ^ l * (B * 2720083094132915643088896)) := by
  unfold dsum osum
  rw [csum_gm, csum_sm, csum_cs]
  refine n2_csum fun j hj => ?_
  rw [gm_assoc_l, ← gm_sm, ← gm_cs]
  refine n2_mul (h j hj) ?_
  have e : c * ((2 * j + 1) * k) * 2 ^ (11 - l) = c * k * 2 ^ (11 - l) + c * (j * k) * 2 ^ (12 - l) := by
    rw [pow11 hl]
    generalize 2 ^ (11 - l) = P
    grind
  rw [e]
  exact near2_all _ _
end Go.Proofs.Ytgbffbikieikdaa
