/- There and back: the two transforms, rounded, bring a list back but for little. -/
import Derived.Test.YtgbffbikieikdaaE4
namespace Go.Proofs.Ytgbffbikieikdaa
open Fl

theorem csum_halves (h : Nat) (f : Nat → Int × Int) : ∀ n, csum (h + n) f = ca (csum h f) (csum n (fun k => f (h + k))) := by
  intro n
  induction n with
  | zero => exact Prod.ext (Int.add_zero _).symm (Int.add_zero _).symm
  | succ n ih =>
    show ca (csum (h + n) f) (f (h + n)) = ca (csum h f) (ca (csum n (fun k => f (h + k))) (f (h + n)))
    rw [ih, ca_assoc]

theorem csum_ca (n : Nat) (f g : Nat → Int × Int) : ca (csum n f) (csum n g) = csum n (fun j => ca (f j) (g j)) := by
  induction n with
  | zero => rfl
  | succ n ih =>
    show ca (ca (csum n f) (f n)) (ca (csum n g) (g n)) = ca (csum n (fun j => ca (f j) (g j))) (ca (f n) (g n))
    rw [← ih]
    refine Prod.ext ?_ ?_
    · simp only [ca]; omega
    · simp only [ca]; omega

theorem csum_swap (m n : Nat) (f : Nat → Nat → Int × Int) : csum m (fun k => csum n (fun j => f k j)) = csum n (fun j => csum m (fun k => f k j)) := by
  induction m with
  | zero =>
    induction n with
    | zero => rfl
    | succ n ih =>
      show (0, 0) = ca (csum n (fun j => csum 0 (fun k => f k j))) (0, 0)
      rw [← ih]
      rfl
  | succ m ih =>
    show ca (csum m (fun k => csum n (fun j => f k j))) (csum n (fun j => f m j)) = csum n (fun j => ca (csum m (fun k => f k j)) (f m j))
    rw [ih, csum_ca]

theorem vz_zero : vz 0 = (18446744073709551616, 0) := by decide +kernel

/-- The roots of one at all multiples of a place add up to nought, or are all 1. -/
theorem orth {l : Nat} (hl : l ≤ 12) : ∀ a, a % 2 ^ l ≠ 0 → csum (2 ^ l) (fun k => vz (a * k * 2 ^ (12 - l))) = (0, 0) := by
  induction l with
  | zero => intro a h; exact absurd (Nat.mod_one a) h
  | succ l ih =>
    intro a h
    have hp := pow_2048 (show l ≤ 11 by omega)
    rw [show 2 ^ (l + 1) = 2 ^ l + 2 ^ l by rw [Nat.pow_succ]; omega, csum_halves, show 12 - (l + 1) = 11 - l by omega]
    by_cases ho : a % 2 = 1
    · have e : csum (2 ^ l) (fun k => vz (a * (2 ^ l + k) * 2 ^ (11 - l))) = csum (2 ^ l) (fun k => (-(vz (a * k * 2 ^ (11 - l))).1, -(vz (a * k * 2 ^ (11 - l))).2)) := by
        refine csum_congr fun k _ => ?_
        obtain ⟨d, rfl⟩ : ∃ d, a = 2 * d + 1 := ⟨a / 2, by omega⟩
        have : (2 * d + 1) * (2 ^ l + k) * 2 ^ (11 - l) = (2 * d + 1) * k * 2 ^ (11 - l) + 2048 + 4096 * d := by
          generalize 2 ^ (11 - l) = P at *
          generalize 2 ^ l = Q at *
          grind
        rw [this, vz_rounds, vz_opp]
      rw [e, csum_neg]
      refine Prod.ext ?_ ?_
      · simp only [ca]; omega
      · simp only [ca]; omega
    · obtain ⟨d, rfl⟩ : ∃ d, a = 2 * d := ⟨a / 2, by omega⟩
      have hd : d % 2 ^ l ≠ 0 := by
        intro c
        apply h
        rw [Nat.pow_succ, Nat.mul_comm (2 ^ l) 2, Nat.mul_mod_mul_left, c]
      have h0 := ih (by omega) d hd
      have e1 : csum (2 ^ l) (fun k => vz (2 * d * k * 2 ^ (11 - l))) = (0, 0) := by
        rw [← h0]
        refine csum_congr fun k _ => ?_
        have : 2 * d * k * 2 ^ (11 - l) = d * k * 2 ^ (12 - l) := by
          rw [pow11 (by omega)]
          generalize 2 ^ (11 - l) = P
          grind
        rw [this]
      have e2 : csum (2 ^ l) (fun k => vz (2 * d * (2 ^ l + k) * 2 ^ (11 - l))) = (0, 0) := by
        rw [← h0]
        refine csum_congr fun k _ => ?_
        have : 2 * d * (2 ^ l + k) * 2 ^ (11 - l) = d * k * 2 ^ (12 - l) + 4096 * d := by
          rw [pow11 (by omega)]
          generalize 2 ^ (11 - l) = P at *
          generalize 2 ^ l = Q at *
          grind
        rw [this, vz_rounds]
      rw [e1, e2]
      rfl

theorem csum_const (n : Nat) (v : Int × Int) : csum n (fun _ => v) = sm (n : Int) v := by
  induction n with
  | zero => exact Prod.ext (Int.zero_mul _).symm (Int.zero_mul _).symm
  | succ n ih =>
    show ca (csum n (fun _ => v)) v = sm ((n + 1 : Nat) : Int) v
    rw [ih]
    refine Prod.ext ?_ ?_
    · simp only [ca, sm]; rw [Int.natCast_add, Int.add_mul]; simp
    · simp only [ca, sm]; rw [Int.natCast_add, Int.add_mul]; simp

theorem pow_4096 {l : Nat} (hl : l ≤ 12) : 2 ^ l * 2 ^ (12 - l) = 4096 := by
  rw [← Nat.pow_add, show l + (12 - l) = 12 by omega]

theorem orth_one {l : Nat} (hl : l ≤ 12) (a : Nat) (h : a % 2 ^ l = 0) : csum (2 ^ l) (fun k => vz (a * k * 2 ^ (12 - l))) = sm ((2 ^ l : Nat) : Int) (18446744073709551616, 0) := by
  rw [← csum_const]
  refine csum_congr fun k _ => ?_
  obtain ⟨d, rfl⟩ : ∃ d, a = 2 ^ l * d := ⟨a / 2 ^ l, by rw [Nat.mul_div_cancel' (Nat.dvd_of_mod_eq_zero h)]⟩
  have hp := pow_4096 hl
  have : 2 ^ l * d * k * 2 ^ (12 - l) = 0 + 4096 * (d * k) := by
    generalize 2 ^ (12 - l) = P at *
    generalize 2 ^ l = Q at *
    grind
  rw [this, vz_rounds, vz_zero]

/-- Of the places j and m of a list of 2^l: round there and back only the same one stays. -/
theorem place_same {l j m : Nat} (hl : l ≤ 12) (hj : j < 2 ^ l) (hm : m < 2 ^ l) : (4095 * j + m) % 2 ^ l = 0 ↔ j = m := by
  have hp := pow_4096 hl
  have e : 4095 * j + m = 4096 * j + m - j := by omega
  have hd : 4096 * j = 2 ^ l * (2 ^ (12 - l) * j) := by rw [← Nat.mul_assoc, hp]
  have key : (4095 * j + m + j) % 2 ^ l = m := by
    rw [show 4095 * j + m + j = m + 2 ^ l * (2 ^ (12 - l) * j) by omega, Nat.add_mul_mod_self_left, Nat.mod_eq_of_lt hm]
  constructor
  · intro h
    have h2 : (4095 * j + m + j) % 2 ^ l = j := by
      rw [Nat.add_mod, h, Nat.zero_add, Nat.mod_mod, Nat.mod_eq_of_lt hj]
    omega
  · intro h
    subst h
    have h2 : 4095 * j + j = 2 ^ l * (2 ^ (12 - l) * j) := by omega
    rw [h2, Nat.mul_mod_right]

theorem gm_zero (a : Int × Int) : gm a (0, 0) = (0, 0) := by
  refine Prod.ext ?_ ?_
  · simp [gm]
  · simp [gm]

/-- Only one place counts. -/
theorem csum_single {n m : Nat} (hm : m < n) (f : Nat → Int × Int) (h : ∀ j, j < n → j ≠ m → f j = (0, 0)) : csum n f = f m := by
  induction n with
  | zero => omega
  | succ n ih =>
    show ca (csum n f) (f n) = f m
    by_cases c : m = n
    · subst c
      have : csum m f = (0, 0) := by
        have : csum m f = csum m (fun _ => (0, 0)) := csum_congr fun j hj => h j (by omega) (by omega)
        rw [this, csum_const]
        exact Prod.ext (Int.mul_zero _) (Int.mul_zero _)
      rw [this]
      exact Prod.ext (Int.zero_add _) (Int.zero_add _)
    · rw [ih (by omega) (fun j hj hne => h j (by omega) hne), h n (by omega) (fun e => c e.symm)]
      exact Prod.ext (Int.add_zero _) (Int.add_zero _)

/-- The exact sums there and back, but for the products of two roots. -/
theorem exact_back {l m : Nat} (hl : l ≤ 12) (hm : m < 2 ^ l) (X : Nat → Int × Int) :
    csum (2 ^ l) (fun k => csum (2 ^ l) (fun j => gm (X j) (vz (4095 * (j * k) * 2 ^ (12 - l) + 1 * (k * m) * 2 ^ (12 - l))))) = sm ((2 ^ l : Nat) : Int) (sm 18446744073709551616 (X m)) := by
  rw [csum_swap]
  have e : ∀ j, j < 2 ^ l → csum (2 ^ l) (fun k => gm (X j) (vz (4095 * (j * k) * 2 ^ (12 - l) + 1 * (k * m) * 2 ^ (12 - l)))) = gm (X j) (csum (2 ^ l) (fun k => vz ((4095 * j + m) * k * 2 ^ (12 - l)))) := by
    intro j _
    rw [csum_gm]
    refine csum_congr fun k _ => ?_
    have : 4095 * (j * k) * 2 ^ (12 - l) + 1 * (k * m) * 2 ^ (12 - l) = (4095 * j + m) * k * 2 ^ (12 - l) := by
      generalize 2 ^ (12 - l) = P
      grind
    rw [this]
  rw [csum_congr e, csum_single hm]
  · rw [orth_one hl _ ((place_same hl hm hm).2 rfl)]
    refine Prod.ext ?_ ?_
    · simp only [gm, sm]; generalize ((2 ^ l : Nat) : Int) = Q; grind
    · simp only [gm, sm]; generalize ((2 ^ l : Nat) : Int) = Q; grind
  · intro j hj hne
    rw [orth hl _ (fun c => hne ((place_same hl hj hm).1 c)), gm_zero]

theorem gm_assoc (a b c : Int × Int) : gm (gm a b) c = gm a (gm b c) := by
  refine Prod.ext ?_ ?_
  · simp only [gm]; grind
  · simp only [gm]; grind
theorem gm_csum (n : Nat) (f : Nat → Int × Int) (w : Int × Int) : gm (csum n f) w = csum n (fun j => gm (f j) w) := by
  induction n with
  | zero =>
    refine Prod.ext ?_ ?_
    · simp [gm, csum]
    · simp [gm, csum]
  | succ n ih =>
    show gm (ca (csum n f) (f n)) w = ca (csum n (fun j => gm (f j) w)) (gm (f n) w)
    rw [← ih]
    refine Prod.ext ?_ ?_
    · simp only [gm, ca]; grind
    · simp only [gm, ca]; grind

/-- The way back of the exact transform is near to the list, 2^l times as great. -/
theorem dsum_back {l m B : Nat} (hl : l ≤ 12) (hm : m < 2 ^ l) {X : Nat → Int × Int} (hX : ∀ j, j < 2 ^ l → N2 (X j) B) :
    N2 (cs (dsum l 1 (fun k => dsum l 4095 X k) m) (sm 18446744073709551616 (sm ((2 ^ l : Nat) : Int) (sm 18446744073709551616 (X m))))) (2 ^ l * (2 ^ l * (B * 2720083094132915643088896))) := by
  rw [← exact_back hl hm X, csum_sm]
  unfold dsum
  rw [csum_cs]
  refine n2_csum fun k _ => ?_
  rw [gm_csum, csum_sm, csum_cs]
  refine n2_csum fun j hj => ?_
  rw [gm_assoc, ← gm_sm, ← gm_cs]
  exact n2_mul (hX j hj) (near2_all _ _)

theorem identB (Z : Int × Int) (D1 D2 X : Int × Int) (M q : Int) :
    sm (M * M) (cs Z (sm q X)) = ca (ca (sm M (cs (sm M Z) D1)) (cs (sm M D1) D2)) (cs D2 (sm M (sm q (sm M X)))) := by
  refine Prod.ext ?_ ?_
  · simp only [sm, cs, ca]; grind
  · simp only [sm, cs, ca]; grind

theorem dsum_err {l c m e : Nat} {Y S : Nat → Int × Int} (h : ∀ k, k < 2 ^ l → N2 (cs (sm 18446744073709551616 (Y k)) (S k)) e) : N2 (cs (sm 18446744073709551616 (dsum l c Y m)) (dsum l c S m)) (2 ^ l * (e * 18446744073709559808)) := by
  unfold dsum
  rw [csum_sm, csum_cs]
  refine n2_csum fun k hk => ?_
  have e1 : cs (sm 18446744073709551616 (gm (Y k) (vz (c * (k * m) * 2 ^ (12 - l))))) (gm (S k) (vz (c * (k * m) * 2 ^ (12 - l)))) = gm (cs (sm 18446744073709551616 (Y k)) (S k)) (vz (c * (k * m) * 2 ^ (12 - l))) := by
    refine Prod.ext ?_ ?_
    · simp only [gm, cs, sm]; grind
    · simp only [gm, cs, sm]; grind
  rw [e1]
  exact n2_mul (h k hk) (n2_vz _)

/-- The budget of there and back; P: 2^l, R: 2 to the b. -/
theorem budget2 {l P R : Nat} (hl : l ≤ 12) (hP : P ≤ 4096) :
    18446744073709551616 * (l * (131072 * (P * (2 * (P * R))))) + P * (l * (131072 * (P * R)) * 18446744073709559808) + P * (P * (R * 2720083094132915643088896)) ≤ 18446744073709551616 * 18446744073709551616 * (P * R * 5) / 4294967296 := by
  have h1 : l * (131072 * (P * (2 * (P * R)))) ≤ 12884901888 * (P * R) := by
    have e : l * (131072 * (P * (2 * (P * R)))) = l * P * (262144 * (P * R)) := by generalize P * R = Q; grind
    rw [e]
    have h2 : l * P ≤ 12 * 4096 := Nat.mul_le_mul hl hP
    have h3 := Nat.mul_le_mul_right (262144 * (P * R)) h2
    omega
  have h2 : P * (l * (131072 * (P * R)) * 18446744073709559808) ≤ 6442450944 * (P * R) * 18446744073709559808 := by
    have e : P * (l * (131072 * (P * R)) * 18446744073709559808) = l * P * (131072 * (P * R)) * 18446744073709559808 := by generalize P * R = Q; grind
    rw [e]
    have h2 : l * P ≤ 12 * 4096 := Nat.mul_le_mul hl hP
    have h3 := Nat.mul_le_mul_right (131072 * (P * R)) h2
    have h4 : l * P * (131072 * (P * R)) ≤ 6442450944 * (P * R) := by omega
    exact Nat.mul_le_mul_right _ h4
  have h3 : P * (P * (R * 2720083094132915643088896)) ≤ 4096 * (P * R * 2720083094132915643088896) := by
    rw [← Nat.mul_assoc P R]
    exact Nat.mul_le_mul_right _ hP
  generalize P * R = Q at *
  omega
end Go.Proofs.Ytgbffbikieikdaa
