/- Sets of cells of which no line of some directions has just one: how wide they are. Pure. -/
import Derived.Test.YtgbkfmjkemkajabDQ
namespace Go.Proofs.Ytgbkfmjkemkajab

def crs (e d : Int × Int) : Int := e.1 * d.2 - e.2 * d.1

theorem crs_sub (p q d : Int × Int) : crs q d - crs p d = (q.1 - p.1) * d.2 - (q.2 - p.2) * d.1 := by
  unfold crs
  rw [Int.sub_mul, Int.sub_mul]
  omega

/-- On every line along the directions that has one of its cells it has another. -/
def Stab (S : Int × Int → Prop) (L : List (Int × Int)) : Prop := ∀ d, d ∈ L → ∀ p, S p → ∃ q, S q ∧ q ≠ p ∧ crs q d = crs p d
def Face (S : Int × Int → Prop) (d p : Int × Int) : Prop := S p ∧ ∀ q, S q → crs q d ≤ crs p d

theorem exists_max {S : Int × Int → Prop} {f : Int × Int → Int} {B : Int} (hB : ∀ p, S p → f p ≤ B) (hS : ∃ p, S p) : ∃ p, S p ∧ ∀ q, S q → f q ≤ f p := by
  have key : ∀ (k : Nat) (p : Int × Int), S p → (B - f p).toNat ≤ k → ∃ p, S p ∧ ∀ q, S q → f q ≤ f p := by
    intro k
    induction k with
    | zero =>
      intro p hp hk
      have := hB p hp
      exact ⟨p, hp, fun q hq => by have := hB q hq; omega⟩
    | succ k ih =>
      intro p hp hk
      by_cases c : ∃ q, S q ∧ f p < f q
      · obtain ⟨q, hq, hlt⟩ := c
        exact ih q hq (by have := hB q hq; have := hB p hp; omega)
      · refine ⟨p, hp, fun q hq => ?_⟩
        by_cases d : f p < f q
        · exact absurd ⟨q, hq, d⟩ c
        · omega
  obtain ⟨p, hp⟩ := hS
  exact key _ p hp (Nat.le_refl _)

theorem abs_dvd {P Q : Int} (hg : Nat.gcd P.natAbs Q.natAbs = 1) {x y : Int} (h : x * Q = y * P) (h0 : y ≠ 0) : Q.natAbs ≤ y.natAbs := by
  have h1 : Q.natAbs ∣ y.natAbs * P.natAbs := by
    rw [← Int.natAbs_mul, ← h, Int.natAbs_mul]
    exact ⟨x.natAbs, Nat.mul_comm _ _⟩
  have hc : Nat.Coprime Q.natAbs P.natAbs := by
    unfold Nat.Coprime
    rw [Nat.gcd_comm]
    exact hg
  have h2 := Nat.Coprime.dvd_of_dvd_mul_right hc h1
  exact Nat.le_of_dvd (by omega) h2

/-- The outermost line along a direction has two cells, as far apart as the direction's rise. -/
theorem two_on {S : Int × Int → Prop} {L : List (Int × Int)} (hS : Stab S L) {d : Int × Int} (hd : d ∈ L) (ho : okD d.1 d.2 = true) {B : Int} (hB : ∀ p, S p → crs p d ≤ B) (hne : ∃ p, S p) :
    ∃ u v, Face S d u ∧ Face S d v ∧ u.2 + d.2 ≤ v.2 := by
  obtain ⟨p, hp, hm⟩ := exists_max hB hne
  obtain ⟨q, hq, hqp, he⟩ := hS d hd p hp
  have hq' : Face S d q := ⟨hq, fun r hr => by rw [he]; exact hm r hr⟩
  have hp' : Face S d p := ⟨hp, hm⟩
  have hb := okD_bounds ho
  have hg : Nat.gcd d.1.natAbs d.2.natAbs = 1 := by
    unfold okD at ho
    simp only [decide_eq_true_eq] at ho
    exact ho.2.2.2.1
  have hz : (q.1 - p.1) * d.2 = (q.2 - p.2) * d.1 := by
    have := crs_sub p q d
    omega
  by_cases c : q.2 - p.2 = 0
  · rw [c, Int.zero_mul] at hz
    have hx : q.1 - p.1 ≠ 0 := by
      intro e
      exact hqp (Prod.ext (by omega) (by omega))
    have h0 : d.2 = 0 := by
      rcases Int.mul_eq_zero.1 hz with e | e
      · exact absurd e hx
      · exact e
    exact ⟨p, p, hp', hp', by omega⟩
  · have h1 := abs_dvd hg hz c
    by_cases e : 0 < q.2 - p.2
    · exact ⟨p, q, hp', hq', by omega⟩
    · exact ⟨q, p, hq', hp', by omega⟩

theorem cone {S : Int × Int → Prop} {d e p q : Int × Int} (hp : Face S d p) (hq : Face S e q) (hde : 0 < crs d e) (h1 : 0 ≤ d.2) (h2 : 0 ≤ e.2) : p.2 ≤ q.2 := by
  have a1 := crs_sub p q d
  have a2 := crs_sub p q e
  have b1 := hp.2 q hq.1
  have b2 := hq.2 p hp.1
  have c1 : ((q.1 - p.1) * d.2 - (q.2 - p.2) * d.1) * e.2 ≤ 0 * e.2 := Int.mul_le_mul_of_nonneg_right (by omega) h2
  have c2 : 0 * d.2 ≤ ((q.1 - p.1) * e.2 - (q.2 - p.2) * e.1) * d.2 := Int.mul_le_mul_of_nonneg_right (by omega) h1
  generalize q.1 - p.1 = x at *
  have hy : ∃ y, q.2 - p.2 = y := ⟨_, rfl⟩
  obtain ⟨y, hy⟩ := hy
  rw [hy] at c1 c2
  unfold crs at hde
  have key : 0 ≤ y * (d.1 * e.2 - d.2 * e.1) := by
    have e1 : (x * d.2 - y * d.1) * e.2 = x * d.2 * e.2 - y * (d.1 * e.2) := by rw [Int.sub_mul, Int.mul_assoc y]
    have e2 : (x * e.2 - y * e.1) * d.2 = x * d.2 * e.2 - y * (d.2 * e.1) := by
      rw [Int.sub_mul, Int.mul_assoc y, Int.mul_comm e.1, Int.mul_right_comm]
    rw [e1, Int.zero_mul] at c1
    rw [e2, Int.zero_mul] at c2
    rw [Int.mul_sub]
    omega
  by_cases c : 0 ≤ y
  · omega
  · exfalso
    have : y * (d.1 * e.2 - d.2 * e.1) < 0 := Int.mul_neg_of_neg_of_pos (by omega) hde
    omega

/-- Directions by their angle. -/
def Turned (L : List (Int × Int)) : Prop := L.Pairwise fun d e => 0 < crs d e

theorem chain {S : Int × Int → Prop} {B : Int → Int → Int} {M : List (Int × Int)} (hS : Stab S M) (ho : ∀ d, d ∈ M → okD d.1 d.2 = true) (hB : ∀ d p, S p → crs p d ≤ B d.1 d.2) (hne : ∃ p, S p) :
    ∀ (L : List (Int × Int)), (∀ d, d ∈ L → d ∈ M) → Turned L → ∀ d v, d ∈ M → Face S d v → (∀ e, e ∈ L → 0 < crs d e) → ∃ q, S q ∧ v.2 + sumQ L ≤ q.2 := by
  intro L
  induction L with
  | nil =>
    intro _ _ d v _ hv _
    exact ⟨v, hv.1, by show v.2 + 0 ≤ v.2; omega⟩
  | cons e L ih =>
    intro hsub hT d v hdM hv hde
    have heM := hsub e (List.mem_cons_self ..)
    obtain ⟨u', v', hu, hv', hr⟩ := two_on hS heM (ho e heM) (fun p hp => hB e p hp) hne
    have hT' := List.pairwise_cons.1 hT
    obtain ⟨q, hq, hle⟩ := ih (fun x hx => hsub x (List.mem_cons_of_mem _ hx)) hT'.2 e v' heM hv' hT'.1
    have hc := cone hv hu (hde e (List.mem_cons_self ..)) (okD_bounds (ho d hdM)).2.1 (okD_bounds (ho e heM)).2.1
    refine ⟨q, hq, ?_⟩
    show v.2 + (e.2 + sumQ L) ≤ q.2
    omega

theorem high {S : Int × Int → Prop} {L : List (Int × Int)} {n : Int} (hS : Stab S L) (ho : ∀ d, d ∈ L → okD d.1 d.2 = true) (hT : Turned L) (hb : ∀ p, S p → 0 ≤ p.1 ∧ p.1 < n ∧ 0 ≤ p.2 ∧ p.2 < n) (hne : ∃ p, S p) : sumQ L < n := by
  have hB : ∀ d p, S p → crs p d ≤ n * (d.2.natAbs : Int) + n * (d.1.natAbs : Int) := by
    intro d p hp
    obtain ⟨h1, h2, h3, h4⟩ := hb p hp
    unfold crs
    have a1 : p.1 * d.2 ≤ n * (d.2.natAbs : Int) := by
      have x1 : p.1 * d.2 ≤ p.1 * (d.2.natAbs : Int) := Int.mul_le_mul_of_nonneg_left (by omega) h1
      have x2 : p.1 * (d.2.natAbs : Int) ≤ n * (d.2.natAbs : Int) := Int.mul_le_mul_of_nonneg_right (by omega) (by omega)
      omega
    have a2 : -(p.2 * d.1) ≤ n * (d.1.natAbs : Int) := by
      have x1 : p.2 * (-d.1) ≤ p.2 * (d.1.natAbs : Int) := Int.mul_le_mul_of_nonneg_left (by omega) h3
      have x2 : p.2 * (d.1.natAbs : Int) ≤ n * (d.1.natAbs : Int) := Int.mul_le_mul_of_nonneg_right (by omega) (by omega)
      rw [Int.mul_neg] at x1
      omega
    omega
  cases L with
  | nil =>
    obtain ⟨p, hp⟩ := hne
    have := hb p hp
    show (0 : Int) < n
    omega
  | cons d L =>
    have hdM : d ∈ d :: L := List.mem_cons_self ..
    obtain ⟨u, v, hu, hv, hr⟩ := two_on hS hdM (ho d hdM) (fun p hp => hB d p hp) hne
    have hT' := List.pairwise_cons.1 hT
    obtain ⟨q, hq, hle⟩ := chain (B := fun P Q => n * (Q.natAbs : Int) + n * (P.natAbs : Int)) hS ho hB hne L (fun x hx => List.mem_cons_of_mem _ hx) hT'.2 d v hdM hv hT'.1
    have h1 := hb u hu.1
    have h2 := hb q hq
    show d.2 + sumQ L < n
    omega
end Go.Proofs.Ytgbkfmjkemkajab
