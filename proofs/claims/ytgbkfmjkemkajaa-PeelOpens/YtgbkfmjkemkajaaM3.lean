/- Sets of cells of which no line of some directions has just one: how wide they are. Pure. Directions by their angle; rows and columns exchanged: a set without a line of one is wider than the directions' steps together. Pure. Which cells stay open: the greatest set of cells of which no line has just one. Pure. -/
import Derived.Test.YtgbkfmjkemkajaaM2
namespace Go.Proofs.Ytgbkfmjkemkajaa

def crs (e d : Int × Int) : Int := e.1 * d.2 - e.2 * d.1

theorem crs_sub (p q d : Int × Int) : crs q d - crs p d = (q.1 - p.1) * d.2 - (q.2 - p.2) * d.1 := by
  unfold crs
  rw [Int.sub_mul, Int.sub_mul]
  omega

/-- On every line along the directions that has one of its cells it has another. -/
def Stab (S : Int × Int → Prop) (L : List (Int × Int)) : Prop := ∀ d, d ∈ L → ∀ p, S p → ∃ q, S q ∧ q ≠ p ∧ crs q d = crs p d
def Face (S : Int × Int → Prop) (d p : Int × Int) : Prop := S p ∧ ∀ q, S q → crs q d ≤ crs p d

theorem exists_max {S : Int × Int → Prop} {f : Int × Int → Int} {B : Int} (hB : ∀ p, S p → f p ≤ B) (hS : ∃ p, S p) : ∃ p, S p ∧ ∀ q, S q → f q ≤ f p := by
  have key : ∀ (k : Nat) (p : Int × Int), S p → (B - f p).toNat ≤ k → ∃ p, S p ∧ ∀ q, S q → f q ≤ f p := by
    intro k
    induction k with
    | zero =>
      intro p hp hk
      have := hB p hp
      exact ⟨p, hp, fun q hq => by have := hB q hq; omega⟩
    | succ k ih =>
      intro p hp hk
      by_cases c : ∃ q, S q ∧ f p < f q
      · obtain ⟨q, hq, hlt⟩ := c
        exact ih q hq (by have := hB q hq; have := hB p hp; omega)
      · refine ⟨p, hp, fun q hq => ?_⟩
        by_cases d : f p < f q
        · exact absurd ⟨q, hq, d⟩ c
        · omega
  obtain ⟨p, hp⟩ := hS
  exact key _ p hp (Nat.le_refl _)

theorem abs_dvd {P Q : Int} (hg : Nat.gcd P.natAbs Q.natAbs = 1) {x y : Int} (h : x * Q = y * P) (h0 : y ≠ 0) : Q.natAbs ≤ y.natAbs := by
  have h1 : Q.natAbs ∣ y.natAbs * P.natAbs := by
    rw [← Int.natAbs_mul, ← h, Int.natAbs_mul]
    exact ⟨x.natAbs, Nat.mul_comm _ _⟩
  have hc : Nat.Coprime Q.natAbs P.natAbs := by
    unfold Nat.Coprime
    rw [Nat.gcd_comm]
    exact hg
  have h2 := Nat.Coprime.dvd_of_dvd_mul_right hc h1
  exact Nat.le_of_dvd (by omega) h2

/-- The outermost line along a direction has two cells, as far apart as the direction's rise. -/
theorem two_on {S : Int × Int → Prop} {L : List (Int × Int)} (hS : Stab S L) {d : Int × Int} (hd : d ∈ L) (ho : okD d.1 d.2 = true) {B : Int} (hB : ∀ p, S p → crs p d ≤ B) (hne : ∃ p, S p) :
    ∃ u v, Face S d u ∧ Face S d v ∧ u.2 + d.2 ≤ v.2 := by
  obtain ⟨p, hp, hm⟩ := exists_max hB hne
  obtain ⟨q, hq, hqp, he⟩ := hS d hd p hp
  have hq' : Face S d q := ⟨hq, fun r hr => by rw [he]; exact hm r hr⟩
  have hp' : Face S d p := ⟨hp, hm⟩
  have hb := okD_bounds ho
  have hg : Nat.gcd d.1.natAbs d.2.natAbs = 1 := by
    unfold okD at ho
    simp only [decide_eq_true_eq] at ho
    exact ho.2.2.2.1
  have hz : (q.1 - p.1) * d.2 = (q.2 - p.2) * d.1 := by
    have := crs_sub p q d
    omega
  by_cases c : q.2 - p.2 = 0
  · rw [c, Int.zero_mul] at hz
    have hx : q.1 - p.1 ≠ 0 := by
      intro e
      exact hqp (Prod.ext (by omega) (by omega))
    have h0 : d.2 = 0 := by
      rcases Int.mul_eq_zero.1 hz with e | e
      · exact absurd e hx
      · exact e
    exact ⟨p, p, hp', hp', by omega⟩
  · have h1 := abs_dvd hg hz c
    by_cases e : 0 < q.2 - p.2
    · exact ⟨p, q, hp', hq', by omega⟩
    · exact ⟨q, p, hq', hp', by omega⟩

theorem cone {S : Int × Int → Prop} {d e p q : Int × Int} (hp : Face S d p) (hq : Face S e q) (hde : 0 < crs d e) (h1 : 0 ≤ d.2) (h2 : 0 ≤ e.2) : p.2 ≤ q.2 := by
  have a1 := crs_sub p q d
  have a2 := crs_sub p q e
  have b1 := hp.2 q hq.1
  have b2 := hq.2 p hp.1
  have c1 : ((q.1 - p.1) * d.2 - (q.2 - p.2) * d.1) * e.2 ≤ 0 * e.2 := Int.mul_le_mul_of_nonneg_right (by omega) h2
  have c2 : 0 * d.2 ≤ ((q.1 - p.1) * e.2 - (q.2 - p.2) * e.1) * d.2 := Int.mul_le_mul_of_nonneg_right (by omega) h1
  generalize q.1 - p.1 = x at *
  have hy : ∃ y, q.2 - p.2 = y := ⟨_, rfl⟩
  obtain ⟨y, hy⟩ := hy
  rw [hy] at c1 c2
  unfold crs at hde
  have key : 0 ≤ y * (d.1 * e.2 - d.2 * e.1) := by
    have e1 : (x * d.2 - y * d.1) * e.2 = x * d.2 * e.2 - y * (d.1 * e.2) := by rw [Int.sub_mul, Int.mul_assoc y]
    have e2 : (x * e.2 - y * e.1) * d.2 = x * d.2 * e.2 - y * (d.2 * e.1) := by
      rw [Int.sub_mul, Int.mul_assoc y, Int.mul_comm e.1, Int.mul_right_comm]
    rw [e1, Int.zero_mul] at c1
    rw [e2, Int.zero_mul] at c2
    rw [Int.mul_sub]
    omega
  by_cases c : 0 ≤ y
  · omega
  · exfalso
    have : y * (d.1 * e.2 - d.2 * e.1) < 0 := Int.mul_neg_of_neg_of_pos (by omega) hde
    omega

/-- Directions by their angle. -/
def Turned (L : List (Int × Int)) : Prop := L.Pairwise fun d e => 0 < crs d e

theorem chain {S : Int × Int → Prop} {B : Int → Int → Int} {M : List (Int × Int)} (hS : Stab S M) (ho : ∀ d, d ∈ M → okD d.1 d.2 = true) (hB : ∀ d p, S p → crs p d ≤ B d.1 d.2) (hne : ∃ p, S p) :
    ∀ (L : List (Int × Int)), (∀ d, d ∈ L → d ∈ M) → Turned L → ∀ d v, d ∈ M → Face S d v → (∀ e, e ∈ L → 0 < crs d e) → ∃ q, S q ∧ v.2 + sumQ L ≤ q.2 := by
  intro L
  induction L with
  | nil =>
    intro _ _ d v _ hv _
    exact ⟨v, hv.1, by show v.2 + 0 ≤ v.2; omega⟩
  | cons e L ih =>
    intro hsub hT d v hdM hv hde
    have heM := hsub e (List.mem_cons_self ..)
    obtain ⟨u', v', hu, hv', hr⟩ := two_on hS heM (ho e heM) (fun p hp => hB e p hp) hne
    have hT' := List.pairwise_cons.1 hT
    obtain ⟨q, hq, hle⟩ := ih (fun x hx => hsub x (List.mem_cons_of_mem _ hx)) hT'.2 e v' heM hv' hT'.1
    have hc := cone hv hu (hde e (List.mem_cons_self ..)) (okD_bounds (ho d hdM)).2.1 (okD_bounds (ho e heM)).2.1
    refine ⟨q, hq, ?_⟩
    show v.2 + (e.2 + sumQ L) ≤ q.2
    omega

theorem high {S : Int × Int → Prop} {L : List (Int × Int)} {n : Int} (hS : Stab S L) (ho : ∀ d, d ∈ L → okD d.1 d.2 = true) (hT : Turned L) (hb : ∀ p, S p → 0 ≤ p.1 ∧ p.1 < n ∧ 0 ≤ p.2 ∧ p.2 < n) (hne : ∃ p, S p) : sumQ L < n := by
  have hB : ∀ d p, S p → crs p d ≤ n * (d.2.natAbs : Int) + n * (d.1.natAbs : Int) := by
    intro d p hp
    obtain ⟨h1, h2, h3, h4⟩ := hb p hp
    unfold crs
    have a1 : p.1 * d.2 ≤ n * (d.2.natAbs : Int) := by
      have x1 : p.1 * d.2 ≤ p.1 * (d.2.natAbs : Int) := Int.mul_le_mul_of_nonneg_left (by omega) h1
      have x2 : p.1 * (d.2.natAbs : Int) ≤ n * (d.2.natAbs : Int) := Int.mul_le_mul_of_nonneg_right (by omega) (by omega)
      omega
    have a2 : -(p.2 * d.1) ≤ n * (d.1.natAbs : Int) := by
      have x1 : p.2 * (-d.1) ≤ p.2 * (d.1.natAbs : Int) := Int.mul_le_mul_of_nonneg_left (by omega) h3
      have x2 : p.2 * (d.1.natAbs : Int) ≤ n * (d.1.natAbs : Int) := Int.mul_le_mul_of_nonneg_right (by omega) (by omega)
      rw [Int.mul_neg] at x1
      omega
    omega
  cases L with
  | nil =>
    obtain ⟨p, hp⟩ := hne
    have := hb p hp
    show (0 : Int) < n
    omega
  | cons d L =>
    have hdM : d ∈ d :: L := List.mem_cons_self ..
    obtain ⟨u, v, hu, hv, hr⟩ := two_on hS hdM (ho d hdM) (fun p hp => hB d p hp) hne
    have hT' := List.pairwise_cons.1 hT
    obtain ⟨q, hq, hle⟩ := chain (B := fun P Q => n * (Q.natAbs : Int) + n * (P.natAbs : Int)) hS ho hB hne L (fun x hx => List.mem_cons_of_mem _ hx) hT'.2 d v hdM hv hT'.1
    have h1 := hb u hu.1
    have h2 := hb q hq
    show d.2 + sumQ L < n
    omega
end Go.Proofs.Ytgbkfmjkemkajaa

namespace Go.Proofs.Ytgbkfmjkemkajaa

theorem okD_gcd {P Q : Int} (h : okD P Q = true) : Nat.gcd P.natAbs Q.natAbs = 1 ∧ (Q = 0 → P = 1) := by
  unfold okD at h
  simp only [decide_eq_true_eq] at h
  exact h.2.2.2

theorem crs_zero {d e : Int × Int} (hd : okD d.1 d.2 = true) (he : okD e.1 e.2 = true) (h : crs d e = 0) : d = e := by
  have bd := okD_bounds hd
  have be := okD_bounds he
  have gd := okD_gcd hd
  have ge := okD_gcd he
  unfold crs at h
  by_cases c1 : d.2 = 0
  · have p1 := gd.2 c1
    rw [c1, p1, Int.zero_mul, Int.one_mul] at h
    have q2 : e.2 = 0 := by omega
    have p2 := ge.2 q2
    exact Prod.ext (by rw [p1, p2]) (by rw [c1, q2])
  · by_cases c2 : e.2 = 0
    · have p2 := ge.2 c2
      rw [c2, p2, Int.mul_zero, Int.mul_one] at h
      omega
    · have a1 := abs_dvd gd.1 (x := e.1) (y := e.2) (by rw [Int.mul_comm e.1, Int.mul_comm e.2]; omega) c2
      have a2 := abs_dvd ge.1 (x := d.1) (y := d.2) (by omega) c1
      have hq : d.2 = e.2 := by omega
      have hp : (d.1 - e.1) * e.2 = 0 := by
        rw [Int.sub_mul]
        rw [hq, Int.mul_comm e.2] at h
        omega
      have : d.1 - e.1 = 0 := by
        rcases Int.mul_eq_zero.1 hp with x | x
        · exact x
        · exact absurd x c2
      exact Prod.ext (by omega) hq

theorem crs_anti (d e : Int × Int) : crs e d = -crs d e := by
  unfold crs
  rw [Int.mul_comm e.1, Int.mul_comm e.2]
  omega

theorem crs_trans {d e f : Int × Int} (hd : okD d.1 d.2 = true) (he : okD e.1 e.2 = true) (hf : okD f.1 f.2 = true) (h1 : 0 < crs d e) (h2 : 0 < crs e f) : 0 < crs d f := by
  have bd := okD_bounds hd
  have be := okD_bounds he
  have bf := okD_bounds hf
  have gd := okD_gcd hd
  have ge := okD_gcd he
  have gf := okD_gcd hf
  have id : e.2 * crs d f = d.2 * crs e f + f.2 * crs d e := by
    unfold crs
    grind
  by_cases c : e.2 = 0
  · exfalso
    have p := ge.2 c
    unfold crs at h1
    rw [c, p, Int.mul_zero, Int.mul_one] at h1
    omega
  · have x1 : 0 ≤ d.2 * crs e f := Int.mul_nonneg bd.2.1 (by omega)
    have x2 : 0 ≤ f.2 * crs d e := Int.mul_nonneg bf.2.1 (by omega)
    by_cases c1 : d.2 = 0
    · by_cases c2 : f.2 = 0
      · exfalso
        have p1 := gf.2 c2
        unfold crs at h2
        rw [c2, p1, Int.mul_zero, Int.mul_one] at h2
        omega
      · have x3 : 0 < f.2 * crs d e := Int.mul_pos (by omega) h1
        by_cases h : 0 < crs d f
        · exact h
        · exfalso
          have : e.2 * crs d f ≤ e.2 * 0 := Int.mul_le_mul_of_nonneg_left (by omega) be.2.1
          rw [Int.mul_zero] at this
          omega
    · have x3 : 0 < d.2 * crs e f := Int.mul_pos (by omega) h2
      by_cases h : 0 < crs d f
      · exact h
      · exfalso
        have : e.2 * crs d f ≤ e.2 * 0 := Int.mul_le_mul_of_nonneg_left (by omega) be.2.1
        rw [Int.mul_zero] at this
        omega

def insT (d : Int × Int) : List (Int × Int) → List (Int × Int)
  | [] => [d]
  | e :: L => if 0 < crs d e then d :: e :: L else e :: insT d L
def srtT : List (Int × Int) → List (Int × Int)
  | [] => []
  | d :: L => insT d (srtT L)

theorem mem_insT {d x : Int × Int} {L : List (Int × Int)} : x ∈ insT d L ↔ x = d ∨ x ∈ L := by
  induction L with
  | nil => simp [insT]
  | cons e L ih =>
    unfold insT
    split
    · simp
    · rw [List.mem_cons, ih, List.mem_cons]
      constructor
      · rintro (h | h | h)
        · exact Or.inr (Or.inl h)
        · exact Or.inl h
        · exact Or.inr (Or.inr h)
      · rintro (h | h | h)
        · exact Or.inr (Or.inl h)
        · exact Or.inl h
        · exact Or.inr (Or.inr h)

theorem mem_srtT {x : Int × Int} {L : List (Int × Int)} : x ∈ srtT L ↔ x ∈ L := by
  induction L with
  | nil => simp [srtT]
  | cons d L ih =>
    show x ∈ insT d (srtT L) ↔ _
    rw [mem_insT, ih, List.mem_cons]

theorem sumQ_insT (d : Int × Int) (L : List (Int × Int)) : sumQ (insT d L) = d.2 + sumQ L := by
  induction L with
  | nil => rfl
  | cons e L ih =>
    unfold insT
    split
    · rfl
    · show e.2 + sumQ (insT d L) = d.2 + (e.2 + sumQ L)
      rw [ih]
      omega

theorem sumQ_srtT (L : List (Int × Int)) : sumQ (srtT L) = sumQ L := by
  induction L with
  | nil => rfl
  | cons d L ih =>
    show sumQ (insT d (srtT L)) = d.2 + sumQ L
    rw [sumQ_insT, ih]

theorem turned_insT {d : Int × Int} {L : List (Int × Int)} (hd : okD d.1 d.2 = true) (hL : ∀ e, e ∈ L → okD e.1 e.2 = true) (hn : ¬ d ∈ L) (hT : Turned L) : Turned (insT d L) := by
  induction L with
  | nil => exact List.pairwise_singleton _ _
  | cons e L ih =>
    have hT' := List.pairwise_cons.1 hT
    have he := hL e (List.mem_cons_self ..)
    unfold insT
    split
    · rename_i h
      refine List.pairwise_cons.2 ⟨fun f hf => ?_, hT⟩
      rcases List.mem_cons.1 hf with rfl | hf'
      · exact h
      · exact crs_trans hd he (hL f hf) h (hT'.1 f hf')
    · rename_i h
      refine List.pairwise_cons.2 ⟨fun f hf => ?_, ih (fun x hx => hL x (List.mem_cons_of_mem _ hx)) (fun hx => hn (List.mem_cons_of_mem _ hx)) hT'.2⟩
      rcases mem_insT.1 hf with rfl | hf'
      · have h0 : crs f e ≠ 0 := fun z => hn (by rw [crs_zero hd he z]; exact List.mem_cons_self ..)
        rw [crs_anti f e]
        omega
      · exact hT'.1 f hf'

theorem turned_srtT {L : List (Int × Int)} (hL : ∀ e, e ∈ L → okD e.1 e.2 = true) (hn : L.Nodup) : Turned (srtT L) := by
  induction L with
  | nil => exact List.Pairwise.nil
  | cons d L ih =>
    have hn' := List.nodup_cons.1 hn
    exact turned_insT (hL d (List.mem_cons_self ..)) (fun e he => hL e (List.mem_cons_of_mem _ (mem_srtT.1 he))) (fun h => hn'.1 (mem_srtT.1 h)) (ih (fun e he => hL e (List.mem_cons_of_mem _ he)) hn'.2)

theorem high_all {S : Int × Int → Prop} {L : List (Int × Int)} {n : Int} (hS : Stab S L) (ho : ∀ d, d ∈ L → okD d.1 d.2 = true) (hn : L.Nodup) (hb : ∀ p, S p → 0 ≤ p.1 ∧ p.1 < n ∧ 0 ≤ p.2 ∧ p.2 < n) (hne : ∃ p, S p) : sumQ L < n := by
  rw [← sumQ_srtT]
  exact high (S := S) (fun d hd => hS d (mem_srtT.1 hd)) (fun d hd => ho d (mem_srtT.1 hd)) (turned_srtT ho hn) hb hne

/-- A direction with rows and columns exchanged. -/
def swD (d : Int × Int) : Int × Int := if d.1 < 0 then (-d.2, -d.1) else (d.2, d.1)

theorem swD_ok {d : Int × Int} (h : okD d.1 d.2 = true) : okD (swD d).1 (swD d).2 = true := by
  have b := okD_bounds h
  have g := okD_gcd h
  unfold swD okD
  rw [decide_eq_true_eq]
  by_cases c : d.1 < 0
  · rw [if_pos c]
    dsimp only
    refine ⟨by omega, by omega, by omega, ?_, by omega⟩
    rw [Int.natAbs_neg, Int.natAbs_neg, Nat.gcd_comm]
    exact g.1
  · rw [if_neg c]
    dsimp only
    refine ⟨by omega, by omega, by omega, ?_, fun e => ?_⟩
    · rw [Nat.gcd_comm]
      exact g.1
    · have g1 := g.1
      rw [e] at g1
      have : Nat.gcd (0 : Int).natAbs d.2.natAbs = d.2.natAbs := Nat.gcd_zero_left _
      omega

theorem swD_inj {d e : Int × Int} (hd : okD d.1 d.2 = true) (he : okD e.1 e.2 = true) (h : swD d = swD e) : d = e := by
  have bd := okD_bounds hd
  have be := okD_bounds he
  have gd := okD_gcd hd
  have ge := okD_gcd he
  unfold swD at h
  by_cases c1 : d.1 < 0
  · rw [if_pos c1] at h
    by_cases c2 : e.1 < 0
    · rw [if_pos c2] at h
      have h1 := congrArg Prod.fst h
      have h2 := congrArg Prod.snd h
      dsimp only at h1 h2
      exact Prod.ext (by omega) (by omega)
    · rw [if_neg c2] at h
      have h1 := congrArg Prod.fst h
      have h2 := congrArg Prod.snd h
      dsimp only at h1 h2
      exfalso
      have q : d.2 = 0 := by omega
      have := gd.2 q
      omega
  · rw [if_neg c1] at h
    by_cases c2 : e.1 < 0
    · rw [if_pos c2] at h
      have h1 := congrArg Prod.fst h
      have h2 := congrArg Prod.snd h
      dsimp only at h1 h2
      exfalso
      have q : e.2 = 0 := by omega
      have := ge.2 q
      omega
    · rw [if_neg c2] at h
      have h1 := congrArg Prod.fst h
      have h2 := congrArg Prod.snd h
      dsimp only at h1 h2
      exact Prod.ext (by omega) (by omega)

theorem swD_nodup {L : List (Int × Int)} (ho : ∀ d, d ∈ L → okD d.1 d.2 = true) (hn : L.Nodup) : (L.map swD).Nodup := by
  induction L with
  | nil => exact List.nodup_nil
  | cons d L ih =>
    have hn' := List.nodup_cons.1 hn
    rw [List.map_cons]
    refine List.nodup_cons.2 ⟨fun h => ?_, ih (fun e he => ho e (List.mem_cons_of_mem _ he)) hn'.2⟩
    obtain ⟨e, he, hs⟩ := List.mem_map.1 h
    have := swD_inj (ho e (List.mem_cons_of_mem _ he)) (ho d (List.mem_cons_self ..)) hs
    exact hn'.1 (by rw [← this]; exact he)

theorem sumQ_swD {L : List (Int × Int)} : sumQ (L.map swD) = sumP L := by
  induction L with
  | nil => rfl
  | cons d L ih =>
    show (swD d).2 + sumQ (L.map swD) = (d.1.natAbs : Int) + sumP L
    rw [ih]
    unfold swD
    split
    · dsimp only; omega
    · dsimp only; omega

theorem crs_swD (p q d : Int × Int) (h : crs q d = crs p d) : crs (q.2, q.1) (swD d) = crs (p.2, p.1) (swD d) := by
  unfold crs swD at *
  split
  · dsimp only
    rw [Int.mul_neg, Int.mul_neg, Int.mul_neg, Int.mul_neg]
    omega
  · dsimp only
    omega

/-- Where directions determine every grid there is no such set. -/
theorem katz_none {S : Int × Int → Prop} {L : List (Int × Int)} {n : Int} (hS : Stab S L) (ho : ∀ d, d ∈ L → okD d.1 d.2 = true) (hn : L.Nodup) (hb : ∀ p, S p → 0 ≤ p.1 ∧ p.1 < n ∧ 0 ≤ p.2 ∧ p.2 < n) (hne : ∃ p, S p) :
    sumP L < n ∧ sumQ L < n := by
  refine ⟨?_, high_all hS ho hn hb hne⟩
  rw [← sumQ_swD]
  refine high_all (S := fun p => S (p.2, p.1)) (fun e he p hp => ?_) (fun e he => ?_) (swD_nodup ho hn) (fun p hp => ?_) ?_
  · obtain ⟨d, hd, rfl⟩ := List.mem_map.1 he
    obtain ⟨q, hq, hne', hc⟩ := hS d hd _ hp
    refine ⟨(q.2, q.1), hq, fun e => hne' ?_, ?_⟩
    · have h1 := congrArg Prod.fst e
      have h2 := congrArg Prod.snd e
      exact Prod.ext h2 h1
    · exact crs_swD (p.2, p.1) q d hc
  · obtain ⟨d, hd, rfl⟩ := List.mem_map.1 he
    exact swD_ok (ho d hd)
  · have := hb _ hp
    dsimp only at this
    omega
  · obtain ⟨p, hp⟩ := hne
    exact ⟨(p.2, p.1), hp⟩
end Go.Proofs.Ytgbkfmjkemkajaa

namespace Go.Proofs.Ytgbkfmjkemkajaa

/-- The line of a cell, but for a constant. -/
def lnO (n : Nat) (d : Int × Int) (i : Nat) : Int := d.2 * ((i % n : Nat) : Int) - d.1 * ((i / n : Nat) : Int)

/-- Of no line just one. -/
def StabB (n : Nat) (L : List (Int × Int)) (T : Nat → Prop) : Prop := ∀ d, d ∈ L → ∀ i, i < n * n → T i → ∃ j, j < n * n ∧ T j ∧ j ≠ i ∧ lnO n d j = lnO n d i

/-- What stays open: such a set, and the greatest. -/
structure Final (n : Nat) (L : List (Int × Int)) (b : Nat → Bool) : Prop where
  stab : StabB n L (fun i => b i = true)
  most : ∀ T, StabB n L T → ∀ i, i < n * n → T i → b i = true

theorem stab_less {n : Nat} {L L' : List (Int × Int)} (h : ∀ d, d ∈ L' → d ∈ L) {T : Nat → Prop} (hT : StabB n L T) : StabB n L' T := fun d hd => hT d (h d hd)

/-- More directions: no more cells. -/
theorem final_less {n : Nat} {L L' : List (Int × Int)} {b b' : Nat → Bool} (hb : Final n L b) (hb' : Final n L' b') (h : ∀ d, d ∈ L' → d ∈ L) (i : Nat) (hi : i < n * n) (hi' : b i = true) : b' i = true :=
  hb'.most _ (stab_less h hb.stab) i hi hi'

theorem final_same {n : Nat} {L L' : List (Int × Int)} {b b' : Nat → Bool} (hb : Final n L b) (hb' : Final n L' b') (h : ∀ d, d ∈ L ↔ d ∈ L') (i : Nat) (hi : i < n * n) : b i = b' i := by
  cases h1 : b i
  · cases h2 : b' i
    · rfl
    · have := final_less hb' hb (fun d hd => (h d).1 hd) i hi h2
      rw [h1] at this
      cases this
  · have := final_less hb hb' (fun d hd => (h d).2 hd) i hi h1
    rw [this]

theorem final_katz {n : Nat} {L : List (Int × Int)} {b : Nat → Bool} (hn : 1 ≤ n) (hb : Final n L b) (ho : ∀ d, d ∈ L → okD d.1 d.2 = true) (hd : L.Nodup) (hk : (n : Int) ≤ sumP L ∨ (n : Int) ≤ sumQ L) (i : Nat) (hi : i < n * n) : b i = false := by
  cases h : b i
  · rfl
  · exfalso
    have k := katz_none (S := fun p => ∃ j, j < n * n ∧ b j = true ∧ p = (((j % n : Nat) : Int), ((j / n : Nat) : Int))) (L := L) (n := n) (fun d hd' p hp => ?_) ho hd (fun p hp => ?_) ⟨_, i, hi, h, rfl⟩
    · omega
    · obtain ⟨j, hj, hbj, rfl⟩ := hp
      obtain ⟨k, hk1, hk2, hk3, hk4⟩ := hb.stab d hd' j hj hbj
      refine ⟨_, ⟨k, hk1, hk2, rfl⟩, fun e => hk3 ?_, ?_⟩
      · have h1 := congrArg Prod.fst e
        have h2 := congrArg Prod.snd e
        dsimp only at h1 h2
        have e1 := Nat.div_add_mod k n
        have e2 := Nat.div_add_mod j n
        have m1 : k % n = j % n := by omega
        have m2 : k / n = j / n := by omega
        rw [m1, m2] at e1
        omega
      · unfold lnO at hk4
        unfold crs
        dsimp only
        rw [Int.mul_comm _ d.2, Int.mul_comm _ d.2, Int.mul_comm _ d.1, Int.mul_comm _ d.1]
        exact hk4
    · obtain ⟨j, hj, _, rfl⟩ := hp
      have h1 : j % n < n := Nat.mod_lt _ (by omega)
      have h2 : j / n < n := (Nat.div_lt_iff_lt_mul (by omega)).2 hj
      exact ⟨Int.natCast_nonneg _, by dsimp only; omega, Int.natCast_nonneg _, by dsimp only; omega⟩

/-- Peeling: what is open holds every such set. -/
def Holds (n : Nat) (L : List (Int × Int)) (b : Nat → Bool) : Prop := ∀ T, StabB n L T → ∀ i, i < n * n → T i → b i = true

theorem holds_all (n : Nat) (L : List (Int × Int)) : Holds n L (fun _ => true) := fun _ _ _ _ _ => rfl
/-- A cell that is its line's only open one may be closed. -/
theorem holds_close {n : Nat} {L : List (Int × Int)} {b : Nat → Bool} (h : Holds n L b) {d : Int × Int} (hd : d ∈ L) {c : Nat} (h1 : ∀ j, j < n * n → b j = true → lnO n d j = lnO n d c → j = c) : Holds n L (fun i => if i = c then false else b i) := by
  intro T hT i hi hTi
  by_cases e : i = c
  · exfalso
    subst e
    obtain ⟨j, hj, hTj, hne, hl⟩ := hT d hd i hi hTi
    exact hne (h1 j hj (h T hT j hj hTj) hl)
  · show (if i = c then false else b i) = true
    rw [if_neg e]
    exact h T hT i hi hTi
theorem holds_final {n : Nat} {L : List (Int × Int)} {b : Nat → Bool} (h : Holds n L b) (hs : StabB n L (fun i => b i = true)) : Final n L b := ⟨hs, h⟩

/-- How many are open among the first k. -/
def cntB (b : Nat → Bool) : Nat → Nat
  | 0 => 0
  | k + 1 => cntB b k + if b k = true then 1 else 0

theorem cnt_le (b : Nat → Bool) (k : Nat) : cntB b k ≤ k := by
  induction k with
  | zero => exact Nat.le_refl _
  | succ k ih =>
    show cntB b k + (if b k = true then 1 else 0) ≤ k + 1
    split <;> omega
theorem cnt_mono {b b' : Nat → Bool} {k : Nat} (h : ∀ i, i < k → b i = true → b' i = true) : cntB b k ≤ cntB b' k := by
  induction k with
  | zero => exact Nat.le_refl _
  | succ k ih =>
    have i1 := ih fun i hi => h i (by omega)
    show cntB b k + (if b k = true then 1 else 0) ≤ cntB b' k + (if b' k = true then 1 else 0)
    by_cases c : b k = true
    · rw [if_pos c, if_pos (h k (by omega) c)]
      omega
    · rw [if_neg c]
      split <;> omega
theorem cnt_same {b b' : Nat → Bool} {k : Nat} (h : ∀ i, i < k → b i = b' i) : cntB b k = cntB b' k :=
  Nat.le_antisymm (cnt_mono fun i hi e => by rw [← h i hi]; exact e) (cnt_mono fun i hi e => by rw [h i hi]; exact e)
theorem cnt_none {b : Nat → Bool} {k : Nat} (h : ∀ i, i < k → b i = false) : cntB b k = 0 := by
  induction k with
  | zero => rfl
  | succ k ih =>
    show cntB b k + (if b k = true then 1 else 0) = 0
    rw [ih fun i hi => h i (by omega), h k (by omega)]
    rfl
end Go.Proofs.Ytgbkfmjkemkajaa
