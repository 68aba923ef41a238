/- Directions by their angle; rows and columns exchanged: a set without a line of one is wider than the directions' steps together. Pure. -/
import Derived.Test.YtgbkfmjkemkajabPLA
namespace Go.Proofs.Ytgbkfmjkemkajab

theorem okD_gcd {P Q : Int} (h : okD P Q = true) : Nat.gcd P.natAbs Q.natAbs = 1 ∧ (Q = 0 → P = 1) := by
  unfold okD at h
  simp only [decide_eq_true_eq] at h
  exact h.2.2.2

theorem crs_zero {d e : Int × Int} (hd : okD d.1 d.2 = true) (he : okD e.1 e.2 = true) (h : crs d e = 0) : d = e := by
  have bd := okD_bounds hd
  have be := okD_bounds he
  have gd := okD_gcd hd
  have ge := okD_gcd he
  unfold crs at h
  by_cases c1 : d.2 = 0
  · have p1 := gd.2 c1
    rw [c1, p1, Int.zero_mul, Int.one_mul] at h
    have q2 : e.2 = 0 := by omega
    have p2 := ge.2 q2
    exact Prod.ext (by rw [p1, p2]) (by rw [c1, q2])
  · by_cases c2 : e.2 = 0
    · have p2 := ge.2 c2
      rw [c2, p2, Int.mul_zero, Int.mul_one] at h
      omega
    · have a1 := abs_dvd gd.1 (x := e.1) (y := e.2) (by rw [Int.mul_comm e.1, Int.mul_comm e.2]; omega) c2
      have a2 := abs_dvd ge.1 (x := d.1) (y := d.2) (by omega) c1
      have hq : d.2 = e.2 := by omega
      have hp : (d.1 - e.1) * e.2 = 0 := by
        rw [Int.sub_mul]
        rw [hq, Int.mul_comm e.2] at h
        omega
      have : d.1 - e.1 = 0 := by
        rcases Int.mul_eq_zero.1 hp with x | x
        · exact x
        · exact absurd x c2
      exact Prod.ext (by omega) hq

theorem crs_anti (d e : Int × Int) : crs e d = -crs d e := by
  unfold crs
  rw [Int.mul_comm e.1, Int.mul_comm e.2]
  omega

theorem crs_trans {d e f : Int × Int} (hd : okD d.1 d.2 = true) (he : okD e.1 e.2 = true) (hf : okD f.1 f.2 = true) (h1 : 0 < crs d e) (h2 : 0 < crs e f) : 0 < crs d f := by
  have bd := okD_bounds hd
  have be := okD_bounds he
  have bf := okD_bounds hf
  have gd := okD_gcd hd
  have ge := okD_gcd he
  have gf := okD_gcd hf
  have id : e.2 * crs d f = d.2 * crs e f + f.2 * crs d e := by
    unfold crs
    grind
  by_cases c : e.2 = 0
  · exfalso
    have p := ge.2 c
    unfold crs at h1
    rw [c, p, Int.mul_zero, Int.mul_one] at h1
    omega
  · have x1 : 0 ≤ d.2 * crs e f := Int.mul_nonneg bd.2.1 (by omega)
    have x2 : 0 ≤ f.2 * crs d e := Int.mul_nonneg bf.2.1 (by omega)
    by_cases c1 : d.2 = 0
    · by_cases c2 : f.2 = 0
      · exfalso
        have p1 := gf.2 c2
        unfold crs at h2
        rw [c2, p1, Int.mul_zero, Int.mul_one] at h2
        omega
      · have x3 : 0 < f.2 * crs d e := Int.mul_pos (by omega) h1
        by_cases h : 0 < crs d f
        · exact h
        · exfalso
          have : e.2 * crs d f ≤ e.2 * 0 := Int.mul_le_mul_of_nonneg_left (by omega) be.2.1
          rw [Int.mul_zero] at this
          omega
    · have x3 : 0 < d.2 * crs e f := Int.mul_pos (by omega) h2
      by_cases h : 0 < crs d f
      · exact h
      · exfalso
        have : e.2 * crs d f ≤ e.2 * 0 := Int.mul_le_mul_of_nonneg_left (by omega) be.2.1
        rw [Int.mul_zero] at this
        omega

def insT (d : Int × Int) : List (Int × Int) → List (Int × Int)
  | [] => [d]
  | e :: L => if 0 < crs d e then d :: e :: L else e :: insT d L
def srtT : List (Int × Int) → List (Int × Int)
  | [] => []
  | d :: L => insT d (srtT L)

theorem mem_insT {d x : Int × Int} {L : List (Int × Int)} : x ∈ insT d L ↔ x = d ∨ x ∈ L := by
  induction L with
  | nil => simp [insT]
  | cons e L ih =>
    unfold insT
    split
    · simp
    · rw [List.mem_cons, ih, List.mem_cons]
      constructor
      · rintro (h | h | h)
        · exact Or.inr (Or.inl h)
        · exact Or.inl h
        · exact Or.inr (Or.inr h)
      · rintro (h | h | h)
        · exact Or.inr (Or.inl h)
        · exact Or.inl h
        · exact Or.inr (Or.inr h)

theorem mem_srtT {x : Int × Int} {L : List (Int × Int)} : x ∈ srtT L ↔ x ∈ L := by
  induction L with
  | nil => simp [srtT]
  | cons d L ih =>
    show x ∈ insT d (srtT L) ↔ _
    rw [mem_insT, ih, List.mem_cons]

theorem sumQ_insT (d : Int × Int) (L : List (Int × Int)) : sumQ (insT d L) = d.2 + sumQ L := by
  induction L with
  | nil => rfl
  | cons e L ih =>
    unfold insT
    split
    · rfl
    · show e.2 + sumQ (insT d L) = d.2 + (e.2 + sumQ L)
      rw [ih]
      omega

theorem sumQ_srtT (L : List (Int × Int)) : sumQ (srtT L) = sumQ L := by
  induction L with
  | nil => rfl
  | cons d L ih =>
    show sumQ (insT d (srtT L)) = d.2 + sumQ L
    rw [sumQ_insT, ih]

theorem turned_insT {d : Int × Int} {L : List (Int × Int)} (hd : okD d.1 d.2 = true) (hL : ∀ e, e ∈ L → okD e.1 e.2 = true) (hn : ¬ d ∈ L) (hT : Turned L) : Turned (insT d L) := by
  induction L with
  | nil => exact List.pairwise_singleton _ _
  | cons e L ih =>
    have hT' := List.pairwise_cons.1 hT
    have he := hL e (List.mem_cons_self ..)
    unfold insT
    split
    · rename_i h
      refine List.pairwise_cons.2 ⟨fun f hf => ?_, hT⟩
      rcases List.mem_cons.1 hf with rfl | hf'
      · exact h
      · exact crs_trans hd he (hL f hf) h (hT'.1 f hf')
    · rename_i h
      refine List.pairwise_cons.2 ⟨fun f hf => ?_, ih (fun x hx => hL x (List.mem_cons_of_mem _ hx)) (fun hx => hn (List.mem_cons_of_mem _ hx)) hT'.2⟩
      rcases mem_insT.1 hf with rfl | hf'
      · have h0 : crs f e ≠ 0 := fun z => hn (by rw [crs_zero hd he z]; exact List.mem_cons_self ..)
        rw [crs_anti f e]
        omega
      · exact hT'.1 f hf'

theorem turned_srtT {L : List (Int × Int)} (hL : ∀ e, e ∈ L → okD e.1 e.2 = true) (hn : L.Nodup) : Turned (srtT L) := by
  induction L with
  | nil => exact List.Pairwise.nil
  | cons d L ih =>
    have hn' := List.nodup_cons.1 hn
    exact turned_insT (hL d (List.mem_cons_self ..)) (fun e he => hL e (List.mem_cons_of_mem _ (mem_srtT.1 he))) (fun h => hn'.1 (mem_srtT.1 h)) (ih (fun e he => hL e (List.mem_cons_of_mem _ he)) hn'.2)

theorem high_all {S : Int × Int → Prop} {L : List (Int × Int)} {n : Int} (hS : Stab S L) (ho : ∀ d, d ∈ L → okD d.1 d.2 = true) (hn : L.Nodup) (hb : ∀ p, S p → 0 ≤ p.1 ∧ p.1 < n ∧ 0 ≤ p.2 ∧ p.2 < n) (hne : ∃ p, S p) : sumQ L < n := by
  rw [← sumQ_srtT]
  exact high (S := S) (fun d hd => hS d (mem_srtT.1 hd)) (fun d hd => ho d (mem_srtT.1 hd)) (turned_srtT ho hn) hb hne

/-- A direction with rows and columns exchanged. -/
def swD (d : Int × Int) : Int × Int := if d.1 < 0 then (-d.2, -d.1) else (d.2, d.1)

theorem swD_ok {d : Int × Int} (h : okD d.1 d.2 = true) : okD (swD d).1 (swD d).2 = true := by
  have b := okD_bounds h
  have g := okD_gcd h
  unfold swD okD
  rw [decide_eq_true_eq]
  by_cases c : d.1 < 0
  · rw [if_pos c]
    dsimp only
    refine ⟨by omega, by omega, by omega, ?_, by omega⟩
    rw [Int.natAbs_neg, Int.natAbs_neg, Nat.gcd_comm]
    exact g.1
  · rw [if_neg c]
    dsimp only
    refine ⟨by omega, by omega, by omega, ?_, fun e => ?_⟩
    · rw [Nat.gcd_comm]
      exact g.1
    · have g1 := g.1
      rw [e] at g1
      have : Nat.gcd (0 : Int).natAbs d.2.natAbs = d.2.natAbs := Nat.gcd_zero_left _
      omega

theorem swD_inj {d e : Int × Int} (hd : okD d.1 d.2 = true) (he : okD e.1 e.2 = true) (h : swD d = swD e) : d = e := by
  have bd := okD_bounds hd
  have be := okD_bounds he
  have gd := okD_gcd hd
  have ge := okD_gcd he
  unfold swD at h
  by_cases c1 : d.1 < 0
  · rw [if_pos c1] at h
    by_cases c2 : e.1 < 0
    · rw [if_pos c2] at h
      have h1 := congrArg Prod.fst h
      have h2 := congrArg Prod.snd h
      dsimp only at h1 h2
      exact Prod.ext (by omega) (by omega)
    · rw [if_neg c2] at h
      have h1 := congrArg Prod.fst h
      have h2 := congrArg Prod.snd h
      dsimp only at h1 h2
      exfalso
      have q : d.2 = 0 := by omega
      have := gd.2 q
      omega
  · rw [if_neg c1] at h
    by_cases c2 : e.1 < 0
    · rw [if_pos c2] at h
      have h1 := congrArg Prod.fst h
      have h2 := congrArg Prod.snd h
      dsimp only at h1 h2
      exfalso
      have q : e.2 = 0 := by omega
      have := ge.2 q
      omega
    · rw [if_neg c2] at h
      have h1 := congrArg Prod.fst h
      have h2 := congrArg Prod.snd h
      dsimp only at h1 h2
      exact Prod.ext (by omega) (by omega)

theorem swD_nodup {L : List (Int × Int)} (ho : ∀ d, d ∈ L → okD d.1 d.2 = true) (hn : L.Nodup) : (L.map swD).Nodup := by
  induction L with
  | nil => exact List.nodup_nil
  | cons d L ih =>
    have hn' := List.nodup_cons.1 hn
    rw [List.map_cons]
    refine List.nodup_cons.2 ⟨fun h => ?_, ih (fun e he => ho e (List.mem_cons_of_mem _ he)) hn'.2⟩
    obtain ⟨e, he, hs⟩ := List.mem_map.1 h
    have := swD_inj (ho e (List.mem_cons_of_mem _ he)) (ho d (List.mem_cons_self ..)) hs
    exact hn'.1 (by rw [← this]; exact he)

theorem sumQ_swD {L : List (Int × Int)} : sumQ (L.map swD) = sumP L := by
  induction L with
  | nil => rfl
  | cons d L ih =>
    show (swD d).2 + sumQ (L.map swD) = (d.1.natAbs : Int) + sumP L
    rw [ih]
    unfold swD
    split
    · dsimp only; omega
    · dsimp only; omega

theorem crs_swD (p q d : Int × Int) (h : crs q d = crs p d) : crs (q.2, q.1) (swD d) = crs (p.2, p.1) (swD d) := by
  unfold crs swD at *
  split
  · dsimp only
    rw [Int.mul_neg, Int.mul_neg, Int.mul_neg, Int.mul_neg]
    omega
  · dsimp only
    omega

/-- Where directions determine every grid there is no such set. -/
theorem katz_none {S : Int × Int → Prop} {L : List (Int × Int)} {n : Int} (hS : Stab S L) (ho : ∀ d, d ∈ L → okD d.1 d.2 = true) (hn : L.Nodup) (hb : ∀ p, S p → 0 ≤ p.1 ∧ p.1 < n ∧ 0 ≤ p.2 ∧ p.2 < n) (hne : ∃ p, S p) :
    sumP L < n ∧ sumQ L < n := by
  refine ⟨?_, high_all hS ho hn hb hne⟩
  rw [← sumQ_swD]
  refine high_all (S := fun p => S (p.2, p.1)) (fun e he p hp => ?_) (fun e he => ?_) (swD_nodup ho hn) (fun p hp => ?_) ?_
  · obtain ⟨d, hd, rfl⟩ := List.mem_map.1 he
    obtain ⟨q, hq, hne', hc⟩ := hS d hd _ hp
    refine ⟨(q.2, q.1), hq, fun e => hne' ?_, ?_⟩
    · have h1 := congrArg Prod.fst e
      have h2 := congrArg Prod.snd e
      exact Prod.ext h2 h1
    · exact crs_swD (p.2, p.1) q d hc
  · obtain ⟨d, hd, rfl⟩ := List.mem_map.1 he
    exact swD_ok (ho d hd)
  · have := hb _ hp
    dsimp only at this
    omega
  · obtain ⟨p, hp⟩ := hne
    exact ⟨(p.2, p.1), hp⟩
end Go.Proofs.Ytgbkfmjkemkajab
