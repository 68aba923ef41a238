/- Two unlike cells lie together on just one line: whole numbers alone. -/
import Derived.Test.YtkaggnlceboocaaQA
namespace Go.Proofs.Ytkaggnlceboocaa
open Go.RowKit

/-- How many of the first k. -/
def cB (f : Nat → Bool) : Nat → Nat
  | 0 => 0
  | k + 1 => cB f k + if f k = true then 1 else 0
def sN (f : Nat → Nat) : Nat → Nat
  | 0 => 0
  | k + 1 => sN f k + f k

theorem cB_ext {f g : Nat → Bool} {k : Nat} (h : ∀ i, i < k → f i = g i) : cB f k = cB g k := by
  induction k with
  | zero => rfl
  | succ k ih =>
    unfold cB
    rw [ih (fun i hi => h i (by omega)), h k (by omega)]
theorem cB_none {f : Nat → Bool} {k : Nat} (h : ∀ i, i < k → f i = false) : cB f k = 0 := by
  induction k with
  | zero => rfl
  | succ k ih =>
    unfold cB
    rw [ih (fun i hi => h i (by omega)), h k (by omega)]
    rfl
theorem cB_one {f : Nat → Bool} {k a : Nat} (ha : a < k) (h : ∀ i, i < k → (f i = true ↔ i = a)) : cB f k = 1 := by
  induction k with
  | zero => omega
  | succ k ih =>
    unfold cB
    by_cases c : a = k
    · subst c
      rw [cB_none (fun i hi => ?_), if_pos ((h a (by omega)).2 rfl)]
      cases hq : f i with
      | false => rfl
      | true =>
        have := (h i (by omega)).1 hq
        omega
    · rw [ih (by omega) (fun i hi => h i (by omega)), if_neg (fun x => c ((h k (by omega)).1 x).symm)]
theorem sN_ext {f g : Nat → Nat} {k : Nat} (h : ∀ i, i < k → f i = g i) : sN f k = sN g k := by
  induction k with
  | zero => rfl
  | succ k ih =>
    unfold sN
    rw [ih (fun i hi => h i (by omega)), h k (by omega)]
theorem sN_bool (f : Nat → Bool) (k : Nat) : sN (fun i => if f i = true then 1 else 0) k = cB f k := by
  induction k with
  | zero => rfl
  | succ k ih => unfold sN cB; rw [ih]
theorem sN_one (k : Nat) : sN (fun _ => 1) k = k := by
  induction k with
  | zero => rfl
  | succ k ih => unfold sN; rw [ih]

/-- The line of a cell, for each slope. -/
def tOf (p m : Nat) (c : Nat × Nat) : Nat := if m = p then c.1 else (c.2 + (p - m) * c.1) % p
theorem tOf_lt {p m : Nat} {c : Nat × Nat} (hp : 1 ≤ p) (hc : c.1 < p) : tOf p m c < p := by
  unfold tOf
  split
  · exact hc
  · exact Nat.mod_lt _ (by omega)

def cellI (c : Nat × Nat) : Int × Int := ((c.1 : Int), (c.2 : Int))

theorem mod_sym {p a b t y : Nat} (ht : t < p) (hy : y < p) (h : (a + b) % p = 0) : (a + t) % p = y ↔ t = (y + b) % p := by
  have hp : 0 < p := by omega
  have e1 : ((a + t) % p + b) % p = t := by
    rw [Nat.mod_add_mod, show a + t + b = (a + b) + t by omega, ← Nat.mod_add_mod, h, Nat.zero_add, Nat.mod_eq_of_lt ht]
  have e2 : (a + (y + b) % p) % p = y := by
    rw [Nat.add_mod_mod, show a + (y + b) = (a + b) + y by omega, ← Nat.mod_add_mod, h, Nat.zero_add, Nat.mod_eq_of_lt hy]
  constructor
  · intro e
    rw [← e, e1]
  · intro e
    rw [e, e2]

theorem on_iff {p m t : Nat} {c : Nat × Nat} (hm : m ≤ p) (ht : t < p) (h1 : c.1 < p) (h2 : c.2 < p) : cellI c ∈ lineP p m t ↔ t = tOf p m c := by
  unfold lineP tOf cellI
  by_cases e : m = p
  · rw [if_pos e, if_pos e, List.mem_map]
    constructor
    · rintro ⟨y, _, hy⟩
      have := congrArg Prod.fst hy
      dsimp only at this
      omega
    · intro h
      exact ⟨c.2, List.mem_range.2 h2, by rw [h]⟩
  · rw [if_neg e, if_neg e, List.mem_map]
    have key := mod_sym (a := m * c.1) (b := (p - m) * c.1) ht h2 (by rw [← Nat.add_mul, show m + (p - m) = p by omega]; exact Nat.mul_mod_right _ _)
    rw [← key]
    constructor
    · rintro ⟨x, _, hx⟩
      have a1 := congrArg Prod.fst hx
      have a2 := congrArg Prod.snd hx
      dsimp only at a1 a2
      have a3 : x = c.1 := by omega
      rw [← a3]
      omega
    · intro h
      exact ⟨c.1, List.mem_range.2 h1, by rw [h]⟩

theorem lineP_nodup (p m t : Nat) : (lineP p m t).Nodup := by
  unfold lineP
  split
  · rw [List.Nodup, List.pairwise_map]
    refine List.Pairwise.imp (fun {a b} hab h => hab ?_) (List.nodup_range (n := p))
    have := congrArg Prod.snd h
    dsimp only at this
    omega
  · rw [List.Nodup, List.pairwise_map]
    refine List.Pairwise.imp (fun {a b} hab h => hab ?_) (List.nodup_range (n := p))
    have := congrArg Prod.fst h
    dsimp only at this
    omega

/-- How many of a list's cells are one of two. -/
def hitB (c d : Int × Int) (e : Int × Int) : Bool := decide (e = c) || decide (e = d)
def hits (L : List (Int × Int)) (c d : Int × Int) (k : Nat) : Nat := (L.take k).countP (hitB c d)

theorem hits_step {L : List (Int × Int)} {c d e : Int × Int} {k : Nat} (h : L[k]? = some e) : hits L c d (k + 1) = hits L c d k + if hitB c d e = true then 1 else 0 := by
  unfold hits
  rw [List.take_add_one, h, List.countP_append]
  congr 1
  simp [List.countP_cons]

theorem count_one {L : List (Int × Int)} (hL : L.Nodup) (c : Int × Int) : L.countP (fun e => decide (e = c)) = if c ∈ L then 1 else 0 := by
  induction L with
  | nil => simp
  | cons a l ih =>
    rw [List.nodup_cons] at hL
    rw [List.countP_cons, ih hL.2]
    by_cases e : a = c
    · subst e
      rw [if_neg hL.1]
      simp
    · by_cases f : c ∈ l
      · simp [e, f]
      · have : ¬ c = a := fun x => e x.symm
        simp [e, f, this]

theorem hits_all {L : List (Int × Int)} (hL : L.Nodup) {c d : Int × Int} {k : Nat} (hk : L.length ≤ k) : hits L c d k = if c = d then (if c ∈ L then 1 else 0) else (if c ∈ L then 1 else 0) + (if d ∈ L then 1 else 0) := by
  unfold hits
  rw [List.take_of_length_le hk]
  by_cases e : c = d
  · subst e
    rw [if_pos rfl, ← count_one hL]
    congr 1
    funext x
    unfold hitB
    simp
  · rw [if_neg e, ← count_one hL, ← count_one hL]
    clear hL hk
    induction L with
    | nil => rfl
    | cons a l ih =>
      rw [List.countP_cons, List.countP_cons, List.countP_cons, ih]
      unfold hitB
      by_cases f : a = c
      · have : ¬ a = d := fun x => e (f.symm.trans x)
        simp [f, e]
        omega
      · by_cases h : a = d
        · have : ¬ d = c := fun x => e x.symm
          simp [h, this]
          omega
        · simp [f, h]

/-- Is a line one that counts? -/
def goodB (same : Bool) (k : Nat) : Bool := decide (k = 2) || (same && decide (k = 1))
def goodL (p : Nat) (c d : Nat × Nat) (m t : Nat) : Bool := goodB (decide (c = d)) (hits (lineP p m t) (cellI c) (cellI d) p)

theorem cellI_inj {c d : Nat × Nat} : cellI c = cellI d ↔ c = d := by
  unfold cellI
  constructor
  · intro h
    have a1 := congrArg Prod.fst h
    have a2 := congrArg Prod.snd h
    dsimp only at a1 a2
    exact Prod.ext (by omega) (by omega)
  · intro h
    rw [h]

theorem good_same {p m t : Nat} {c : Nat × Nat} (hm : m ≤ p) (ht : t < p) (h1 : c.1 < p) (h2 : c.2 < p) : goodL p c c m t = true ↔ t = tOf p m c := by
  unfold goodL goodB
  rw [hits_all (lineP_nodup p m t) (by rw [lineP_len]; exact Nat.le_refl _), if_pos rfl, ← on_iff hm ht h1 h2]
  by_cases e : cellI c ∈ lineP p m t
  · simp [e]
  · simp [e]

theorem good_two {p m t : Nat} {c d : Nat × Nat} (hcd : c ≠ d) (hm : m ≤ p) (ht : t < p) (h1 : c.1 < p) (h2 : c.2 < p) (h3 : d.1 < p) (h4 : d.2 < p) : goodL p c d m t = true ↔ t = tOf p m c ∧ t = tOf p m d := by
  unfold goodL goodB
  rw [hits_all (lineP_nodup p m t) (by rw [lineP_len]; exact Nat.le_refl _), if_neg (fun x => hcd (cellI_inj.1 x)), ← on_iff hm ht h1 h2, ← on_iff hm ht h3 h4]
  by_cases e : cellI c ∈ lineP p m t <;> by_cases f : cellI d ∈ lineP p m t <;> simp [e, f, hcd]

/-- Each number but 0 has an inverse. -/
theorem inverse : ∀ p, p ≤ 31 → noDiv p p = true → 2 ≤ p → ∀ x, x < p → 1 ≤ x → ∃ u, u < p ∧ (x * u) % p = 1 := by
  have key : ((List.range 32).all fun p => !(noDiv p p && decide (2 ≤ p)) || (List.range p).all fun x => decide (x < 1) || (List.range p).any fun u => decide ((x * u) % p = 1)) = true := by decide +kernel
  intro p hp h1 h2 x hx h3
  rw [List.all_eq_true] at key
  have k1 := key p (List.mem_range.2 (by omega))
  rw [h1] at k1
  simp only [Bool.true_and, Bool.or_eq_true, Bool.not_eq_true', decide_eq_false_iff_not] at k1
  rcases k1 with k1 | k1
  · omega
  · rw [List.all_eq_true] at k1
    have k2 := k1 x (List.mem_range.2 hx)
    simp only [Bool.or_eq_true, decide_eq_true_eq] at k2
    rcases k2 with k2 | k2
    · omega
    · rw [List.any_eq_true] at k2
      obtain ⟨u, hu, e⟩ := k2
      exact ⟨u, List.mem_range.1 hu, by simpa using e⟩

/-- In whole numbers with a sign. -/
theorem tOf_dvd {p m : Nat} {c d : Nat × Nat} (hm : m < p) : tOf p m c = tOf p m d ↔ (p : Int) ∣ ((c.2 : Int) - d.2) - (m : Int) * ((c.1 : Int) - d.1) := by
  unfold tOf
  rw [if_neg (by omega), if_neg (by omega)]
  have e : ∀ x y : Nat, x % p = y % p ↔ (p : Int) ∣ (x : Int) - (y : Int) := fun x y => by
    constructor
    · intro h
      have h' : ((x % p : Nat) : Int) = ((y % p : Nat) : Int) := by rw [h]
      rw [Int.natCast_emod, Int.natCast_emod] at h'
      exact Int.dvd_of_emod_eq_zero (Int.emod_eq_emod_iff_emod_sub_eq_zero.1 h')
    · intro h
      have h' : (x : Int) % (p : Int) = (y : Int) % (p : Int) := Int.emod_eq_emod_iff_emod_sub_eq_zero.2 (Int.emod_eq_zero_of_dvd h)
      rw [← Int.natCast_emod, ← Int.natCast_emod] at h'
      exact Int.ofNat.inj h'
  rw [e]
  have : ((c.2 + (p - m) * c.1 : Nat) : Int) - ((d.2 + (p - m) * d.1 : Nat) : Int) = ((c.2 : Int) - d.2) - (m : Int) * ((c.1 : Int) - d.1) + (p : Int) * ((c.1 : Int) - d.1) := by
    have hs : ((p - m : Nat) : Int) = (p : Int) - m := by omega
    push_cast
    rw [hs]
    simp only [Int.sub_mul, Int.mul_sub]
    omega
  rw [this]
  constructor
  · rintro ⟨k, hk⟩
    exact ⟨k - ((c.1 : Int) - d.1), by rw [Int.mul_sub (p : Int) k]; omega⟩
  · rintro ⟨k, hk⟩
    exact ⟨k + ((c.1 : Int) - d.1), by rw [Int.mul_add (p : Int) k]; omega⟩

theorem small_dvd {p : Nat} {a b : Nat} (ha : a < p) (hb : b < p) (h : (p : Int) ∣ (a : Int) - b) : a = b := by
  obtain ⟨k, hk⟩ := h
  by_cases c : k = 0
  · subst c
    omega
  · exfalso
    have h1 : k ≤ -1 ∨ 1 ≤ k := by omega
    rcases h1 with h1 | h1
    · have : (p : Int) * k ≤ (p : Int) * (-1) := Int.mul_le_mul_of_nonneg_left h1 (by omega)
      omega
    · have : (p : Int) * 1 ≤ (p : Int) * k := Int.mul_le_mul_of_nonneg_left h1 (by omega)
      omega

/-- How many slopes have both cells on one line. -/
theorem slopes {p : Nat} {c d : Nat × Nat} (hp : p ≤ 31) (hP : noDiv p p = true) (h2 : 2 ≤ p) (hcd : c ≠ d) (c1 : c.1 < p) (c2 : c.2 < p) (d1 : d.1 < p) (d2 : d.2 < p) : cB (fun m => decide (tOf p m c = tOf p m d)) (p + 1) = 1 := by
  by_cases e : c.1 = d.1
  · refine cB_one (a := p) (by omega) fun m hm => ?_
    simp only [decide_eq_true_eq]
    constructor
    · intro h
      by_cases f : m = p
      · exact f
      · exfalso
        rw [tOf_dvd (by omega), e, Int.sub_self, Int.mul_zero, Int.sub_zero] at h
        exact hcd (Prod.ext e (small_dvd c2 d2 h))
    · intro h
      unfold tOf
      rw [if_pos h, if_pos h, e]
  · -- the slope is the one number times the inverse
    have hx : ∃ u : Int, (p : Int) ∣ ((c.1 : Int) - d.1) * u - 1 := by
      by_cases g : d.1 < c.1
      · obtain ⟨u, _, hu⟩ := inverse p hp hP h2 (c.1 - d.1) (by omega) (by omega)
        refine ⟨u, ?_⟩
        have hs : ((c.1 - d.1 : Nat) : Int) = (c.1 : Int) - d.1 := by omega
        have h' : ((((c.1 - d.1) * u) % p : Nat) : Int) = 1 := by rw [hu]; rfl
        rw [Int.natCast_emod, Int.natCast_mul, hs] at h'
        have := Int.emod_add_mul_ediv (((c.1 : Int) - d.1) * u) p
        exact ⟨(((c.1 : Int) - d.1) * u) / p, by omega⟩
      · obtain ⟨u, _, hu⟩ := inverse p hp hP h2 (d.1 - c.1) (by omega) (by omega)
        refine ⟨-u, ?_⟩
        have hs : ((d.1 - c.1 : Nat) : Int) = (d.1 : Int) - c.1 := by omega
        have h' : ((((d.1 - c.1) * u) % p : Nat) : Int) = 1 := by rw [hu]; rfl
        rw [Int.natCast_emod, Int.natCast_mul, hs] at h'
        have e1 : ((c.1 : Int) - d.1) * -u = ((d.1 : Int) - c.1) * u := by rw [Int.mul_neg, ← Int.neg_mul, Int.neg_sub]
        rw [e1]
        have := Int.emod_add_mul_ediv (((d.1 : Int) - c.1) * u) p
        exact ⟨(((d.1 : Int) - c.1) * u) / p, by omega⟩
    obtain ⟨u, q, hu⟩ := hx
    have hp0 : (0 : Int) < p := by omega
    obtain ⟨m0, hm0⟩ : ∃ m0 : Nat, (m0 : Int) = (((c.2 : Int) - d.2) * u) % p := ⟨((((c.2 : Int) - d.2) * u) % p).toNat, by have := Int.emod_nonneg (((c.2 : Int) - d.2) * u) (show (p : Int) ≠ 0 by omega); omega⟩
    have hlt : m0 < p := by have := Int.emod_lt_of_pos (((c.2 : Int) - d.2) * u) hp0; omega
    have hdiv := Int.emod_add_mul_ediv (((c.2 : Int) - d.2) * u) p
    rw [← hm0] at hdiv
    generalize (((c.2 : Int) - d.2) * u) / (p : Int) = k at hdiv
    generalize hD : (c.1 : Int) - d.1 = D at hu
    generalize hE : (c.2 : Int) - d.2 = E at hdiv
    refine cB_one (a := m0) (by omega) fun m hm => ?_
    simp only [decide_eq_true_eq]
    constructor
    · intro h
      by_cases f : m = p
      · exfalso
        unfold tOf at h
        rw [if_pos f, if_pos f] at h
        exact e h
      · rw [tOf_dvd (by omega), hD, hE] at h
        obtain ⟨r, hr⟩ := h
        -- E = m D + p r; E u = m D u + p r u = m + p (m q + r u); E u = m0 + p k
        refine small_dvd (by omega) hlt ⟨k - (m : Int) * q - r * u, ?_⟩
        have e1 : E = (m : Int) * D + p * r := by omega
        have e2 : D * u = 1 + p * q := by omega
        have e3 : E * u = (m : Int) + p * ((m : Int) * q + r * u) := by
          rw [e1, Int.add_mul, Int.mul_assoc, e2, Int.mul_add, Int.mul_one, Int.mul_add, Int.add_assoc]
          congr 2
          · rw [← Int.mul_assoc, ← Int.mul_assoc, Int.mul_comm (m : Int) p]
          · rw [Int.mul_assoc]
        rw [e3] at hdiv
        rw [Int.mul_sub, Int.mul_sub]
        rw [Int.mul_add] at hdiv
        omega
    · intro h
      subst h
      rw [tOf_dvd hlt, hD, hE]
      -- E - m0 D = E - (E u - p k) D = E (1 - D u) + p k D = - E p q + p k D
      refine ⟨k * D - E * q, ?_⟩
      have e2 : D * u = 1 + p * q := by omega
      have e3 : (m : Int) = E * u - p * k := by omega
      rw [e3, Int.sub_mul, Int.mul_assoc, Int.mul_comm u D, e2, Int.mul_add, Int.mul_one, Int.mul_sub]
      have a1 : E * ((p : Int) * q) = p * (E * q) := by rw [← Int.mul_assoc, Int.mul_comm E p, Int.mul_assoc]
      have a2 : (p : Int) * k * D = p * (k * D) := Int.mul_assoc _ _ _
      rw [a1, a2]
      omega

theorem pairs_two {p : Nat} {c d : Nat × Nat} (hp : p ≤ 31) (hP : noDiv p p = true) (h2 : 2 ≤ p) (hcd : c ≠ d) (c1 : c.1 < p) (c2 : c.2 < p) (d1 : d.1 < p) (d2 : d.2 < p) : sN (fun m => cB (goodL p c d m) p) (p + 1) = 1 := by
  have hs := slopes hp hP h2 hcd c1 c2 d1 d2
  rw [← sN_bool] at hs
  refine Eq.trans (sN_ext fun m hm => ?_) hs
  by_cases e : tOf p m c = tOf p m d
  · rw [if_pos (by simp [e])]
    exact cB_one (tOf_lt (m := m) (by omega) c1) fun t ht => by
      rw [good_two hcd (by omega) ht c1 c2 d1 d2, e]
      exact ⟨fun h => h.1, fun h => ⟨h, h⟩⟩
  · rw [if_neg (by simp [e])]
    refine cB_none fun t ht => ?_
    cases hq : goodL p c d m t with
    | false => rfl
    | true =>
      have := (good_two hcd (by omega) ht c1 c2 d1 d2).1 hq
      exact absurd (this.1.symm.trans this.2) e

theorem pairs_same {p : Nat} {c : Nat × Nat} (h2 : 2 ≤ p) (c1 : c.1 < p) (c2 : c.2 < p) : sN (fun m => cB (goodL p c c m) p) (p + 1) = p + 1 := by
  have e : sN (fun m => cB (goodL p c c m) p) (p + 1) = sN (fun _ => 1) (p + 1) := sN_ext fun m hm => cB_one (tOf_lt (m := m) (by omega) c1) fun t ht => good_same (by omega) ht c1 c2
  rw [e, sN_one]
end Go.Proofs.Ytkaggnlceboocaa
