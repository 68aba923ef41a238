/- Which cells stay open: the greatest set of cells of which no line has just one. Pure. -/
import Derived.Test.YtgbkfmjkemkajabPLB
namespace Go.Proofs.Ytgbkfmjkemkajab

/-- The line of a cell, but for a constant. -/
def lnO (n : Nat) (d : Int × Int) (i : Nat) : Int := d.2 * ((i % n : Nat) : Int) - d.1 * ((i / n : Nat) : Int)

/-- Of no line just one. -/
def StabB (n : Nat) (L : List (Int × Int)) (T : Nat → Prop) : Prop := ∀ d, d ∈ L → ∀ i, i < n * n → T i → ∃ j, j < n * n ∧ T j ∧ j ≠ i ∧ lnO n d j = lnO n d i

/-- What stays open: such a set, and the greatest. -/
structure Final (n : Nat) (L : List (Int × Int)) (b : Nat → Bool) : Prop where
  stab : StabB n L (fun i => b i = true)
  most : ∀ T, StabB n L T → ∀ i, i < n * n → T i → b i = true

theorem stab_less {n : Nat} {L L' : List (Int × Int)} (h : ∀ d, d ∈ L' → d ∈ L) {T : Nat → Prop} (hT : StabB n L T) : StabB n L' T := fun d hd => hT d (h d hd)

/-- More directions: no more cells. -/
theorem final_less {n : Nat} {L L' : List (Int × Int)} {b b' : Nat → Bool} (hb : Final n L b) (hb' : Final n L' b') (h : ∀ d, d ∈ L' → d ∈ L) (i : Nat) (hi : i < n * n) (hi' : b i = true) : b' i = true :=
  hb'.most _ (stab_less h hb.stab) i hi hi'

theorem final_same {n : Nat} {L L' : List (Int × Int)} {b b' : Nat → Bool} (hb : Final n L b) (hb' : Final n L' b') (h : ∀ d, d ∈ L ↔ d ∈ L') (i : Nat) (hi : i < n * n) : b i = b' i := by
  cases h1 : b i
  · cases h2 : b' i
    · rfl
    · have := final_less hb' hb (fun d hd => (h d).1 hd) i hi h2
      rw [h1] at this
      cases this
  · have := final_less hb hb' (fun d hd => (h d).2 hd) i hi h1
    rw [this]

theorem final_katz {n : Nat} {L : List (Int × Int)} {b : Nat → Bool} (hn : 1 ≤ n) (hb : Final n L b) (ho : ∀ d, d ∈ L → okD d.1 d.2 = true) (hd : L.Nodup) (hk : (n : Int) ≤ sumP L ∨ (n : Int) ≤ sumQ L) (i : Nat) (hi : i < n * n) : b i = false := by
  cases h : b i
  · rfl
  · exfalso
    have k := katz_none (S := fun p => ∃ j, j < n * n ∧ b j = true ∧ p = (((j % n : Nat) : Int), ((j / n : Nat) : Int))) (L := L) (n := n) (fun d hd' p hp => ?_) ho hd (fun p hp => ?_) ⟨_, i, hi, h, rfl⟩
    · omega
    · obtain ⟨j, hj, hbj, rfl⟩ := hp
      obtain ⟨k, hk1, hk2, hk3, hk4⟩ := hb.stab d hd' j hj hbj
      refine ⟨_, ⟨k, hk1, hk2, rfl⟩, fun e => hk3 ?_, ?_⟩
      · have h1 := congrArg Prod.fst e
        have h2 := congrArg Prod.snd e
        dsimp only at h1 h2
        have e1 := Nat.div_add_mod k n
        have e2 := Nat.div_add_mod j n
        have m1 : k % n = j % n := by omega
        have m2 : k / n = j / n := by omega
        rw [m1, m2] at e1
        omega
      · unfold lnO at hk4
        unfold crs
        dsimp only
        rw [Int.mul_comm _ d.2, Int.mul_comm _ d.2, Int.mul_comm _ d.1, Int.mul_comm _ d.1]
        exact hk4
    · obtain ⟨j, hj, _, rfl⟩ := hp
      have h1 : j % n < n := Nat.mod_lt _ (by omega)
      have h2 : j / n < n := (Nat.div_lt_iff_lt_mul (by omega)).2 hj
      exact ⟨Int.natCast_nonneg _, by dsimp only; omega, Int.natCast_nonneg _, by dsimp only; omega⟩

/-- Peeling: what is open holds every such set. -/
def Holds (n : Nat) (L : List (Int × Int)) (b : Nat → Bool) : Prop := ∀ T, StabB n L T → ∀ i, i < n * n → T i → b i = true

theorem holds_all (n : Nat) (L : List (Int × Int)) : Holds n L (fun _ => true) := fun _ _ _ _ _ => rfl
/-- A cell that is its line's only open one may be closed. -/
theorem holds_close {n : Nat} {L : List (Int × Int)} {b : Nat → Bool} (h : Holds n L b) {d : Int × Int} (hd : d ∈ L) {c : Nat} (h1 : ∀ j, j < n * n → b j = true → lnO n d j = lnO n d c → j = c) : Holds n L (fun i => if i = c then false else b i) := by
  intro T hT i hi hTi
  by_cases e : i = c
  · exfalso
    subst e
    obtain ⟨j, hj, hTj, hne, hl⟩ := hT d hd i hi hTi
    exact hne (h1 j hj (h T hT j hj hTj) hl)
  · show (if i = c then false else b i) = true
    rw [if_neg e]
    exact h T hT i hi hTi
theorem holds_final {n : Nat} {L : List (Int × Int)} {b : Nat → Bool} (h : Holds n L b) (hs : StabB n L (fun i => b i = true)) : Final n L b := ⟨hs, h⟩

/-- How many are open among the first k. -/
def cntB (b : Nat → Bool) : Nat → Nat
  | 0 => 0
  | k + 1 => cntB b k + if b k = true then 1 else 0

theorem cnt_le (b : Nat → Bool) (k : Nat) : cntB b k ≤ k := by
  induction k with
  | zero => exact Nat.le_refl _
  | succ k ih =>
    show cntB b k + (if b k = true then 1 else 0) ≤ k + 1
    split <;> omega
theorem cnt_mono {b b' : Nat → Bool} {k : Nat} (h : ∀ i, i < k → b i = true → b' i = true) : cntB b k ≤ cntB b' k := by
  induction k with
  | zero => exact Nat.le_refl _
  | succ k ih =>
    have i1 := ih fun i hi => h i (by omega)
    show cntB b k + (if b k = true then 1 else 0) ≤ cntB b' k + (if b' k = true then 1 else 0)
    by_cases c : b k = true
    · rw [if_pos c, if_pos (h k (by omega) c)]
      omega
    · rw [if_neg c]
      split <;> omega
theorem cnt_same {b b' : Nat → Bool} {k : Nat} (h : ∀ i, i < k → b i = b' i) : cntB b k = cntB b' k :=
  Nat.le_antisymm (cnt_mono fun i hi e => by rw [← h i hi]; exact e) (cnt_mono fun i hi e => by rw [h i hi]; exact e)
theorem cnt_none {b : Nat → Bool} {k : Nat} (h : ∀ i, i < k → b i = false) : cntB b k = 0 := by
  induction k with
  | zero => rfl
  | succ k ih =>
    show cntB b k + (if b k = true then 1 else 0) = 0
    rw [ih fun i hi => h i (by omega), h k (by omega)]
    rfl
end Go.Proofs.Ytgbkfmjkemkajab
