/- The rests of small grids, as sums over the open cells. Pure. -/
import Derived.Test.YtgbkfmjkemkajabPM0
namespace Go.Proofs.Ytgbkfmjkemkajab

/-- What the places' values add up to. -/
def sumV (val : Nat → Nat) (p : Nat → Bool) : Nat → Nat
  | 0 => 0
  | k + 1 => sumV val p k + if p k = true then val k else 0
section
variable {val : Nat → Nat}
theorem sumV_step (p : Nat → Bool) (k : Nat) : sumV val p (k + 1) = sumV val p k + if p k = true then val k else 0 := rfl
theorem sumV_same {p p' : Nat → Bool} {k : Nat} (h : ∀ i, i < k → p i = p' i) : sumV val p k = sumV val p' k := by
  induction k with
  | zero => rfl
  | succ k ih => rw [sumV_step, sumV_step, ih fun i hi => h i (by omega), h k (by omega)]
theorem sumV_none {p : Nat → Bool} {k : Nat} (h : ∀ i, i < k → p i = false) : sumV val p k = 0 := by
  induction k with
  | zero => rfl
  | succ k ih =>
    rw [sumV_step, ih fun i hi => h i (by omega), h k (by omega)]
    rfl
theorem sumV_mono {p p' : Nat → Bool} {k : Nat} (h : ∀ i, i < k → p i = true → p' i = true) : sumV val p k ≤ sumV val p' k := by
  induction k with
  | zero => exact Nat.le_refl _
  | succ k ih =>
    have i1 := ih fun i hi => h i (by omega)
    rw [sumV_step, sumV_step]
    by_cases c : p k = true
    · rw [if_pos c, if_pos (h k (by omega) c)]
      omega
    · rw [if_neg c]
      omega
theorem sumV_less {p : Nat → Bool} {c k : Nat} (hc : c < k) (h : p c = true) : sumV val (fun i => if i = c then false else p i) k + val c = sumV val p k := by
  induction k with
  | zero => omega
  | succ k ih =>
    rw [sumV_step, sumV_step]
    by_cases e : c = k
    · subst e
      rw [sumV_same (p := fun i => if i = c then false else p i) (p' := p) (fun i hi => if_neg (by omega)), if_neg (by simp), if_pos h]
      omega
    · have i1 := ih (by omega)
      have e2 : (if k = c then false else p k) = p k := if_neg (by omega)
      rw [e2]
      omega
theorem sumV_one {p : Nat → Bool} {k : Nat} (h : cntB p k = 1) : sumV val p k = val (sumB p k) := by
  obtain ⟨h1, h2⟩ := sum_one h
  have e := sumV_less (val := val) h1 h2
  rw [sumV_none fun i hi => ?_] at e
  · omega
  · by_cases c : i = sumB p k
    · rw [if_pos c]
    · rw [if_neg c]
      cases hp : p i
      · rfl
      · exact absurd (cnt_only h1 h2 h hi hp) c

/-- The rest of a line. -/
def restZ (val : Nat → Nat) (n : Nat) (L : List (Int × Int)) (b : Nat → Bool) (k j : Nat) : Nat := sumV val (onB n (dk L k) b (j : Int)) (n * n)
theorem restZ_shut {n : Nat} {L : List (Int × Int)} {b : Nat → Bool} {c : Nat} (hc : c < n * n) (h : b c = true) (k j : Nat) : restZ val n L (shutB b c) k j + (if lnI n (dk L k) c = (j : Int) then val c else 0) = restZ val n L b k j := by
  unfold restZ
  by_cases e : lnI n (dk L k) c = (j : Int)
  · rw [if_pos e, ← sumV_less (val := val) (p := onB n (dk L k) b (j : Int)) hc (onB_true.2 ⟨h, e⟩)]
    congr 1
    refine sumV_same fun i _ => ?_
    unfold onB shutB
    by_cases ec : i = c
    · rw [if_pos ec, if_pos ec]
      rfl
    · rw [if_neg ec, if_neg ec]
  · rw [if_neg e, Nat.add_zero]
    refine sumV_same fun i _ => ?_
    unfold onB shutB
    by_cases ec : i = c
    · subst ec
      rw [if_pos rfl]
      simp [e]
    · rw [if_neg ec]
theorem restZ_one {n : Nat} {L : List (Int × Int)} {b : Nat → Bool} {k j : Nat} (h : cntL n (dk L k) b (j : Int) = 1) : restZ val n L b k j = val (sumL n (dk L k) b (j : Int)) := sumV_one h
theorem restZ_none {n : Nat} {L : List (Int × Int)} {b : Nat → Bool} (h : ∀ i, i < n * n → b i = false) (k j : Nat) : restZ val n L b k j = 0 := sumV_none fun i hi => by
  unfold onB
  rw [h i hi]
  rfl
theorem restZ_le {n : Nat} {L : List (Int × Int)} {b : Nat → Bool} (k j : Nat) : restZ val n L b k j ≤ sumV val (fun _ => true) (n * n) := sumV_mono fun _ _ _ => rfl
end
end Go.Proofs.Ytgbkfmjkemkajab
