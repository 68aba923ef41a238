/- The document's own Katz: sums of steps. -/
import Derived.Test.YthbghcebcahlnaaDP
namespace Go.Proofs.Ythbghcebcahlnaa
open Go.RowKit

def sumP : List (Int × Int) → Int
  | [] => 0
  | d :: r => d.1.natAbs + sumP r
def sumQ : List (Int × Int) → Int
  | [] => 0
  | d :: r => d.2 + sumQ r
theorem sumP_snoc (L : List (Int × Int)) (d : Int × Int) : sumP (L ++ [d]) = sumP L + d.1.natAbs := by
  induction L with
  | nil => simp [sumP]
  | cons a l ih => simp only [List.cons_append, sumP, ih]; omega
theorem sumQ_snoc (L : List (Int × Int)) (d : Int × Int) : sumQ (L ++ [d]) = sumQ L + d.2 := by
  induction L with
  | nil => simp [sumQ]
  | cons a l ih => simp only [List.cons_append, sumQ, ih]; omega
theorem sum_small {L : List (Int × Int)} (h : ∀ d, d ∈ L → okD d.1 d.2 = true) : 0 ≤ sumP L ∧ sumP L ≤ 16 * L.length ∧ 0 ≤ sumQ L ∧ sumQ L ≤ 16 * L.length := by
  induction L with
  | nil => exact ⟨by decide, by decide, by decide, by decide⟩
  | cons a l ih =>
    have h1 := ih fun d hd => h d (List.mem_cons_of_mem _ hd)
    have h2 := okD_bounds (h a (List.mem_cons_self ..))
    simp only [sumP, sumQ, List.length_cons]
    omega

theorem twice_good {seen L : List (Int × Int)} (h : twiceFrom seen L = 0) : (∀ d, d ∈ L → okD d.1 d.2 = true) ∧ L.Nodup ∧ ∀ d, d ∈ L → ¬ d ∈ seen := by
  induction L generalizing seen with
  | nil => exact ⟨fun d hd => (by cases hd), List.nodup_nil, fun d hd => (by cases hd)⟩
  | cons a l ih =>
    unfold twiceFrom at h
    by_cases c1 : okD a.1 a.2 = true
    · rw [if_pos c1] at h
      by_cases c2 : a ∈ seen
      · rw [if_pos c2] at h
        exact absurd h (by decide)
      · rw [if_neg c2] at h
        obtain ⟨i1, i2, i3⟩ := ih h
        refine ⟨fun d hd => ?_, ?_, fun d hd => ?_⟩
        · rcases List.mem_cons.1 hd with rfl | hd
          · exact c1
          · exact i1 d hd
        · exact List.nodup_cons.2 ⟨fun hm => i3 a hm (by simp), i2⟩
        · rcases List.mem_cons.1 hd with rfl | hd
          · exact c2
          · exact fun hm => i3 d hd (by simp [hm])
    · rw [if_neg c1] at h
      exact absurd h (by decide)

theorem nodup_le {L M : List (Int × Int)} (h : L.Nodup) (hs : ∀ d, d ∈ L → d ∈ M) : L.length ≤ M.length := by
  induction L generalizing M with
  | nil => exact Nat.zero_le _
  | cons a l ih =>
    obtain ⟨h1, h2⟩ := List.nodup_cons.1 h
    have hm : a ∈ M := hs a (List.mem_cons_self ..)
    have hl : l.length ≤ (M.erase a).length := by
      refine ih h2 fun d hd => ?_
      have hne : d ≠ a := fun e => h1 (e ▸ hd)
      exact (List.mem_erase_of_ne hne).2 (hs d (List.mem_cons_of_mem _ hd))
    have := List.length_erase_of_mem hm
    have := List.length_pos_of_mem hm
    simp only [List.length_cons]
    omega

def allDirs : List (Int × Int) := (List.range 33).flatMap fun (i : Nat) => (List.range 17).map fun (j : Nat) => ((i : Int) - 16, (j : Int))
theorem allDirs_len : allDirs.length = 561 := by decide +kernel
theorem mem_allDirs {P Q : Int} (h : okD P Q = true) : (P, Q) ∈ allDirs := by
  obtain ⟨b1, b2, b3⟩ := okD_bounds h
  unfold allDirs
  refine List.mem_flatMap.2 ⟨(P + 16).toNat, List.mem_range.2 (by omega), List.mem_map.2 ⟨Q.toNat, List.mem_range.2 (by omega), ?_⟩⟩
  refine Prod.ext ?_ ?_
  · show ((P + 16).toNat : Int) - 16 = P
    omega
  · show (Q.toNat : Int) = Q
    omega
theorem twice_len {L : List (Int × Int)} (h : twiceS L = 0) : L.length ≤ 561 := by
  obtain ⟨h1, h2, _⟩ := twice_good h
  rw [← allDirs_len]
  exact nodup_le h2 fun d hd => mem_allDirs (h1 d hd)

def katzS (n : Int) (L : List (Int × Int)) : Bool × Int := if n < 1 ∨ 64 < n then (false, 1) else if twiceS L ≠ 0 then (false, twiceS L) else (decide (n ≤ sumP L ∨ n ≤ sumQ L), 0)

end Go.Proofs.Ythbghcebcahlnaa
