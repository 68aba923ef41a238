/- The order of directions: lists the other way round; pure. -/
import Derived.Test.YtfddchjonjklkaaGV
namespace Go.Proofs.Ytfddchjonjklkaa
open Go.RowKit

theorem twice_from_ok {seen L : List (Int × Int)} (h1 : ∀ d, d ∈ L → okD d.1 d.2 = true) (h2 : L.Nodup) (h3 : ∀ d, d ∈ L → ¬ d ∈ seen) : twiceFrom seen L = 0 := by
  induction L generalizing seen with
  | nil => rfl
  | cons d L ih =>
    show (if okD d.1 d.2 then (if d ∈ seen then 3 else twiceFrom (seen ++ [d]) L) else 60) = 0
    rw [if_pos (h1 d (List.mem_cons_self ..)), if_neg (h3 d (List.mem_cons_self ..))]
    have h2' := List.nodup_cons.1 h2
    refine ih (fun e he => h1 e (List.mem_cons_of_mem _ he)) h2'.2 fun e he hs => ?_
    rw [List.mem_append, List.mem_singleton] at hs
    rcases hs with hs | rfl
    · exact h3 e (List.mem_cons_of_mem _ he) hs
    · exact h2'.1 he

theorem twice_reverse {L : List (Int × Int)} (h : twiceS L = 0) : twiceS L.reverse = 0 := by
  obtain ⟨h1, h2, _⟩ := twice_good h
  exact twice_from_ok (fun d hd => h1 d (List.mem_reverse.1 hd)) ((List.reverse_perm L).symm.nodup h2) fun d _ hs => by cases hs

theorem err_reverse {L : List (Int × Int)} (h : makeErr L = 0) : makeErr L.reverse = 0 := by
  have R := right_of h
  unfold makeErr
  rw [List.length_reverse, if_neg (by have := R.len; omega), twice_reverse R.twice, if_neg (by decide), sumP_reverse, sumQ_reverse, if_neg (by have := R.w; have := R.h; have := R.w64; have := R.h64; omega)]

theorem err_back {L : List (Int × Int)} (h : makeErr L ≠ 0) : makeErr L.reverse ≠ 0 := by
  intro e
  have := err_reverse e
  rw [List.reverse_reverse] at this
  exact h this

theorem gW_reverse (L : List (Int × Int)) : gW L.reverse = gW L := by unfold gW; rw [sumP_reverse]
theorem gH_reverse (L : List (Int × Int)) : gH L.reverse = gH L := by unfold gH; rw [sumQ_reverse]
theorem ghB_reverse (L : List (Int × Int)) (w : Nat) : ghB L.reverse w = ghB L w := by
  funext j
  unfold ghB
  rw [gh_reverse]

theorem all_reverse {L : List (Int × Int)} (h : All64 L) : All64 L.reverse := by
  intro i d hd
  have hm : d ∈ L := List.mem_reverse.1 (List.mem_of_getElem? hd)
  obtain ⟨j, hj⟩ := List.mem_iff_getElem?.1 hm
  exact h j d hj

theorem rev_step {L : List (Int × Int)} {k : Nat} (hk : k < L.length) {d : Int × Int} (hd : L[L.length - 1 - k]? = some d) : L.reverse.take (k + 1) = L.reverse.take k ++ [d] := by
  have hr : L.reverse[k]? = some d := by
    rw [List.getElem?_reverse hk]
    exact hd
  exact take_step hr
end Go.Proofs.Ytfddchjonjklkaa
