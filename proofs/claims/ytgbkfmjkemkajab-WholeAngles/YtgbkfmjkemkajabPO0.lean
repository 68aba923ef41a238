/- Lists of directions the other way round, and their beginnings. Pure. -/
import Derived.Test.YtgbkfmjkemkajabPW
namespace Go.Proofs.Ytgbkfmjkemkajab
open Go.RowKit

theorem on {w0 w w' : World} (h : Below w0.heap.size w0 w) (hb : Below w.heap.size w w') : Below w0.heap.size w0 w' := h.trans (hb.mono h.size)

theorem take_step {L : List (Int × Int)} {i : Nat} {d : Int × Int} (hd : L[i]? = some d) : L.take (i + 1) = L.take i ++ [d] := by
  have hi := (List.getElem?_eq_some_iff.1 hd).1
  rw [List.take_succ_eq_append_getElem hi, (List.getElem?_eq_some_iff.1 hd).2]

theorem twice_from_ok {seen L : List (Int × Int)} (h1 : ∀ d, d ∈ L → okD d.1 d.2 = true) (h2 : L.Nodup) (h3 : ∀ d, d ∈ L → ¬ d ∈ seen) : twiceFrom seen L = 0 := by
  induction L generalizing seen with
  | nil => rfl
  | cons d L ih =>
    show (if okD d.1 d.2 then (if d ∈ seen then 3 else twiceFrom (seen ++ [d]) L) else 60) = 0
    rw [if_pos (h1 d (List.mem_cons_self ..)), if_neg (h3 d (List.mem_cons_self ..))]
    have h2' := List.nodup_cons.1 h2
    refine ih (fun e he => h1 e (List.mem_cons_of_mem _ he)) h2'.2 fun e he hs => ?_
    rw [List.mem_append, List.mem_singleton] at hs
    rcases hs with hs | rfl
    · exact h3 e (List.mem_cons_of_mem _ he) hs
    · exact h2'.1 he

theorem sound_err {m : Nat} {L : List (Int × Int)} (h1 : 1 ≤ m) (h2 : m ≤ 64) (h3 : L.length ≤ 64) (h4 : ∀ d, d ∈ L → okD d.1 d.2 = true) (h5 : L.Nodup) : openErr m L = 0 := by
  unfold openErr
  rw [if_neg (by omega), if_neg (by omega)]
  exact twice_from_ok h4 h5 fun d _ hs => by cases hs

theorem err_reverse {m : Nat} {L : List (Int × Int)} (S : Sound m L) : openErr m L.reverse = 0 :=
  sound_err S.n1 S.n64 (by rw [List.length_reverse]; exact S.len) (fun d hd => S.ok d (List.mem_reverse.1 hd)) ((List.reverse_perm L).symm.nodup S.nodup)

theorem err_part {m : Nat} {L : List (Int × Int)} (S : Sound m L) (r : Nat) : openErr m (L.reverse.take r) = 0 :=
  sound_err S.n1 S.n64 (by rw [List.length_take, List.length_reverse]; have := S.len; omega) (fun d hd => S.ok d (List.mem_reverse.1 (List.mem_of_mem_take hd))) (((List.reverse_perm L).symm.nodup S.nodup).sublist (List.take_sublist r _))

theorem all_reverse {L : List (Int × Int)} (h : All64 L) : All64 L.reverse := by
  intro i d hd
  have hm : d ∈ L := List.mem_reverse.1 (List.mem_of_getElem? hd)
  obtain ⟨j, hj⟩ := List.mem_iff_getElem?.1 hm
  exact h j d hj

theorem take_at {L : List (Int × Int)} {r i : Nat} {d : Int × Int} (h : (L.take r)[i]? = some d) : L[i]? = some d := by
  rw [List.getElem?_take] at h
  split at h
  · exact h
  · cases h

theorem all_part {L : List (Int × Int)} (h : All64 L) (r : Nat) : All64 (L.take r) := fun i d hd => h i d (take_at hd)

theorem rev_step {L : List (Int × Int)} {k : Nat} (hk : k < L.length) {d : Int × Int} (hd : L[L.length - 1 - k]? = some d) : L.reverse.take (k + 1) = L.reverse.take k ++ [d] := by
  have hr : L.reverse[k]? = some d := by
    rw [List.getElem?_reverse hk]
    exact hd
  exact take_step hr

theorem dirs_part {w : World} {a : Option Addr} {g o : Nat} {L : List (Int × Int)} (h : Dirs w a g o L) (r : Nat) : Dirs w a g o (L.take r) := by
  refine ⟨fun hl => h.at_ ?_, fun i c hc => h.cell i c (take_at hc)⟩
  rw [List.length_take] at hl
  omega

/-- What a row of directions that is owned is; its capacity. -/
theorem dirs_cap {w : World} {B : Nat} {v : Value} {L : List (Int × Int)} (h : w.ownsRow B 31 2 v L.length (flat2 L)) : ∃ a cap g, v = .slice a L.length cap ∧ Dirs w a g 0 L ∧ L.length ≤ cap ∧ (1 ≤ L.length → a = some ⟨g, 0, none⟩) := by
  obtain ⟨a, cap, g, rfl, hD⟩ := dirs_owns h
  refine ⟨a, cap, g, rfl, hD, ?_, fun hl => (hD.at_ hl).1⟩
  rcases h.2 with ⟨h1, h2⟩ | ⟨g', cap', cur, h1, _, _, h4, _, _, _⟩
  · rw [h2]
    exact Nat.zero_le _
  · injection h1 with e1 e2 e3
    omega
end Go.Proofs.Ytgbkfmjkemkajab
