/- BoundMore: lists of projections out of others; widths. -/
import Derived.Test.YthbghcebcahlnaaLSA
import Derived.Test.YthbghcebcahlnaaBE
namespace Go.Proofs.Ythbghcebcahlnaa
open Go.RowKit Go.Shelf

theorem lk_mem {n : Int} {ps : List PD} {L : List Nat × Int} : L ∈ lk n ps ps.length 0 ↔ ∃ p, p ∈ ps ∧ L ∈ allS' n p := by
  rw [lk_all, List.mem_flatMap]
/-- Some of the projections, at another place. -/
theorem Asked.sub {n : Nat} {ps qs : List PD} {g : Nat → Int} {gq gr : Nat} {w w' : World} (h : Asked n ps g gq w) (few : qs.length ≤ 64) (hq : ∀ p, p ∈ qs → p ∈ ps) (hp : ProjsAt w' gr qs) : Asked n qs g gr w' := by
  have key : ∀ i, i < qs.length → ∃ j, j < ps.length ∧ ps.getD j p0 = qs.getD i p0 := fun i hi => by
    have hm : qs.getD i p0 ∈ qs := by
      rw [List.getD_eq_getElem?_getD, List.getElem?_eq_getElem hi]
      exact List.getElem_mem hi
    exact pd_mem (hq _ hm)
  refine ⟨fun i hi => ?_, fun i j hi hj => ?_, ⟨h.so.n16, few, fun i hi => ?_, fun i j hi => ?_, fun i j k hi => ?_, fun i j hi => ?_⟩, fun L hL => ?_, hp⟩
  · obtain ⟨k, hk, e⟩ := key i hi
    rw [← e]
    exact h.hd k hk
  · obtain ⟨k, hk, e⟩ := key i hi
    rw [← e] at hj ⊢
    exact h.hz k j hk hj
  · obtain ⟨k, hk, e⟩ := key i hi
    rw [← e]
    exact h.so.bins k hk
  · obtain ⟨k, hk, e⟩ := key i hi
    rw [← e]
    exact h.so.size k j hk
  · obtain ⟨q, hk, e⟩ := key i hi
    rw [← e]
    exact h.so.cell q j k hk
  · obtain ⟨k, hk, e⟩ := key i hi
    rw [← e]
    exact h.so.conv k j hk
  · obtain ⟨p, hp, hl⟩ := lk_mem.1 hL
    exact h.own L (lk_mem.2 ⟨p, hq p hp, hl⟩)
theorem ProjsAt.take {w : World} {gq m : Nat} {ps : List PD} (h : ProjsAt w gq ps) : ProjsAt w gq (ps.take m) := by
  have key : ∀ i, i < (ps.take m).length → i < ps.length ∧ (ps.take m).getD i p0 = ps.getD i p0 := fun i hi => by
    rw [List.length_take] at hi
    refine ⟨by omega, ?_⟩
    rw [List.getD_eq_getElem?_getD, List.getD_eq_getElem?_getD, List.getElem?_take, if_pos (by omega)]
  refine ⟨h.lt, fun i hi => ?_, fun i hi => ?_⟩
  · obtain ⟨k, e⟩ := key i hi
    rw [e]
    exact h.cells i k
  · obtain ⟨k, e⟩ := key i hi
    rw [e]
    exact h.bins i k
/-- The widest bounds, of functions that are alike. -/
theorem Great.cong {M : Nat} {lines : List (List Nat × Int)} {lo0 hi0 lo1 hi1 lo hi : Nat → Int} (h : Great M lines lo0 hi0 lo hi) (h1 : ∀ i, i < M → lo0 i = lo1 i) (h2 : ∀ i, i < M → hi0 i = hi1 i) : Great M lines lo1 hi1 lo hi :=
  ⟨h.stab, fun i hi => by rw [← h1 i hi, ← h2 i hi]; exact h.ins i hi, fun l k hs hw => h.most l k hs fun i hi => by rw [h1 i hi, h2 i hi]; exact hw i hi⟩
theorem widK_tab {M : Nat} {lo hi : Nat → Int} (h : ∀ i, i < M → 0 ≤ lo i ∧ lo i ≤ hi i ∧ hi i ≤ 255) (hM : M ≤ 4096) : ∀ k, k ≤ M → widK (tab M lo) (tab M hi) k = sumL (fun i => hi i - lo i) (List.range k) ∧ 0 ≤ sumL (fun i => hi i - lo i) (List.range k) ∧ sumL (fun i => hi i - lo i) (List.range k) ≤ 255 * k
  | 0, _ => by simp [widK, sumL]
  | k + 1, hk => by
    obtain ⟨e, b1, b2⟩ := widK_tab h hM k (by omega)
    have hb := h k (by omega)
    have es : sumL (fun i => hi i - lo i) (List.range (k + 1)) = sumL (fun i => hi i - lo i) (List.range k) + (hi k - lo k) := by
      rw [List.range_succ, sumL_append]
      simp [sumL]
    refine ⟨?_, by rw [es]; omega, by rw [es]; omega⟩
    unfold widK
    rw [e, tab_get (by omega), tab_get (by omega), es]
    have e1 : wrap64 (hi k - lo k) = hi k - lo k := wrap_in (by omega) (by omega)
    rw [e1, wrap_in (by omega) (by omega)]
theorem wid_less {M : Nat} {a b c d : Nat → Int} (hab : ∀ i, i < M → 0 ≤ a i ∧ a i ≤ b i ∧ b i ≤ 255) (hcd : ∀ i, i < M → 0 ≤ c i ∧ c i ≤ d i ∧ d i ≤ 255) (hw : Within M c d a b) (hM : M ≤ 4096) : widS (tab M c) (tab M d) ≤ widS (tab M a) (tab M b) := by
  unfold widS
  rw [tab_len, tab_len, tab_len, tab_len, Nat.min_self, (widK_tab hcd hM M (Nat.le_refl _)).1, (widK_tab hab hM M (Nat.le_refl _)).1]
  refine sumL_mono fun i hi => ?_
  have hi := List.mem_range.1 hi
  have := hw i hi
  omega
end Go.Proofs.Ythbghcebcahlnaa
