/- bound.Run: of bounds of a grid's own, as the law calls it; of bounds that are drawn together already. -/
import Derived.Test.YthbghcebcahlnaaLMB
namespace Go.Proofs.Ythbghcebcahlnaa
open Go.RowKit Go.Shelf

/-- A cell that is allowed stays. -/
theorem dStep_still {M : Nat} {g : Nat → Int} {L : List Nat × Int} (hL : Own M g L) {p : Nat} (hp : p ∈ L.1) {lo hi : Nat → Int} (hA : Abt M g lo hi) (hf : Fine1 L lo hi p) : dStep L.2 p ⟨sumL lo L.1, sumL hi L.1, false, lo, hi⟩ = some ⟨sumL lo L.1, sumL hi L.1, false, lo, hi⟩ := by
  obtain ⟨a1, a2, a3, a4⟩ := hA p (hL.ins p hp)
  have bl := sumL_bounds (f := lo) (L := L.1) fun c hc => by have := hA c (hL.ins c hc); omega
  have bh := sumL_bounds (f := hi) (L := L.1) fun c hc => by have := hA c (hL.ins c hc); omega
  have bg := sumL_bounds (f := g) (L := L.1) fun c hc => by have := hA c (hL.ins c hc); omega
  have hs := hL.sum
  have hn := hL.len
  have e1 : wrap64 (sumL lo L.1 - lo p) = sumL lo L.1 - lo p := wrap_in (by omega) (by omega)
  have e2 : wrap64 (sumL hi L.1 - hi p) = sumL hi L.1 - hi p := wrap_in (by omega) (by omega)
  have e3 : wrap64 (L.2 - (sumL hi L.1 - hi p)) = L.2 - (sumL hi L.1 - hi p) := wrap_in (by omega) (by omega)
  have e4 : wrap64 (L.2 - (sumL lo L.1 - lo p)) = L.2 - (sumL lo L.1 - lo p) := wrap_in (by omega) (by omega)
  have f1 : L.2 - (sumL hi L.1 - hi p) ≤ lo p := hf.1
  have f2 : hi p ≤ L.2 - (sumL lo L.1 - lo p) := hf.2
  have e5 : wrap64 (sumL lo L.1 - lo p + lo p) = sumL lo L.1 := by rw [wrap_in (by omega) (by omega)]; omega
  have e6 : wrap64 (sumL hi L.1 - hi p + hi p) = sumL hi L.1 := by rw [wrap_in (by omega) (by omega)]; omega
  have u1 : updI lo p (lo p) = lo := by funext i; unfold updI; split <;> simp_all
  have u2 : updI hi p (hi p) = hi := by funext i; unfold updI; split <;> simp_all
  unfold dStep
  dsimp only
  rw [e1, e2, e3, e4, if_neg (show ¬ lo p < L.2 - (sumL hi L.1 - hi p) by omega), if_neg (show ¬ L.2 - (sumL lo L.1 - lo p) < hi p by omega), if_neg (by omega), e5, e6, u1, u2]
  simp
theorem dK_still {M : Nat} {g : Nat → Int} {L : List Nat × Int} (hL : Own M g L) {lo hi : Nat → Int} (hA : Abt M g lo hi) (hf : ∀ c, c ∈ L.1 → Fine1 L lo hi c) : ∀ k, k ≤ L.1.length → dK L.2 L.1 ⟨sumL lo L.1, sumL hi L.1, false, lo, hi⟩ k = some ⟨sumL lo L.1, sumL hi L.1, false, lo, hi⟩
  | 0, _ => rfl
  | k + 1, hk => by
    have hp := getD_mem (show k < L.1.length by omega)
    unfold dK
    rw [dK_still hL hA hf k (by omega)]
    exact dStep_still hL hp hA (hf _ hp)
theorem sweep_still {M : Nat} {g : Nat → Int} {lines : List (List Nat × Int)} (hO : Owns M g lines) {lo hi : Nat → Int} (hA : Abt M g lo hi) (hs : Stable lines lo hi) : ∀ k, k ≤ lines.length → swKp lines ⟨false, lo, hi⟩ k = some ⟨false, lo, hi⟩
  | 0, _ => rfl
  | k + 1, hk => by
    have hm : lines.getD k ([], 0) ∈ lines := by
      rw [List.getD_eq_getElem?_getD, List.getElem?_eq_getElem (by omega)]
      exact List.getElem_mem _
    have hL := hO _ hm
    have hn := hL.len
    have hin := hL.ins
    have b : ∀ f : Nat → Int, (∀ i, i < M → 0 ≤ f i ∧ f i ≤ 255) → sumK f (lines.getD k ([], 0)).1 (lines.getD k ([], 0)).1.length = sumL f (lines.getD k ([], 0)).1 := fun f hf => sumK_all (by omega) fun c hc => hf c (hin c hc)
    unfold swKp
    rw [sweep_still hO hA hs k (by omega)]
    show swStepP _ _ = _
    unfold swStepP drawS
    dsimp only
    rw [b lo fun i hi => by have := hA i hi; omega, b hi fun i hi => by have := hA i hi; omega, dK_still hL hA (fun c hc => hs _ hm c hc) _ (Nat.le_refl _)]
    rfl
theorem sumL_cong {f g : Nat → Int} {L : List Nat} (h : ∀ c, c ∈ L → f c = g c) : sumL f L = sumL g L := Int.le_antisymm (sumL_mono fun c hc => Int.le_of_eq (h c hc)) (sumL_mono fun c hc => Int.le_of_eq (h c hc).symm)
theorem Stable.cong {M : Nat} {g : Nat → Int} {lines : List (List Nat × Int)} (hO : Owns M g lines) {lo hi lo1 hi1 : Nat → Int} (h : Stable lines lo hi) (h1 : ∀ i, i < M → lo1 i = lo i) (h2 : ∀ i, i < M → hi1 i = hi i) : Stable lines lo1 hi1 := fun L hL c hc => by
  have hin := (hO L hL).ins
  rw [sumL_cong fun c hc => h1 c (hin c hc), sumL_cong fun c hc => h2 c (hin c hc), h1 c (hin c hc), h2 c (hin c hc)]
  exact h L hL c hc
/-- What Run leaves, of two rows of bounds. -/
def RunP (n M : Nat) (ps : List PD) (L : List Int) (lo hi : Nat → Int) (w : World) (e : Ending) (w' : World) : Prop :=
  (e = .returned (.tuple #[.slice none 0 0, .slice none 0 0, .int .i64 112]) ∨ ∃ gl cl gh ch lo' hi', e = .returned (.tuple #[.slice (some ⟨gl, 0, none⟩) M cl, .slice (some ⟨gh, 0, none⟩) M ch, .int .i64 0]) ∧
    IRow w' gl M lo' ∧ IRow w' gh M hi' ∧ Great M (lk n ps ps.length 0) lo hi lo' hi' ∧ Abt M (fun k => (zL L k).1) lo' hi') ∧ Below w.heap.size w w'
theorem runAt {n M gq cq gl cl gh ch : Nat} {ps : List PD} {L : List Int} {lo hi : Nat → Int} (h1 : 1 ≤ n) (h2 : n ≤ 8) (hM : n * n = M) (W : World) (ha : Asked n ps (fun k => (zL L k).1) gq W) (hA : Abt M (fun k => (zL L k).1) lo hi) (r1 : IRow W gl M lo) (r2 : IRow W gh M hi) :
    Calls (barP Try.prog) 9 #[.int .i64 n, .slice (some ⟨gq, 0, none⟩) ps.length cq, .slice (some ⟨gl, 0, none⟩) M cl, .slice (some ⟨gh, 0, none⟩) M ch] W (RunP n M ps L lo hi W) := by
  subst hM
  have hlev : levs n (tab (n * n) lo) (tab (n * n) hi) = true := levs_tab (fun k hk => by have := hA k hk; dsimp only at this; omega) (fun k hk => by have := hA k hk; dsimp only at this; omega)
  have hA2 : Abt (tab (n * n) lo).length (fun k => (zL L k).1) (fun k => (tab (n * n) lo).getD k 0) (fun k => (tab (n * n) hi).getD k 0) := by
    intro k hk
    rw [tab_len] at hk
    have := hA k hk
    dsimp only
    rw [tab_get hk, tab_get hk]
    exact this
  refine (runOwn (cq := cq) h1 (by omega) hlev ha.hd ha.hz ha.so (by rw [tab_len]; exact ha.own) hA2 W (ints_row (cap := cl) r1) (ints_row (cap := ch) r2) ha.at_).mono ?_
  rintro e w' ⟨hc, hb⟩
  refine ⟨?_, hb⟩
  rcases hc with rfl | ⟨gl', cl', gh', ch', lo', hi', rfl, q1, q2, q3, q4⟩
  · exact .inl rfl
  · rw [tab_len] at *
    exact .inr ⟨gl', cl', gh', ch', lo', hi', rfl, q1, q2, q3.cong (fun i hi => tab_get hi) (fun i hi => tab_get hi), q4⟩
/-- Run of bounds that no line draws further together: they come back. -/
theorem runDone {n M gq cq gl cl gh ch : Nat} {ps : List PD} {L : List Int} {lo hi : Nat → Int} (h1 : 1 ≤ n) (h2 : n ≤ 8) (hM : n * n = M) (hp : 1 ≤ ps.length) (W : World) (ha : Asked n ps (fun k => (zL L k).1) gq W) (hA : Abt M (fun k => (zL L k).1) lo hi) (hs : Stable (lk n ps ps.length 0) lo hi) (r1 : IRow W gl M lo) (r2 : IRow W gh M hi) :
    Calls (barP Try.prog) 9 #[.int .i64 n, .slice (some ⟨gq, 0, none⟩) ps.length cq, .slice (some ⟨gl, 0, none⟩) M cl, .slice (some ⟨gh, 0, none⟩) M ch] W fun e w' =>
      ∃ gl' cl' gh' ch', e = .returned (.tuple #[.slice (some ⟨gl', 0, none⟩) M cl', .slice (some ⟨gh', 0, none⟩) M ch', .int .i64 0]) ∧ IRow w' gl' M lo ∧ IRow w' gh' M hi ∧ Below W.heap.size W w' := by
  subst hM
  have hlev : levs n (tab (n * n) lo) (tab (n * n) hi) = true := levs_tab (fun k hk => by have := hA k hk; dsimp only at this; omega) (fun k hk => by have := hA k hk; dsimp only at this; omega)
  have hA2 : Abt (n * n) (fun k => (zL L k).1) (fun k => (tab (n * n) lo).getD k 0) (fun k => (tab (n * n) hi).getD k 0) := by
    intro k hk
    have := hA k hk
    dsimp only
    rw [tab_get hk, tab_get hk]
    exact this
  have hs2 := Stable.cong (lo1 := fun k => (tab (n * n) lo).getD k 0) (hi1 := fun k => (tab (n * n) hi).getD k 0) ha.own hs (fun i hi => tab_get hi) (fun i hi => tab_get hi)
  have hst : States (lk n ps ps.length 0) 0 (fun t => ⟨t == 0, fun k => (tab (n * n) lo).getD k 0, fun k => (tab (n * n) hi).getD k 0⟩) := by
    refine ⟨fun t ht => ?_, fun t ht => by omega, rfl⟩
    exact sweep_still ha.own hA2 hs2 _ (Nat.le_refl _)
  have hx1 : 1 ≤ (lk n ps ps.length 0).length := by
    have hm := (ha.hd 0 (by omega)).2.2
    rw [lk_all]
    match ps, hp, hm with
    | p :: r, _, hm =>
      rw [List.flatMap_cons, List.length_append, allS_len]
      have : 1 ≤ p.nb := hm
      omega
  have hx2 : (lk n ps ps.length 0).length ≤ 100000 := by
    rw [lk_all]
    have := flat_len n ps fun p hp => by
      obtain ⟨i, hi, rfl⟩ := pd_mem hp
      exact (ha.so.bins i hi).1
    have := ha.so.few
    omega
  refine (runOk (cq := cq) (T := 0) h1 (by omega) hlev ha.so.few (fun i hi => ⟨(ha.hd i hi).1, (ha.hd i hi).2.1, by have := (ha.so.bins i hi).1; omega⟩) ha.hz ha.so hx1 hx2 (fun x hx => by rw [tab_len]; exact (ha.own x hx).fit) (by omega) hst rfl rfl (fun i hi => by
    rw [tab_len] at hi
    have := hA2 i hi
    dsimp only at this ⊢
    omega) W (ints_row (cap := cl) r1) (ints_row (cap := ch) r2) ha.at_).mono ?_
  rintro e w' ⟨gl', cl', gh', ch', rfl, q1, q2, hb⟩
  rw [tab_len] at *
  exact ⟨gl', cl', gh', ch', rfl, vrow_ext q1 (fun i hi => by dsimp only; rw [tab_get hi]), vrow_ext q2 (fun i hi => by dsimp only; rw [tab_get hi]), hb⟩
end Go.Proofs.Ythbghcebcahlnaa
