/- What the worker leaves is what Run asks. -/
import Derived.Test.YthbghcebcahlnaaOWA
import Derived.Test.YthbghcebcahlnaaALB
namespace Go.Proofs.Ythbghcebcahlnaa
open Go.RowKit Go.Shelf

theorem acc_im {ix : Nat → Nat} {z : Nat → Int × Int} {j : Nat} : ∀ {K : Nat}, (∀ k, k < K → (z k).2 = 0) → (accZ ix z K j).2 = 0
  | 0, _ => rfl
  | K + 1, h => by
    have ih := acc_im (ix := ix) (z := z) (j := j) (K := K) fun k hk => h k (by omega)
    unfold accZ
    split
    · show (accZ ix z K j).2 + (z K).2 = 0
      rw [ih, h K (by omega)]
      rfl
    · exact ih
/-- A grid of levels. -/
def Levels (M : Nat) (z : Nat → Int × Int) : Prop := ∀ k, k < M → 0 ≤ (z k).1 ∧ (z k).1 ≤ 255 ∧ (z k).2 = 0
theorem bins_few {n nb : Nat} {d : Int × Int} (h1 : 1 ≤ n) (h2 : n ≤ 16) (ho : okD d.1 d.2 = true) (hb : binsS n d = ((nb : Int), 0)) : 1 ≤ nb ∧ nb ≤ 512 := by
  obtain ⟨b1, b2, b3⟩ := okD_bounds ho
  have hx : binsS n d = (((n : Int) - 1) * (d.1.natAbs + d.2) + 1, 0) := by
    unfold binsS
    rw [if_neg (by omega), if_pos ho]
  rw [hx] at hb
  have e : ((n : Int) - 1) * (d.1.natAbs + d.2) + 1 = (nb : Int) := congrArg Prod.fst hb
  have h0 : 0 ≤ ((n : Int) - 1) * (d.1.natAbs + d.2) := Int.mul_nonneg (by omega) (by omega)
  have h1 : ((n : Int) - 1) * (d.1.natAbs + d.2) ≤ 15 * 32 := Int.mul_le_mul (by omega) (by omega) (by omega) (by decide)
  omega
/-- A line of the own. -/
theorem own_line {n nb j : Nat} {d : Int × Int} {z : Nat → Int × Int} (h1 : 1 ≤ n) (h2 : n ≤ 16) (ho : okD d.1 d.2 = true) (hb : binsS n d = ((nb : Int), 0)) (hj : j < nb) : Own (n * n) (fun k => (z k).1) (placesS n d j, (accZ (ixN n d) z (n * n) j).1) := by
  obtain ⟨_, e2⟩ := places_own h1 (by omega) ho hb hj
  have hsq : n * n ≤ 256 := Nat.mul_le_mul (show n ≤ 16 by omega) (show n ≤ 16 by omega)
  refine ⟨?_, fun c hc => ?_, ?_, ?_⟩
  · show (placesS n d j).Nodup
    rw [e2]
    exact List.nodup_range.filter _
  · have hc : c ∈ placesS n d j := hc
    rw [e2, List.mem_filter, List.mem_range] at hc
    exact hc.1
  · show sumL _ (placesS n d j) = _
    rw [e2, acc_sum]
  · show (placesS n d j).length ≤ 256
    rw [e2]
    exact Nat.le_trans (List.length_filter_le _ _) (by simp; exact hsq)
theorem acc_small {n : Nat} {ix : Nat → Nat} {z : Nat → Int × Int} (h2 : n ≤ 16) (hz : Levels (n * n) z) (j : Nat) : 0 ≤ (accZ ix z (n * n) j).1 ∧ (accZ ix z (n * n) j).1 ≤ 65280 := by
  have hsq : n * n ≤ 256 := Nat.mul_le_mul (show n ≤ 16 by omega) (show n ≤ 16 by omega)
  rw [acc_sum]
  have := sumL_bounds (f := fun k => (z k).1) (L := (List.range (n * n)).filter fun k => decide (ix k = j)) fun c hc => by
    rw [List.mem_filter, List.mem_range] at hc
    have := hz c hc.1
    exact ⟨this.1, this.2.1⟩
  have hl : ((List.range (n * n)).filter fun k => decide (ix k = j)).length ≤ n * n := Nat.le_trans (List.length_filter_le _ _) (by simp)
  omega
theorem place_wrap {n i : Nat} (h : i < 256) : wrap64 (wrap64 (((i / n : Nat) : Int) * (n : Int)) + ((i % n : Nat) : Int)) = ((i : Nat) : Int) := by
  have hdm := Nat.div_add_mod i n
  rw [Nat.mul_comm] at hdm
  rw [← Int.natCast_mul]
  generalize i / n * n = a at *
  generalize i % n = b at *
  have w1 : wrap64 (a : Int) = (a : Int) := wrap_in (by omega) (by omega)
  rw [w1, wrap_in (by omega) (by omega)]
  omega
/-- All that Run asks of projections. -/
structure Asked (n : Nat) (ps : List PD) (g : Nat → Int) (gq : Nat) (w : World) : Prop where
  hd : ∀ i, i < ps.length → Dir64 (ps.getD i p0).d ∧ binsS n (ps.getD i p0).d = (((ps.getD i p0).nb : Int), 0) ∧ 1 ≤ (ps.getD i p0).nb
  hz : ∀ i j, i < ps.length → j < (ps.getD i p0).nb → ∀ W : World, Calls (barP Try.prog) 69 #[.complex .f64 ((ps.getD i p0).z j).1 ((ps.getD i p0).z j).2] W fun e W' => e = .returned (.bool false) ∧ Below W.heap.size W W'
  so : Sound n ps
  own : Owns (n * n) g (lk n ps ps.length 0)
  at_ : ProjsAt w gq ps
theorem asked_of {w0 w : World} {n g c m dc : Nat} {da : Option Addr} {L : List (Int × Int)} {z : Nat → Int × Int} (h1 : 1 ≤ n) (h2 : n ≤ 16) (hz : Levels (n * n) z) (hG : GoodDirs L) (hL : L.length = m) (h : Left w0 n g c m dc da L z w) :
    ∃ ps, ps.length = m ∧ (∀ i, i < ps.length → w0.heap.size + 7 ≤ (ps.getD i p0).gb) ∧ Asked n ps (fun k => (z k).1) (w0.heap.size + 2) w := by
  obtain ⟨ps, t, hps, hW, hs⟩ := h
  have hsq : n * n ≤ 256 := Nat.mul_le_mul (show n ≤ 16 by omega) (show n ≤ 16 by omega)
  have hok : ∀ i, i < m → okD (L.getD i (0, 0)).1 (L.getD i (0, 0)).2 = true := fun i hi => (hG.2 i (by omega)).1
  have h64 : ∀ i, i < m → Dir64 (L.getD i (0, 0)) := fun i hi => by
    obtain ⟨b1, b2, b3⟩ := okD_bounds (hok i hi)
    exact ⟨by unfold I64; omega, by unfold I64; omega⟩
  have hnn : NonNeg (n * n) z := fun k hk => by have := hz k hk; omega
  refine ⟨ps, hps, hW.new, ⟨fun i hi => ?_, fun i j hi hj W => ?_, ?_, fun x hx => ?_, ?_⟩⟩
  · rw [hps] at hi
    obtain ⟨e1, e2, _⟩ := hs i hi
    rw [e1]
    exact ⟨h64 i hi, e2, (bins_few h1 h2 (hok i hi) e2).1⟩
  · rw [hps] at hi
    obtain ⟨e1, e2, e3, e4, e5⟩ := hs i hi
    have hB := e4 j hj
    obtain ⟨⟨n1, n2⟩, n3, n4⟩ := hB.no hnn
    rw [n4 (acc_im fun k hk => (hz k hk).2.2)]
    exact sumOwn hB.lt1 hB.ic.one n2 n1 (by have := (acc_small (ix := ixN n (L.getD i (0, 0))) h2 hz j).2; omega) W
  · refine ⟨h2, by rw [hps, ← hL]; exact hG.1, fun i hi => ?_, fun i j hi hj => ?_, fun i j k hi hj hk => ?_, fun i j hi hj W => ?_⟩
    · rw [hps] at hi
      obtain ⟨e1, e2, _⟩ := hs i hi
      rw [e1]
      exact ⟨(bins_few h1 h2 (hok i hi) e2).2, h64 i hi⟩
    · rw [hps] at hi
      obtain ⟨e1, e2, _⟩ := hs i hi
      rw [e1, (places_own h1 (by omega) (hok i hi) e2 hj).1, List.length_map]
      exact Nat.le_trans (List.length_filter_le _ _) (by simp; exact hsq)
    · rw [hps] at hi
      obtain ⟨e1, e2, _⟩ := hs i hi
      rw [e1] at hk ⊢
      obtain ⟨f1, f2⟩ := places_own h1 (by omega) (hok i hi) e2 hj
      rw [f1, List.length_map] at hk
      rw [f1, f2]
      generalize hF : (List.range (n * n)).filter (fun k => decide (ixN n (L.getD i (0, 0)) k = j)) = F at hk
      have hall : ∀ x, x ∈ F → x < n * n := fun x hx => by
        rw [← hF, List.mem_filter, List.mem_range] at hx
        exact hx.1
      have hlt : F[k] < n * n := hall _ (List.getElem_mem hk)
      rw [List.getD_eq_getElem?_getD, List.getElem?_map, List.getElem?_eq_getElem hk, List.getD_eq_getElem?_getD, List.getElem?_eq_getElem hk]
      show wrap64 (wrap64 (((F[k] / n : Nat) : Int) * (n : Int)) + ((F[k] % n : Nat) : Int)) = ((F[k] : Nat) : Int)
      exact place_wrap (Nat.lt_of_lt_of_le hlt hsq)
    · rw [hps] at hi
      obtain ⟨e1, e2, e3, e4, e5⟩ := hs i hi
      rw [e5 j]
      exact conv_iv (e4 j hj).ic.one (by have := acc_small (ix := ixN n (L.getD i (0, 0))) h2 hz j; omega) W
  · rw [lk_all, List.mem_flatMap] at hx
    obtain ⟨p, hp, hx⟩ := hx
    obtain ⟨i, hi, rfl⟩ := pd_mem hp
    unfold allS' at hx
    rw [List.mem_map] at hx
    obtain ⟨j, hj, rfl⟩ := hx
    rw [List.mem_range] at hj
    rw [hps] at hi
    obtain ⟨e1, e2, e3, e4, e5⟩ := hs i hi
    unfold pairS
    rw [e1, e5 j]
    exact own_line h1 h2 (hok i hi) e2 hj
  · obtain ⟨cur, r1, r2, r3⟩ := hW.row
    refine ⟨(Array.getElem?_eq_some_iff.1 r1).1, fun i hi => ?_, hW.bins⟩
    obtain ⟨s1, s2, s3⟩ := r3 i hi
    exact ⟨cell_of r1 s1, cell_of r1 s2, cell_of r1 s3⟩
end Go.Proofs.Ythbghcebcahlnaa
