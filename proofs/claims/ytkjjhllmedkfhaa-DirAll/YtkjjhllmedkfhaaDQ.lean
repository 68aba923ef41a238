/- The document's own Katz: sums of steps. -/
import Derived.Test.YtkjjhllmedkfhaaDP
namespace Go.Proofs.Ytkjjhllmedkfhaa
open Go.RowKit

def sumP : List (Int × Int) → Int
  | [] => 0
  | d :: r => d.1.natAbs + sumP r
def sumQ : List (Int × Int) → Int
  | [] => 0
  | d :: r => d.2 + sumQ r
theorem sumP_snoc (L : List (Int × Int)) (d : Int × Int) : sumP (L ++ [d]) = sumP L + d.1.natAbs := by
  induction L with
  | nil => simp [sumP]
  | cons a l ih => simp only [List.cons_append, sumP, ih]; omega
theorem sumQ_snoc (L : List (Int × Int)) (d : Int × Int) : sumQ (L ++ [d]) = sumQ L + d.2 := by
  induction L with
  | nil => simp [sumQ]
  | cons a l ih => simp only [List.cons_append, sumQ, ih]; omega
theorem sum_small {L : List (Int × Int)} (h : ∀ d, d ∈ L → okD d.1 d.2 = true) : 0 ≤ sumP L ∧ sumP L ≤ 16 * L.length ∧ 0 ≤ sumQ L ∧ sumQ L ≤ 16 * L.length := by
  induction L with
  | nil => exact ⟨by decide, by decide, by decide, by decide⟩
  | cons a l ih =>
    have h1 := ih fun d hd => h d (List.mem_cons_of_mem _ hd)
    have h2 := okD_bounds (h a (List.mem_cons_self ..))
    simp only [sumP, sumQ, List.length_cons]
    omega

theorem twice_good {seen L : List (Int × Int)} (h : twiceFrom seen L = 0) : (∀ d, d ∈ L → okD d.1 d.2 = true) ∧ L.Nodup ∧ ∀ d, d ∈ L → ¬ d ∈ seen := by
  induction L generalizing seen with
  | nil => exact ⟨fun d hd => (by cases hd), List.nodup_nil, fun d hd => (by cases hd)⟩
  | cons a l ih =>
    unfold twiceFrom at h
    by_cases c1 : okD a.1 a.2 = true
    · rw [if_pos c1] at h
      by_cases c2 : a ∈ seen
      · rw [if_pos c2] at h
        exact absurd h (by decide)
      · rw [if_neg c2] at h
        obtain ⟨i1, i2, i3⟩ := ih h
        refine ⟨fun d hd => ?_, ?_, fun d hd => ?_⟩
        · rcases List.mem_cons.1 hd with rfl | hd
          · exact c1
          · exact i1 d hd
        · exact List.nodup_cons.2 ⟨fun hm => i3 a hm (by simp), i2⟩
        · rcases List.mem_cons.1 hd with rfl | hd
          · exact c2
          · exact fun hm => i3 d hd (by simp [hm])
    · rw [if_neg c1] at h
      exact absurd h (by decide)

theorem nodup_le {L M : List (Int × Int)} (h : L.Nodup) (hs : ∀ d, d ∈ L → d ∈ M) : L.length ≤ M.length := by
  induction L generalizing M with
  | nil => exact Nat.zero_le _
  | cons a l ih =>
    obtain ⟨h1, h2⟩ := List.nodup_cons.1 h
    have hm : a ∈ M := hs a (List.mem_cons_self ..)
    have hl : l.length ≤ (M.erase a).length := by
      refine ih h2 fun d hd => ?_
      have hne : d ≠ a := fun e => h1 (e ▸ hd)
      exact (List.mem_erase_of_ne hne).2 (hs d (List.mem_cons_of_mem _ hd))
    have := List.length_erase_of_mem hm
    have := List.length_pos_of_mem hm
    simp only [List.length_cons]
    omega

def allDirs : List (Int × Int) := (List.range 33).flatMap fun (i : Nat) => (List.range 17).map fun (j : Nat) => ((i : Int) - 16, (j : Int))
theorem allDirs_len : allDirs.length = 561 := by decide +kernel
theorem mem_allDirs {P Q : Int} (h : okD P Q = true) : (P, Q) ∈ allDirs := by
  obtain ⟨b1, b2, b3⟩ := okD_bounds h
  unfold allDirs
  refine List.mem_flatMap.2 ⟨(P + 16).toNat, List.mem_range.2 (by omega), List.mem_map.2 ⟨Q.toNat, List.mem_range.2 (by omega), ?_⟩⟩
  refine Prod.ext ?_ ?_
  · show ((P + 16).toNat : Int) - 16 = P
    omega
  · show (Q.toNat : Int) = Q
    omega
theorem twice_len {L : List (Int × Int)} (h : twiceS L = 0) : L.length ≤ 561 := by
  obtain ⟨h1, h2, _⟩ := twice_good h
  rw [← allDirs_len]
  exact nodup_le h2 fun d hd => mem_allDirs (h1 d hd)

def katzS (n : Int) (L : List (Int × Int)) : Bool × Int := if n < 1 ∨ 64 < n then (false, 1) else if twiceS L ≠ 0 then (false, twiceS L) else (decide (n ≤ sumP L ∨ n ≤ sumQ L), 0)

set_option maxHeartbeats 3200000 in
theorem katzAny {n : Int} {L : List (Int × Int)} {a : Option Addr} {cap g o : Nat} (hN : L.length ≤ 9223372036854775807) (hA : All64 L) (w : World) (ha : 0 < L.length → a = some ⟨g, o, none⟩ ∧ g < w.heap.size)
    (hc : ∀ i c, L[i]? = some c → w.cell? ⟨g, o + i * 2, none⟩ = some (.int .i64 c.1) ∧ w.cell? ⟨g, o + i * 2 + 1, none⟩ = some (.int .i64 c.2)) :
    Calls Try.prog 28 #[.int .i64 n, .slice a L.length cap] w fun e w' => e = .returned (.tuple #[.bool (katzS n L).1, .int .i64 (katzS n L).2]) ∧ Below w.heap.size w w' := by
  have k := hide (twiceAny (cap := cap) hN hA w ha hc)
  by_cases c1 : n < 1 ∨ 64 < n
  · have hS : Hid (katzS n L = (false, 1)) := by show _ = _; unfold katzS; rw [if_pos c1]
    have q1 : ((n < 1) = True) ∨ ((n < 1) = False ∧ (64 < n) = True) := by
      by_cases c : n < 1
      · exact Or.inl (by simp; omega)
      · exact Or.inr ⟨by simp; omega, by simp; omega⟩
    generalize katzS n L = r at hS ⊢
    clear c1 k hA ha hc
    generalize L.length = N at *
    rcases q1 with q1 | ⟨q1, q2⟩
    all_goals
      go_enter Try.func28, Try.ntmps28
      go_wp2_with fail
      go_ret2
      exact ⟨by rw [unhide hS]; rfl, Below.refl _ _⟩
  · have q1 : (n < 1) = False := by simp; omega
    have q2 : (64 < n) = False := by simp; omega
    by_cases c2 : twiceS L = 0
    · have hS : Hid (katzS n L = (decide (n ≤ sumP L ∨ n ≤ sumQ L), 0)) := by show _ = _; unfold katzS; rw [if_neg c1, if_neg (by omega)]
      rw [c2] at k
      have hlen := twice_len c2
      obtain ⟨g1, _, _⟩ := twice_good c2
      have hsm := hide (fun i => sum_small (L := L.take i) fun d hd => g1 d (List.mem_of_mem_take hd))
      have hok := hide (fun i d (hd : L[i]? = some d) => g1 d (List.mem_of_getElem? hd))
      have hstP := hide (fun i (d : Int × Int) (hd : L[i]? = some d) => show sumP (L.take (i + 1)) = sumP (L.take i) + d.1.natAbs by
        have hi := (List.getElem?_eq_some_iff.1 hd).1
        rw [List.take_succ_eq_append_getElem hi, (List.getElem?_eq_some_iff.1 hd).2, sumP_snoc])
      have hstQ := hide (fun i (d : Int × Int) (hd : L[i]? = some d) => show sumQ (L.take (i + 1)) = sumQ (L.take i) + d.2 by
        have hi := (List.getElem?_eq_some_iff.1 hd).1
        rw [List.take_succ_eq_append_getElem hi, (List.getElem?_eq_some_iff.1 hd).2, sumQ_snoc])
      have hall : Hid (L.take L.length = L) := List.take_length
      have hat := hide (fun i (hi : i < L.length) => pairs2_get (L := L) hi)
      have ha := hide ha
      have Hc := hide hc
      have hsml : ∀ i, (L.take i).length ≤ 561 := fun i => by rw [List.length_take]; omega
      have hsml := hide hsml
      generalize katzS n L = r at hS ⊢
      clear c1 c2 hc g1
      generalize hNN : L.length = N at *
      clear hNN hA
      go_enter Try.func28, Try.ntmps28
      go_wp2_with fail
      refine (unhide k).mono ?_
      rintro e w1 ⟨rfl, hb1⟩
      have hB1 := hide hb1
      clear hb1 k
      go_wp2_with fail
      go_loopw [7, 8, 9] (fun pv qv iv wr => ∃ i : Nat, i ≤ N ∧ iv = .int .i64 i ∧ pv = .int .i64 (sumP (L.take i)) ∧ qv = .int .i64 (sumQ (L.take i)) ∧ Hid (Below w.heap.size w wr)) (fun _ _ iv _ => N - (intOf iv).toNat)
      case atStart => exact ⟨0, Nat.zero_le _, rfl, rfl, rfl, hB1⟩
      case round =>
        obtain ⟨i, hi, rfl, rfl, rfl, hBr⟩ := hrel
        obtain ⟨s1, s2, s3, s4⟩ := unhide hsm i
        have s5 := unhide hsml i
        by_cases hiN : i < N
        · have qi : ((i : Int) < (N : Int)) = True := by simp; omega
          obtain ⟨P, Q, hd⟩ := unhide hat i hiN
          obtain ⟨haa, hgl⟩ := unhide ha (by omega)
          have c1 := ((unhide hBr).cell (p := ⟨g, o + i * 2, none⟩) hgl).trans (unhide Hc i _ hd).1
          have c2 := ((unhide hBr).cell (p := ⟨g, o + i * 2 + 1, none⟩) hgl).trans (unhide Hc i _ hd).2
          dsimp only at c1 c2
          obtain ⟨b1, b2, b3⟩ := okD_bounds (unhide hok i _ hd)
          dsimp only at b1 b2 b3
          have eP := hide (unhide hstP i _ hd)
          have eQ := hide (unhide hstQ i _ hd)
          dsimp only at eP eQ
          rw [haa]
          have t1 : 0 ≤ sumP (L.take i) ∧ sumP (L.take i) ≤ 10000 := by omega
          have t2 : 0 ≤ sumQ (L.take i) ∧ sumQ (L.take i) ≤ 10000 := by omega
          generalize sumP (L.take i) = sp at *
          generalize sumQ (L.take i) = sq at *
          clear hd hsm hsml hok hstP hstQ hall hat s1 s2 s3 s4 s5
          by_cases c3 : P < 0
          · have b4 : -16 ≤ P := by omega
            have q5 : (P < -P) = True := by simp; omega
            have q6 : (-P < P) = False := by simp; omega
            have e3 : ((P.natAbs : Nat) : Int) = -P := by omega
            rw [e3] at eP
            clear b1 e3
            go_wp2_with fail
            go_region
            all_goals go_wp2_with fail
            all_goals exact ⟨⟨i + 1, hiN, by go_num, by rw [unhide eP], by rw [unhide eQ], (unhide hBr).drew⟩, by simp [intOf]; omega⟩
          · have b4 : 0 ≤ P := by omega
            have b5 : P ≤ 16 := by omega
            have q5 : (P < -P) = False := by simp; omega
            have q6 : (-P ≤ P) = True := by simp; omega
            have e3 : ((P.natAbs : Nat) : Int) = P := by omega
            rw [e3] at eP
            clear b1 e3
            go_wp2_with fail
            go_region
            all_goals go_wp2_with fail
            all_goals exact ⟨⟨i + 1, hiN, by go_num, by rw [unhide eP], by rw [unhide eQ], (unhide hBr).drew⟩, by simp [intOf]; omega⟩
        · have qi : ((i : Int) < (N : Int)) = False := by simp; omega
          have e : i = N := by omega
          subst e
          rw [unhide hall] at s1 s2 s3 s4 ⊢
          generalize sumP L = sp at *
          generalize sumQ L = sq at *
          have hd : ((n ≤ sp) = True) ∨ ((n ≤ sp) = False ∧ (n ≤ sq) = True) ∨ ((n ≤ sp) = False ∧ (n ≤ sq) = False) := by
            by_cases d1 : n ≤ sp
            · exact Or.inl (by simp; omega)
            · by_cases d2 : n ≤ sq
              · exact Or.inr (Or.inl ⟨by simp; omega, by simp; omega⟩)
              · exact Or.inr (Or.inr ⟨by simp; omega, by simp; omega⟩)
          clear hsm hsml hok hstP hstQ hall hat
          rcases hd with d1 | ⟨d1, d2⟩ | ⟨d1, d2⟩
          all_goals
            go_wp2_with fail
            go_ret2
            refine ⟨?_, unhide hBr⟩
            rw [unhide hS]
            simp [*]
    · have hS : Hid (katzS n L = (false, twiceS L)) := by show _ = _; unfold katzS; rw [if_neg c1, if_pos c2]
      generalize katzS n L = r at hS ⊢
      generalize twiceS L = t at *
      have q3 : (t != 0) = true := by simp; exact c2
      clear c1 hA ha hc
      generalize L.length = N at *
      go_enter Try.func28, Try.ntmps28
      go_wp2_with fail
      refine (unhide k).mono ?_
      rintro e w1 ⟨rfl, hb1⟩
      have hB := hide hb1
      clear hb1
      go_wp2_with fail
      go_ret2
      exact ⟨by rw [unhide hS]; rfl, unhide hB⟩
end Go.Proofs.Ytkjjhllmedkfhaa
