/- The measures of a ghost; whether it fits: the document's own. -/
import Derived.Test.YtfddchjonjklkaaGR
import Derived.Test.YtfddchjonjklkaaGA
import Derived.Test.YtfddchjonjklkaaDKP
namespace Go.Proofs.Ytfddchjonjklkaa
open Go.RowKit

/-- Does the ghost fit, or the first error? -/
def fitsS (n : Int) (L : List (Int × Int)) : Bool × Int :=
  if n < 1 ∨ 64 < n then (false, 1) else if twiceS L ≠ 0 then (false, twiceS L) else (decide (sumP L + 1 ≤ n ∧ sumQ L + 1 ≤ n), 0)

set_option maxHeartbeats 3200000 in
theorem measuresAny {L : List (Int × Int)} {a : Option Addr} {cap g o : Nat} (hT : twiceS L = 0) (w : World) (h : Dirs w a g o L) :
    Calls Try.prog 17 #[.slice a L.length cap] w fun e w' => e = .returned (.tuple #[.int .i64 (sumP L + 1), .int .i64 (sumQ L + 1)]) ∧ Below w.heap.size w w' := by
  have hlen := twice_len hT
  obtain ⟨g1, _, _⟩ := twice_good hT
  have hsm := hide (fun i => sum_small (L := L.take i) fun d hd => g1 d (List.mem_of_mem_take hd))
  have hok := hide (fun i d (hd : L[i]? = some d) => g1 d (List.mem_of_getElem? hd))
  have hstP := hide (fun i (d : Int × Int) (hd : L[i]? = some d) => show sumP (L.take (i + 1)) = sumP (L.take i) + d.1.natAbs by
    have hi := (List.getElem?_eq_some_iff.1 hd).1
    rw [List.take_succ_eq_append_getElem hi, (List.getElem?_eq_some_iff.1 hd).2, sumP_snoc])
  have hstQ := hide (fun i (d : Int × Int) (hd : L[i]? = some d) => show sumQ (L.take (i + 1)) = sumQ (L.take i) + d.2 by
    have hi := (List.getElem?_eq_some_iff.1 hd).1
    rw [List.take_succ_eq_append_getElem hi, (List.getElem?_eq_some_iff.1 hd).2, sumQ_snoc])
  have hall : Hid (L.take L.length = L) := List.take_length
  have hat := hide (fun i (hi : i < L.length) => pairs2_get (L := L) hi)
  have ha := hide h.at_
  have Hc := hide h.cell
  have hsml : ∀ i, (L.take i).length ≤ 561 := fun i => by rw [List.length_take]; omega
  have hsml := hide hsml
  clear hT h g1
  generalize hNN : L.length = N at *
  clear hNN
  go_enter Try.func17, Try.ntmps17
  go_wp2_with fail
  go_loopw [4, 5, 6] (fun pv qv iv wr => ∃ i : Nat, i ≤ N ∧ iv = .int .i64 i ∧ pv = .int .i64 (sumP (L.take i) + 1) ∧ qv = .int .i64 (sumQ (L.take i) + 1) ∧ Hid (Below w.heap.size w wr)) (fun _ _ iv _ => N - (intOf iv).toNat)
  case atStart => exact ⟨0, Nat.zero_le _, rfl, rfl, rfl, Below.refl _ _⟩
  case round =>
    obtain ⟨i, hi, rfl, rfl, rfl, hBr⟩ := hrel
    obtain ⟨s1, s2, s3, s4⟩ := unhide hsm i
    have s5 := unhide hsml i
    by_cases hiN : i < N
    · have qi : ((i : Int) < (N : Int)) = True := by simp; omega
      obtain ⟨P, Q, hd⟩ := unhide hat i hiN
      obtain ⟨haa, hgl⟩ := unhide ha (by omega)
      have c1 := ((unhide hBr).cell (p := ⟨g, o + i * 2, none⟩) hgl).trans (unhide Hc i _ hd).1
      have c2 := ((unhide hBr).cell (p := ⟨g, o + i * 2 + 1, none⟩) hgl).trans (unhide Hc i _ hd).2
      dsimp only at c1 c2
      obtain ⟨b1, b2, b3⟩ := okD_bounds (unhide hok i _ hd)
      dsimp only at b1 b2 b3
      have eP := hide (unhide hstP i _ hd)
      have eQ := hide (unhide hstQ i _ hd)
      dsimp only at eP eQ
      rw [haa]
      have t1 : 0 ≤ sumP (L.take i) ∧ sumP (L.take i) ≤ 10000 := by omega
      have t2 : 0 ≤ sumQ (L.take i) ∧ sumQ (L.take i) ≤ 10000 := by omega
      generalize sumP (L.take i) = sp at *
      generalize sumQ (L.take i) = sq at *
      clear hd hsm hsml hok hstP hstQ hall hat s1 s2 s3 s4 s5
      by_cases c3 : P < 0
      · have b4 : -16 ≤ P := by omega
        have q5 : (P < -P) = True := by simp; omega
        have q6 : (-P < P) = False := by simp; omega
        have e3 : ((P.natAbs : Nat) : Int) = -P := by omega
        rw [e3] at eP
        clear b1 e3
        go_wp2_with fail
        go_region
        all_goals go_wp2_with fail
        all_goals exact ⟨⟨i + 1, hiN, by go_num, by rw [unhide eP]; congr 1; omega, by rw [unhide eQ]; congr 1; omega, (unhide hBr).drew⟩, by simp [intOf]; omega⟩
      · have b4 : 0 ≤ P := by omega
        have b5 : P ≤ 16 := by omega
        have q5 : (P < -P) = False := by simp; omega
        have q6 : (-P ≤ P) = True := by simp; omega
        have e3 : ((P.natAbs : Nat) : Int) = P := by omega
        rw [e3] at eP
        clear b1 e3
        go_wp2_with fail
        go_region
        all_goals go_wp2_with fail
        all_goals exact ⟨⟨i + 1, hiN, by go_num, by rw [unhide eP]; congr 1; omega, by rw [unhide eQ]; congr 1; omega, (unhide hBr).drew⟩, by simp [intOf]; omega⟩
    · have qi : ((i : Int) < (N : Int)) = False := by simp; omega
      have e : i = N := by omega
      subst e
      rw [unhide hall]
      go_wp2_with fail
      go_ret2
      exact ⟨rfl, unhide hBr⟩

set_option maxHeartbeats 1600000 in
theorem fitsAny {n : Int} {L : List (Int × Int)} {a : Option Addr} {cap g o : Nat} (hN : L.length ≤ 9223372036854775807) (hA : All64 L) (w : World) (h : Dirs w a g o L) :
    Calls Try.prog 10 #[.int .i64 n, .slice a L.length cap] w fun e w' => e = .returned (.tuple #[.bool (fitsS n L).1, .int .i64 (fitsS n L).2]) ∧ Below w.heap.size w w' := by
  have k := hide (twiceAny (cap := cap) hN hA w h.at_ h.cell)
  by_cases c1 : n < 1 ∨ 64 < n
  · have hS : Hid (fitsS n L = (false, 1)) := by show _ = _; unfold fitsS; rw [if_pos c1]
    have q1 : ((n < 1) = True) ∨ ((n < 1) = False ∧ (64 < n) = True) := by
      by_cases c : n < 1
      · exact Or.inl (by simp; omega)
      · exact Or.inr ⟨by simp; omega, by simp; omega⟩
    generalize fitsS n L = r at hS ⊢
    clear c1 k hA h
    generalize L.length = N at *
    rcases q1 with q1 | ⟨q1, q2⟩
    all_goals
      go_enter Try.func10, Try.ntmps10
      go_wp2_with fail
      go_ret2
      exact ⟨by rw [unhide hS]; rfl, Below.refl _ _⟩
  · have q1 : (n < 1) = False := by simp; omega
    have q2 : (64 < n) = False := by simp; omega
    by_cases c2 : twiceS L = 0
    · have hS : Hid (fitsS n L = (decide (sumP L + 1 ≤ n ∧ sumQ L + 1 ≤ n), 0)) := by show _ = _; unfold fitsS; rw [if_neg c1, if_neg (by omega)]
      rw [c2] at k
      have km := hide (fun W (hb : Below w.heap.size w W) => measuresAny (cap := cap) c2 W (dirs_below h hb))
      generalize fitsS n L = r at hS ⊢
      generalize sumP L = sp at *
      generalize sumQ L = sq at *
      have hd : ((sp + 1 ≤ n) = False) ∨ ((sp + 1 ≤ n) = True ∧ (sq + 1 ≤ n) = True) ∨ ((sp + 1 ≤ n) = True ∧ (sq + 1 ≤ n) = False) := by
        by_cases d1 : sp + 1 ≤ n
        · by_cases d2 : sq + 1 ≤ n
          · exact Or.inr (Or.inl ⟨by simp; omega, by simp; omega⟩)
          · exact Or.inr (Or.inr ⟨by simp; omega, by simp; omega⟩)
        · exact Or.inl (by simp; omega)
      clear c1 c2 hA h
      generalize L.length = N at *
      rcases hd with d1 | ⟨d1, d2⟩ | ⟨d1, d2⟩
      all_goals
        go_enter Try.func10, Try.ntmps10
        go_wp2_with fail
        refine (unhide k).mono ?_
        rintro e w1 ⟨rfl, hb1⟩
        have hB := hide hb1
        clear hb1
        go_wp2_with fail
        refine (unhide km w1 (unhide hB)).mono ?_
        rintro e w2 ⟨rfl, hb2⟩
        have hB2 := hide ((unhide hB).trans (hb2.mono (unhide hB).size))
        clear hb2
        go_wp2_with fail
        go_ret2
        refine ⟨?_, unhide hB2⟩
        rw [unhide hS]
        simp [*]
    · have hS : Hid (fitsS n L = (false, twiceS L)) := by show _ = _; unfold fitsS; rw [if_neg c1, if_pos c2]
      generalize fitsS n L = r at hS ⊢
      generalize twiceS L = t at *
      have q3 : (t != 0) = true := by simp; exact c2
      clear c1 hA h
      generalize L.length = N at *
      go_enter Try.func10, Try.ntmps10
      go_wp2_with fail
      refine (unhide k).mono ?_
      rintro e w1 ⟨rfl, hb1⟩
      have hB := hide hb1
      clear hb1
      go_wp2_with fail
      go_ret2
      exact ⟨by rw [unhide hS]; rfl, unhide hB⟩
end Go.Proofs.Ytfddchjonjklkaa
