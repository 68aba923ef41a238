/- The document's own Twice: the first error of a list of directions. -/
import Derived.Test.YtgbkfmjkemkajaaDM
import Derived.BigQuiet
namespace Go.Proofs.Ytgbkfmjkemkajaa
open Go.RowKit

/-- The first error of a list, what stands ahead of it seen. -/
def twiceFrom : List (Int × Int) → List (Int × Int) → Int
  | _, [] => 0
  | seen, d :: r => if okD d.1 d.2 then (if d ∈ seen then 3 else twiceFrom (seen ++ [d]) r) else 60
def twiceS (L : List (Int × Int)) : Int := twiceFrom [] L

theorem twice_end {L : List (Int × Int)} : twiceFrom (L.take L.length) (L.drop L.length) = 0 := by
  rw [List.drop_length]
  rfl
theorem twice_bad {L : List (Int × Int)} {i : Nat} {d : Int × Int} (hd : L[i]? = some d) (h : okD d.1 d.2 = false) : twiceFrom (L.take i) (L.drop i) = 60 := by
  have hi := (List.getElem?_eq_some_iff.1 hd).1
  have e := (List.getElem?_eq_some_iff.1 hd).2
  rw [List.drop_eq_getElem_cons hi, e]
  unfold twiceFrom
  rw [if_neg (by rw [h]; decide)]
theorem twice_seen {L : List (Int × Int)} {i k : Nat} {d : Int × Int} (hd : L[i]? = some d) (h : okD d.1 d.2 = true) (hk : k < i) (he : L[k]? = some d) : twiceFrom (L.take i) (L.drop i) = 3 := by
  have hi := (List.getElem?_eq_some_iff.1 hd).1
  have e := (List.getElem?_eq_some_iff.1 hd).2
  rw [List.drop_eq_getElem_cons hi, e]
  unfold twiceFrom
  have hm : d ∈ L.take i := by
    refine List.mem_of_getElem? (i := k) ?_
    rw [List.getElem?_take, if_pos hk]
    exact he
  rw [if_pos h, if_pos hm]
theorem twice_on {L : List (Int × Int)} {i : Nat} {d : Int × Int} (hd : L[i]? = some d) (h : okD d.1 d.2 = true) (hk : ∀ k, k < i → L[k]? ≠ some d) : twiceFrom (L.take i) (L.drop i) = twiceFrom (L.take (i + 1)) (L.drop (i + 1)) := by
  have hi := (List.getElem?_eq_some_iff.1 hd).1
  have e := (List.getElem?_eq_some_iff.1 hd).2
  have hm : ¬ d ∈ L.take i := by
    intro hm
    obtain ⟨k, hk2⟩ := List.mem_iff_getElem?.1 hm
    rw [List.getElem?_take] at hk2
    by_cases c : k < i
    · rw [if_pos c] at hk2
      exact hk k c hk2
    · rw [if_neg c] at hk2
      cases hk2
  rw [List.drop_eq_getElem_cons hi, e, List.take_succ_eq_append_getElem hi, e]
  show (if okD d.1 d.2 then (if d ∈ L.take i then 3 else twiceFrom (L.take i ++ [d]) (L.drop (i + 1))) else 60) = _
  rw [if_pos h, if_neg hm]

theorem pairs2_get {L : List (Int × Int)} {i : Nat} (hi : i < L.length) : ∃ x y, L[i]? = some (x, y) := ⟨L[i].1, L[i].2, List.getElem?_eq_getElem hi⟩

/-- Directions, each of ints. -/
def All64 (L : List (Int × Int)) : Prop := ∀ (i : Nat) (d : Int × Int), L[i]? = some d → Dir64 d

set_option maxHeartbeats 3200000 in
theorem twiceAny {L : List (Int × Int)} {a : Option Addr} {cap g o : Nat} (hN : L.length ≤ 9223372036854775807) (hA : All64 L) (w : World) (ha : 0 < L.length → a = some ⟨g, o, none⟩ ∧ g < w.heap.size)
    (hc : ∀ i c, L[i]? = some c → w.cell? ⟨g, o + i * 2, none⟩ = some (.int .i64 c.1) ∧ w.cell? ⟨g, o + i * 2 + 1, none⟩ = some (.int .i64 c.2)) :
    Calls Try.prog 18 #[.slice a L.length cap] w fun e w' => e = .returned (.int .i64 (twiceS L)) ∧ Below w.heap.size w w' := by
  have ha := hide ha
  have Hc := hide hc
  have hA := hide hA
  have hen := hide (twice_end (L := L))
  have hbd := hide (fun i d => twice_bad (L := L) (i := i) (d := d))
  have hsn := hide (fun i k d => twice_seen (L := L) (i := i) (k := k) (d := d))
  have hon := hide (fun i d => twice_on (L := L) (i := i) (d := d))
  have h0 : Hid (twiceFrom (L.take 0) (L.drop 0) = twiceS L) := rfl
  have hat := hide (fun i (hi : i < L.length) => pairs2_get (L := L) hi)
  generalize hNN : L.length = N at *
  clear hc hNN
  go_enter Try.func18, Try.ntmps18
  go_wp2_with fail
  go_loopw [3] (fun iv wr => ∃ i : Nat, i ≤ N ∧ iv = .int .i64 i ∧ Hid (twiceFrom (L.take i) (L.drop i) = twiceS L) ∧ Hid (Below w.heap.size w wr)) (fun iv _ => N - (intOf iv).toNat)
  case atStart => exact ⟨0, Nat.zero_le _, rfl, h0, Below.refl _ _⟩
  case round =>
    obtain ⟨i, hi, rfl, hT, hBr⟩ := hrel
    by_cases hiN : i < N
    · have q1 : ((i : Int) < (N : Int)) = True := by simp; omega
      obtain ⟨P, Q, hd⟩ := unhide hat i hiN
      obtain ⟨haa, hgl⟩ := unhide ha (by omega)
      have c1 := ((unhide hBr).cell (p := ⟨g, o + i * 2, none⟩) hgl).trans (unhide Hc i _ hd).1
      have c2 := ((unhide hBr).cell (p := ⟨g, o + i * 2 + 1, none⟩) hgl).trans (unhide Hc i _ hd).2
      have hD := unhide hA i _ hd
      have k := hide (fun w => checkAny hD.one hD.two w)
      unfold dirV at k
      dsimp only at k c1 c2
      rw [haa]
      cases hok : okD P Q
      · have e1 := unhide hbd i (P, Q) hd hok
        rw [checkS_bad hok] at k
        rw [unhide hT] at e1
        have e1 := hide e1
        clear hT hbd hsn hon hen h0 hok hD hd
        go_wp2_with fail
        refine (unhide k _).mono ?_
        rintro e w1 ⟨rfl, hb1⟩
        have hB := hide ((unhide hBr).trans (hb1.mono (unhide hBr).size))
        clear hb1
        go_wp2_with fail
        go_ret
        exact ⟨by rw [unhide e1]; rfl, unhide hB⟩
      · rw [checkS_ok hok] at k
        have Hok := hide hok
        have Hd := hide hd
        clear hD hd hok
        go_wp2_with fail
        refine (unhide k _).mono ?_
        rintro e w1 ⟨rfl, hb1⟩
        have hB := hide ((unhide hBr).trans (hb1.mono (unhide hBr).size))
        clear hb1 k hBr c1 c2
        go_wp2_with fail
        go_loopw [5] (fun kv wr => ∃ k : Nat, k ≤ i ∧ kv = .int .i64 k ∧ Hid (∀ j, j < k → L[j]? ≠ some (P, Q)) ∧ Hid (Below w.heap.size w wr)) (fun kv _ => i - (intOf kv).toNat)
        case atStart => exact ⟨0, Nat.zero_le _, rfl, fun j hj => by omega, hB⟩
        case round =>
          clear hB
          obtain ⟨k, hk, rfl, hS, hB⟩ := hrel
          by_cases hki : k < i
          · have q2 : ((k : Int) < (i : Int)) = True := by simp; omega
            have q3 : ((k : Int) < (N : Int)) = True := by simp; omega
            obtain ⟨R, S, hd2⟩ := unhide hat k (by omega)
            have c1 := ((unhide hB).cell (p := ⟨g, o + i * 2, none⟩) hgl).trans (unhide Hc i _ (unhide Hd)).1
            have c2 := ((unhide hB).cell (p := ⟨g, o + i * 2 + 1, none⟩) hgl).trans (unhide Hc i _ (unhide Hd)).2
            have c3 := ((unhide hB).cell (p := ⟨g, o + k * 2, none⟩) hgl).trans (unhide Hc k _ hd2).1
            have c4 := ((unhide hB).cell (p := ⟨g, o + k * 2 + 1, none⟩) hgl).trans (unhide Hc k _ hd2).2
            dsimp only at c1 c2 c3 c4
            by_cases h3 : R = P ∧ S = Q
            · obtain ⟨rfl, rfl⟩ := h3
              have e1 : Hid (twiceS L = 3) := by
                show _ = _
                rw [← unhide hT]
                exact unhide hsn i k _ (unhide Hd) (unhide Hok) hki hd2
              clear hT hbd hsn hon hen h0 hS hd2 Hd Hok hat Hc hA
              go_wp2_with fail
              go_quiet (fail)
              go_wp2_with fail
              go_ret
              have hb := unhide hB
              exact ⟨by rw [unhide e1]; rfl, ⟨hb.os, hb.tape, hb.output, hb.size, hb.block⟩⟩
            · have hS2 : Hid (∀ j, j < k + 1 → L[j]? ≠ some (P, Q)) := by
                intro j hj
                by_cases c : j = k
                · subst c
                  rw [hd2]
                  intro e
                  apply h3
                  simpa using e
                · exact unhide hS j (by omega)
              clear hT hbd hsn hon hen h0 hS hd2 Hd Hok hat Hc hA
              by_cases hRP : R = P
              · subst hRP
                have h4 : ¬ S = Q := fun h => h3 ⟨rfl, h⟩
                have q4 : (S == Q) = false := by simp; exact h4
                clear h3
                go_wp2_with fail
                go_quiet (fail)
                go_wp2_with fail
                have hb := unhide hB
                exact ⟨⟨k + 1, hki, by go_num, hS2, ⟨hb.os, hb.tape, hb.output, hb.size, hb.block⟩⟩, by simp [intOf]; omega⟩
              · have q4 : (R == P) = false := by simp; exact hRP
                clear h3
                go_wp2_with fail
                go_quiet (fail)
                go_wp2_with fail
                have hb := unhide hB
                exact ⟨⟨k + 1, hki, by go_num, hS2, ⟨hb.os, hb.tape, hb.output, hb.size, hb.block⟩⟩, by simp [intOf]; omega⟩
          · have q2 : ((k : Int) < (i : Int)) = False := by simp; omega
            have e : k = i := by omega
            subst e
            have hT2 : Hid (twiceFrom (L.take (k + 1)) (L.drop (k + 1)) = twiceS L) := by
              show _ = _
              rw [← unhide hT]
              exact (unhide hon k (P, Q) (unhide Hd) (unhide Hok) (unhide hS)).symm
            clear hT hbd hsn hon hen h0 hS Hd Hok hat Hc hA
            go_wp2_with fail
            exact ⟨⟨k + 1, hiN, by go_num, hT2, hB⟩, by simp [intOf]; omega⟩
    · have q1 : ((i : Int) < (N : Int)) = False := by simp; omega
      have e1 : twiceS L = 0 := by
        rw [← unhide hT, show i = N by omega]
        exact unhide hen
      have e1 := hide e1
      clear hT hbd hsn hon hen h0
      go_wp2_with fail
      go_ret
      exact ⟨by rw [unhide e1]; rfl, unhide hBr⟩
end Go.Proofs.Ytgbkfmjkemkajaa
