/- The program's own row, Line. -/
import Derived.Test.YthbghcebcahlnaaDZ
namespace Go.Proofs.Ythbghcebcahlnaa
open Go.RowKit

theorem row_flat {st bin : Int} {y k : Nat} : rowL 1 0 st bin y k = if st - bin = (y : Int) then (List.range k).map fun (x : Nat) => ((x : Int), (y : Int)) else [] := by
  unfold rowL
  by_cases c : st - bin = (y : Int)
  · rw [if_pos c, List.filter_eq_self.2]
    intro x _
    simp only [decide_eq_true_eq]
    omega
  · rw [if_neg c, List.map_eq_nil_iff, List.filter_eq_nil_iff]
    intro x _
    simp only [decide_eq_true_eq]
    omega

theorem flat_line {st bin : Int} {N y0 : Nat} (h : st - bin = (y0 : Int)) (hy : y0 < N) : lineL 1 0 st bin N (N * N) = (List.range N).map fun (x : Nat) => ((x : Int), (y0 : Int)) := by
  have key : ∀ j, j ≤ N → lineL 1 0 st bin N (j * N) = if y0 < j then (List.range N).map fun (x : Nat) => ((x : Int), (y0 : Int)) else [] := by
    intro j
    induction j with
    | zero =>
      intro _
      rw [Nat.zero_mul, lineL_zero, if_neg (by omega)]
    | succ j ih =>
      intro hj
      rw [row_next, ih (by omega), row_flat]
      by_cases c : y0 < j
      · rw [if_pos c, if_neg (by omega), if_pos (by omega), List.append_nil]
      · rw [if_neg c]
        by_cases c2 : y0 = j
        · subst c2
          rw [if_pos h, if_pos (by omega), List.nil_append]
        · rw [if_neg (by omega), if_neg (by omega), List.nil_append]
  rw [key N (Nat.le_refl _), if_pos hy]

theorem pairs2_nil (w : World) : Pairs2 w (.slice none 0 0) [] := ⟨none, 0, 0, 0, rfl, fun h => absurd h (by simp), fun i c h => by simp at h⟩

set_option maxHeartbeats 1600000 in
theorem rowAny {N : Nat} {y0 : Int} (hN : N ≤ 64) (w : World) :
    Calls (barP Try.prog) 72 #[.int .i64 N, .int .i64 y0] w fun e w' =>
      ∃ v, e = .returned v ∧ Pairs2 w' v ((List.range N).map fun (x : Nat) => ((x : Int), y0)) ∧ Below w.heap.size w w' := by
  obtain ⟨i0, hi0, hz0, hz1, hz2⟩ := info_parts infoCell
  go_enter Bar.func72, Bar.ntmps72
  go_wp2_with (first
    | (at_make; refine wpList_make_full _ rfl (.tmp 7) (.tmp 7) 88 rfl w.heap.size 92 i0 (.agg #[.int .i64 0, .int .i64 0]) 2 Bar.underlying88 hi0 hz0 hz1 .i64 .i64 N N N rfl rfl rfl rfl ?c1 ?c2 ?c3 ?_))
  case c1 => rw [hz2]; omega
  case c2 => unfold maxLen; omega
  case c3 => exact Nat.le_refl _
  intro w2 hown2 hg2
  have hB2 : Hid (Below w.heap.size w w2) := (Below.refl _ _).grown hg2 (Nat.le_refl _) (fun k hk => by cases hk)
  have hO2 := hide hown2
  clear hown2 hg2
  generalize (madeCells (Value.agg #[Value.int IntKind.i64 0, Value.int IntKind.i64 0]).cells (N * 2)).toList = xs0 at hO2
  go_wp2_with fail
  go_loopw [11] (fun ix wr => ∃ (x : Nat) (xs : List Value), x ≤ N ∧ ix = .int .i64 x ∧ Hid (wr.ownsRow w.heap.size 92 2 (.slice (some ⟨w.heap.size, 0, none⟩) N N) N xs) ∧ Hid (∀ j, j < x → xs[j * 2]? = some (.int .i64 j) ∧ xs[j * 2 + 1]? = some (.int .i64 y0)) ∧ Hid (Below w.heap.size w wr)) (fun ix _ => N - (intOf ix).toNat)
  case atStart => exact ⟨0, _, Nat.zero_le _, rfl, hO2, fun j hj => absurd hj (by omega), hB2⟩
  case round =>
    clear hO2 hB2
    obtain ⟨x, xs, hx, rfl, hO, hF, hB⟩ := hrel
    by_cases hc : x < N
    · have qq : ((x : Int) < (N : Int)) = True := by simp; omega
      have hl := (unhide hO).1
      have c1 : wr.cell? ⟨w.heap.size, x * 2, none⟩ = some xs[x * 2] := ((unhide hO).cellAt _ (by omega)).trans (List.getElem?_eq_getElem (by omega))
      have c2 : wr.cell? ⟨w.heap.size, x * 2 + 1, none⟩ = some xs[x * 2 + 1] := ((unhide hO).cellAt _ (by omega)).trans (List.getElem?_eq_getElem (by omega))
      have z1 : wr.frozen? ⟨w.heap.size, x * 2, none⟩ = false := (unhide hO).frozenAt _
      have z2 : wr.frozen? ⟨w.heap.size, x * 2 + 1, none⟩ = false := (unhide hO).frozenAt _
      have hi2' : (0 : Int) ≤ (x : Int) := by omega
      have hO6 := hide (((unhide hO).stored (x * 2) (.int .i64 x)).1.stored (x * 2 + 1) (.int .i64 y0)).1
      have hB6 := hide (((unhide hB).setCell (show _ ≤ (⟨w.heap.size, x * 2, none⟩ : Addr).block from Nat.le_refl _) (.int .i64 x)).setCell (show _ ≤ (⟨w.heap.size, x * 2 + 1, none⟩ : Addr).block from Nat.le_refl _) (.int .i64 y0))
      have hF6 : Hid (∀ j, j < x + 1 → ((xs.set (x * 2) (.int .i64 x)).set (x * 2 + 1) (.int .i64 y0))[j * 2]? = some (.int .i64 j) ∧ ((xs.set (x * 2) (.int .i64 x)).set (x * 2 + 1) (.int .i64 y0))[j * 2 + 1]? = some (.int .i64 y0)) := by
        intro j hj
        by_cases e : j = x
        · subst e
          refine ⟨?_, ?_⟩
          · rw [List.getElem?_set_ne (by omega), List.getElem?_set_self (by omega)]
          · rw [List.getElem?_set_self (by rw [List.length_set]; omega)]
        · obtain ⟨f1, f2⟩ := unhide hF j (by omega)
          refine ⟨?_, ?_⟩
          · rw [List.getElem?_set_ne (by omega), List.getElem?_set_ne (by omega)]
            exact f1
          · rw [List.getElem?_set_ne (by omega), List.getElem?_set_ne (by omega)]
            exact f2
      generalize xs[x * 2] = y1 at c1
      generalize xs[x * 2 + 1] = y2 at c2
      clear hO hF hB hl
      go_wp2_with fail
      exact ⟨⟨x + 1, _, hc, by go_num, hO6, hF6, hB6⟩, by simp [intOf]; omega⟩
    · have qq : ((x : Int) < (N : Int)) = False := by simp; omega
      have e : x = N := by omega
      subst e
      have hP : Hid (Pairs2 wr (.slice (some ⟨w.heap.size, 0, none⟩) x x) ((List.range x).map fun (j : Nat) => ((j : Int), y0))) := by
        refine ⟨some ⟨w.heap.size, 0, none⟩, x, w.heap.size, 0, by simp, fun hl => ⟨rfl, ((unhide hO).lt w.heap.size rfl).2⟩, fun i c hi => ?_⟩
        have hi2 : i < x := by
          have := (List.getElem?_eq_some_iff.1 hi).1
          simpa using this
        have hc2 : c = ((i : Int), y0) := by
          simp [hi2] at hi
          exact hi.symm
        subst hc2
        obtain ⟨f1, f2⟩ := unhide hF i hi2
        rw [Nat.zero_add]
        exact ⟨((unhide hO).cellAt _ (by omega)).trans f1, ((unhide hO).cellAt _ (by omega)).trans f2⟩
      clear hO hF
      go_wp2_with fail
      go_ret
      exact ⟨_, rfl, unhide hP, unhide hB⟩

theorem okD_flat {P : Int} (h : okD P 0 = true) : P = 1 := (okD_form h).2.1 rfl

set_option maxHeartbeats 3200000 in
theorem dirLine {n bin : Int} {a : Int × Int} (ha : Dir64 a) (w : World) :
    Calls (barP Try.prog) 37 #[.int .i64 n, dirV a, .int .i64 bin] w fun e w' =>
      ∃ v, e = .returned (.tuple #[v, .int .i64 (lineS n a bin).2]) ∧ Pairs2 w' v (lineS n a bin).1 ∧ Below w.heap.size w w' := by
  have k := hide (fun w => lookAny (n := n) ha w)
  by_cases c1 : (binsS n a).2 = 0
  · obtain ⟨r1, r2, r3⟩ := binsS_ok c1
    obtain ⟨P, Q⟩ := a
    obtain ⟨b1, b2, b3⟩ := okD_bounds r3
    dsimp only at b1 b2 b3 r3
    have kb := hide (fun w => dbinsAny r1 r2 b1 b2 b3 w)
    obtain ⟨t1, t2⟩ := bins_small (P := P) r1 r2 b1 b2 b3
    have hI0 : lineS n (P, Q) bin = if bin < 0 ∨ (binsS n (P, Q)).1 ≤ bin then ([], 1) else (lineL P Q (startS n (P, Q)) bin n.toNat (n.toNat * n.toNat), 0) := by
      unfold lineS
      rw [if_neg (by omega)]
    rw [binsS_good r1 r2 r3] at hI0 k
    dsimp only at hI0 k
    by_cases c2 : bin < 0 ∨ (n - 1) * (P.natAbs + Q) + 1 ≤ bin
    · rw [if_pos c2] at hI0
      have hI := hide hI0
      clear hI0
      generalize (n - 1) * (P.natAbs + Q) + 1 = bn at kb c2
      generalize lineS n (P, Q) bin = r at hI ⊢
      unfold dirV at *
      dsimp only at *
      clear c1 r3 b1 ha t1 t2
      by_cases d1 : bin < 0
      · have q1 : (bin < 0) = True := by simp; omega
        clear c2 d1 kb
        go_enter Bar.func37, Bar.ntmps37
        go_wp2_with fail
        refine (unhide k _).mono ?_
        rintro e w1 ⟨rfl, hb1⟩
        have hB : Hid (Below w.heap.size w w1) := ((Below.refl _ _).alloc (Nat.le_refl _) _).trans (hb1.mono (by simp))
        clear hb1
        go_wp2_with fail
        go_ret2
        rw [unhide hI]
        exact ⟨_, rfl, pairs2_nil _, unhide hB⟩
      · have q1 : (bin < 0) = False := by simp; omega
        have q2 : (bn ≤ bin) = True := by simp; omega
        clear c2 d1
        go_enter Bar.func37, Bar.ntmps37
        go_wp2_with fail
        refine (unhide k _).mono ?_
        rintro e w1 ⟨rfl, hb1⟩
        have hB : Hid (Below w.heap.size w w1) := ((Below.refl _ _).alloc (Nat.le_refl _) _).trans (hb1.mono (by simp))
        have x1 : w1.cell? ⟨w.heap.size, 0, none⟩ = some (.int .i64 P) := by rw [hb1.cell (by simp)]; simp [go_sem]
        have x2 : w1.cell? ⟨w.heap.size, 1, none⟩ = some (.int .i64 Q) := by rw [hb1.cell (by simp)]; simp [go_sem]
        clear hb1
        go_wp2_with fail
        refine (unhide kb _).mono ?_
        rintro e w2 ⟨rfl, hb2⟩
        have hB2 : Hid (Below w.heap.size w w2) := (unhide hB).trans (hb2.mono (unhide hB).size)
        clear hb2
        go_wp2_with fail
        go_ret2
        rw [unhide hI]
        exact ⟨_, rfl, pairs2_nil _, unhide hB2⟩
    · rw [if_neg c2] at hI0
      have hI := hide hI0
      clear hI0
      have ko := hide (fun w => originAny (Q := Q) r1 r2 b1 w)
      obtain ⟨s1, s2⟩ := start_small (Q := Q) r1 r2 b1
      obtain ⟨N, rfl⟩ : ∃ N : Nat, n = N := ⟨n.toNat, by omega⟩
      rw [Int.toNat_natCast] at hI
      have q1 : (bin < 0) = False := by simp; omega
      have q2 : ((((N : Int) - 1) * (P.natAbs + Q) + 1 ≤ bin)) = False := by simp; omega
      have g1 : 0 ≤ bin := by omega
      have g2 : bin ≤ 2016 := by omega
      by_cases cQ : Q = 0
      · subst cQ
        obtain rfl := okD_flat r3
        have hst : startS (N : Int) (1, 0) = (N : Int) - 1 := by
          unfold startS
          dsimp only
          rw [if_neg (by decide), Int.one_mul]
        have e1 : (((1 : Int).natAbs : Nat) : Int) + 0 = 1 := rfl
        rw [e1, Int.mul_one] at c2 q2 kb
        rw [hst] at hI ko
        obtain ⟨y0, hy⟩ : ∃ y0 : Nat, (N : Int) - 1 - bin = y0 := ⟨((N : Int) - 1 - bin).toNat, by omega⟩
        rw [flat_line hy (by omega)] at hI
        have kr := hide (fun w => rowAny (N := N) (y0 := (y0 : Int)) (by omega) w)
        have n1 : IntKind.i64.wrap ((N : Int) - 1 - bin) = y0 := by rw [IntKind.wrap_i64]; omega
        generalize lineS (N : Int) (1, 0) bin = r at hI ⊢
        unfold dirV at *
        dsimp only at *
        have hy := hide hy
        have e2 : (N : Int) - 1 + 1 = N := by omega
        rw [e2] at q2 kb
        clear c1 r3 b1 ha t1 t2 hst e1 c2 s1 s2 e2 b2 b3
        go_enter Bar.func37, Bar.ntmps37
        go_wp2_with fail
        refine (unhide k _).mono ?_
        rintro e w1 ⟨rfl, hb1⟩
        have hB : Hid (Below w.heap.size w w1) := ((Below.refl _ _).alloc (Nat.le_refl _) _).trans (hb1.mono (by simp))
        have x1 : w1.cell? ⟨w.heap.size, 0, none⟩ = some (.int .i64 1) := by rw [hb1.cell (by simp)]; simp [go_sem]
        have x2 : w1.cell? ⟨w.heap.size, 1, none⟩ = some (.int .i64 0) := by rw [hb1.cell (by simp)]; simp [go_sem]
        have hz : Hid (w.heap.size < w1.heap.size) := by
          have := hb1.size
          simp at this
          exact this
        clear hb1
        go_wp2_with fail
        with_reducible refine (unhide kb _).mono ?_
        rintro e w2 ⟨rfl, hb2⟩
        have hB2 : Hid (Below w.heap.size w w2) := (unhide hB).trans (hb2.mono (unhide hB).size)
        have x1 := (hb2.cell (p := ⟨w.heap.size, 0, none⟩) (unhide hz)).trans x1
        have x2 := (hb2.cell (p := ⟨w.heap.size, 1, none⟩) (unhide hz)).trans x2
        have hz : Hid (w.heap.size < w2.heap.size) := Nat.lt_of_lt_of_le (unhide hz) hb2.size
        clear hb2 hB
        go_wp2_with fail
        with_reducible refine (unhide ko _).mono ?_
        rintro e w3 ⟨rfl, hb3⟩
        have hB3 : Hid (Below w.heap.size w w3) := (unhide hB2).trans (hb3.mono (unhide hB2).size)
        clear hb3 hB2
        go_wp2_with fail
        with_reducible refine (unhide kr _).mono ?_
        rintro e w4 ⟨v, rfl, hP, hb4⟩
        have hB4 : Hid (Below w.heap.size w w4) := (unhide hB3).trans (hb4.mono (unhide hB3).size)
        have hP := hide hP
        clear hb4 hB3
        go_wp2_with fail
        go_ret2
        rw [unhide hI]
        exact ⟨_, rfl, unhide hP, unhide hB4⟩
      · have ks := hide (fun w => slopeAny (N := N) (P := P) (Q := Q) (st := startS (N : Int) (P, Q)) (bin := bin) (by omega) b1 (by omega) b3 (by omega) (by omega) w)
        generalize lineL P Q (startS (N : Int) (P, Q)) bin N (N * N) = LL at hI ks
        generalize startS (N : Int) (P, Q) = st at *
        generalize lineS (N : Int) (P, Q) bin = r at hI ⊢
        generalize ((N : Int) - 1) * (P.natAbs + Q) + 1 = bn at q2 kb c2
        have n1 : IntKind.i64.wrap (bin - st) = bin - st := by rw [IntKind.wrap_i64]; omega
        have q3 : (Q == 0) = false := by simp; exact cQ
        unfold dirV at *
        dsimp only at *
        clear c1 r3 b1 ha t1 t2 c2
        go_enter Bar.func37, Bar.ntmps37
        go_wp2_with fail
        refine (unhide k _).mono ?_
        rintro e w1 ⟨rfl, hb1⟩
        have hB : Hid (Below w.heap.size w w1) := ((Below.refl _ _).alloc (Nat.le_refl _) _).trans (hb1.mono (by simp))
        have x1 : w1.cell? ⟨w.heap.size, 0, none⟩ = some (.int .i64 P) := by rw [hb1.cell (by simp)]; simp [go_sem]
        have x2 : w1.cell? ⟨w.heap.size, 1, none⟩ = some (.int .i64 Q) := by rw [hb1.cell (by simp)]; simp [go_sem]
        have hz : Hid (w.heap.size < w1.heap.size) := by
          have := hb1.size
          simp at this
          exact this
        clear hb1
        go_wp2_with fail
        with_reducible refine (unhide kb _).mono ?_
        rintro e w2 ⟨rfl, hb2⟩
        have hB2 : Hid (Below w.heap.size w w2) := (unhide hB).trans (hb2.mono (unhide hB).size)
        have x1 := (hb2.cell (p := ⟨w.heap.size, 0, none⟩) (unhide hz)).trans x1
        have x2 := (hb2.cell (p := ⟨w.heap.size, 1, none⟩) (unhide hz)).trans x2
        have hz : Hid (w.heap.size < w2.heap.size) := Nat.lt_of_lt_of_le (unhide hz) hb2.size
        have fct : Hid (∀ w8 : World, Below w2.heap.size w2 w8 → w8.cell? ⟨w.heap.size, 0, none⟩ = some (.int .i64 P) ∧ w8.cell? ⟨w.heap.size, 1, none⟩ = some (.int .i64 Q)) :=
          fun w8 h => ⟨(h.cell (p := ⟨w.heap.size, 0, none⟩) (unhide hz)).trans x1, (h.cell (p := ⟨w.heap.size, 1, none⟩) (unhide hz)).trans x2⟩
        clear hb2 hB k kb
        go_wp2_with fail
        go_region_held3 (fun w8 => w8.cell? ⟨w.heap.size, 0, none⟩ = some (.int .i64 P) ∧ w8.cell? ⟨w.heap.size, 1, none⟩ = some (.int .i64 Q))
          (first | exact unhide fct _ (unhide hv2) | exact unhide fct _ (unhide hv1) | go_keep)
          (first
          | (go_at_call 73; with_reducible refine (unhide ko _).mono ?_; rintro e v1 ⟨rfl, hx1⟩
             have hv1 : Hid (Below w2.heap.size w2 v1) := ⟨hx1.os, hx1.tape, hx1.output, hx1.size, hx1.block⟩
             clear hx1)
          | (go_at_call 74; with_reducible refine (unhide ks _).mono ?_; rintro e v2 ⟨v, rfl, hO, hx2⟩
             have hv2 : Hid (Below w2.heap.size w2 v2) := (unhide hv1).trans (Below.mono (⟨hx2.os, hx2.tape, hx2.output, hx2.size, hx2.block⟩ : Below v1.heap.size v1 v2) (unhide hv1).size)
             have hP := hide (pairs2_owns hO)
             clear hx2 hO))
        go_wp2_with fail
        go_ret2
        rw [unhide hI]
        exact ⟨_, rfl, unhide hP, (unhide hB2).trans ((unhide hv2).mono (unhide hB2).size)⟩
  · have hI : Hid (lineS n a bin = ([], (binsS n a).2)) := by
      show _ = _
      unfold lineS
      rw [if_pos c1]
    generalize binsS n a = bb at *
    generalize lineS n a bin = r at hI ⊢
    obtain ⟨P, Q⟩ := a
    obtain ⟨bn, be⟩ := bb
    unfold dirV at *
    dsimp only at *
    have q1 : (be != 0) = true := by simp; exact c1
    clear c1
    go_enter Bar.func37, Bar.ntmps37
    go_wp2_with fail
    refine (unhide k _).mono ?_
    rintro e w1 ⟨rfl, hb1⟩
    have hB : Hid (Below w.heap.size w w1) := ((Below.refl _ _).alloc (Nat.le_refl _) _).trans (hb1.mono (by simp))
    clear hb1
    go_wp2_with fail
    go_ret2
    rw [unhide hI]
    exact ⟨_, rfl, pairs2_nil _, unhide hB⟩
end Go.Proofs.Ythbghcebcahlnaa
