/- Lists of pairs; the program's own slope. -/
import Derived.Test.YthbghcebcahlnaaDJ
import Derived.Test.YthbghcebcahlnaaDL
namespace Go.Proofs.Ythbghcebcahlnaa
open Go.RowKit

/-- A slice of pairs of ints, wherever it lies. -/
def Pairs2 (w : World) (v : Value) (L : List (Int × Int)) : Prop := ∃ (a : Option Addr) (cap g o : Nat), v = .slice a L.length cap ∧ (0 < L.length → a = some ⟨g, o, none⟩ ∧ g < w.heap.size) ∧
  ∀ i c, L[i]? = some c → w.cell? ⟨g, o + i * 2, none⟩ = some (.int .i64 c.1) ∧ w.cell? ⟨g, o + i * 2 + 1, none⟩ = some (.int .i64 c.2)

theorem pairs2_below {w w' : World} {v : Value} {L : List (Int × Int)} (h : Pairs2 w v L) (hb : Below w.heap.size w w') : Pairs2 w' v L := by
  obtain ⟨a, cap, g, o, h1, h2, h3⟩ := h
  refine ⟨a, cap, g, o, h1, fun hl => ⟨(h2 hl).1, Nat.lt_of_lt_of_le (h2 hl).2 hb.size⟩, fun i c hi => ?_⟩
  have hl : 0 < L.length := by
    have := (List.getElem?_eq_some_iff.1 hi).1
    omega
  exact ⟨(hb.cell (h2 hl).2).trans (h3 i c hi).1, (hb.cell (h2 hl).2).trans (h3 i c hi).2⟩

theorem flat2_get {L : List (Int × Int)} {i : Nat} {c : Int × Int} (h : L[i]? = some c) : (flat2 L)[i * 2]? = some (.int .i64 c.1) ∧ (flat2 L)[i * 2 + 1]? = some (.int .i64 c.2) := by
  induction L generalizing i with
  | nil => simp at h
  | cons a l ih =>
    have e : flat2 (a :: l) = .int .i64 a.1 :: .int .i64 a.2 :: flat2 l := by
      unfold flat2
      rfl
    rw [e]
    cases i with
    | zero =>
      simp at h
      subst h
      exact ⟨rfl, rfl⟩
    | succ i =>
      simp at h
      have := ih h
      rw [show (i + 1) * 2 = i * 2 + 2 by omega]
      exact this

theorem pairs2_owns {w : World} {B : Nat} {v : Value} {L : List (Int × Int)} (h : w.ownsRow B 92 2 v L.length (flat2 L)) : Pairs2 w v L := by
  rcases h.2 with ⟨h1, h2⟩ | ⟨g, cap, cur, h1, h2, h3, h4, h5, h6, h7⟩
  · refine ⟨none, 0, 0, 0, by rw [h2]; exact h1, fun hl => by omega, fun i c hi => ?_⟩
    have := (List.getElem?_eq_some_iff.1 hi).1
    omega
  · refine ⟨_, cap, g, 0, h1, fun _ => ⟨rfl, (Array.getElem?_eq_some_iff.1 h3).1⟩, fun i c hi => ?_⟩
    have hlt := (List.getElem?_eq_some_iff.1 hi).1
    obtain ⟨f1, f2⟩ := flat2_get hi
    rw [← h7, List.getElem?_take, if_pos (by omega)] at f1 f2
    rw [Nat.zero_add]
    refine ⟨?_, ?_⟩
    · simp [World.cell?, h3]
      simpa using f1
    · simp [World.cell?, h3]
      simpa using f2


/-- The cells of a row that lie on a line. -/
def rowL (P Q st bin : Int) (y k : Nat) : List (Int × Int) := ((List.range k).filter fun (x : Nat) => decide (Q * (x : Int) - P * (y : Int) + st = bin)).map fun (x : Nat) => ((x : Int), (y : Int))

theorem row_part (P Q st bin : Int) (n y : Nat) : ∀ k, k ≤ n → lineL P Q st bin n (y * n + k) = lineL P Q st bin n (y * n) ++ rowL P Q st bin y k
  | 0, _ => by
    unfold rowL
    simp
  | k + 1, h => by
    have ih := row_part P Q st bin n y k (by omega)
    by_cases c : Q * (k : Int) - P * (y : Int) + st = bin
    · rw [lineL_yes (by omega) c, ih, List.append_assoc]
      congr 1
      unfold rowL
      rw [List.range_succ, List.filter_append, List.map_append]
      simp [c]
    · rw [lineL_no (by omega) c, ih]
      congr 1
      unfold rowL
      rw [List.range_succ, List.filter_append, List.map_append]
      simp [c]

theorem row_next (P Q st bin : Int) (n y : Nat) : lineL P Q st bin n ((y + 1) * n) = lineL P Q st bin n (y * n) ++ rowL P Q st bin y n := by
  rw [Nat.succ_mul]
  exact row_part P Q st bin n y n (Nat.le_refl _)

theorem filter_one (p : Nat → Bool) (x0 : Nat) (h : ∀ x, p x = decide (x = x0)) : ∀ n, (List.range n).filter p = if x0 < n then [x0] else []
  | 0 => by simp
  | n + 1 => by
    rw [List.range_succ, List.filter_append, filter_one p x0 h n]
    by_cases c : x0 < n
    · rw [if_pos c, if_pos (by omega)]
      have : p n = false := by rw [h]; exact decide_eq_false (by omega)
      simp [this]
    · rw [if_neg c]
      by_cases c2 : n = x0
      · subst c2
        have : p n = true := by rw [h]; exact decide_eq_true rfl
        rw [if_pos (by omega)]
        simp [this]
      · have : p n = false := by rw [h]; exact decide_eq_false c2
        rw [if_neg (by omega)]
        simp [this]

theorem row_one {P Q st bin : Int} {n y x0 : Nat} (hQ : 0 < Q) (hx : x0 < n) (h : Q * (x0 : Int) = bin - st + P * (y : Int)) : rowL P Q st bin y n = [((x0 : Int), (y : Int))] := by
  unfold rowL
  rw [filter_one _ x0 (fun x => ?_), if_pos hx]
  · rfl
  · refine decide_eq_decide.2 ⟨fun e => ?_, fun e => ?_⟩
    · have e2 : Q * (x : Int) = Q * (x0 : Int) := by omega
      have := Int.eq_of_mul_eq_mul_left (by omega) e2
      omega
    · subst e
      omega

theorem row_none {P Q st bin : Int} {n y : Nat} (h : ∀ x : Nat, x < n → Q * (x : Int) ≠ bin - st + P * (y : Int)) : rowL P Q st bin y n = [] := by
  unfold rowL
  rw [List.map_eq_nil_iff, List.filter_eq_nil_iff]
  intro x hx
  have := h x (List.mem_range.1 hx)
  simp only [decide_eq_true_eq]
  omega

theorem slope_yes {P Q st bin s : Int} {n y : Nat} (hQ : 0 < Q) (hs : s = bin - st + P * (y : Int)) (h0 : s.tmod Q = 0) (h1 : 0 ≤ s.tdiv Q) (h2 : s.tdiv Q < n) :
    lineL P Q st bin n ((y + 1) * n) = lineL P Q st bin n (y * n) ++ [(s.tdiv Q, (y : Int))] := by
  have e := Int.mul_tdiv_add_tmod s Q
  rw [h0, Int.add_zero] at e
  have ex : ((s.tdiv Q).toNat : Int) = s.tdiv Q := Int.toNat_of_nonneg h1
  rw [row_next, row_one (x0 := (s.tdiv Q).toNat) hQ (by omega) (by rw [ex, e, hs]), ex]
theorem slope_no {P Q st bin s : Int} {n y : Nat} (hQ : 0 < Q) (hs : s = bin - st + P * (y : Int)) (h : s.tmod Q ≠ 0 ∨ ¬ (0 ≤ s.tdiv Q ∧ s.tdiv Q < n)) :
    lineL P Q st bin n ((y + 1) * n) = lineL P Q st bin n (y * n) := by
  rw [row_next, row_none, List.append_nil]
  intro x hx e
  rw [← hs] at e
  rcases h with h | h
  · apply h
    rw [← e]
    exact Int.mul_tmod_right _ _
  · apply h
    rw [← e, Int.mul_tdiv_cancel_left _ (by omega : Q ≠ 0)]
    omega

set_option maxHeartbeats 3200000 in
theorem slopeAny {N : Nat} {P Q st bin : Int} (hN : N ≤ 64) (hP : P.natAbs ≤ 16) (hQ : 0 < Q) (hQ2 : Q ≤ 16) (hl1 : -4000 ≤ bin - st) (hl2 : bin - st ≤ 4000) (w : World) :
    Calls (barP Try.prog) 74 #[.int .i64 N, .agg #[.int .i64 P, .int .i64 Q], .int .i64 (bin - st)] w fun e w' =>
      ∃ v, e = .returned v ∧ w'.ownsRow w.heap.size 92 2 v (lineL P Q st bin N (N * N)).length (flat2 (lineL P Q st bin N (N * N))) ∧ Below w.heap.size w w' := by
  have hyes := hide (fun (y : Nat) s hs h0 h1 h2 => slope_yes (P := P) (Q := Q) (st := st) (bin := bin) (s := s) (n := N) (y := y) hQ hs h0 h1 h2)
  have hno := hide (fun (y : Nat) s hs h => slope_no (P := P) (Q := Q) (st := st) (bin := bin) (s := s) (n := N) (y := y) hQ hs h)
  have hln := hide (fun k => lineL_len P Q st bin N k)
  have hzr := hide (lineL_zero P Q st bin N)
  obtain ⟨i0, hi0, hz0, hz1, hz2⟩ := info_parts infoCell
  have kl := hide (fun (x : Int) w => liesAny (n := (N : Int)) (x := x) w)
  generalize lineL P Q st bin N = LL at *
  generalize bin - st = lv at *
  have hPh : Hid (P.natAbs ≤ 16) := hP
  clear hP
  go_enter Bar.func74, Bar.ntmps74
  go_wp2_with fail
  have hB0 : Hid (Below w.heap.size w (w.alloc (.cells #[.int .i64 P, .int .i64 Q] 47))) := (Below.refl _ _).alloc (Nat.le_refl _) _
  have hx1 : Hid ((w.alloc (.cells #[.int .i64 P, .int .i64 Q] 47)).cell? ⟨w.heap.size, 0, none⟩ = some (.int .i64 P)) := by show _ = _; simp [go_sem]
  have hx2 : Hid ((w.alloc (.cells #[.int .i64 P, .int .i64 Q] 47)).cell? ⟨w.heap.size, 1, none⟩ = some (.int .i64 Q)) := by show _ = _; simp [go_sem]
  have hz : Hid (w.heap.size < (w.alloc (.cells #[.int .i64 P, .int .i64 Q] 47)).heap.size) := by show _ < _; simp
  generalize hw1 : w.alloc (.cells #[.int .i64 P, .int .i64 Q] 47) = w1 at *
  clear hw1
  go_loopw [7, 12] (fun lv yv wr => ∃ y : Nat, y ≤ N ∧ yv = .int .i64 y ∧ Hid (wr.ownsRow w1.heap.size 92 2 lv (LL (y * N)).length (flat2 (LL (y * N)))) ∧ Hid (Below w1.heap.size w1 wr)) (fun _ yv _ => N - (intOf yv).toNat)
  case atStart =>
    refine ⟨0, Nat.zero_le _, rfl, ?_, Below.refl _ _⟩
    rw [Nat.zero_mul, unhide hzr]
    exact World.ownsRow_nil _ _ _ _
  case round =>
    obtain ⟨y, hy, rfl, hO, hBr⟩ := hrel
    by_cases hyN : y < N
    · have q1 : ((y : Int) < (N : Int)) = True := by simp; omega
      have m2 := cell_prod (x := (y : Int)) (n := (N : Int)) (Q := P) (by omega) (by omega) (by omega) (unhide hPh)
      have n1 : IntKind.i64.wrap (P * (y : Int)) = P * (y : Int) := by rw [IntKind.wrap_i64]; omega
      have x1 := ((unhide hBr).cell (p := ⟨w.heap.size, 0, none⟩) (unhide hz)).trans (unhide hx1)
      have x2 := ((unhide hBr).cell (p := ⟨w.heap.size, 1, none⟩) (unhide hz)).trans (unhide hx2)
      have hY := hide (unhide hyes y)
      have hNo := hide (unhide hno y)
      generalize hYY : P * (y : Int) = Y at *
      have n2 : IntKind.i64.wrap (lv + Y) = lv + Y := by rw [IntKind.wrap_i64]; omega
      have hyx : Hid (y * N ≤ 4096) := Nat.mul_le_mul (show y ≤ 64 by omega) hN
      have hlen := unhide hln (y * N)
      have hlen2 : (LL (y * N)).length ≤ 4096 := Nat.le_trans hlen (unhide hyx)
      have q0 : ¬ Q = 0 := by omega
      by_cases c0 : (lv + Y).tmod Q = 0
      · have q2 : ((lv + Y).tmod Q == 0) = true := by simp; exact c0
        have kx := hide (unhide kl ((lv + Y).tdiv Q))
        by_cases c1 : 0 ≤ (lv + Y).tdiv Q ∧ (lv + Y).tdiv Q < N
        · rw [decide_eq_true c1] at kx
          have hL := hide (unhide hY (lv + Y) rfl c0 c1.1 c1.2)
          clear c0 c1 hY hNo hyes hno kl hlen
          go_wp2_with fail
          with_reducible refine (unhide kx _).mono ?_
          rintro e w2 ⟨rfl, hw2⟩
          obtain rfl := hw2.symm
          have hbs : w1.heap.size ≤ wr.heap.size := (unhide hBr).size
          go_wp2_with (first
            | (at_builtin; refine wpList_append_own _ rfl (.tmp 35) (.tmp 39) 88 rfl w1.heap.size 92 i0 (.agg #[.int .i64 0, .int .i64 0]) 2 16 Bar.underlying88 hi0 hz0 hz1 hz2 rfl (by decide) _ _ _ rfl ((unhide hO).alloc _) ⟨wr.heap.size, 0, none⟩ 1 1 [.int .i64 ((lv + Y).tdiv Q), .int .i64 y] rfl rfl (news_two _ _ _ _) ?c2 ?c3 ?c4 ?c5 ?_))
          case c2 => intro u hu; simp at hu; rcases hu with rfl | rfl <;> rfl
          case c3 => unfold maxLen; omega
          case c4 => omega
          case c5 => simp; omega
          intro v' w2 hown' hgrow _
          have hB3 : Hid (Below w1.heap.size w1 w2) := ((unhide hBr).alloc hbs _).grown hgrow (by simp; omega) (fun k hk => ((unhide hO).lt k hk).1)
          have hO2 : Hid (w2.ownsRow w1.heap.size 92 2 v' (LL ((y + 1) * N)).length (flat2 (LL ((y + 1) * N)))) := by
            rw [unhide hL, flat2_snoc, List.length_append]
            exact hown'
          clear hown' hgrow hBr hO
          go_wp2_with fail
          exact ⟨⟨y + 1, hyN, by go_num, hO2, hB3⟩, by simp [intOf]; omega⟩
        · rw [decide_eq_false c1] at kx
          have hL := hide (unhide hNo (lv + Y) rfl (Or.inr c1))
          have hO2 : Hid (wr.ownsRow w1.heap.size 92 2 u7 (LL ((y + 1) * N)).length (flat2 (LL ((y + 1) * N)))) := by
            rw [unhide hL]
            exact unhide hO
          clear c0 c1 hY hNo hyes hno kl hlen hO
          go_wp2_with fail
          with_reducible refine (unhide kx _).mono ?_
          rintro e w2 ⟨rfl, hw2⟩
          obtain rfl := hw2.symm
          go_wp2_with fail
          exact ⟨⟨y + 1, hyN, by go_num, hO2, hBr⟩, by simp [intOf]; omega⟩
      · have q2 : ((lv + Y).tmod Q == 0) = false := by simp; exact c0
        have hL := hide (unhide hNo (lv + Y) rfl (Or.inl c0))
        have hO2 : Hid (wr.ownsRow w1.heap.size 92 2 u7 (LL ((y + 1) * N)).length (flat2 (LL ((y + 1) * N)))) := by
          rw [unhide hL]
          exact unhide hO
        clear c0 hY hNo hyes hno kl hlen hO
        go_wp2_with fail
        exact ⟨⟨y + 1, hyN, by go_num, hO2, hBr⟩, by simp [intOf]; omega⟩
    · have q1 : ((y : Int) < (N : Int)) = False := by simp; omega
      have e : y = N := by omega
      rw [e] at hO
      clear hyes hno
      go_wp2_with fail
      go_ret
      exact ⟨_, rfl, (unhide hO).mono (unhide hB0).size, (unhide hB0).trans ((unhide hBr).mono (unhide hB0).size)⟩
end Go.Proofs.Ythbghcebcahlnaa
