/- The document's own Line. Lists of pairs; the program's own slope. The program's own row, Line. The document's own Twice: the first error of a list of directions. The document's own Katz: sums of steps. -/
import Derived.Test.YtgbkfmjkemkajaaM1
import Derived.Laws.AppendOwn
import Derived.Laws.OwnMore
import Derived.OwnWalk
import Derived.Deep.Onto
import Derived.BigQuiet
namespace Go.Proofs.Ytgbkfmjkemkajaa
open Go.RowKit

/-- Pairs of ints, cell by cell. -/
def flat2 (L : List (Int × Int)) : List Value := L.flatMap fun c => [.int .i64 c.1, .int .i64 c.2]
theorem flat2_length (L : List (Int × Int)) : (flat2 L).length = L.length * 2 := by
  unfold flat2
  induction L with
  | nil => rfl
  | cons a l ih => simp [List.flatMap_cons, ih]; omega
theorem flat2_snoc (L : List (Int × Int)) (x y : Int) : flat2 (L ++ [(x, y)]) = flat2 L ++ [.int .i64 x, .int .i64 y] := by
  unfold flat2
  simp [List.flatMap_append]

/-- The cells of a line, of the first k cells of a grid of side n, row by row. -/
def onLine (P Q st bin : Int) (n i : Nat) : Bool := decide (Q * ((i % n : Nat) : Int) - P * ((i / n : Nat) : Int) + st = bin)
def lineL (P Q st bin : Int) (n k : Nat) : List (Int × Int) := ((List.range k).filter (onLine P Q st bin n)).map fun i => (((i % n : Nat) : Int), ((i / n : Nat) : Int))

theorem lineL_zero (P Q st bin : Int) (n : Nat) : lineL P Q st bin n 0 = [] := rfl
theorem place_div {n y x : Nat} (hx : x < n) : (y * n + x) / n = y ∧ (y * n + x) % n = x := by
  constructor
  · rw [Nat.mul_comm, Nat.mul_add_div (by omega), Nat.div_eq_of_lt hx, Nat.add_zero]
  · rw [Nat.mul_comm, Nat.mul_add_mod, Nat.mod_eq_of_lt hx]
theorem lineL_yes {P Q st bin : Int} {n y x : Nat} (hx : x < n) (h : Q * (x : Int) - P * (y : Int) + st = bin) : lineL P Q st bin n (y * n + (x + 1)) = lineL P Q st bin n (y * n + x) ++ [((x : Int), (y : Int))] := by
  obtain ⟨e1, e2⟩ := place_div (y := y) hx
  unfold lineL
  rw [← Nat.add_assoc, List.range_succ, List.filter_append, List.map_append]
  have : onLine P Q st bin n (y * n + x) = true := by
    unfold onLine
    rw [e1, e2]
    exact decide_eq_true h
  have h2 : List.filter (onLine P Q st bin n) [y * n + x] = [y * n + x] := by simp [this]
  rw [h2]
  show _ ++ [((((y * n + x) % n : Nat) : Int), (((y * n + x) / n : Nat) : Int))] = _
  rw [e1, e2]
theorem lineL_no {P Q st bin : Int} {n y x : Nat} (hx : x < n) (h : ¬ Q * (x : Int) - P * (y : Int) + st = bin) : lineL P Q st bin n (y * n + (x + 1)) = lineL P Q st bin n (y * n + x) := by
  obtain ⟨e1, e2⟩ := place_div (y := y) hx
  unfold lineL
  rw [← Nat.add_assoc, List.range_succ, List.filter_append, List.map_append]
  have : onLine P Q st bin n (y * n + x) = false := by
    unfold onLine
    rw [e1, e2]
    exact decide_eq_false h
  simp [this]
theorem lineL_len (P Q st bin : Int) (n k : Nat) : (lineL P Q st bin n k).length ≤ k := by
  unfold lineL
  rw [List.length_map]
  exact Nat.le_trans (List.length_filter_le _ _) (by simp)

def lineS (n : Int) (a : Int × Int) (bin : Int) : List (Int × Int) × Int :=
  if (binsS n a).2 ≠ 0 then ([], (binsS n a).2) else if bin < 0 ∨ (binsS n a).1 ≤ bin then ([], 1) else (lineL a.1 a.2 (startS n a) bin n.toNat (n.toNat * n.toNat), 0)

theorem owns_below {w w' : World} {base : Nat} {e : TypeId} {size : Nat} {v : Value} {n : Nat} {xs : List Value} (h : w.ownsRow base e size v n xs) (hb : Below w.heap.size w w') : w'.ownsRow base e size v n xs := by
  have hg : w.grownBy w' none := ⟨hb.os, hb.tape, hb.output, hb.size, fun k hk _ => hb.block k hk⟩
  by_cases c : v.ownBlock = none
  · exact h.kept hg (Or.inl c)
  · exact h.kept hg (Or.inr c)

theorem infoCell : (Try.prog.info? 106).map (fun i => (i.zero, i.size, i.bytes)) = some (some (.agg #[.int .i64 0, .int .i64 0]), 2, 16) := by kernel_rfl
theorem info_parts {e : TypeId} {z : Value} {s b : Nat} (h : (Try.prog.info? e).map (fun i => (i.zero, i.size, i.bytes)) = some (some z, s, b)) : ∃ i, Try.prog.info? e = some i ∧ i.zero = some z ∧ i.size = s ∧ i.bytes = b := by
  cases hq : Try.prog.info? e with
  | none => rw [hq] at h; cases h
  | some i =>
    rw [hq] at h
    simp at h
    exact ⟨i, rfl, h.1, h.2.1, h.2.2⟩
theorem news_two (w : World) (x y : Value) (t : TypeId) : ∀ j u, [x, y][j]? = some u → (w.alloc (.cells #[x, y] t)).cell? ((⟨w.heap.size, 0, none⟩ : Addr).add j) = some u := by
  intro j u hj
  rw [addr_add]
  match j, hj with
  | 0, hj => simp at hj; subst hj; simp [go_sem]
  | 1, hj => simp at hj; subst hj; simp [go_sem]

set_option maxHeartbeats 6400000 in
theorem lineAny {n bin : Int} {a : Int × Int} (ha : Dir64 a) (w : World) :
    Calls Try.prog 50 #[.int .i64 n, dirV a, .int .i64 bin] w fun e w' =>
      ∃ v, e = .returned (.tuple #[v, .int .i64 (lineS n a bin).2]) ∧ w'.ownsRow w.heap.size 106 2 v (lineS n a bin).1.length (flat2 (lineS n a bin).1) ∧ Below w.heap.size w w' := by
  have k := hide (fun w => binsAny (n := n) ha w)
  by_cases c1 : (binsS n a).2 = 0
  · obtain ⟨r1, r2, r3⟩ := binsS_ok c1
    by_cases c2 : bin < 0 ∨ (binsS n a).1 ≤ bin
    · have hI : Hid (lineS n a bin = ([], 1)) := by
        show _ = _
        unfold lineS
        rw [if_neg (by omega), if_pos c2]
      rw [c1] at k
      generalize (binsS n a).1 = bn at k c2
      generalize lineS n a bin = r at hI ⊢
      obtain ⟨P, Q⟩ := a
      unfold dirV at *
      dsimp only at *
      have hd : ((bin < 0) = True) ∨ ((bin < 0) = False ∧ (bn ≤ bin) = True) := by
        by_cases d1 : bin < 0
        · exact Or.inl (by simp; omega)
        · exact Or.inr ⟨by simp; omega, by simp; omega⟩
      clear c1 c2 r3
      rcases hd with d1 | ⟨d1, d2⟩
      all_goals
        go_enter Try.func50, Try.ntmps50
        go_wp2_with fail
        refine (unhide k _).mono ?_
        rintro e w1 ⟨rfl, hb1⟩
        have hB : Hid (Below w.heap.size w w1) := ((Below.refl _ _).alloc (Nat.le_refl _) _).trans (hb1.mono (by simp))
        clear hb1
        go_wp2_with fail
        go_ret2
        rw [unhide hI]
        exact ⟨_, rfl, World.ownsRow_nil _ _ _ _, unhide hB⟩
    · have hI : Hid (lineS n a bin = (lineL a.1 a.2 (startS n a) bin n.toNat (n.toNat * n.toNat), 0)) := by
        show _ = _
        unfold lineS
        rw [if_neg (by omega), if_neg c2]
      rw [c1] at k
      generalize (binsS n a).1 = bn at k c2
      generalize lineS n a bin = r at hI ⊢
      obtain ⟨P, Q⟩ := a
      obtain ⟨N, rfl⟩ : ∃ N : Nat, n = N := ⟨n.toNat, by omega⟩
      rw [Int.toNat_natCast] at hI
      obtain ⟨b1, b2, b3⟩ := okD_bounds r3
      dsimp only at b1 b2 b3 hI
      have ks := hide (fun w => startAny (Q := Q) r1 r2 b1 w)
      obtain ⟨s1, s2⟩ := start_small (Q := Q) r1 r2 b1
      generalize startS (N : Int) (P, Q) = st at *
      have hyes := hide (fun (y x : Nat) (hx : x < N) h => lineL_yes (P := P) (Q := Q) (st := st) (bin := bin) (y := y) hx h)
      have hno := hide (fun (y x : Nat) (hx : x < N) h => lineL_no (P := P) (Q := Q) (st := st) (bin := bin) (y := y) hx h)
      have hln := hide (fun k => lineL_len P Q st bin N k)
      have hzr := hide (lineL_zero P Q st bin N)
      have hN : N ≤ 64 := by omega
      have hN1 : 1 ≤ N := by omega
      have d1 : (bin < 0) = False := by simp; omega
      have d2 : (bn ≤ bin) = False := by simp; omega
      have hP : Hid (P.natAbs ≤ 16) := b1
      obtain ⟨i0, hi0, hz0, hz1, hz2⟩ := info_parts infoCell
      generalize lineL P Q st bin N = LL at *
      unfold dirV at *
      dsimp only at *
      clear c1 c2 r3 b1 r1 r2
      go_enter Try.func50, Try.ntmps50
      go_wp2_with fail
      refine (unhide k _).mono ?_
      rintro e w1 ⟨rfl, hb1⟩
      have hB : Hid (Below w.heap.size w w1) := ((Below.refl _ _).alloc (Nat.le_refl _) _).trans (hb1.mono (by simp))
      have x1 : w1.cell? ⟨w.heap.size, 0, none⟩ = some (.int .i64 P) := by rw [hb1.cell (by simp)]; simp [go_sem]
      have x2 : w1.cell? ⟨w.heap.size, 1, none⟩ = some (.int .i64 Q) := by rw [hb1.cell (by simp)]; simp [go_sem]
      have hz : Hid (w.heap.size < w1.heap.size) := by
        have := hb1.size
        simp at this
        exact this
      have fct : Hid (∀ w8 : World, Below w1.heap.size w1 w8 → w8.cell? ⟨w.heap.size, 0, none⟩ = some (.int .i64 P) ∧ w8.cell? ⟨w.heap.size, 1, none⟩ = some (.int .i64 Q)) :=
        fun w8 h => ⟨(h.cell (p := ⟨w.heap.size, 0, none⟩) (unhide hz)).trans x1, (h.cell (p := ⟨w.heap.size, 1, none⟩) (unhide hz)).trans x2⟩
      clear hb1 k x1 x2
      go_wp2_with fail
      go_loopw [10, 11] (fun lv yv wr => ∃ y : Nat, y ≤ N ∧ yv = .int .i64 y ∧ Hid (wr.ownsRow w1.heap.size 106 2 lv (LL (y * N)).length (flat2 (LL (y * N)))) ∧ Hid (Below w1.heap.size w1 wr)) (fun _ yv _ => N - (intOf yv).toNat)
      case atStart =>
        refine ⟨0, Nat.zero_le _, rfl, ?_, Below.refl _ _⟩
        rw [Nat.zero_mul, unhide hzr]
        exact World.ownsRow_nil _ _ _ _
      case round =>
        obtain ⟨y, hy, rfl, hO, hBr⟩ := hrel
        by_cases hyN : y < N
        · have q1 : ((y : Int) < (N : Int)) = True := by simp; omega
          go_wp2_with fail
          go_loopw [10, 12] (fun lv xv wr => ∃ x : Nat, x ≤ N ∧ xv = .int .i64 x ∧ Hid (wr.ownsRow w1.heap.size 106 2 lv (LL (y * N + x)).length (flat2 (LL (y * N + x)))) ∧ Hid (Below w1.heap.size w1 wr)) (fun _ xv _ => N - (intOf xv).toNat)
          case atStart => exact ⟨0, Nat.zero_le _, rfl, hO, hBr⟩
          case round =>
            clear hO hBr
            obtain ⟨x, hx, rfl, hO, hBr⟩ := hrel
            by_cases hxN : x < N
            · have q2 : ((x : Int) < (N : Int)) = True := by simp; omega
              have m1 := cell_prod (x := (x : Int)) (n := (N : Int)) (Q := Q) (by omega) (by omega) (by omega) (by omega)
              have m2 := cell_prod (x := (y : Int)) (n := (N : Int)) (Q := P) (by omega) (by omega) (by omega) (unhide hP)
              have n1 : IntKind.i64.wrap (Q * (x : Int)) = Q * (x : Int) := by rw [IntKind.wrap_i64]; omega
              have n2 : IntKind.i64.wrap (P * (y : Int)) = P * (y : Int) := by rw [IntKind.wrap_i64]; omega
              have n3 : IntKind.i64.wrap (Q * (x : Int) - P * (y : Int)) = Q * (x : Int) - P * (y : Int) := by rw [IntKind.wrap_i64]; omega
              have n4 : IntKind.i64.wrap (Q * (x : Int) - P * (y : Int) + st) = Q * (x : Int) - P * (y : Int) + st := by rw [IntKind.wrap_i64]; omega
              have hY := hide (unhide hyes y x hxN)
              have hNo := hide (unhide hno y x hxN)
              obtain ⟨x1, x2⟩ := unhide fct _ (unhide hBr)
              have fct2 : Hid (∀ w8 : World, Below wr.heap.size wr w8 → w8.cell? ⟨w.heap.size, 0, none⟩ = some (.int .i64 P) ∧ w8.cell? ⟨w.heap.size, 1, none⟩ = some (.int .i64 Q)) := fun w8 h => unhide fct _ ((unhide hBr).trans (h.mono (unhide hBr).size))
              generalize hX : Q * (x : Int) = X at *
              generalize hYY : P * (y : Int) = Y at *
              have hlen := unhide hln (y * N + x)
              have hyx : y * N + x ≤ 4160 := by
                have := Nat.mul_le_mul (show y ≤ 64 by omega) hN
                omega
              by_cases c3 : X - Y + st = bin
              · have q3 : (X - Y + st == bin) = true := by simp; omega
                have hL := hide (unhide hY c3)
                clear m1 m2 hY hNo hyes hno c3
                go_wp2_with fail
                go_region_held3 (fun w8 => w8.cell? ⟨w.heap.size, 0, none⟩ = some (.int .i64 P) ∧ w8.cell? ⟨w.heap.size, 1, none⟩ = some (.int .i64 Q))
                  (first | exact unhide fct2 _ (unhide hv1) | go_keep)
                  (first
                  | (go_at_call 75; with_reducible refine (unhide ks _).mono ?_; rintro e v1 ⟨rfl, hx1⟩
                     have hv1 : Hid (Below wr.heap.size wr v1) := ⟨hx1.os, hx1.tape, hx1.output, hx1.size, hx1.block⟩
                     clear hx1))
                have hown := hide (owns_below (unhide hO) (unhide hv1))
                have hB2 : Hid (Below w1.heap.size w1 v1) := (unhide hBr).trans ((unhide hv1).mono (unhide hBr).size)
                have hbs : w1.heap.size ≤ v1.heap.size := (unhide hB2).size
                clear hv1 hO hBr fct2 x1 x2
                go_wp2_with (first
                  | (at_builtin; refine wpList_append_own _ rfl (.tmp 54) (.tmp 58) 102 rfl w1.heap.size 106 i0 (.agg #[.int .i64 0, .int .i64 0]) 2 16 Try.underlying102 hi0 hz0 hz1 hz2 rfl (by decide) _ _ _ rfl ((unhide hown).alloc _) ⟨v1.heap.size, 0, none⟩ 1 1 [.int .i64 x, .int .i64 y] rfl rfl (news_two _ _ _ _) ?c2 ?c3 ?c4 ?c5 ?_))
                case c2 => intro u hu; simp at hu; rcases hu with rfl | rfl <;> rfl
                case c3 => unfold maxLen; omega
                case c4 => omega
                case c5 => simp; omega
                intro v' w2 hown' hgrow _
                have hB3 : Hid (Below w1.heap.size w1 w2) := ((unhide hB2).alloc hbs _).grown hgrow (by simp; omega) (fun k hk => ((unhide hown).lt k hk).1)
                have hO2 : Hid (w2.ownsRow w1.heap.size 106 2 v' (LL (y * N + (x + 1))).length (flat2 (LL (y * N + (x + 1))))) := by
                  rw [unhide hL, flat2_snoc, List.length_append]
                  exact hown'
                clear hown' hgrow hB2 hown
                go_wp2_with fail
                exact ⟨⟨x + 1, hxN, by go_num, hO2, hB3⟩, by simp [intOf]; omega⟩
              · have q3 : (X - Y + st == bin) = false := by simp; omega
                have hL := hide (unhide hNo c3)
                clear m1 m2 hY hNo hyes hno c3
                go_wp2_with fail
                go_region_held3 (fun w8 => w8.cell? ⟨w.heap.size, 0, none⟩ = some (.int .i64 P) ∧ w8.cell? ⟨w.heap.size, 1, none⟩ = some (.int .i64 Q))
                  (first | exact unhide fct2 _ (unhide hv1) | go_keep)
                  (first
                  | (go_at_call 75; with_reducible refine (unhide ks _).mono ?_; rintro e v1 ⟨rfl, hx1⟩
                     have hv1 : Hid (Below wr.heap.size wr v1) := ⟨hx1.os, hx1.tape, hx1.output, hx1.size, hx1.block⟩
                     clear hx1))
                have hO2 : Hid (v1.ownsRow w1.heap.size 106 2 u10 (LL (y * N + (x + 1))).length (flat2 (LL (y * N + (x + 1))))) := by
                  rw [unhide hL]
                  exact owns_below (unhide hO) (unhide hv1)
                have hB2 : Hid (Below w1.heap.size w1 v1) := (unhide hBr).trans ((unhide hv1).mono (unhide hBr).size)
                clear hv1 hO hBr fct2 x1 x2
                go_wp2_with fail
                exact ⟨⟨x + 1, hxN, by go_num, hO2, hB2⟩, by simp [intOf]; omega⟩
            · have q2 : ((x : Int) < (N : Int)) = False := by simp; omega
              have e : x = N := by omega
              rw [e, ← Nat.succ_mul] at hO
              clear hyes hno
              go_wp2_with fail
              exact ⟨⟨y + 1, hyN, by go_num, hO, hBr⟩, by simp [intOf]; omega⟩
        · have q1 : ((y : Int) < (N : Int)) = False := by simp; omega
          have e : y = N := by omega
          rw [e] at hO
          clear hyes hno
          go_wp2_with fail
          go_ret2
          rw [unhide hI]
          exact ⟨_, rfl, (unhide hO).mono (unhide hB).size, (unhide hB).trans ((unhide hBr).mono (unhide hB).size)⟩
  · have hI : Hid (lineS n a bin = ([], (binsS n a).2)) := by
      show _ = _
      unfold lineS
      rw [if_pos c1]
    generalize binsS n a = bb at *
    generalize lineS n a bin = r at hI ⊢
    obtain ⟨P, Q⟩ := a
    obtain ⟨bn, be⟩ := bb
    unfold dirV at *
    dsimp only at *
    have q1 : (be != 0) = true := by simp; exact c1
    clear c1
    go_enter Try.func50, Try.ntmps50
    go_wp2_with fail
    refine (unhide k _).mono ?_
    rintro e w1 ⟨rfl, hb1⟩
    have hB : Hid (Below w.heap.size w w1) := ((Below.refl _ _).alloc (Nat.le_refl _) _).trans (hb1.mono (by simp))
    clear hb1
    go_wp2_with fail
    go_ret2
    rw [unhide hI]
    exact ⟨_, rfl, World.ownsRow_nil _ _ _ _, unhide hB⟩
end Go.Proofs.Ytgbkfmjkemkajaa

namespace Go.Proofs.Ytgbkfmjkemkajaa
open Go.RowKit

/-- A slice of pairs of ints, wherever it lies. -/
def Pairs2 (w : World) (v : Value) (L : List (Int × Int)) : Prop := ∃ (a : Option Addr) (cap g o : Nat), v = .slice a L.length cap ∧ (0 < L.length → a = some ⟨g, o, none⟩ ∧ g < w.heap.size) ∧
  ∀ i c, L[i]? = some c → w.cell? ⟨g, o + i * 2, none⟩ = some (.int .i64 c.1) ∧ w.cell? ⟨g, o + i * 2 + 1, none⟩ = some (.int .i64 c.2)

theorem pairs2_below {w w' : World} {v : Value} {L : List (Int × Int)} (h : Pairs2 w v L) (hb : Below w.heap.size w w') : Pairs2 w' v L := by
  obtain ⟨a, cap, g, o, h1, h2, h3⟩ := h
  refine ⟨a, cap, g, o, h1, fun hl => ⟨(h2 hl).1, Nat.lt_of_lt_of_le (h2 hl).2 hb.size⟩, fun i c hi => ?_⟩
  have hl : 0 < L.length := by
    have := (List.getElem?_eq_some_iff.1 hi).1
    omega
  exact ⟨(hb.cell (h2 hl).2).trans (h3 i c hi).1, (hb.cell (h2 hl).2).trans (h3 i c hi).2⟩

theorem flat2_get {L : List (Int × Int)} {i : Nat} {c : Int × Int} (h : L[i]? = some c) : (flat2 L)[i * 2]? = some (.int .i64 c.1) ∧ (flat2 L)[i * 2 + 1]? = some (.int .i64 c.2) := by
  induction L generalizing i with
  | nil => simp at h
  | cons a l ih =>
    have e : flat2 (a :: l) = .int .i64 a.1 :: .int .i64 a.2 :: flat2 l := by
      unfold flat2
      rfl
    rw [e]
    cases i with
    | zero =>
      simp at h
      subst h
      exact ⟨rfl, rfl⟩
    | succ i =>
      simp at h
      have := ih h
      rw [show (i + 1) * 2 = i * 2 + 2 by omega]
      exact this

theorem pairs2_owns {w : World} {B : Nat} {v : Value} {L : List (Int × Int)} (h : w.ownsRow B 106 2 v L.length (flat2 L)) : Pairs2 w v L := by
  rcases h.2 with ⟨h1, h2⟩ | ⟨g, cap, cur, h1, h2, h3, h4, h5, h6, h7⟩
  · refine ⟨none, 0, 0, 0, by rw [h2]; exact h1, fun hl => by omega, fun i c hi => ?_⟩
    have := (List.getElem?_eq_some_iff.1 hi).1
    omega
  · refine ⟨_, cap, g, 0, h1, fun _ => ⟨rfl, (Array.getElem?_eq_some_iff.1 h3).1⟩, fun i c hi => ?_⟩
    have hlt := (List.getElem?_eq_some_iff.1 hi).1
    obtain ⟨f1, f2⟩ := flat2_get hi
    rw [← h7, List.getElem?_take, if_pos (by omega)] at f1 f2
    rw [Nat.zero_add]
    refine ⟨?_, ?_⟩
    · simp [World.cell?, h3]
      simpa using f1
    · simp [World.cell?, h3]
      simpa using f2


/-- The cells of a row that lie on a line. -/
def rowL (P Q st bin : Int) (y k : Nat) : List (Int × Int) := ((List.range k).filter fun (x : Nat) => decide (Q * (x : Int) - P * (y : Int) + st = bin)).map fun (x : Nat) => ((x : Int), (y : Int))

theorem row_part (P Q st bin : Int) (n y : Nat) : ∀ k, k ≤ n → lineL P Q st bin n (y * n + k) = lineL P Q st bin n (y * n) ++ rowL P Q st bin y k
  | 0, _ => by
    unfold rowL
    simp
  | k + 1, h => by
    have ih := row_part P Q st bin n y k (by omega)
    by_cases c : Q * (k : Int) - P * (y : Int) + st = bin
    · rw [lineL_yes (by omega) c, ih, List.append_assoc]
      congr 1
      unfold rowL
      rw [List.range_succ, List.filter_append, List.map_append]
      simp [c]
    · rw [lineL_no (by omega) c, ih]
      congr 1
      unfold rowL
      rw [List.range_succ, List.filter_append, List.map_append]
      simp [c]

theorem row_next (P Q st bin : Int) (n y : Nat) : lineL P Q st bin n ((y + 1) * n) = lineL P Q st bin n (y * n) ++ rowL P Q st bin y n := by
  rw [Nat.succ_mul]
  exact row_part P Q st bin n y n (Nat.le_refl _)

theorem filter_one (p : Nat → Bool) (x0 : Nat) (h : ∀ x, p x = decide (x = x0)) : ∀ n, (List.range n).filter p = if x0 < n then [x0] else []
  | 0 => by simp
  | n + 1 => by
    rw [List.range_succ, List.filter_append, filter_one p x0 h n]
    by_cases c : x0 < n
    · rw [if_pos c, if_pos (by omega)]
      have : p n = false := by rw [h]; exact decide_eq_false (by omega)
      simp [this]
    · rw [if_neg c]
      by_cases c2 : n = x0
      · subst c2
        have : p n = true := by rw [h]; exact decide_eq_true rfl
        rw [if_pos (by omega)]
        simp [this]
      · have : p n = false := by rw [h]; exact decide_eq_false c2
        rw [if_neg (by omega)]
        simp [this]

theorem row_one {P Q st bin : Int} {n y x0 : Nat} (hQ : 0 < Q) (hx : x0 < n) (h : Q * (x0 : Int) = bin - st + P * (y : Int)) : rowL P Q st bin y n = [((x0 : Int), (y : Int))] := by
  unfold rowL
  rw [filter_one _ x0 (fun x => ?_), if_pos hx]
  · rfl
  · refine decide_eq_decide.2 ⟨fun e => ?_, fun e => ?_⟩
    · have e2 : Q * (x : Int) = Q * (x0 : Int) := by omega
      have := Int.eq_of_mul_eq_mul_left (by omega) e2
      omega
    · subst e
      omega

theorem row_none {P Q st bin : Int} {n y : Nat} (h : ∀ x : Nat, x < n → Q * (x : Int) ≠ bin - st + P * (y : Int)) : rowL P Q st bin y n = [] := by
  unfold rowL
  rw [List.map_eq_nil_iff, List.filter_eq_nil_iff]
  intro x hx
  have := h x (List.mem_range.1 hx)
  simp only [decide_eq_true_eq]
  omega

theorem slope_yes {P Q st bin s : Int} {n y : Nat} (hQ : 0 < Q) (hs : s = bin - st + P * (y : Int)) (h0 : s.tmod Q = 0) (h1 : 0 ≤ s.tdiv Q) (h2 : s.tdiv Q < n) :
    lineL P Q st bin n ((y + 1) * n) = lineL P Q st bin n (y * n) ++ [(s.tdiv Q, (y : Int))] := by
  have e := Int.mul_tdiv_add_tmod s Q
  rw [h0, Int.add_zero] at e
  have ex : ((s.tdiv Q).toNat : Int) = s.tdiv Q := Int.toNat_of_nonneg h1
  rw [row_next, row_one (x0 := (s.tdiv Q).toNat) hQ (by omega) (by rw [ex, e, hs]), ex]
theorem slope_no {P Q st bin s : Int} {n y : Nat} (hQ : 0 < Q) (hs : s = bin - st + P * (y : Int)) (h : s.tmod Q ≠ 0 ∨ ¬ (0 ≤ s.tdiv Q ∧ s.tdiv Q < n)) :
    lineL P Q st bin n ((y + 1) * n) = lineL P Q st bin n (y * n) := by
  rw [row_next, row_none, List.append_nil]
  intro x hx e
  rw [← hs] at e
  rcases h with h | h
  · apply h
    rw [← e]
    exact Int.mul_tmod_right _ _
  · apply h
    rw [← e, Int.mul_tdiv_cancel_left _ (by omega : Q ≠ 0)]
    omega

end Go.Proofs.Ytgbkfmjkemkajaa

namespace Go.Proofs.Ytgbkfmjkemkajaa
open Go.RowKit

theorem row_flat {st bin : Int} {y k : Nat} : rowL 1 0 st bin y k = if st - bin = (y : Int) then (List.range k).map fun (x : Nat) => ((x : Int), (y : Int)) else [] := by
  unfold rowL
  by_cases c : st - bin = (y : Int)
  · rw [if_pos c, List.filter_eq_self.2]
    intro x _
    simp only [decide_eq_true_eq]
    omega
  · rw [if_neg c, List.map_eq_nil_iff, List.filter_eq_nil_iff]
    intro x _
    simp only [decide_eq_true_eq]
    omega

theorem flat_line {st bin : Int} {N y0 : Nat} (h : st - bin = (y0 : Int)) (hy : y0 < N) : lineL 1 0 st bin N (N * N) = (List.range N).map fun (x : Nat) => ((x : Int), (y0 : Int)) := by
  have key : ∀ j, j ≤ N → lineL 1 0 st bin N (j * N) = if y0 < j then (List.range N).map fun (x : Nat) => ((x : Int), (y0 : Int)) else [] := by
    intro j
    induction j with
    | zero =>
      intro _
      rw [Nat.zero_mul, lineL_zero, if_neg (by omega)]
    | succ j ih =>
      intro hj
      rw [row_next, ih (by omega), row_flat]
      by_cases c : y0 < j
      · rw [if_pos c, if_neg (by omega), if_pos (by omega), List.append_nil]
      · rw [if_neg c]
        by_cases c2 : y0 = j
        · subst c2
          rw [if_pos h, if_pos (by omega), List.nil_append]
        · rw [if_neg (by omega), if_neg (by omega), List.nil_append]
  rw [key N (Nat.le_refl _), if_pos hy]

theorem pairs2_nil (w : World) : Pairs2 w (.slice none 0 0) [] := ⟨none, 0, 0, 0, rfl, fun h => absurd h (by simp), fun i c h => by simp at h⟩

theorem okD_flat {P : Int} (h : okD P 0 = true) : P = 1 := (okD_form h).2.1 rfl

end Go.Proofs.Ytgbkfmjkemkajaa

namespace Go.Proofs.Ytgbkfmjkemkajaa
open Go.RowKit

/-- The first error of a list, what stands ahead of it seen. -/
def twiceFrom : List (Int × Int) → List (Int × Int) → Int
  | _, [] => 0
  | seen, d :: r => if okD d.1 d.2 then (if d ∈ seen then 3 else twiceFrom (seen ++ [d]) r) else 60
def twiceS (L : List (Int × Int)) : Int := twiceFrom [] L

theorem twice_end {L : List (Int × Int)} : twiceFrom (L.take L.length) (L.drop L.length) = 0 := by
  rw [List.drop_length]
  rfl
theorem twice_bad {L : List (Int × Int)} {i : Nat} {d : Int × Int} (hd : L[i]? = some d) (h : okD d.1 d.2 = false) : twiceFrom (L.take i) (L.drop i) = 60 := by
  have hi := (List.getElem?_eq_some_iff.1 hd).1
  have e := (List.getElem?_eq_some_iff.1 hd).2
  rw [List.drop_eq_getElem_cons hi, e]
  unfold twiceFrom
  rw [if_neg (by rw [h]; decide)]
theorem twice_seen {L : List (Int × Int)} {i k : Nat} {d : Int × Int} (hd : L[i]? = some d) (h : okD d.1 d.2 = true) (hk : k < i) (he : L[k]? = some d) : twiceFrom (L.take i) (L.drop i) = 3 := by
  have hi := (List.getElem?_eq_some_iff.1 hd).1
  have e := (List.getElem?_eq_some_iff.1 hd).2
  rw [List.drop_eq_getElem_cons hi, e]
  unfold twiceFrom
  have hm : d ∈ L.take i := by
    refine List.mem_of_getElem? (i := k) ?_
    rw [List.getElem?_take, if_pos hk]
    exact he
  rw [if_pos h, if_pos hm]
theorem twice_on {L : List (Int × Int)} {i : Nat} {d : Int × Int} (hd : L[i]? = some d) (h : okD d.1 d.2 = true) (hk : ∀ k, k < i → L[k]? ≠ some d) : twiceFrom (L.take i) (L.drop i) = twiceFrom (L.take (i + 1)) (L.drop (i + 1)) := by
  have hi := (List.getElem?_eq_some_iff.1 hd).1
  have e := (List.getElem?_eq_some_iff.1 hd).2
  have hm : ¬ d ∈ L.take i := by
    intro hm
    obtain ⟨k, hk2⟩ := List.mem_iff_getElem?.1 hm
    rw [List.getElem?_take] at hk2
    by_cases c : k < i
    · rw [if_pos c] at hk2
      exact hk k c hk2
    · rw [if_neg c] at hk2
      cases hk2
  rw [List.drop_eq_getElem_cons hi, e, List.take_succ_eq_append_getElem hi, e]
  show (if okD d.1 d.2 then (if d ∈ L.take i then 3 else twiceFrom (L.take i ++ [d]) (L.drop (i + 1))) else 60) = _
  rw [if_pos h, if_neg hm]

theorem pairs2_get {L : List (Int × Int)} {i : Nat} (hi : i < L.length) : ∃ x y, L[i]? = some (x, y) := ⟨L[i].1, L[i].2, List.getElem?_eq_getElem hi⟩

/-- Directions, each of ints. -/
def All64 (L : List (Int × Int)) : Prop := ∀ (i : Nat) (d : Int × Int), L[i]? = some d → Dir64 d

set_option maxHeartbeats 3200000 in
theorem twiceAny {L : List (Int × Int)} {a : Option Addr} {cap g o : Nat} (hN : L.length ≤ 9223372036854775807) (hA : All64 L) (w : World) (ha : 0 < L.length → a = some ⟨g, o, none⟩ ∧ g < w.heap.size)
    (hc : ∀ i c, L[i]? = some c → w.cell? ⟨g, o + i * 2, none⟩ = some (.int .i64 c.1) ∧ w.cell? ⟨g, o + i * 2 + 1, none⟩ = some (.int .i64 c.2)) :
    Calls Try.prog 18 #[.slice a L.length cap] w fun e w' => e = .returned (.int .i64 (twiceS L)) ∧ Below w.heap.size w w' := by
  have ha := hide ha
  have Hc := hide hc
  have hA := hide hA
  have hen := hide (twice_end (L := L))
  have hbd := hide (fun i d => twice_bad (L := L) (i := i) (d := d))
  have hsn := hide (fun i k d => twice_seen (L := L) (i := i) (k := k) (d := d))
  have hon := hide (fun i d => twice_on (L := L) (i := i) (d := d))
  have h0 : Hid (twiceFrom (L.take 0) (L.drop 0) = twiceS L) := rfl
  have hat := hide (fun i (hi : i < L.length) => pairs2_get (L := L) hi)
  generalize hNN : L.length = N at *
  clear hc hNN
  go_enter Try.func18, Try.ntmps18
  go_wp2_with fail
  go_loopw [3] (fun iv wr => ∃ i : Nat, i ≤ N ∧ iv = .int .i64 i ∧ Hid (twiceFrom (L.take i) (L.drop i) = twiceS L) ∧ Hid (Below w.heap.size w wr)) (fun iv _ => N - (intOf iv).toNat)
  case atStart => exact ⟨0, Nat.zero_le _, rfl, h0, Below.refl _ _⟩
  case round =>
    obtain ⟨i, hi, rfl, hT, hBr⟩ := hrel
    by_cases hiN : i < N
    · have q1 : ((i : Int) < (N : Int)) = True := by simp; omega
      obtain ⟨P, Q, hd⟩ := unhide hat i hiN
      obtain ⟨haa, hgl⟩ := unhide ha (by omega)
      have c1 := ((unhide hBr).cell (p := ⟨g, o + i * 2, none⟩) hgl).trans (unhide Hc i _ hd).1
      have c2 := ((unhide hBr).cell (p := ⟨g, o + i * 2 + 1, none⟩) hgl).trans (unhide Hc i _ hd).2
      have hD := unhide hA i _ hd
      have k := hide (fun w => checkAny hD.one hD.two w)
      unfold dirV at k
      dsimp only at k c1 c2
      rw [haa]
      cases hok : okD P Q
      · have e1 := unhide hbd i (P, Q) hd hok
        rw [checkS_bad hok] at k
        rw [unhide hT] at e1
        have e1 := hide e1
        clear hT hbd hsn hon hen h0 hok hD hd
        go_wp2_with fail
        refine (unhide k _).mono ?_
        rintro e w1 ⟨rfl, hb1⟩
        have hB := hide ((unhide hBr).trans (hb1.mono (unhide hBr).size))
        clear hb1
        go_wp2_with fail
        go_ret
        exact ⟨by rw [unhide e1]; rfl, unhide hB⟩
      · rw [checkS_ok hok] at k
        have Hok := hide hok
        have Hd := hide hd
        clear hD hd hok
        go_wp2_with fail
        refine (unhide k _).mono ?_
        rintro e w1 ⟨rfl, hb1⟩
        have hB := hide ((unhide hBr).trans (hb1.mono (unhide hBr).size))
        clear hb1 k hBr c1 c2
        go_wp2_with fail
        go_loopw [5] (fun kv wr => ∃ k : Nat, k ≤ i ∧ kv = .int .i64 k ∧ Hid (∀ j, j < k → L[j]? ≠ some (P, Q)) ∧ Hid (Below w.heap.size w wr)) (fun kv _ => i - (intOf kv).toNat)
        case atStart => exact ⟨0, Nat.zero_le _, rfl, fun j hj => by omega, hB⟩
        case round =>
          clear hB
          obtain ⟨k, hk, rfl, hS, hB⟩ := hrel
          by_cases hki : k < i
          · have q2 : ((k : Int) < (i : Int)) = True := by simp; omega
            have q3 : ((k : Int) < (N : Int)) = True := by simp; omega
            obtain ⟨R, S, hd2⟩ := unhide hat k (by omega)
            have c1 := ((unhide hB).cell (p := ⟨g, o + i * 2, none⟩) hgl).trans (unhide Hc i _ (unhide Hd)).1
            have c2 := ((unhide hB).cell (p := ⟨g, o + i * 2 + 1, none⟩) hgl).trans (unhide Hc i _ (unhide Hd)).2
            have c3 := ((unhide hB).cell (p := ⟨g, o + k * 2, none⟩) hgl).trans (unhide Hc k _ hd2).1
            have c4 := ((unhide hB).cell (p := ⟨g, o + k * 2 + 1, none⟩) hgl).trans (unhide Hc k _ hd2).2
            dsimp only at c1 c2 c3 c4
            by_cases h3 : R = P ∧ S = Q
            · obtain ⟨rfl, rfl⟩ := h3
              have e1 : Hid (twiceS L = 3) := by
                show _ = _
                rw [← unhide hT]
                exact unhide hsn i k _ (unhide Hd) (unhide Hok) hki hd2
              clear hT hbd hsn hon hen h0 hS hd2 Hd Hok hat Hc hA
              go_wp2_with fail
              go_quiet (fail)
              go_wp2_with fail
              go_ret
              have hb := unhide hB
              exact ⟨by rw [unhide e1]; rfl, ⟨hb.os, hb.tape, hb.output, hb.size, hb.block⟩⟩
            · have hS2 : Hid (∀ j, j < k + 1 → L[j]? ≠ some (P, Q)) := by
                intro j hj
                by_cases c : j = k
                · subst c
                  rw [hd2]
                  intro e
                  apply h3
                  simpa using e
                · exact unhide hS j (by omega)
              clear hT hbd hsn hon hen h0 hS hd2 Hd Hok hat Hc hA
              by_cases hRP : R = P
              · subst hRP
                have h4 : ¬ S = Q := fun h => h3 ⟨rfl, h⟩
                have q4 : (S == Q) = false := by simp; exact h4
                clear h3
                go_wp2_with fail
                go_quiet (fail)
                go_wp2_with fail
                have hb := unhide hB
                exact ⟨⟨k + 1, hki, by go_num, hS2, ⟨hb.os, hb.tape, hb.output, hb.size, hb.block⟩⟩, by simp [intOf]; omega⟩
              · have q4 : (R == P) = false := by simp; exact hRP
                clear h3
                go_wp2_with fail
                go_quiet (fail)
                go_wp2_with fail
                have hb := unhide hB
                exact ⟨⟨k + 1, hki, by go_num, hS2, ⟨hb.os, hb.tape, hb.output, hb.size, hb.block⟩⟩, by simp [intOf]; omega⟩
          · have q2 : ((k : Int) < (i : Int)) = False := by simp; omega
            have e : k = i := by omega
            subst e
            have hT2 : Hid (twiceFrom (L.take (k + 1)) (L.drop (k + 1)) = twiceS L) := by
              show _ = _
              rw [← unhide hT]
              exact (unhide hon k (P, Q) (unhide Hd) (unhide Hok) (unhide hS)).symm
            clear hT hbd hsn hon hen h0 hS Hd Hok hat Hc hA
            go_wp2_with fail
            exact ⟨⟨k + 1, hiN, by go_num, hT2, hB⟩, by simp [intOf]; omega⟩
    · have q1 : ((i : Int) < (N : Int)) = False := by simp; omega
      have e1 : twiceS L = 0 := by
        rw [← unhide hT, show i = N by omega]
        exact unhide hen
      have e1 := hide e1
      clear hT hbd hsn hon hen h0
      go_wp2_with fail
      go_ret
      exact ⟨by rw [unhide e1]; rfl, unhide hBr⟩
end Go.Proofs.Ytgbkfmjkemkajaa

namespace Go.Proofs.Ytgbkfmjkemkajaa
open Go.RowKit

def sumP : List (Int × Int) → Int
  | [] => 0
  | d :: r => d.1.natAbs + sumP r
def sumQ : List (Int × Int) → Int
  | [] => 0
  | d :: r => d.2 + sumQ r
theorem sumP_snoc (L : List (Int × Int)) (d : Int × Int) : sumP (L ++ [d]) = sumP L + d.1.natAbs := by
  induction L with
  | nil => simp [sumP]
  | cons a l ih => simp only [List.cons_append, sumP, ih]; omega
theorem sumQ_snoc (L : List (Int × Int)) (d : Int × Int) : sumQ (L ++ [d]) = sumQ L + d.2 := by
  induction L with
  | nil => simp [sumQ]
  | cons a l ih => simp only [List.cons_append, sumQ, ih]; omega
theorem sum_small {L : List (Int × Int)} (h : ∀ d, d ∈ L → okD d.1 d.2 = true) : 0 ≤ sumP L ∧ sumP L ≤ 16 * L.length ∧ 0 ≤ sumQ L ∧ sumQ L ≤ 16 * L.length := by
  induction L with
  | nil => exact ⟨by decide, by decide, by decide, by decide⟩
  | cons a l ih =>
    have h1 := ih fun d hd => h d (List.mem_cons_of_mem _ hd)
    have h2 := okD_bounds (h a (List.mem_cons_self ..))
    simp only [sumP, sumQ, List.length_cons]
    omega

theorem twice_good {seen L : List (Int × Int)} (h : twiceFrom seen L = 0) : (∀ d, d ∈ L → okD d.1 d.2 = true) ∧ L.Nodup ∧ ∀ d, d ∈ L → ¬ d ∈ seen := by
  induction L generalizing seen with
  | nil => exact ⟨fun d hd => (by cases hd), List.nodup_nil, fun d hd => (by cases hd)⟩
  | cons a l ih =>
    unfold twiceFrom at h
    by_cases c1 : okD a.1 a.2 = true
    · rw [if_pos c1] at h
      by_cases c2 : a ∈ seen
      · rw [if_pos c2] at h
        exact absurd h (by decide)
      · rw [if_neg c2] at h
        obtain ⟨i1, i2, i3⟩ := ih h
        refine ⟨fun d hd => ?_, ?_, fun d hd => ?_⟩
        · rcases List.mem_cons.1 hd with rfl | hd
          · exact c1
          · exact i1 d hd
        · exact List.nodup_cons.2 ⟨fun hm => i3 a hm (by simp), i2⟩
        · rcases List.mem_cons.1 hd with rfl | hd
          · exact c2
          · exact fun hm => i3 d hd (by simp [hm])
    · rw [if_neg c1] at h
      exact absurd h (by decide)

theorem nodup_le {L M : List (Int × Int)} (h : L.Nodup) (hs : ∀ d, d ∈ L → d ∈ M) : L.length ≤ M.length := by
  induction L generalizing M with
  | nil => exact Nat.zero_le _
  | cons a l ih =>
    obtain ⟨h1, h2⟩ := List.nodup_cons.1 h
    have hm : a ∈ M := hs a (List.mem_cons_self ..)
    have hl : l.length ≤ (M.erase a).length := by
      refine ih h2 fun d hd => ?_
      have hne : d ≠ a := fun e => h1 (e ▸ hd)
      exact (List.mem_erase_of_ne hne).2 (hs d (List.mem_cons_of_mem _ hd))
    have := List.length_erase_of_mem hm
    have := List.length_pos_of_mem hm
    simp only [List.length_cons]
    omega

def allDirs : List (Int × Int) := (List.range 33).flatMap fun (i : Nat) => (List.range 17).map fun (j : Nat) => ((i : Int) - 16, (j : Int))
theorem allDirs_len : allDirs.length = 561 := by decide +kernel
theorem mem_allDirs {P Q : Int} (h : okD P Q = true) : (P, Q) ∈ allDirs := by
  obtain ⟨b1, b2, b3⟩ := okD_bounds h
  unfold allDirs
  refine List.mem_flatMap.2 ⟨(P + 16).toNat, List.mem_range.2 (by omega), List.mem_map.2 ⟨Q.toNat, List.mem_range.2 (by omega), ?_⟩⟩
  refine Prod.ext ?_ ?_
  · show ((P + 16).toNat : Int) - 16 = P
    omega
  · show (Q.toNat : Int) = Q
    omega
theorem twice_len {L : List (Int × Int)} (h : twiceS L = 0) : L.length ≤ 561 := by
  obtain ⟨h1, h2, _⟩ := twice_good h
  rw [← allDirs_len]
  exact nodup_le h2 fun d hd => mem_allDirs (h1 d hd)

def katzS (n : Int) (L : List (Int × Int)) : Bool × Int := if n < 1 ∨ 64 < n then (false, 1) else if twiceS L ≠ 0 then (false, twiceS L) else (decide (n ≤ sumP L ∨ n ≤ sumQ L), 0)

end Go.Proofs.Ytgbkfmjkemkajaa
