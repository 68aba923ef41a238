/- The document's own Line. -/
import Derived.Test.YthdoophjcjlklaaDI
import Derived.Laws.AppendOwn
import Derived.Laws.OwnMore
import Derived.OwnWalk
import Derived.Deep.Onto
namespace Go.Proofs.Ythdoophjcjlklaa
open Go.RowKit

/-- Pairs of ints, cell by cell. -/
def flat2 (L : List (Int × Int)) : List Value := L.flatMap fun c => [.int .i64 c.1, .int .i64 c.2]
theorem flat2_length (L : List (Int × Int)) : (flat2 L).length = L.length * 2 := by
  unfold flat2
  induction L with
  | nil => rfl
  | cons a l ih => simp [List.flatMap_cons, ih]; omega
theorem flat2_snoc (L : List (Int × Int)) (x y : Int) : flat2 (L ++ [(x, y)]) = flat2 L ++ [.int .i64 x, .int .i64 y] := by
  unfold flat2
  simp [List.flatMap_append]

/-- The cells of a line, of the first k cells of a grid of side n, row by row. -/
def onLine (P Q st bin : Int) (n i : Nat) : Bool := decide (Q * ((i % n : Nat) : Int) - P * ((i / n : Nat) : Int) + st = bin)
def lineL (P Q st bin : Int) (n k : Nat) : List (Int × Int) := ((List.range k).filter (onLine P Q st bin n)).map fun i => (((i % n : Nat) : Int), ((i / n : Nat) : Int))

theorem lineL_zero (P Q st bin : Int) (n : Nat) : lineL P Q st bin n 0 = [] := rfl
theorem place_div {n y x : Nat} (hx : x < n) : (y * n + x) / n = y ∧ (y * n + x) % n = x := by
  constructor
  · rw [Nat.mul_comm, Nat.mul_add_div (by omega), Nat.div_eq_of_lt hx, Nat.add_zero]
  · rw [Nat.mul_comm, Nat.mul_add_mod, Nat.mod_eq_of_lt hx]
theorem lineL_yes {P Q st bin : Int} {n y x : Nat} (hx : x < n) (h : Q * (x : Int) - P * (y : Int) + st = bin) : lineL P Q st bin n (y * n + (x + 1)) = lineL P Q st bin n (y * n + x) ++ [((x : Int), (y : Int))] := by
  obtain ⟨e1, e2⟩ := place_div (y := y) hx
  unfold lineL
  rw [← Nat.add_assoc, List.range_succ, List.filter_append, List.map_append]
  have : onLine P Q st bin n (y * n + x) = true := by
    unfold onLine
    rw [e1, e2]
    exact decide_eq_true h
  have h2 : List.filter (onLine P Q st bin n) [y * n + x] = [y * n + x] := by simp [this]
  rw [h2]
  show _ ++ [((((y * n + x) % n : Nat) : Int), (((y * n + x) / n : Nat) : Int))] = _
  rw [e1, e2]
theorem lineL_no {P Q st bin : Int} {n y x : Nat} (hx : x < n) (h : ¬ Q * (x : Int) - P * (y : Int) + st = bin) : lineL P Q st bin n (y * n + (x + 1)) = lineL P Q st bin n (y * n + x) := by
  obtain ⟨e1, e2⟩ := place_div (y := y) hx
  unfold lineL
  rw [← Nat.add_assoc, List.range_succ, List.filter_append, List.map_append]
  have : onLine P Q st bin n (y * n + x) = false := by
    unfold onLine
    rw [e1, e2]
    exact decide_eq_false h
  simp [this]
theorem lineL_len (P Q st bin : Int) (n k : Nat) : (lineL P Q st bin n k).length ≤ k := by
  unfold lineL
  rw [List.length_map]
  exact Nat.le_trans (List.length_filter_le _ _) (by simp)

def lineS (n : Int) (a : Int × Int) (bin : Int) : List (Int × Int) × Int :=
  if (binsS n a).2 ≠ 0 then ([], (binsS n a).2) else if bin < 0 ∨ (binsS n a).1 ≤ bin then ([], 1) else (lineL a.1 a.2 (startS n a) bin n.toNat (n.toNat * n.toNat), 0)

theorem owns_below {w w' : World} {base : Nat} {e : TypeId} {size : Nat} {v : Value} {n : Nat} {xs : List Value} (h : w.ownsRow base e size v n xs) (hb : Below w.heap.size w w') : w'.ownsRow base e size v n xs := by
  have hg : w.grownBy w' none := ⟨hb.os, hb.tape, hb.output, hb.size, fun k hk _ => hb.block k hk⟩
  by_cases c : v.ownBlock = none
  · exact h.kept hg (Or.inl c)
  · exact h.kept hg (Or.inr c)

theorem infoCell : (Try.prog.info? 76).map (fun i => (i.zero, i.size, i.bytes)) = some (some (.agg #[.int .i64 0, .int .i64 0]), 2, 16) := by kernel_rfl
theorem info_parts {e : TypeId} {z : Value} {s b : Nat} (h : (Try.prog.info? e).map (fun i => (i.zero, i.size, i.bytes)) = some (some z, s, b)) : ∃ i, Try.prog.info? e = some i ∧ i.zero = some z ∧ i.size = s ∧ i.bytes = b := by
  cases hq : Try.prog.info? e with
  | none => rw [hq] at h; cases h
  | some i =>
    rw [hq] at h
    simp at h
    exact ⟨i, rfl, h.1, h.2.1, h.2.2⟩
theorem news_two (w : World) (x y : Value) (t : TypeId) : ∀ j u, [x, y][j]? = some u → (w.alloc (.cells #[x, y] t)).cell? ((⟨w.heap.size, 0, none⟩ : Addr).add j) = some u := by
  intro j u hj
  rw [addr_add]
  match j, hj with
  | 0, hj => simp at hj; subst hj; simp [go_sem]
  | 1, hj => simp at hj; subst hj; simp [go_sem]

set_option maxHeartbeats 6400000 in
theorem lineAny {n bin : Int} {a : Int × Int} (ha : Dir64 a) (w : World) :
    Calls Try.prog 31 #[.int .i64 n, dirV a, .int .i64 bin] w fun e w' =>
      ∃ v, e = .returned (.tuple #[v, .int .i64 (lineS n a bin).2]) ∧ w'.ownsRow w.heap.size 76 2 v (lineS n a bin).1.length (flat2 (lineS n a bin).1) ∧ Below w.heap.size w w' := by
  have k := hide (fun w => binsAny (n := n) ha w)
  by_cases c1 : (binsS n a).2 = 0
  · obtain ⟨r1, r2, r3⟩ := binsS_ok c1
    by_cases c2 : bin < 0 ∨ (binsS n a).1 ≤ bin
    · have hI : Hid (lineS n a bin = ([], 1)) := by
        show _ = _
        unfold lineS
        rw [if_neg (by omega), if_pos c2]
      rw [c1] at k
      generalize (binsS n a).1 = bn at k c2
      generalize lineS n a bin = r at hI ⊢
      obtain ⟨P, Q⟩ := a
      unfold dirV at *
      dsimp only at *
      have hd : ((bin < 0) = True) ∨ ((bin < 0) = False ∧ (bn ≤ bin) = True) := by
        by_cases d1 : bin < 0
        · exact Or.inl (by simp; omega)
        · exact Or.inr ⟨by simp; omega, by simp; omega⟩
      clear c1 c2 r3
      rcases hd with d1 | ⟨d1, d2⟩
      all_goals
        go_enter Try.func31, Try.ntmps31
        go_wp2_with fail
        refine (unhide k _).mono ?_
        rintro e w1 ⟨rfl, hb1⟩
        have hB : Hid (Below w.heap.size w w1) := ((Below.refl _ _).alloc (Nat.le_refl _) _).trans (hb1.mono (by simp))
        clear hb1
        go_wp2_with fail
        go_ret2
        rw [unhide hI]
        exact ⟨_, rfl, World.ownsRow_nil _ _ _ _, unhide hB⟩
    · have hI : Hid (lineS n a bin = (lineL a.1 a.2 (startS n a) bin n.toNat (n.toNat * n.toNat), 0)) := by
        show _ = _
        unfold lineS
        rw [if_neg (by omega), if_neg c2]
      rw [c1] at k
      generalize (binsS n a).1 = bn at k c2
      generalize lineS n a bin = r at hI ⊢
      obtain ⟨P, Q⟩ := a
      obtain ⟨N, rfl⟩ : ∃ N : Nat, n = N := ⟨n.toNat, by omega⟩
      rw [Int.toNat_natCast] at hI
      obtain ⟨b1, b2, b3⟩ := okD_bounds r3
      dsimp only at b1 b2 b3 hI
      have ks := hide (fun w => startAny (Q := Q) r1 r2 b1 w)
      obtain ⟨s1, s2⟩ := start_small (Q := Q) r1 r2 b1
      generalize startS (N : Int) (P, Q) = st at *
      have hyes := hide (fun (y x : Nat) (hx : x < N) h => lineL_yes (P := P) (Q := Q) (st := st) (bin := bin) (y := y) hx h)
      have hno := hide (fun (y x : Nat) (hx : x < N) h => lineL_no (P := P) (Q := Q) (st := st) (bin := bin) (y := y) hx h)
      have hln := hide (fun k => lineL_len P Q st bin N k)
      have hzr := hide (lineL_zero P Q st bin N)
      have hN : N ≤ 64 := by omega
      have hN1 : 1 ≤ N := by omega
      have d1 : (bin < 0) = False := by simp; omega
      have d2 : (bn ≤ bin) = False := by simp; omega
      have hP : Hid (P.natAbs ≤ 16) := b1
      obtain ⟨i0, hi0, hz0, hz1, hz2⟩ := info_parts infoCell
      generalize lineL P Q st bin N = LL at *
      unfold dirV at *
      dsimp only at *
      clear c1 c2 r3 b1 r1 r2
      go_enter Try.func31, Try.ntmps31
      go_wp2_with fail
      refine (unhide k _).mono ?_
      rintro e w1 ⟨rfl, hb1⟩
      have hB : Hid (Below w.heap.size w w1) := ((Below.refl _ _).alloc (Nat.le_refl _) _).trans (hb1.mono (by simp))
      have x1 : w1.cell? ⟨w.heap.size, 0, none⟩ = some (.int .i64 P) := by rw [hb1.cell (by simp)]; simp [go_sem]
      have x2 : w1.cell? ⟨w.heap.size, 1, none⟩ = some (.int .i64 Q) := by rw [hb1.cell (by simp)]; simp [go_sem]
      have hz : Hid (w.heap.size < w1.heap.size) := by
        have := hb1.size
        simp at this
        exact this
      have fct : Hid (∀ w8 : World, Below w1.heap.size w1 w8 → w8.cell? ⟨w.heap.size, 0, none⟩ = some (.int .i64 P) ∧ w8.cell? ⟨w.heap.size, 1, none⟩ = some (.int .i64 Q)) :=
        fun w8 h => ⟨(h.cell (p := ⟨w.heap.size, 0, none⟩) (unhide hz)).trans x1, (h.cell (p := ⟨w.heap.size, 1, none⟩) (unhide hz)).trans x2⟩
      clear hb1 k x1 x2
      go_wp2_with fail
      go_loopw [10, 11] (fun lv yv wr => ∃ y : Nat, y ≤ N ∧ yv = .int .i64 y ∧ Hid (wr.ownsRow w1.heap.size 76 2 lv (LL (y * N)).length (flat2 (LL (y * N)))) ∧ Hid (Below w1.heap.size w1 wr)) (fun _ yv _ => N - (intOf yv).toNat)
      case atStart =>
        refine ⟨0, Nat.zero_le _, rfl, ?_, Below.refl _ _⟩
        rw [Nat.zero_mul, unhide hzr]
        exact World.ownsRow_nil _ _ _ _
      case round =>
        obtain ⟨y, hy, rfl, hO, hBr⟩ := hrel
        by_cases hyN : y < N
        · have q1 : ((y : Int) < (N : Int)) = True := by simp; omega
          go_wp2_with fail
          go_loopw [10, 12] (fun lv xv wr => ∃ x : Nat, x ≤ N ∧ xv = .int .i64 x ∧ Hid (wr.ownsRow w1.heap.size 76 2 lv (LL (y * N + x)).length (flat2 (LL (y * N + x)))) ∧ Hid (Below w1.heap.size w1 wr)) (fun _ xv _ => N - (intOf xv).toNat)
          case atStart => exact ⟨0, Nat.zero_le _, rfl, hO, hBr⟩
          case round =>
            clear hO hBr
            obtain ⟨x, hx, rfl, hO, hBr⟩ := hrel
            by_cases hxN : x < N
            · have q2 : ((x : Int) < (N : Int)) = True := by simp; omega
              have m1 := cell_prod (x := (x : Int)) (n := (N : Int)) (Q := Q) (by omega) (by omega) (by omega) (by omega)
              have m2 := cell_prod (x := (y : Int)) (n := (N : Int)) (Q := P) (by omega) (by omega) (by omega) (unhide hP)
              have n1 : IntKind.i64.wrap (Q * (x : Int)) = Q * (x : Int) := by rw [IntKind.wrap_i64]; omega
              have n2 : IntKind.i64.wrap (P * (y : Int)) = P * (y : Int) := by rw [IntKind.wrap_i64]; omega
              have n3 : IntKind.i64.wrap (Q * (x : Int) - P * (y : Int)) = Q * (x : Int) - P * (y : Int) := by rw [IntKind.wrap_i64]; omega
              have n4 : IntKind.i64.wrap (Q * (x : Int) - P * (y : Int) + st) = Q * (x : Int) - P * (y : Int) + st := by rw [IntKind.wrap_i64]; omega
              have hY := hide (unhide hyes y x hxN)
              have hNo := hide (unhide hno y x hxN)
              obtain ⟨x1, x2⟩ := unhide fct _ (unhide hBr)
              have fct2 : Hid (∀ w8 : World, Below wr.heap.size wr w8 → w8.cell? ⟨w.heap.size, 0, none⟩ = some (.int .i64 P) ∧ w8.cell? ⟨w.heap.size, 1, none⟩ = some (.int .i64 Q)) := fun w8 h => unhide fct _ ((unhide hBr).trans (h.mono (unhide hBr).size))
              generalize hX : Q * (x : Int) = X at *
              generalize hYY : P * (y : Int) = Y at *
              have hlen := unhide hln (y * N + x)
              have hyx : y * N + x ≤ 4160 := by
                have := Nat.mul_le_mul (show y ≤ 64 by omega) hN
                omega
              by_cases c3 : X - Y + st = bin
              · have q3 : (X - Y + st == bin) = true := by simp; omega
                have hL := hide (unhide hY c3)
                clear m1 m2 hY hNo hyes hno c3
                go_wp2_with fail
                go_region_held3 (fun w8 => w8.cell? ⟨w.heap.size, 0, none⟩ = some (.int .i64 P) ∧ w8.cell? ⟨w.heap.size, 1, none⟩ = some (.int .i64 Q))
                  (first | exact unhide fct2 _ (unhide hv1) | go_keep)
                  (first
                  | (go_at_call 52; with_reducible refine (unhide ks _).mono ?_; rintro e v1 ⟨rfl, hx1⟩
                     have hv1 : Hid (Below wr.heap.size wr v1) := ⟨hx1.os, hx1.tape, hx1.output, hx1.size, hx1.block⟩
                     clear hx1))
                have hown := hide (owns_below (unhide hO) (unhide hv1))
                have hB2 : Hid (Below w1.heap.size w1 v1) := (unhide hBr).trans ((unhide hv1).mono (unhide hBr).size)
                have hbs : w1.heap.size ≤ v1.heap.size := (unhide hB2).size
                clear hv1 hO hBr fct2 x1 x2
                go_wp2_with (first
                  | (at_builtin; refine wpList_append_own _ rfl (.tmp 54) (.tmp 58) 72 rfl w1.heap.size 76 i0 (.agg #[.int .i64 0, .int .i64 0]) 2 16 Try.underlying72 hi0 hz0 hz1 hz2 rfl (by decide) _ _ _ rfl ((unhide hown).alloc _) ⟨v1.heap.size, 0, none⟩ 1 1 [.int .i64 x, .int .i64 y] rfl rfl (news_two _ _ _ _) ?c2 ?c3 ?c4 ?c5 ?_))
                case c2 => intro u hu; simp at hu; rcases hu with rfl | rfl <;> rfl
                case c3 => unfold maxLen; omega
                case c4 => omega
                case c5 => simp; omega
                intro v' w2 hown' hgrow _
                have hB3 : Hid (Below w1.heap.size w1 w2) := ((unhide hB2).alloc hbs _).grown hgrow (by simp; omega) (fun k hk => ((unhide hown).lt k hk).1)
                have hO2 : Hid (w2.ownsRow w1.heap.size 76 2 v' (LL (y * N + (x + 1))).length (flat2 (LL (y * N + (x + 1))))) := by
                  rw [unhide hL, flat2_snoc, List.length_append]
                  exact hown'
                clear hown' hgrow hB2 hown
                go_wp2_with fail
                exact ⟨⟨x + 1, hxN, by go_num, hO2, hB3⟩, by simp [intOf]; omega⟩
              · have q3 : (X - Y + st == bin) = false := by simp; omega
                have hL := hide (unhide hNo c3)
                clear m1 m2 hY hNo hyes hno c3
                go_wp2_with fail
                go_region_held3 (fun w8 => w8.cell? ⟨w.heap.size, 0, none⟩ = some (.int .i64 P) ∧ w8.cell? ⟨w.heap.size, 1, none⟩ = some (.int .i64 Q))
                  (first | exact unhide fct2 _ (unhide hv1) | go_keep)
                  (first
                  | (go_at_call 52; with_reducible refine (unhide ks _).mono ?_; rintro e v1 ⟨rfl, hx1⟩
                     have hv1 : Hid (Below wr.heap.size wr v1) := ⟨hx1.os, hx1.tape, hx1.output, hx1.size, hx1.block⟩
                     clear hx1))
                have hO2 : Hid (v1.ownsRow w1.heap.size 76 2 u10 (LL (y * N + (x + 1))).length (flat2 (LL (y * N + (x + 1))))) := by
                  rw [unhide hL]
                  exact owns_below (unhide hO) (unhide hv1)
                have hB2 : Hid (Below w1.heap.size w1 v1) := (unhide hBr).trans ((unhide hv1).mono (unhide hBr).size)
                clear hv1 hO hBr fct2 x1 x2
                go_wp2_with fail
                exact ⟨⟨x + 1, hxN, by go_num, hO2, hB2⟩, by simp [intOf]; omega⟩
            · have q2 : ((x : Int) < (N : Int)) = False := by simp; omega
              have e : x = N := by omega
              rw [e, ← Nat.succ_mul] at hO
              clear hyes hno
              go_wp2_with fail
              exact ⟨⟨y + 1, hyN, by go_num, hO, hBr⟩, by simp [intOf]; omega⟩
        · have q1 : ((y : Int) < (N : Int)) = False := by simp; omega
          have e : y = N := by omega
          rw [e] at hO
          clear hyes hno
          go_wp2_with fail
          go_ret2
          rw [unhide hI]
          exact ⟨_, rfl, (unhide hO).mono (unhide hB).size, (unhide hB).trans ((unhide hBr).mono (unhide hB).size)⟩
  · have hI : Hid (lineS n a bin = ([], (binsS n a).2)) := by
      show _ = _
      unfold lineS
      rw [if_pos c1]
    generalize binsS n a = bb at *
    generalize lineS n a bin = r at hI ⊢
    obtain ⟨P, Q⟩ := a
    obtain ⟨bn, be⟩ := bb
    unfold dirV at *
    dsimp only at *
    have q1 : (be != 0) = true := by simp; exact c1
    clear c1
    go_enter Try.func31, Try.ntmps31
    go_wp2_with fail
    refine (unhide k _).mono ?_
    rintro e w1 ⟨rfl, hb1⟩
    have hB : Hid (Below w.heap.size w w1) := ((Below.refl _ _).alloc (Nat.le_refl _) _).trans (hb1.mono (by simp))
    clear hb1
    go_wp2_with fail
    go_ret2
    rw [unhide hI]
    exact ⟨_, rfl, World.ownsRow_nil _ _ _ _, unhide hB⟩
end Go.Proofs.Ythdoophjcjlklaa
