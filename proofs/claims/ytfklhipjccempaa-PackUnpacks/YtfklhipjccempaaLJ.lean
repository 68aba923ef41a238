/- What stands at each place of a field's bytes, and how it is read again. -/
import Derived.Test.YtfklhipjccempaaM2
import Derived.Test.YtfklhipjccempaaGU
namespace Go.Proofs.Ytfklhipjccempaa
open Go.RowKit Fl Ieee

theorem cells_len0 (f : Nat → Nat × Nat) : ∀ m, (cellsL 0 f m).length = 16 * m
  | 0 => rfl
  | m + 1 => by
    rw [cellsL, List.length_append, cells_len0 f m]
    unfold cellL
    rw [if_pos rfl, List.length_append, highL_len, highL_len]
    omega
theorem cells_len1 (f : Nat → Nat × Nat) : ∀ m, (cellsL 1 f m).length = 8 * m
  | 0 => rfl
  | m + 1 => by
    rw [cellsL, List.length_append, cells_len1 f m]
    unfold cellL
    rw [if_neg (by decide), if_pos rfl, List.length_append, highL_len, highL_len]
    omega
theorem cells_split (way : Nat) (f : Nat → Nat × Nat) (i : Nat) : ∀ m, i < m → ∃ T, cellsL way f m = cellsL way f i ++ (cellL way (aheadC f i) (f i) ++ T)
  | 0, h => absurd h (Nat.not_lt_zero i)
  | m + 1, h => by
    by_cases c : i = m
    · subst c
      exact ⟨[], by rw [cellsL, List.append_nil]⟩
    · obtain ⟨T, e⟩ := cells_split way f i m (by omega)
      exact ⟨T ++ cellL way (aheadC f m) (f m), by rw [cellsL, e]; simp only [List.append_assoc]⟩

theorem fold_back (d : Int) : unfoldZ (foldZ d) = d := by
  unfold unfoldZ foldZ
  by_cases c : 0 ≤ d
  · rw [if_pos c, if_neg (by omega)]
    omega
  · rw [if_neg c, if_pos (by omega)]
    omega

/-- A field whose steps these bytes are. -/
structure StepsOf (K : List Nat) (M : Nat) (f : Nat → Nat × Nat) : Prop where
  can : Can 2 M f
  bits : ∀ j, j < M → (f j).1 < 18446744073709551616 ∧ (f j).2 < 18446744073709551616
  eq : K = cellsL 2 f M
theorem can_two {m : Nat} {f : Nat → Nat × Nat} (h : Can 2 m f) {i : Nat} (hi : i < m) : Wh 2147483648 (f i).1 ∧ Wh 2147483648 (f i).2 := by
  rcases h i hi with h | ⟨h, _⟩ | ⟨_, h⟩
  · exact absurd h (by decide)
  · exact absurd h (by decide)
  · exact h
theorem ahead_le {m : Nat} {f : Nat → Nat × Nat} (h : Can 2 m f) {i : Nat} (hi : i ≤ m) : (valZ (aheadC f i).1).natAbs ≤ 2147483648 ∧ (valZ (aheadC f i).2).natAbs ≤ 2147483648 := by
  unfold aheadC
  by_cases c : i = 0
  · rw [if_pos c, val_zero]; decide
  · rw [if_neg c]
    exact ⟨(wh_val (can_two h (i := i - 1) (by omega)).1).1, (wh_val (can_two h (i := i - 1) (by omega)).2).1⟩
theorem val_le {m : Nat} {f : Nat → Nat × Nat} (h : Can 2 m f) {i : Nat} (hi : i < m) : (valZ (f i).1).natAbs ≤ 2147483648 ∧ (valZ (f i).2).natAbs ≤ 2147483648 := ⟨(wh_val (can_two h hi).1).1, (wh_val (can_two h hi).2).1⟩
theorem fold_lt35 {d : Int} (h : d.natAbs ≤ 4294967296) : foldZ d < 34359738368 := by
  unfold foldZ
  split <;> omega
/-- A whole number's bits are those that its value makes. -/
theorem wh_bits {b : Nat} (hb : b < 18446744073709551616) (h : Wh 2147483648 b) : floatOfInt .f64 (valZ b) = b := by
  obtain ⟨n, hn, h0, hle⟩ := h
  rw [valZ_iv hn]
  exact (iv_bits hb hn h0 (by rw [p53]; omega)).symm
theorem steps_at {K : List Nat} {M : Nat} {f : Nat → Nat × Nat} (h : StepsOf K M f) {i : Nat} (hi : i < M) : ∃ T, K.drop (cellsL 2 f i).length = lowL (foldZ (valZ (f i).1 - valZ (aheadC f i).1)) ++ (lowL (foldZ (valZ (f i).2 - valZ (aheadC f i).2)) ++ T) ∧ K.drop (cellsL 2 f (i + 1)).length = T := by
  obtain ⟨T, e⟩ := cells_split 2 f i M hi
  have e2 : cellL 2 (aheadC f i) (f i) = lowL (foldZ (valZ (f i).1 - valZ (aheadC f i).1)) ++ lowL (foldZ (valZ (f i).2 - valZ (aheadC f i).2)) := by
    unfold cellL
    rw [if_neg (by decide), if_neg (by decide)]
  refine ⟨T, ?_, ?_⟩
  · rw [h.eq, e, List.drop_left, e2, List.append_assoc]
  · rw [h.eq, e, ← List.append_assoc]
    have : cellsL 2 f (i + 1) = cellsL 2 f i ++ cellL 2 (aheadC f i) (f i) := rfl
    rw [this, List.drop_left]

/-- Groups at a place where a number's groups stand are that number (the document's reading). -/
theorem grpF_low (L : List Nat) : ∀ (u k v i f y : Nat) (T : List Nat), L.drop i = lowF f y ++ T → y < 2 ^ f → y < 2 ^ (7 * u) → 1 ≤ u → grpF L u k v i = (v + y * 2 ^ (7 * k), i + (lowF f y).length)
  | 0, _, _, _, _, _, _, _, _, _, hu => by omega
  | u + 1, k, v, i, f, y, T, hd, hf, hy, _ => by
    have hl : i < L.length := by
      by_cases c : i < L.length
      · exact c
      · rw [List.drop_eq_nil_of_le (by omega)] at hd
        have : (lowF f y ++ T).length = 0 := by rw [← hd]; rfl
        rw [List.length_append] at this
        have : 1 ≤ (lowF f y).length := by
          match f with
          | 0 => unfold lowF; simp
          | f + 1 => unfold lowF; split <;> simp
        omega
    have hg : L.getD i 0 = (lowF f y ++ T).getD 0 0 := by
      rw [← hd, List.getD_eq_getElem?_getD, List.getD_eq_getElem?_getD, List.getElem?_drop, Nat.add_zero]
    unfold grpF
    rw [if_pos hl]
    by_cases c : y < 128
    · rw [lowF_end c] at hg ⊢
      have e : L.getD i 0 = y := hg
      rw [e, if_pos c, Nat.mod_eq_of_lt c]
      rfl
    · match f, hf, hd, hg with
      | 0, hf, _, _ =>
        have : (2 : Nat) ^ 0 = 1 := rfl
        omega
      | f + 1, hf, hd, hg =>
        rw [lowF_step c] at hd hg ⊢
        have e : L.getD i 0 = y % 128 + 128 := hg
        have hd2 : L.drop (i + 1) = lowF f (y / 128) ++ T := by
          have := congrArg (List.drop 1) hd
          rw [List.drop_drop] at this
          exact this
        have hy2 : y / 128 < 2 ^ (7 * u) := by
          rw [show 7 * (u + 1) = 7 * u + 7 by omega, Nat.pow_add] at hy
          have e7 : (2 : Nat) ^ 7 = 128 := by decide
          rw [e7] at hy
          exact Nat.div_lt_of_lt_mul (by rw [Nat.mul_comm]; exact hy)
        have hu : 1 ≤ u := by
          by_cases cu : u = 0
          · subst cu
            have : (2 : Nat) ^ (7 * 0) = 1 := rfl
            omega
          · omega
        have hf2 : y / 128 < 2 ^ f := by
          rw [Nat.pow_succ] at hf
          omega
        rw [e, if_neg (by omega), show (y % 128 + 128) % 128 = y % 128 by omega, grpF_low L u (k + 1) _ (i + 1) f (y / 128) T hd2 hf2 hy2 hu]
        refine Prod.ext ?_ ?_
        · show v + y % 128 * 2 ^ (7 * k) + y / 128 * 2 ^ (7 * (k + 1)) = v + y * 2 ^ (7 * k)
          rw [show 7 * (k + 1) = 7 * k + 7 by omega, Nat.pow_add]
          have e7 : (2 : Nat) ^ 7 = 128 := by decide
          rw [e7]
          have : y = y % 128 + y / 128 * 128 := by omega
          conv => rhs; rw [this, Nat.add_mul]
          rw [Nat.mul_comm (2 ^ (7 * k)) 128, ← Nat.mul_assoc]
          omega
        · show i + 1 + (lowF f (y / 128)).length = i + (lowF f (y / 128)).length.succ
          omega
theorem grp_low {L : List Nat} {i x : Nat} {T : List Nat} (hd : L.drop i = lowL x ++ T) (hx : x < 34359738368) : grp L i = (x, i + (lowL x).length) := by
  have := grpF_low L 6 0 0 i 64 x T hd (Nat.lt_of_lt_of_le hx (by decide)) (Nat.lt_of_lt_of_le hx (by decide)) (by decide)
  unfold grp lowL
  rw [this]
  simp

/-- Where a field's own bytes by steps are read, its cells are read. -/
theorem ref_steps {n M : Nat} {f : Nat → Nat × Nat} {L : List Nat} (hC : Can 2 M f) (he : byL 2 n M f = L) : ∀ i, i ≤ M → stU L 2 i = (2 + (cellsL 2 f i).length, valZ (aheadC f i).1, valZ (aheadC f i).2)
  | 0, _ => by
    show (2, (0 : Int), (0 : Int)) = (2 + 0, valZ 0, valZ 0)
    rw [val_zero]
  | i + 1, hi => by
    have ih := ref_steps hC he i (by omega)
    have a1 := ahead_le hC (i := i) (by omega)
    have v1 := val_le hC (i := i) (by omega)
    have hK : L.drop 2 = cellsL 2 f M := by rw [← he]; rfl
    obtain ⟨T, e⟩ := cells_split 2 f i M (by omega)
    have e2 : cellL 2 (aheadC f i) (f i) = lowL (foldZ (valZ (f i).1 - valZ (aheadC f i).1)) ++ lowL (foldZ (valZ (f i).2 - valZ (aheadC f i).2)) := by
      unfold cellL
      rw [if_neg (by decide), if_neg (by decide)]
    have d1 : L.drop (2 + (cellsL 2 f i).length) = lowL (foldZ (valZ (f i).1 - valZ (aheadC f i).1)) ++ (lowL (foldZ (valZ (f i).2 - valZ (aheadC f i).2)) ++ T) := by
      rw [← List.drop_drop, hK, e, List.drop_left, e2, List.append_assoc]
    have g1 := grp_low d1 (fold_lt35 (by omega))
    have d2 : L.drop (2 + (cellsL 2 f i).length + (lowL (foldZ (valZ (f i).1 - valZ (aheadC f i).1))).length) = lowL (foldZ (valZ (f i).2 - valZ (aheadC f i).2)) ++ T := by
      rw [← List.drop_drop, d1, List.drop_left]
    have g2 := grp_low d2 (fold_lt35 (by omega))
    have e3 : (cellsL 2 f (i + 1)).length = (cellsL 2 f i).length + (lowL (foldZ (valZ (f i).1 - valZ (aheadC f i).1))).length + (lowL (foldZ (valZ (f i).2 - valZ (aheadC f i).2))).length := by
      rw [cellsL, List.length_append, e2, List.length_append, Nat.add_assoc]
    rw [stU, if_neg (by decide), if_neg (by decide), ih, ahead_next]
    dsimp only
    rw [g1]
    dsimp only
    rw [g2]
    dsimp only
    rw [fold_back, fold_back, e3]
    refine Prod.ext ?_ (Prod.ext ?_ ?_)
    · dsimp only; omega
    · dsimp only; omega
    · dsimp only; omega
theorem cell_steps {n M : Nat} {f : Nat → Nat × Nat} {L : List Nat} (hC : Can 2 M f) (hb : ∀ j, j < M → (f j).1 < 18446744073709551616 ∧ (f j).2 < 18446744073709551616) (he : byL 2 n M f = L) {j : Nat} (hj : j < M) : CellIs L 2 j (f j) := by
  refine .inr (.inr ⟨rfl, ?_⟩)
  rw [ref_steps hC he (j + 1) (by omega), ahead_next]
  have h := can_two hC hj
  rw [wh_bits (hb j hj).1 h.1, wh_bits (hb j hj).2 h.2]

/-- Right bytes by steps. -/
theorem good_steps {L : List Nat} {f : Nat → Nat × Nat} (h : Good L f) (hz : L.getD 0 0 = 2) : StepsOf (L.drop 2) (side L * side L) f := by
  obtain ⟨_, hc, a, hs, he⟩ := h
  have ha := head_byL he
  obtain rfl : a = 2 := by omega
  refine ⟨(sh_can hs).1, fun j hj => ?_, by rw [← he]; rfl⟩
  rcases hc j hj with ⟨h, _⟩ | ⟨h, _⟩ | ⟨_, h⟩
  · omega
  · omega
  · rw [h]
    exact ⟨Nat.lt_of_lt_of_le (double.write_lt (.number _ _ 0)) (by decide), Nat.lt_of_lt_of_le (double.write_lt (.number _ _ 0)) (by decide)⟩
/-- Right bytes by words: how many. -/
theorem good_len0 {L : List Nat} {f : Nat → Nat × Nat} (h : Good L f) (hz : L.getD 0 0 = 0) : (L.drop 2).length = 16 * (side L * side L) := by
  obtain ⟨_, hc, a, hs, he⟩ := h
  have ha := head_byL he
  obtain rfl : a = 0 := by omega
  have : L.drop 2 = cellsL 0 f (side L * side L) := by
    conv => lhs; rw [← he]
    rfl
  rw [this, cells_len0]
theorem good_len1 {L : List Nat} {f : Nat → Nat × Nat} (h : Good L f) (hz : L.getD 0 0 = 1) : (L.drop 2).length = 8 * (side L * side L) := by
  obtain ⟨_, hc, a, hs, he⟩ := h
  have ha := head_byL he
  obtain rfl : a = 1 := by omega
  have : L.drop 2 = cellsL 1 f (side L * side L) := by
    conv => lhs; rw [← he]
    rfl
  rw [this, cells_len1]
theorem stU0 (L : List Nat) : ∀ i, (stU L 0 i).1 = 2 + 16 * i
  | 0 => rfl
  | i + 1 => by
    rw [stU, if_pos rfl]
    dsimp only
    rw [stU0 L i]
    omega
theorem stU1 (L : List Nat) : ∀ i, (stU L 1 i).1 = 2 + 8 * i
  | 0 => rfl
  | i + 1 => by
    rw [stU, if_neg (by decide), if_pos rfl]
    dsimp only
    rw [stU1 L i]
    omega
theorem numB_drop (L : List Nat) (p i : Nat) : ∀ n, numB (L.drop p) i n = numB L (p + i) n
  | 0 => rfl
  | n + 1 => by
    rw [numB, numB, numB_drop L p i n, List.getD_eq_getElem?_getD, List.getD_eq_getElem?_getD, List.getElem?_drop, Nat.add_assoc]
end Go.Proofs.Ytfklhipjccempaa
