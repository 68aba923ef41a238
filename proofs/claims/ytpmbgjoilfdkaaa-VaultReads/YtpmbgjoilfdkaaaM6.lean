/- A number that isn't nought has one pattern of bits. What stands at each place of a field's bytes, and how it is read again. The program's numbers in groups of seven bits, read. The program's parts, read from words. The program's steps, read. The program's cells, read in whichever way. -/
import Derived.Test.YtpmbgjoilfdkaaaM2
import Derived.Test.YtpmbgjoilfdkaaaM5
import Derived.Test.YtpmbgjoilfdkaaaLH
import Derived.Test.YtpmbgjoilfdkaaaKV2
import Derived.Test.YtpmbgjoilfdkaaaYQ
namespace Go.Proofs.Ytpmbgjoilfdkaaa
open Fl Ieee

theorem canon_le {m k m' j : Nat} (h : m * 2 ^ k = m' * 2 ^ (k + j)) (hm : m < 9007199254740992) (c' : k + j = 0 ∨ 4503599627370496 ≤ m') : m = m' ∧ j = 0 := by
  have hp : 0 < 2 ^ k := Nat.two_pow_pos k
  rw [Nat.pow_add, Nat.mul_comm (2 ^ k), ← Nat.mul_assoc] at h
  have e : m = m' * 2 ^ j := Nat.eq_of_mul_eq_mul_right hp h
  cases j with
  | zero => exact ⟨by simpa using e, rfl⟩
  | succ j =>
    exfalso
    have h1 : 4503599627370496 ≤ m' := by omega
    have h2 : 2 ≤ 2 ^ (j + 1) := by
      have := Nat.one_le_two_pow (n := j)
      rw [Nat.pow_succ]
      omega
    have h3 := Nat.mul_le_mul h1 h2
    omega

theorem canon {m k m' k' : Nat} (h : m * 2 ^ k = m' * 2 ^ k') (hm : m < 9007199254740992) (hm' : m' < 9007199254740992) (c : k = 0 ∨ 4503599627370496 ≤ m) (c' : k' = 0 ∨ 4503599627370496 ≤ m') : m = m' ∧ k = k' := by
  rcases Nat.le_total k k' with hk | hk
  · obtain ⟨j, rfl⟩ := Nat.exists_eq_add_of_le hk
    obtain ⟨e, rfl⟩ := canon_le h hm c'
    exact ⟨e, rfl⟩
  · obtain ⟨j, rfl⟩ := Nat.exists_eq_add_of_le hk
    obtain ⟨e, rfl⟩ := canon_le h.symm hm' c
    exact ⟨e.symm, rfl⟩

/-- How a finite word of 64 bits reads. -/
theorem word_form {a : Nat} (ha : a < 18446744073709551616) {s : Bool} {m k : Nat} (h : double.read a = .number s m (-1074 + (k : Int))) :
    ∃ r, r < 9223372036854775808 ∧ a = (if s then 9223372036854775808 else 0) + r ∧ m < 9007199254740992 ∧ (k = 0 ∨ 4503599627370496 ≤ m) ∧ ((r < 4503599627370496 ∧ m = r ∧ k = 0) ∨ (4503599627370496 ≤ m ∧ r + 4503599627370496 = (k + 1) * 4503599627370496 + m)) := by
  obtain ⟨t, r, hr, e⟩ : ∃ (t : Bool) (r : Nat), r < 9223372036854775808 ∧ a = double.word t r := by
    by_cases c : a < 9223372036854775808
    · exact ⟨false, a, c, by unfold Format.word; rw [if_neg (by decide)]⟩
    · refine ⟨true, a - 9223372036854775808, by omega, ?_⟩
      unfold Format.word
      rw [if_pos rfl, sw]
      omega
  have hw : a = (if t then 9223372036854775808 else 0) + r := by
    rw [e]
    unfold Format.word
    cases t
    · rw [if_neg (by decide)]; simp
    · rw [if_pos rfl, sw, if_pos rfl]
  rw [e, read_word t r hr] at h
  by_cases c1 : r < 4503599627370496
  · rw [if_pos c1] at h
    injection h with h1 h2 h3
    subst h1
    exact ⟨r, hr, hw, by omega, by omega, Or.inl ⟨c1, h2.symm, by omega⟩⟩
  · rw [if_neg c1] at h
    by_cases c2 : r < 9218868437227405312
    · rw [if_pos c2] at h
      injection h with h1 h2 h3
      subst h1
      exact ⟨r, hr, hw, by omega, by omega, Or.inr ⟨by omega, by omega⟩⟩
    · rw [if_neg c2] at h
      split at h <;> cases h

theorem fv_inj {a b : Nat} {v : Int} (ha : a < 18446744073709551616) (hb : b < 18446744073709551616) (h1 : FV a v) (h2 : FV b v) (hv : v ≠ 0) : a = b := by
  obtain ⟨s, m, k, e1, f1⟩ := h1
  obtain ⟨t, n, j, e2, f2⟩ := h2
  obtain ⟨r, hr, wa, ma, ca, da⟩ := word_form ha e1
  obtain ⟨q, hq, wb, mb, cb, db⟩ := word_form hb e2
  have hN : m * 2 ^ k = n * 2 ^ j := by
    rw [← signed_natAbs s m k, ← signed_natAbs t n j, f1, f2]
  obtain ⟨rfl, rfl⟩ := canon hN ma mb ca cb
  have hst : s = t := by
    rw [signed_eq] at f1 f2
    generalize m * 2 ^ k = u at f1 f2
    cases s <;> cases t <;> simp at f1 f2 <;> first | rfl | (exfalso; omega)
  subst hst
  have : r = q := by omega
  rw [wa, wb, this]

/-- Such a number's bits are those that the conversion makes. -/
theorem iv_bits {b : Nat} {n : Int} (hb : b < 18446744073709551616) (h : IV b n) (h0 : n = 0 → b = 0) (hn : n.natAbs < 2 ^ 53) : b = floatOfInt .f64 n := by
  by_cases c : n = 0
  · rw [h0 c, c]
    rfl
  · obtain ⟨q, hq, f⟩ := h
    obtain ⟨q', hq', f'⟩ := iv_ofInt n hn
    subst hq'
    rw [← hq] at f'
    have hp : (2 : Int) ^ q ≠ 0 := Int.ne_of_gt (Int.pow_pos (by decide))
    refine fv_inj hb ?_ f f' (Int.mul_ne_zero c hp)
    show double.nearest _ _ _ < _
    exact double.nearest_lt _ _ _
end Go.Proofs.Ytpmbgjoilfdkaaa

namespace Go.Proofs.Ytpmbgjoilfdkaaa
open Go.RowKit Fl Ieee

theorem cells_len0 (f : Nat → Nat × Nat) : ∀ m, (cellsL 0 f m).length = 16 * m
  | 0 => rfl
  | m + 1 => by
    rw [cellsL, List.length_append, cells_len0 f m]
    unfold cellL
    rw [if_pos rfl, List.length_append, highL_len, highL_len]
    omega
theorem cells_len1 (f : Nat → Nat × Nat) : ∀ m, (cellsL 1 f m).length = 8 * m
  | 0 => rfl
  | m + 1 => by
    rw [cellsL, List.length_append, cells_len1 f m]
    unfold cellL
    rw [if_neg (by decide), if_pos rfl, List.length_append, highL_len, highL_len]
    omega
theorem cells_split (way : Nat) (f : Nat → Nat × Nat) (i : Nat) : ∀ m, i < m → ∃ T, cellsL way f m = cellsL way f i ++ (cellL way (aheadC f i) (f i) ++ T)
  | 0, h => absurd h (Nat.not_lt_zero i)
  | m + 1, h => by
    by_cases c : i = m
    · subst c
      exact ⟨[], by rw [cellsL, List.append_nil]⟩
    · obtain ⟨T, e⟩ := cells_split way f i m (by omega)
      exact ⟨T ++ cellL way (aheadC f m) (f m), by rw [cellsL, e]; simp only [List.append_assoc]⟩

theorem fold_back (d : Int) : unfoldZ (foldZ d) = d := by
  unfold unfoldZ foldZ
  by_cases c : 0 ≤ d
  · rw [if_pos c, if_neg (by omega)]
    omega
  · rw [if_neg c, if_pos (by omega)]
    omega

/-- A field whose steps these bytes are. -/
structure StepsOf (K : List Nat) (M : Nat) (f : Nat → Nat × Nat) : Prop where
  can : Can 2 M f
  bits : ∀ j, j < M → (f j).1 < 18446744073709551616 ∧ (f j).2 < 18446744073709551616
  eq : K = cellsL 2 f M
theorem can_two {m : Nat} {f : Nat → Nat × Nat} (h : Can 2 m f) {i : Nat} (hi : i < m) : Wh 2147483648 (f i).1 ∧ Wh 2147483648 (f i).2 := by
  rcases h i hi with h | ⟨h, _⟩ | ⟨_, h⟩
  · exact absurd h (by decide)
  · exact absurd h (by decide)
  · exact h
theorem ahead_le {m : Nat} {f : Nat → Nat × Nat} (h : Can 2 m f) {i : Nat} (hi : i ≤ m) : (valZ (aheadC f i).1).natAbs ≤ 2147483648 ∧ (valZ (aheadC f i).2).natAbs ≤ 2147483648 := by
  unfold aheadC
  by_cases c : i = 0
  · rw [if_pos c, val_zero]; decide
  · rw [if_neg c]
    exact ⟨(wh_val (can_two h (i := i - 1) (by omega)).1).1, (wh_val (can_two h (i := i - 1) (by omega)).2).1⟩
theorem val_le {m : Nat} {f : Nat → Nat × Nat} (h : Can 2 m f) {i : Nat} (hi : i < m) : (valZ (f i).1).natAbs ≤ 2147483648 ∧ (valZ (f i).2).natAbs ≤ 2147483648 := ⟨(wh_val (can_two h hi).1).1, (wh_val (can_two h hi).2).1⟩
theorem fold_lt35 {d : Int} (h : d.natAbs ≤ 4294967296) : foldZ d < 34359738368 := by
  unfold foldZ
  split <;> omega
/-- A whole number's bits are those that its value makes. -/
theorem wh_bits {b : Nat} (hb : b < 18446744073709551616) (h : Wh 2147483648 b) : floatOfInt .f64 (valZ b) = b := by
  obtain ⟨n, hn, h0, hle⟩ := h
  rw [valZ_iv hn]
  exact (iv_bits hb hn h0 (by rw [p53]; omega)).symm
theorem steps_at {K : List Nat} {M : Nat} {f : Nat → Nat × Nat} (h : StepsOf K M f) {i : Nat} (hi : i < M) : ∃ T, K.drop (cellsL 2 f i).length = lowL (foldZ (valZ (f i).1 - valZ (aheadC f i).1)) ++ (lowL (foldZ (valZ (f i).2 - valZ (aheadC f i).2)) ++ T) ∧ K.drop (cellsL 2 f (i + 1)).length = T := by
  obtain ⟨T, e⟩ := cells_split 2 f i M hi
  have e2 : cellL 2 (aheadC f i) (f i) = lowL (foldZ (valZ (f i).1 - valZ (aheadC f i).1)) ++ lowL (foldZ (valZ (f i).2 - valZ (aheadC f i).2)) := by
    unfold cellL
    rw [if_neg (by decide), if_neg (by decide)]
  refine ⟨T, ?_, ?_⟩
  · rw [h.eq, e, List.drop_left, e2, List.append_assoc]
  · rw [h.eq, e, ← List.append_assoc]
    have : cellsL 2 f (i + 1) = cellsL 2 f i ++ cellL 2 (aheadC f i) (f i) := rfl
    rw [this, List.drop_left]

/-- Groups at a place where a number's groups stand are that number (the document's reading). -/
theorem grpF_low (L : List Nat) : ∀ (u k v i f y : Nat) (T : List Nat), L.drop i = lowF f y ++ T → y < 2 ^ f → y < 2 ^ (7 * u) → 1 ≤ u → grpF L u k v i = (v + y * 2 ^ (7 * k), i + (lowF f y).length)
  | 0, _, _, _, _, _, _, _, _, _, hu => by omega
  | u + 1, k, v, i, f, y, T, hd, hf, hy, _ => by
    have hl : i < L.length := by
      by_cases c : i < L.length
      · exact c
      · rw [List.drop_eq_nil_of_le (by omega)] at hd
        have : (lowF f y ++ T).length = 0 := by rw [← hd]; rfl
        rw [List.length_append] at this
        have : 1 ≤ (lowF f y).length := by
          match f with
          | 0 => unfold lowF; simp
          | f + 1 => unfold lowF; split <;> simp
        omega
    have hg : L.getD i 0 = (lowF f y ++ T).getD 0 0 := by
      rw [← hd, List.getD_eq_getElem?_getD, List.getD_eq_getElem?_getD, List.getElem?_drop, Nat.add_zero]
    unfold grpF
    rw [if_pos hl]
    by_cases c : y < 128
    · rw [lowF_end c] at hg ⊢
      have e : L.getD i 0 = y := hg
      rw [e, if_pos c, Nat.mod_eq_of_lt c]
      rfl
    · match f, hf, hd, hg with
      | 0, hf, _, _ =>
        have : (2 : Nat) ^ 0 = 1 := rfl
        omega
      | f + 1, hf, hd, hg =>
        rw [lowF_step c] at hd hg ⊢
        have e : L.getD i 0 = y % 128 + 128 := hg
        have hd2 : L.drop (i + 1) = lowF f (y / 128) ++ T := by
          have := congrArg (List.drop 1) hd
          rw [List.drop_drop] at this
          exact this
        have hy2 : y / 128 < 2 ^ (7 * u) := by
          rw [show 7 * (u + 1) = 7 * u + 7 by omega, Nat.pow_add] at hy
          have e7 : (2 : Nat) ^ 7 = 128 := by decide
          rw [e7] at hy
          exact Nat.div_lt_of_lt_mul (by rw [Nat.mul_comm]; exact hy)
        have hu : 1 ≤ u := by
          by_cases cu : u = 0
          · subst cu
            have : (2 : Nat) ^ (7 * 0) = 1 := rfl
            omega
          · omega
        have hf2 : y / 128 < 2 ^ f := by
          rw [Nat.pow_succ] at hf
          omega
        rw [e, if_neg (by omega), show (y % 128 + 128) % 128 = y % 128 by omega, grpF_low L u (k + 1) _ (i + 1) f (y / 128) T hd2 hf2 hy2 hu]
        refine Prod.ext ?_ ?_
        · show v + y % 128 * 2 ^ (7 * k) + y / 128 * 2 ^ (7 * (k + 1)) = v + y * 2 ^ (7 * k)
          rw [show 7 * (k + 1) = 7 * k + 7 by omega, Nat.pow_add]
          have e7 : (2 : Nat) ^ 7 = 128 := by decide
          rw [e7]
          have : y = y % 128 + y / 128 * 128 := by omega
          conv => rhs; rw [this, Nat.add_mul]
          rw [Nat.mul_comm (2 ^ (7 * k)) 128, ← Nat.mul_assoc]
          omega
        · show i + 1 + (lowF f (y / 128)).length = i + (lowF f (y / 128)).length.succ
          omega
theorem grp_low {L : List Nat} {i x : Nat} {T : List Nat} (hd : L.drop i = lowL x ++ T) (hx : x < 34359738368) : grp L i = (x, i + (lowL x).length) := by
  have := grpF_low L 6 0 0 i 64 x T hd (Nat.lt_of_lt_of_le hx (by decide)) (Nat.lt_of_lt_of_le hx (by decide)) (by decide)
  unfold grp lowL
  rw [this]
  simp

/-- Where a field's own bytes by steps are read, its cells are read. -/
theorem ref_steps {n M : Nat} {f : Nat → Nat × Nat} {L : List Nat} (hC : Can 2 M f) (he : byL 2 n M f = L) : ∀ i, i ≤ M → stU L 2 i = (2 + (cellsL 2 f i).length, valZ (aheadC f i).1, valZ (aheadC f i).2)
  | 0, _ => by
    show (2, (0 : Int), (0 : Int)) = (2 + 0, valZ 0, valZ 0)
    rw [val_zero]
  | i + 1, hi => by
    have ih := ref_steps hC he i (by omega)
    have a1 := ahead_le hC (i := i) (by omega)
    have v1 := val_le hC (i := i) (by omega)
    have hK : L.drop 2 = cellsL 2 f M := by rw [← he]; rfl
    obtain ⟨T, e⟩ := cells_split 2 f i M (by omega)
    have e2 : cellL 2 (aheadC f i) (f i) = lowL (foldZ (valZ (f i).1 - valZ (aheadC f i).1)) ++ lowL (foldZ (valZ (f i).2 - valZ (aheadC f i).2)) := by
      unfold cellL
      rw [if_neg (by decide), if_neg (by decide)]
    have d1 : L.drop (2 + (cellsL 2 f i).length) = lowL (foldZ (valZ (f i).1 - valZ (aheadC f i).1)) ++ (lowL (foldZ (valZ (f i).2 - valZ (aheadC f i).2)) ++ T) := by
      rw [← List.drop_drop, hK, e, List.drop_left, e2, List.append_assoc]
    have g1 := grp_low d1 (fold_lt35 (by omega))
    have d2 : L.drop (2 + (cellsL 2 f i).length + (lowL (foldZ (valZ (f i).1 - valZ (aheadC f i).1))).length) = lowL (foldZ (valZ (f i).2 - valZ (aheadC f i).2)) ++ T := by
      rw [← List.drop_drop, d1, List.drop_left]
    have g2 := grp_low d2 (fold_lt35 (by omega))
    have e3 : (cellsL 2 f (i + 1)).length = (cellsL 2 f i).length + (lowL (foldZ (valZ (f i).1 - valZ (aheadC f i).1))).length + (lowL (foldZ (valZ (f i).2 - valZ (aheadC f i).2))).length := by
      rw [cellsL, List.length_append, e2, List.length_append, Nat.add_assoc]
    rw [stU, if_neg (by decide), if_neg (by decide), ih, ahead_next]
    dsimp only
    rw [g1]
    dsimp only
    rw [g2]
    dsimp only
    rw [fold_back, fold_back, e3]
    refine Prod.ext ?_ (Prod.ext ?_ ?_)
    · dsimp only; omega
    · dsimp only; omega
    · dsimp only; omega
theorem cell_steps {n M : Nat} {f : Nat → Nat × Nat} {L : List Nat} (hC : Can 2 M f) (hb : ∀ j, j < M → (f j).1 < 18446744073709551616 ∧ (f j).2 < 18446744073709551616) (he : byL 2 n M f = L) {j : Nat} (hj : j < M) : CellIs L 2 j (f j) := by
  refine .inr (.inr ⟨rfl, ?_⟩)
  rw [ref_steps hC he (j + 1) (by omega), ahead_next]
  have h := can_two hC hj
  rw [wh_bits (hb j hj).1 h.1, wh_bits (hb j hj).2 h.2]

/-- Right bytes by steps. -/
theorem good_steps {L : List Nat} {f : Nat → Nat × Nat} (h : Good L f) (hz : L.getD 0 0 = 2) : StepsOf (L.drop 2) (side L * side L) f := by
  obtain ⟨_, hc, a, hs, he⟩ := h
  have ha := head_byL he
  obtain rfl : a = 2 := by omega
  refine ⟨(sh_can hs).1, fun j hj => ?_, by rw [← he]; rfl⟩
  rcases hc j hj with ⟨h, _⟩ | ⟨h, _⟩ | ⟨_, h⟩
  · omega
  · omega
  · rw [h]
    exact ⟨Nat.lt_of_lt_of_le (double.write_lt (.number _ _ 0)) (by decide), Nat.lt_of_lt_of_le (double.write_lt (.number _ _ 0)) (by decide)⟩
/-- Right bytes by words: how many. -/
theorem good_len0 {L : List Nat} {f : Nat → Nat × Nat} (h : Good L f) (hz : L.getD 0 0 = 0) : (L.drop 2).length = 16 * (side L * side L) := by
  obtain ⟨_, hc, a, hs, he⟩ := h
  have ha := head_byL he
  obtain rfl : a = 0 := by omega
  have : L.drop 2 = cellsL 0 f (side L * side L) := by
    conv => lhs; rw [← he]
    rfl
  rw [this, cells_len0]
theorem good_len1 {L : List Nat} {f : Nat → Nat × Nat} (h : Good L f) (hz : L.getD 0 0 = 1) : (L.drop 2).length = 8 * (side L * side L) := by
  obtain ⟨_, hc, a, hs, he⟩ := h
  have ha := head_byL he
  obtain rfl : a = 1 := by omega
  have : L.drop 2 = cellsL 1 f (side L * side L) := by
    conv => lhs; rw [← he]
    rfl
  rw [this, cells_len1]
theorem stU0 (L : List Nat) : ∀ i, (stU L 0 i).1 = 2 + 16 * i
  | 0 => rfl
  | i + 1 => by
    rw [stU, if_pos rfl]
    dsimp only
    rw [stU0 L i]
    omega
theorem stU1 (L : List Nat) : ∀ i, (stU L 1 i).1 = 2 + 8 * i
  | 0 => rfl
  | i + 1 => by
    rw [stU, if_neg (by decide), if_pos rfl]
    dsimp only
    rw [stU1 L i]
    omega
theorem numB_drop (L : List Nat) (p i : Nat) : ∀ n, numB (L.drop p) i n = numB L (p + i) n
  | 0 => rfl
  | n + 1 => by
    rw [numB, numB, numB_drop L p i n, List.getD_eq_getElem?_getD, List.getD_eq_getElem?_getD, List.getElem?_drop, Nat.add_assoc]
end Go.Proofs.Ytpmbgjoilfdkaaa

namespace Go.Proofs.Ytpmbgjoilfdkaaa
open Go.RowKit Fl Ieee

set_option maxRecDepth 100000 in
set_option maxHeartbeats 800000 in
theorem progUnfolded {v : Nat} (hv : v < 18446744073709551616) (w : World) : Calls Try.prog 80 #[.int .u64 v] w fun r w' => r = .returned (.int .i64 (unfoldZ v)) ∧ w' = w := by
  obtain ⟨h, hh⟩ : ∃ h, h = v / 2 := ⟨_, rfl⟩
  have d1 : (v : Int).tdiv 2 = (h : Int) := by rw [Int.tdiv_eq_ediv_of_nonneg (by omega)]; omega
  have hl : h < 9223372036854775808 := by omega
  have n1 : IntKind.i64.wrap (h : Int) = (h : Int) := by rw [IntKind.wrap_i64]; omega
  by_cases par : v % 2 = 1
  · have m1 : (v : Int).tmod 2 = 1 := by rw [Int.tmod_eq_emod_of_nonneg (by omega)]; omega
    have eq : Hid (unfoldZ v = -(h : Int) - 1) := by
      show _ = _
      unfold unfoldZ
      rw [if_pos par, hh]
    have n2 : IntKind.i64.wrap (-(h : Int)) = -(h : Int) := by rw [IntKind.wrap_i64]; omega
    have n3 : IntKind.i64.wrap (-(h : Int) - 1) = -(h : Int) - 1 := by rw [IntKind.wrap_i64]; omega
    clear par hh
    go_enter Try.func80, Try.ntmps80
    go_wp2_with fail
    go_ret
    exact ⟨by rw [unhide eq]; rfl, rfl⟩
  · have m1 : (v : Int).tmod 2 = 0 := by rw [Int.tmod_eq_emod_of_nonneg (by omega)]; omega
    have eq : Hid (unfoldZ v = (h : Int)) := by
      show _ = _
      unfold unfoldZ
      rw [if_neg par, hh]
    clear par hh
    go_enter Try.func80, Try.ntmps80
    go_wp2_with fail
    go_ret
    exact ⟨by rw [unhide eq]; rfl, rfl⟩

/-- What k groups tell of the number whose groups open the bytes. -/
def GInv (K : List Nat) (k v : Nat) : Prop := ∀ x T, x < 34359738368 → K = lowL x ++ T → ∃ f y, x = v + y * 2 ^ (7 * k) ∧ v < 2 ^ (7 * k) ∧ K.drop k = lowF f y ++ T ∧ y < 2 ^ f
theorem ginv_start (K : List Nat) : GInv K 0 0 := fun x T hx hK => ⟨64, x, by simp, by simp, by rw [hK]; rfl, Nat.lt_of_lt_of_le hx (by decide)⟩
theorem low_ne (f y : Nat) : 1 ≤ (lowF f y).length := by
  match f with
  | 0 => unfold lowF; simp
  | f + 1 => unfold lowF; split <;> simp
theorem getD_drop0 (K : List Nat) (k : Nat) : K.getD k 0 = (K.drop k).getD 0 0 := by rw [List.getD_eq_getElem?_getD, List.getD_eq_getElem?_getD, List.getElem?_drop, Nat.add_zero]
/-- The number behind one group more. -/
def Joined (v r k u : Nat) : Prop := v < 2 ^ (7 * k) → r * 2 ^ (7 * k) < 18446744073709551616 → u = v + r * 2 ^ (7 * k)
theorem ginv_more {K : List Nat} {k v u : Nat} (h : GInv K k v) (hu : Joined v (K.getD k 0 % 128) k u) (hb : 128 ≤ K.getD k 0) : GInv K (k + 1) u := fun x T hx hK => by
  obtain ⟨f, y, e, hv, hd, hf⟩ := h x T hx hK
  have hg := getD_drop0 K k
  rw [hd] at hg
  by_cases c : y < 128
  · rw [lowF_end c] at hg
    have : K.getD k 0 = y := hg
    omega
  · match f, hf, hd, hg with
    | 0, hf, _, _ =>
      have : (2 : Nat) ^ 0 = 1 := rfl
      omega
    | f + 1, hf, hd, hg =>
      rw [lowF_step c] at hg hd
      have eb : K.getD k 0 = y % 128 + 128 := hg
      have er : K.getD k 0 % 128 = y % 128 := by omega
      rw [er] at hu
      have hyx : y * 2 ^ (7 * k) ≤ x := by omega
      have hle : y % 128 * 2 ^ (7 * k) ≤ y * 2 ^ (7 * k) := Nat.mul_le_mul_right _ (Nat.mod_le _ _)
      have eu := hu hv (by omega)
      have e7 : (2 : Nat) ^ 7 = 128 := by decide
      refine ⟨f, y / 128, ?_, ?_, ?_, ?_⟩
      · rw [show 7 * (k + 1) = 7 * k + 7 by omega, Nat.pow_add, e7, e, eu]
        have : y = y % 128 + y / 128 * 128 := by omega
        conv => lhs; rw [this, Nat.add_mul]
        rw [Nat.mul_comm (2 ^ (7 * k)) 128, ← Nat.mul_assoc]
        omega
      · rw [show 7 * (k + 1) = 7 * k + 7 by omega, Nat.pow_add, e7, eu]
        have h1 : y % 128 ≤ 127 := by omega
        have h2 := Nat.mul_le_mul_right (2 ^ (7 * k)) h1
        generalize y % 128 * 2 ^ (7 * k) = A at *
        generalize 2 ^ (7 * k) = B at *
        omega
      · have := congrArg (List.drop 1) hd
        rw [List.drop_drop] at this
        exact this
      · rw [Nat.pow_succ] at hf
        omega
theorem ginv_last {K : List Nat} {k v u : Nat} (h : GInv K k v) (hu : Joined v (K.getD k 0 % 128) k u) (hb : K.getD k 0 < 128) : ∀ x T, x < 34359738368 → K = lowL x ++ T → u = x ∧ K.drop (k + 1) = T := fun x T hx hK => by
  obtain ⟨f, y, e, hv, hd, hf⟩ := h x T hx hK
  have hg := getD_drop0 K k
  rw [hd] at hg
  by_cases c : y < 128
  · rw [lowF_end c] at hg hd
    have ey : K.getD k 0 = y := hg
    rw [ey, Nat.mod_eq_of_lt c] at hu
    have eu := hu hv (by omega)
    refine ⟨by omega, ?_⟩
    have := congrArg (List.drop 1) hd
    rw [List.drop_drop] at this
    exact this
  · match f, hf, hd, hg with
    | 0, hf, _, _ =>
      have : (2 : Nat) ^ 0 = 1 := rfl
      omega
    | f + 1, hf, hd, hg =>
      rw [lowF_step c] at hg
      have eb : K.getD k 0 = y % 128 + 128 := hg
      omega
theorem ginv_end {K : List Nat} {k v : Nat} (h : GInv K k v) (hk : K.length ≤ k) : ∀ x T, x < 34359738368 → K ≠ lowL x ++ T := fun x T hx hK => by
  obtain ⟨f, y, _, _, hd, _⟩ := h x T hx hK
  rw [List.drop_eq_nil_of_le hk] at hd
  have := congrArg List.length hd
  rw [List.length_append] at this
  have := low_ne f y
  simp at *
  omega

/-- The group that is joined, as the walk writes it. -/
theorem joined_bits (v r k : Nat) (hv : v < 18446744073709551616) (hr : r < 128) : ∃ u : Nat, bits .or .u64 (v : Int) (IntKind.u64.wrap ((r : Int) * 2 ^ min (7 * k) 64)) = (u : Int) ∧ u < 18446744073709551616 ∧ Joined v r k u := by
  obtain ⟨s, hs⟩ : ∃ s, s = r * 2 ^ min (7 * k) 64 % 18446744073709551616 := ⟨_, rfl⟩
  have e1 : IntKind.u64.wrap ((r : Int) * 2 ^ min (7 * k) 64) = (s : Int) := by rw [IntKind.wrap_u64, hs, Int.natCast_emod, Int.natCast_mul, Int.natCast_pow]; rfl
  have hsl : s < 18446744073709551616 := by rw [hs]; exact Nat.mod_lt _ (by decide)
  refine ⟨v ||| s, ?_, ?_, ?_⟩
  · rw [e1, u64_or _ _ (by omega) (by omega) (by omega) (by omega), Int.toNat_natCast, Int.toNat_natCast]
  · have := Nat.or_lt_two_pow (n := 64) (show v < 2 ^ 64 from hv) (show s < 2 ^ 64 from hsl)
    exact this
  · intro hv2 hr2
    by_cases hr0 : r = 0
    · subst hr0
      rw [hs]
      simp
    · have hk : 7 * k < 64 := by
        by_cases c : 7 * k < 64
        · exact c
        · have h1 : (2 : Nat) ^ 64 ≤ 2 ^ (7 * k) := Nat.pow_le_pow_right (by decide) (by omega)
          have h2 : 1 * 2 ^ (7 * k) ≤ r * 2 ^ (7 * k) := Nat.mul_le_mul_right _ (by omega)
          have h3 : (2 : Nat) ^ 64 = 18446744073709551616 := by decide
          omega
      have es : s = r * 2 ^ (7 * k) := by
        rw [hs, show min (7 * k) 64 = 7 * k by omega, Nat.mod_eq_of_lt hr2]
      rw [es, Nat.or_comm, nat_join (7 * k) _ v (Nat.mul_mod_left _ _) hv2, Nat.add_comm]

/-- What is told of bytes in groups. -/
def GrpPost (w : World) (a : Option Addr) (g o l c : Nat) (K : List Nat) (r : Ending) (w' : World) : Prop := (∃ (v k : Nat) (a' : Option Addr) (d : Nat), r = .returned (.tuple #[.int .u64 v, .slice a' (l - (k + 1)) (c - (k + 1)), .bool true]) ∧ v < 18446744073709551616 ∧ k < l ∧ (∀ W, BAt W a g o K → BAt W a' g (o + (k + 1)) (K.drop (k + 1))) ∧ (∀ x T, x < 34359738368 → K = lowL x ++ T → v = x ∧ K.drop (k + 1) = T) ∧ w' = w.drewN d) ∨
  (r = .returned (.tuple #[.int .u64 0, .slice none 0 0, .bool false]) ∧ (∀ x T, x < 34359738368 → K ≠ lowL x ++ T) ∧ w' = w)

set_option maxRecDepth 100000 in
set_option maxHeartbeats 6400000 in
theorem progGroups {a : Option Addr} {g o c l : Nat} {K : List Nat} (hl : l = K.length) (hc : l ≤ c) (hbig : l ≤ 140737488355328) (w : World) (h : BAt w a g o K) :
    Calls Try.prog 79 #[.slice a l c] w (GrpPost w a g o l c K) := by
  have H := hide h
  have HL := hide hl
  clear h hl
  go_enter Try.func79, Try.ntmps79
  go_wp2_with fail
  go_loopw [2, 9] (fun vv kv wr => ∃ k v : Nat, k ≤ l ∧ kv = .int .i64 k ∧ vv = .int .u64 v ∧ v < 18446744073709551616 ∧ Hid (GInv K k v) ∧ w = wr) (fun _ kv _ => l - (intOf kv).toNat)
  case atStart => exact ⟨0, 0, Nat.zero_le _, rfl, rfl, by decide, ginv_start K, rfl⟩
  case round =>
    obtain ⟨k, v, hk, rfl, rfl, hv, hG, rfl⟩ := hrel
    by_cases hkc : k < l
    · have q1 : ((k : Int) < (l : Int)) = True := by simp; omega
      obtain ⟨rfl, hg⟩ := (unhide H).at_ (by have := unhide HL; omega)
      have cc := (unhide H).cell k (by have := unhide HL; omega)
      have hb := (unhide H).lt k
      have R := hide (fun b hb (W : World) (hW : BAt W (some ⟨g, o, none⟩) g o K) => bat_rest (b := b) (p := k + 1) (c := c) hW (by have := unhide HL; omega) (by have := unhide HL; omega) hb)
      obtain ⟨r, hr⟩ : ∃ r, r = K.getD k 0 % 128 := ⟨_, rfl⟩
      have M1 : Hid (∀ u, Joined v r k u → 128 ≤ K.getD k 0 → GInv K (k + 1) u) := fun u hu hb => ginv_more (unhide hG) (by rw [← hr]; exact hu) hb
      have M2 : Hid (∀ u, Joined v r k u → K.getD k 0 < 128 → ∀ x T, x < 34359738368 → K = lowL x ++ T → u = x ∧ K.drop (k + 1) = T) := fun u hu hb => ginv_last (unhide hG) (by rw [← hr]; exact hu) hb
      have s1 : bits .andNot .u8 ((K.getD k 0 : Nat) : Int) 128 = (r : Int) := by
        have e : ∀ z : Fin 256, bits .andNot .u8 (z.val : Int) 128 = ((z.val % 128 : Nat) : Int) := by decide +kernel
        have := e ⟨K.getD k 0, hb⟩
        rw [hr]
        exact this
      have r128 : r < 128 := by omega
      clear hr hG
      generalize K.getD k 0 = z at *
      obtain ⟨u, su, ul, hj⟩ := joined_bits v r k hv r128
      have J := hide hj
      clear hj
      have n7 : IntKind.i64.wrap (7 * (k : Int)) = 7 * (k : Int) := by rw [IntKind.wrap_i64]; omega
      have n7' : (7 * (k : Int)).toNat = 7 * k := by omega
      have n8 : (0 : Int) ≤ 7 * (k : Int) := by omega
      by_cases hz : z < 128
      · have q3 : ((z : Int) < 128) = True := by simp; omega
        have F := hide (unhide M2 u (unhide J) hz)
        have n9 : (k : Int) + 1 ≤ (l : Int) := by omega
        have n10 : (0 : Int) ≤ (k : Int) + 1 := by omega
        clear M1 M2 J
        by_cases hce : c = k + 1
        · go_wp2_with fail
          go_quiet (fail)
          go_wp2_with fail
          go_ret3
          exact .inl ⟨u, k, _, _, by rw [show c - (k + 1) = 0 by omega]; rfl, ul, hkc, unhide R _ (by rw [if_pos hce]), unhide F, rfl⟩
        · have hce' : (c = k + 1) = False := by simp; omega
          go_wp2_with fail
          go_quiet (fail)
          go_wp2_with fail
          go_ret3
          exact .inl ⟨u, k, _, _, rfl, ul, hkc, unhide R _ (by rw [if_neg hce]), unhide F, rfl⟩
      · have q3 : ((z : Int) < 128) = False := by simp; omega
        have G2 := hide (unhide M1 u (unhide J) (by omega))
        clear M1 M2 J
        go_wp2_with fail
        exact ⟨⟨k + 1, u, hkc, by go_num, rfl, ul, G2, trivial⟩, by simp [intOf]; omega⟩
    · have q1 : ((k : Int) < (l : Int)) = False := by simp; omega
      have E := hide (ginv_end (unhide hG) (by have := unhide HL; omega))
      clear hG
      go_wp2_with fail
      go_ret3
      exact .inr ⟨rfl, unhide E, rfl⟩
end Go.Proofs.Ytpmbgjoilfdkaaa

namespace Go.Proofs.Ytpmbgjoilfdkaaa
open Go.RowKit Fl Ieee
attribute [local go_sem] store_complex

/-- What is told of bytes that are words. -/
def PartsPost (w : World) (E M : Nat) (l : Nat) (Q : Nat → Nat × Nat → Prop) (r : Ending) (w' : World) : Prop :=
  ((l = E ∧ ∃ gz f, r = .returned (.tuple #[.slice (some ⟨gz, 0, none⟩) M M, .bool true]) ∧ Row w' gz M f ∧ w.heap.size ≤ gz ∧ ∀ j, j < M → Q j (f j)) ∨ (l ≠ E ∧ r = .returned (.tuple #[.slice none 0 0, .bool false]))) ∧ Below w.heap.size w w'

theorem below_drewN' {B d : Nat} {w w' : World} (h : Below B w w') : Below B w (w'.drewN d) := ⟨h.os, h.tape, h.output, h.size, h.block⟩
theorem bat_drew1 {w : World} {a : Option Addr} {g o d : Nat} {L : List Nat} (h : BAt w a g o L) : BAt (w.drewN d) a g o L := ⟨h.lt, h.at_, h.cell⟩
theorem upd_all {f : Nat → Nat × Nat} {Q : Nat → Nat × Nat → Prop} {i : Nat} {c : Nat × Nat} (h : ∀ j, j < i → Q j (f j)) (hc : Q i c) : ∀ j, j < i + 1 → Q j (upd f i c j) := fun j hj => by
  unfold upd
  by_cases e : j = i
  · rw [if_pos e, e]; exact hc
  · rw [if_neg e]; exact h j (by omega)

set_option maxRecDepth 100000 in
set_option maxHeartbeats 6400000 in
theorem readParts64 {a : Option Addr} {g o c l M : Nat} {K : List Nat} (hM : M ≤ 4096) (hl : l = K.length) (hc : l ≤ c) (w : World) (h : BAt w a g o K) :
    Calls Try.prog 59 #[.slice a l c, .int .i64 M, .func (.func 42) #[] #[]] w (PartsPost w (16 * M) M l fun j c => c = (numB K (16 * j) 8, numB K (16 * j + 8) 8)) := by
  have H := hide h
  have HL := hide hl
  have k := hide bytesOf64
  have kf := from31
  obtain ⟨D, hD⟩ : ∃ D, D = 2 * M := ⟨_, rfl⟩
  obtain ⟨E, hE⟩ : ∃ E, E = 16 * M := ⟨_, rfl⟩
  have n1 : (2 : Int) * (M : Int) = (D : Int) := by omega
  have n2 : IntKind.i64.wrap (D : Int) = (D : Int) := by rw [IntKind.wrap_i64]; omega
  have n3 : (D : Int) * 8 = (E : Int) := by omega
  have n4 : IntKind.i64.wrap (E : Int) = (E : Int) := by rw [IntKind.wrap_i64]; omega
  obtain ⟨i0, hi0, hz0, hz1, hz2⟩ := info_parts infoC
  have HE := hide hE
  rw [← hE]
  clear hD hE h hl
  by_cases hlE : l = E
  · have q0 : ((l : Int) != (E : Int)) = false := by rw [hlE]; simp
    have HLE := hide hlE
    clear hlE
    go_enter Try.func59, Try.ntmps59
    go_wp2_with fail
    refine (unhide k _).mono ?_
    rintro e w' ⟨rfl, hw⟩
    obtain rfl := hw.symm
    go_wp2_with (first
      | (at_make; refine wpList_make_full _ rfl (.tmp 19) (.tmp 19) 28 rfl w.heap.size 40 i0 (.complex .f64 0 0) 1 Try.underlying28 hi0 hz0 hz1 .i64 .i64 M M M rfl rfl rfl rfl ?c1 ?c2 ?c3 ?_))
    case c1 => rw [hz2]; omega
    case c2 => unfold maxLen; omega
    case c3 => simp
    intro W2 hown2 hg2
    have hT : Hid (Row W2 w.heap.size M (fun _ => (0, 0))) := row_made hown2 (fun _ => (0, 0)) (fun i hi => zeros_get M i hi) (fun _ _ => rfl)
    have hb2 := hide (grown_below hg2)
    clear hown2 hg2 k
    go_wp2_with fail
    go_loopw [0, 23] (fun fv iv wr => ∃ (i : Nat) (a1 : Option Addr) (l1 c1 : Nat) (f : Nat → Nat × Nat), i ≤ M ∧ fv = .slice a1 l1 c1 ∧ iv = .int .i64 i ∧ l1 ≤ c1 ∧ Hid (l1 + 16 * i = l) ∧ Hid (∀ W, BAt W a g o K → BAt W a1 g (o + 16 * i) (K.drop (16 * i))) ∧ Hid (Row wr w.heap.size M f) ∧ Hid (∀ j, j < i → f j = (numB K (16 * j) 8, numB K (16 * j + 8) 8)) ∧ Hid (Below w.heap.size w wr)) (fun _ iv _ => M - (intOf iv).toNat)
    case atStart => exact ⟨0, a, l, c, fun _ => (0, 0), Nat.zero_le _, rfl, rfl, hc, rfl, fun W hW => hW, hT, fun j hj => absurd hj (Nat.not_lt_zero j), hb2⟩
    case round =>
      clear hT hb2
      obtain ⟨i, a1, l1, c1, f, hi, rfl, rfl, hc1, hl1, hF, hR, hQ, hBe⟩ := hrel
      by_cases hic : i < M
      · have q1 : ((i : Int) < (M : Int)) = True := by simp; omega
        have hE2 := unhide HE
        have hLE2 := unhide HLE
        have hLl := unhide HL
        have hl1e := unhide hl1
        have hl16 : 16 ≤ l1 := by omega
        have hl2 : Hid (l1 - 8 - 8 + 16 * (i + 1) = l) := by show _ = _; omega
        have d1 : l1 = (K.drop (16 * i)).length := by rw [List.length_drop]; omega
        have b1 := unhide hF wr (bat_keep (unhide H) (unhide hBe))
        have k1 := hide (readWord64 (c := c1) d1 (by omega) hc1 wr b1)
        have e1 : numB (K.drop (16 * i)) 0 8 = numB K (16 * i) 8 := by rw [numB_drop, Nat.add_zero]
        have e2 : numB ((K.drop (16 * i)).drop 8) 0 8 = numB K (16 * i + 8) 8 := by rw [numB_drop, numB_drop, Nat.add_zero]
        have k2 : Hid (∀ (a2 : Option Addr) (W : World), (∀ W, BAt W a1 g (o + 16 * i) (K.drop (16 * i)) → BAt W a2 g (o + 16 * i + 8) ((K.drop (16 * i)).drop 8)) → BAt W a g o K → Calls Try.prog 76 #[.slice a2 (l1 - 8) (c1 - 8)] W fun r w' => ∃ a' d, r = .returned (.tuple #[.int .u64 (numB K (16 * i + 8) 8), .slice a' (l1 - 8 - 8) (c1 - 8 - 8)]) ∧ (∀ W, BAt W a2 g (o + 16 * i + 8) ((K.drop (16 * i)).drop 8) → BAt W a' g (o + 16 * i + 8 + 8) (((K.drop (16 * i)).drop 8).drop 8)) ∧ w' = W.drewN d) := by
          intro a2 W h2 hW
          have := readWord64 (c := c1 - 8) (l := l1 - 8) (K := (K.drop (16 * i)).drop 8) (by rw [List.length_drop]; omega) (by omega) (by omega) W (h2 W (unhide hF W hW))
          rw [e2] at this
          exact this
        rw [e1] at k1
        have hx1 : numB K (16 * i) 8 < 18446744073709551616 := numB_lt (unhide H).lt _ 8
        have hx2 : numB K (16 * i + 8) 8 < 18446744073709551616 := numB_lt (unhide H).lt _ 8
        have hQ2 : Hid (∀ j, j < i + 1 → upd f i (numB K (16 * i) 8, numB K (16 * i + 8) 8) j = (numB K (16 * j) 8, numB K (16 * j + 8) 8)) := upd_all (Q := fun j c => c = (numB K (16 * j) 8, numB K (16 * j + 8) 8)) (unhide hQ) rfl
        generalize numB K (16 * i) 8 = x1 at *
        generalize numB K (16 * i + 8) 8 = x2 at *
        clear hQ b1 e1 e2 d1 hE2 hLE2 hLl hl1e hl1
        go_wp2_with fail
        refine (unhide k1).mono ?_
        rintro e w3 ⟨a3, d3, rfl, h3, rfl⟩
        have H3 := hide h3
        have k2' := hide (unhide k2 a3 (wr.drewN d3) h3 (bat_drew1 (bat_keep (unhide H) (unhide hBe))))
        clear h3 k1 k2
        go_wp2_with fail
        refine (unhide k2').mono ?_
        rintro e w4 ⟨a4, d4, rfl, h4, rfl⟩
        have F4 : Hid (∀ W, BAt W a g o K → BAt W a4 g (o + 16 * (i + 1)) (K.drop (16 * (i + 1)))) := fun W hW => by
          have := h4 W (unhide H3 W (unhide hF W hW))
          rw [List.drop_drop, List.drop_drop] at this
          rw [show 16 * (i + 1) = 16 * i + (8 + 8) by omega, show o + (16 * i + (8 + 8)) = o + 16 * i + 8 + 8 by omega, show 16 * i + (8 + 8) = 16 * i + 8 + 8 by omega]
          exact this
        have R4 : Hid (Row ((wr.drewN d3).drewN d4) w.heap.size M f) := unhide hR
        have B4 : Hid (Below w.heap.size w ((wr.drewN d3).drewN d4)) := below_drewN' (below_drewN' (unhide hBe))
        clear h4 k2' H3 hF hR hBe
        generalize (wr.drewN d3).drewN d4 = w4 at *
        have c0 := row_at (unhide R4) hic
        have f0 := row_frozen (unhide R4) i
        have R5 := hide (row_set (unhide R4) i (x1, x2))
        have B5 : Hid (Below w.heap.size w (w4.setCell ⟨w.heap.size, i, none⟩ (cv (x1, x2)))) := (unhide B4).setCell (Nat.le_refl _) _
        unfold cv at c0 R5 B5
        clear R4 B4
        go_wp2_with fail
        go_roundw
        case rel => exact ⟨i + 1, a4, l1 - 8 - 8, c1 - 8 - 8, _, hic, rfl, by go_num, by omega, hl2, F4, R5, hQ2, B5⟩
        case measure => simp [intOf]; omega
      · have q1 : ((i : Int) < (M : Int)) = False := by simp; omega
        have e : i = M := by omega
        subst e
        clear hF
        go_wp2_with fail
        go_ret2
        exact ⟨.inl ⟨unhide HLE, _, f, rfl, unhide hR, Nat.le_refl _, unhide hQ⟩, unhide hBe⟩
  · have q0 : ((l : Int) != (E : Int)) = true := by rw [bne_iff_ne]; omega
    go_enter Try.func59, Try.ntmps59
    go_wp2_with fail
    refine (unhide k _).mono ?_
    rintro e w' ⟨rfl, hw⟩
    obtain rfl := hw.symm
    go_wp2_with fail
    go_ret2
    exact ⟨.inr ⟨hlE, rfl⟩, Below.refl _ _⟩
theorem run_wide1 (x : Nat) (w : World) : ∃ r d, (convert 76 47 (.float .f32 x)).run Try.prog w = .ok (.float .f64 r) (w.drewN d) ∧ WideOk x r := by
  obtain ⟨r, d, e, h⟩ := conv_wide (P := Try.prog) x w
  refine ⟨r, d, ?_, wide_lt h, wide_or h⟩
  simp [convert, run_underlying Try.underlying76, run_underlying Try.underlying47, e]
set_option maxRecDepth 100000 in
set_option maxHeartbeats 800000 in
theorem wideOf (x : Nat) (w : World) : Calls Try.prog 61 #[.int .u32 x] w fun r w' => ∃ y d, r = .returned (.float .f64 y) ∧ WideOk x y ∧ w' = w.drewN d := by
  obtain ⟨y, d, e, h⟩ := run_wide1 x w
  have k := from32n
  have Y := hide h
  clear h
  go_enter Try.func61, Try.ntmps61
  go_wp2
  go_ret
  exact ⟨y, d, rfl, unhide Y, rfl⟩

set_option maxRecDepth 100000 in
set_option maxHeartbeats 6400000 in
theorem readParts32 {a : Option Addr} {g o c l M : Nat} {K : List Nat} (hM : M ≤ 4096) (hl : l = K.length) (hc : l ≤ c) (w : World) (h : BAt w a g o K) :
    Calls Try.prog 60 #[.slice a l c, .int .i64 M, .func (.func 61) #[] #[]] w (PartsPost w (8 * M) M l fun j c => WideOk (numB K (8 * j) 4) c.1 ∧ WideOk (numB K (8 * j + 4) 4) c.2) := by
  have H := hide h
  have HL := hide hl
  have k := hide bytesOf32
  have kv := hide wideOf
  obtain ⟨D, hD⟩ : ∃ D, D = 2 * M := ⟨_, rfl⟩
  obtain ⟨E, hE⟩ : ∃ E, E = 8 * M := ⟨_, rfl⟩
  have n1 : (2 : Int) * (M : Int) = (D : Int) := by omega
  have n2 : IntKind.i64.wrap (D : Int) = (D : Int) := by rw [IntKind.wrap_i64]; omega
  have n3 : (D : Int) * 4 = (E : Int) := by omega
  have n4 : IntKind.i64.wrap (E : Int) = (E : Int) := by rw [IntKind.wrap_i64]; omega
  obtain ⟨i0, hi0, hz0, hz1, hz2⟩ := info_parts infoC
  have HE := hide hE
  rw [← hE]
  clear hD hE h hl
  by_cases hlE : l = E
  · have q0 : ((l : Int) != (E : Int)) = false := by rw [hlE]; simp
    have HLE := hide hlE
    clear hlE
    go_enter Try.func60, Try.ntmps60
    go_wp2_with fail
    refine (unhide k _).mono ?_
    rintro e w' ⟨rfl, hw⟩
    obtain rfl := hw.symm
    go_wp2_with (first
      | (at_make; refine wpList_make_full _ rfl (.tmp 19) (.tmp 19) 28 rfl w.heap.size 40 i0 (.complex .f64 0 0) 1 Try.underlying28 hi0 hz0 hz1 .i64 .i64 M M M rfl rfl rfl rfl ?c1 ?c2 ?c3 ?_))
    case c1 => rw [hz2]; omega
    case c2 => unfold maxLen; omega
    case c3 => simp
    intro W2 hown2 hg2
    have hT : Hid (Row W2 w.heap.size M (fun _ => (0, 0))) := row_made hown2 (fun _ => (0, 0)) (fun i hi => zeros_get M i hi) (fun _ _ => rfl)
    have hb2 := hide (grown_below hg2)
    clear hown2 hg2 k
    go_wp2_with fail
    go_loopw [0, 23] (fun fv iv wr => ∃ (i : Nat) (a1 : Option Addr) (l1 c1 : Nat) (f : Nat → Nat × Nat), i ≤ M ∧ fv = .slice a1 l1 c1 ∧ iv = .int .i64 i ∧ l1 ≤ c1 ∧ Hid (l1 + 8 * i = l) ∧ Hid (∀ W, BAt W a g o K → BAt W a1 g (o + 8 * i) (K.drop (8 * i))) ∧ Hid (Row wr w.heap.size M f) ∧ Hid (∀ j, j < i → WideOk (numB K (8 * j) 4) (f j).1 ∧ WideOk (numB K (8 * j + 4) 4) (f j).2) ∧ Hid (Below w.heap.size w wr)) (fun _ iv _ => M - (intOf iv).toNat)
    case atStart => exact ⟨0, a, l, c, fun _ => (0, 0), Nat.zero_le _, rfl, rfl, hc, rfl, fun W hW => hW, hT, fun j hj => absurd hj (Nat.not_lt_zero j), hb2⟩
    case round =>
      clear hT hb2
      obtain ⟨i, a1, l1, c1, f, hi, rfl, rfl, hc1, hl1, hF, hR, hQ, hBe⟩ := hrel
      by_cases hic : i < M
      · have q1 : ((i : Int) < (M : Int)) = True := by simp; omega
        have hE2 := unhide HE
        have hLE2 := unhide HLE
        have hLl := unhide HL
        have hl1e := unhide hl1
        have hl16 : 8 ≤ l1 := by omega
        have hl2 : Hid (l1 - 4 - 4 + 8 * (i + 1) = l) := by show _ = _; omega
        have d1 : l1 = (K.drop (8 * i)).length := by rw [List.length_drop]; omega
        have b1 := unhide hF wr (bat_keep (unhide H) (unhide hBe))
        have k1 := hide (readWord32 (c := c1) d1 (by omega) hc1 wr b1)
        have e1 : numB (K.drop (8 * i)) 0 4 = numB K (8 * i) 4 := by rw [numB_drop, Nat.add_zero]
        have e2 : numB ((K.drop (8 * i)).drop 4) 0 4 = numB K (8 * i + 4) 4 := by rw [numB_drop, numB_drop, Nat.add_zero]
        have k2 : Hid (∀ (a2 : Option Addr) (W : World), (∀ W, BAt W a1 g (o + 8 * i) (K.drop (8 * i)) → BAt W a2 g (o + 8 * i + 4) ((K.drop (8 * i)).drop 4)) → BAt W a g o K → Calls Try.prog 78 #[.slice a2 (l1 - 4) (c1 - 4)] W fun r w' => ∃ a' d, r = .returned (.tuple #[.int .u32 (numB K (8 * i + 4) 4), .slice a' (l1 - 4 - 4) (c1 - 4 - 4)]) ∧ (∀ W, BAt W a2 g (o + 8 * i + 4) ((K.drop (8 * i)).drop 4) → BAt W a' g (o + 8 * i + 4 + 4) (((K.drop (8 * i)).drop 4).drop 4)) ∧ w' = W.drewN d) := by
          intro a2 W h2 hW
          have := readWord32 (c := c1 - 4) (l := l1 - 4) (K := (K.drop (8 * i)).drop 4) (by rw [List.length_drop]; omega) (by omega) (by omega) W (h2 W (unhide hF W hW))
          rw [e2] at this
          exact this
        rw [e1] at k1
        have hx1 : numB K (8 * i) 4 < 4294967296 := numB_lt (unhide H).lt _ 4
        have hx2 : numB K (8 * i + 4) 4 < 4294967296 := numB_lt (unhide H).lt _ 4
        have hQ2 : Hid (∀ c : Nat × Nat, WideOk (numB K (8 * i) 4) c.1 → WideOk (numB K (8 * i + 4) 4) c.2 → ∀ j, j < i + 1 → WideOk (numB K (8 * j) 4) (upd f i c j).1 ∧ WideOk (numB K (8 * j + 4) 4) (upd f i c j).2) := fun c h1 h2 => upd_all (Q := fun j c => WideOk (numB K (8 * j) 4) c.1 ∧ WideOk (numB K (8 * j + 4) 4) c.2) (unhide hQ) ⟨h1, h2⟩
        generalize numB K (8 * i) 4 = x1 at *
        generalize numB K (8 * i + 4) 4 = x2 at *
        clear hQ b1 e1 e2 d1 hE2 hLE2 hLl hl1e hl1
        go_wp2_with fail
        refine (unhide k1).mono ?_
        rintro e w3 ⟨a3, d3, rfl, h3, rfl⟩
        have H3 := hide h3
        have k2' := hide (unhide k2 a3 (wr.drewN d3) h3 (bat_drew1 (bat_keep (unhide H) (unhide hBe))))
        clear h3 k1 k2
        go_wp2_with fail
        refine (unhide k2').mono ?_
        rintro e w4 ⟨a4, d4, rfl, h4, rfl⟩
        have F4 : Hid (∀ W, BAt W a g o K → BAt W a4 g (o + 8 * (i + 1)) (K.drop (8 * (i + 1)))) := fun W hW => by
          have := h4 W (unhide H3 W (unhide hF W hW))
          rw [List.drop_drop, List.drop_drop] at this
          rw [show 8 * (i + 1) = 8 * i + (4 + 4) by omega, show o + (8 * i + (4 + 4)) = o + 8 * i + 4 + 4 by omega, show 8 * i + (4 + 4) = 8 * i + 4 + 4 by omega]
          exact this
        have R4 : Hid (Row ((wr.drewN d3).drewN d4) w.heap.size M f) := unhide hR
        have B4 : Hid (Below w.heap.size w ((wr.drewN d3).drewN d4)) := below_drewN' (below_drewN' (unhide hBe))
        clear h4 k2' H3 hF hR hBe
        generalize (wr.drewN d3).drewN d4 = w4 at *
        go_wp2_with fail
        refine (unhide kv _ _).mono ?_
        rintro e w5 ⟨y1, d5, rfl, h5, rfl⟩
        have Y1 := hide h5
        clear h5
        go_wp2_with fail
        refine (unhide kv _ _).mono ?_
        rintro e w6 ⟨y2, d6, rfl, h6, rfl⟩
        have R6 : Hid (Row ((w4.drewN d5).drewN d6) w.heap.size M f) := unhide R4
        have B6 : Hid (Below w.heap.size w ((w4.drewN d5).drewN d6)) := below_drewN' (below_drewN' (unhide B4))
        have Q6 := hide (unhide hQ2 (y1, y2) (unhide Y1) h6)
        clear h6 Y1 R4 B4 hQ2
        generalize (w4.drewN d5).drewN d6 = w6 at *
        have c0 := row_at (unhide R6) hic
        have f0 := row_frozen (unhide R6) i
        have R5 := hide (row_set (unhide R6) i (y1, y2))
        have B5 : Hid (Below w.heap.size w (w6.setCell ⟨w.heap.size, i, none⟩ (cv (y1, y2)))) := (unhide B6).setCell (Nat.le_refl _) _
        unfold cv at c0 R5 B5
        clear R6 B6
        go_wp2_with fail
        go_roundw
        case rel => exact ⟨i + 1, a4, l1 - 4 - 4, c1 - 4 - 4, _, hic, rfl, by go_num, by omega, hl2, F4, R5, Q6, B5⟩
        case measure => simp [intOf]; omega
      · have q1 : ((i : Int) < (M : Int)) = False := by simp; omega
        have e : i = M := by omega
        subst e
        clear hF
        go_wp2_with fail
        go_ret2
        exact ⟨.inl ⟨unhide HLE, _, f, rfl, unhide hR, Nat.le_refl _, unhide hQ⟩, unhide hBe⟩
  · have q0 : ((l : Int) != (E : Int)) = true := by rw [bne_iff_ne]; omega
    go_enter Try.func60, Try.ntmps60
    go_wp2_with fail
    refine (unhide k _).mono ?_
    rintro e w' ⟨rfl, hw⟩
    obtain rfl := hw.symm
    go_wp2_with fail
    go_ret2
    exact ⟨.inr ⟨hlE, rfl⟩, Below.refl _ _⟩
end Go.Proofs.Ytpmbgjoilfdkaaa

namespace Go.Proofs.Ytpmbgjoilfdkaaa
open Go.RowKit Fl Ieee
attribute [local go_sem] store_complex

/-- What the bytes that are left tell, ahead of a cell, within it, behind it. -/
def S0 (K : List Nat) (M i p : Nat) (a b : Int) : Prop := ∀ f, StepsOf K M f → K.drop p = K.drop (cellsL 2 f i).length ∧ a = valZ (aheadC f i).1 ∧ b = valZ (aheadC f i).2
def S1 (K : List Nat) (M i p : Nat) (a b : Int) : Prop := ∀ f, StepsOf K M f → K.drop p = lowL (foldZ (valZ (f i).2 - valZ (aheadC f i).2)) ++ K.drop (cellsL 2 f (i + 1)).length ∧ a = valZ (f i).1 ∧ b = valZ (aheadC f i).2
def S2 (K : List Nat) (M i p : Nat) (a b : Int) : Prop := ∀ f, StepsOf K M f → K.drop p = K.drop (cellsL 2 f (i + 1)).length ∧ a = valZ (f i).1 ∧ b = valZ (f i).2
def Told (K : List Nat) (p v k : Nat) : Prop := ∀ x T, x < 34359738368 → K.drop p = lowL x ++ T → v = x ∧ (K.drop p).drop (k + 1) = T
theorem wrap_small {z : Int} (h : z.natAbs ≤ 2147483648) : IntKind.i64.wrap z = z := by rw [IntKind.wrap_i64]; omega
theorem s0_next {K : List Nat} {M i p v k : Nat} {a b : Int} (hi : i < M) (h : S0 K M i p a b) (ht : Told K p v k) : S1 K M i (p + (k + 1)) (IntKind.i64.wrap (a + unfoldZ v)) b := fun f hf => by
  obtain ⟨h1, h2, h3⟩ := h f hf
  obtain ⟨T, e1, e2⟩ := steps_at hf hi
  have a1 := ahead_le hf.can (i := i) (by omega)
  have v1 := val_le hf.can hi
  rw [e1] at h1
  obtain ⟨rfl, e3⟩ := ht _ _ (fold_lt35 (by omega)) h1
  refine ⟨?_, ?_, h3⟩
  · rw [← List.drop_drop, e3, e2]
  · rw [h2, fold_back, show valZ (aheadC f i).1 + (valZ (f i).1 - valZ (aheadC f i).1) = valZ (f i).1 by omega, wrap_small v1.1]
theorem s1_next {K : List Nat} {M i p v k : Nat} {a b : Int} (hi : i < M) (h : S1 K M i p a b) (ht : Told K p v k) : S2 K M i (p + (k + 1)) a (IntKind.i64.wrap (b + unfoldZ v)) := fun f hf => by
  obtain ⟨h1, h2, h3⟩ := h f hf
  have a1 := ahead_le hf.can (i := i) (by omega)
  have v1 := val_le hf.can hi
  obtain ⟨rfl, e3⟩ := ht _ _ (fold_lt35 (by omega)) h1
  refine ⟨?_, h2, ?_⟩
  · rw [← List.drop_drop, e3]
  · rw [h3, fold_back, show valZ (aheadC f i).2 + (valZ (f i).2 - valZ (aheadC f i).2) = valZ (f i).2 by omega, wrap_small v1.2]
theorem s0_no {K : List Nat} {M i p : Nat} {a b : Int} (hi : i < M) (h : S0 K M i p a b) (ht : ∀ x T, x < 34359738368 → K.drop p ≠ lowL x ++ T) : ∀ f, ¬ StepsOf K M f := fun f hf => by
  obtain ⟨h1, _, _⟩ := h f hf
  obtain ⟨T, e1, _⟩ := steps_at hf hi
  have a1 := ahead_le hf.can (i := i) (by omega)
  have v1 := val_le hf.can hi
  rw [e1] at h1
  exact ht _ _ (fold_lt35 (by omega)) h1
theorem s1_no {K : List Nat} {M i p : Nat} {a b : Int} (hi : i < M) (h : S1 K M i p a b) (ht : ∀ x T, x < 34359738368 → K.drop p ≠ lowL x ++ T) : ∀ f, ¬ StepsOf K M f := fun f hf => by
  obtain ⟨h1, _, _⟩ := h f hf
  have a1 := ahead_le hf.can (i := i) (by omega)
  have v1 := val_le hf.can hi
  exact ht _ _ (fold_lt35 (by omega)) h1
theorem s2_next {K : List Nat} {M i p : Nat} {a b : Int} (h : S2 K M i p a b) : S0 K M (i + 1) p a b := fun f hf => by
  obtain ⟨h1, h2, h3⟩ := h f hf
  rw [ahead_next]
  exact ⟨h1, h2, h3⟩
theorem s2_cell {K : List Nat} {M i p : Nat} {a b : Int} (hi : i < M) (h : S2 K M i p a b) : ∀ f, StepsOf K M f → (floatOfInt .f64 a, floatOfInt .f64 b) = f i := fun f hf => by
  obtain ⟨_, rfl, rfl⟩ := h f hf
  have c := can_two hf.can hi
  exact Prod.ext (wh_bits (hf.bits i hi).1 c.1) (wh_bits (hf.bits i hi).2 c.2)
theorem s0_start (K : List Nat) (M : Nat) : S0 K M 0 0 0 0 := fun _ _ => ⟨rfl, val_zero.symm, val_zero.symm⟩
def InS (K : List Nat) (M i s p : Nat) (a b : Int) : Prop := (s = 0 ∧ S0 K M i p a b) ∨ (s = 1 ∧ S1 K M i p a b) ∨ (s = 2 ∧ S2 K M i p a b)

/-- The cells that are read, and the parts of the cell ahead. -/
structure SM (w wr : World) (G M : Nat) (f : Nat → Nat × Nat) (a b : Int) : Prop where
  row : Row wr w.heap.size M f
  arr : wr.heap[G]? = some (.cells #[.int .i64 a, .int .i64 b] 107 (0, 0))
  bel : Below w.heap.size w wr
theorem sm_drew {w wr : World} {G M d : Nat} {f : Nat → Nat × Nat} {a b : Int} (h : SM w wr G M f a b) : SM w (wr.drewN d) G M f a b := ⟨h.row, h.arr, below_drewN' h.bel⟩
theorem sm_set0 {w wr : World} {G M : Nat} {f : Nat → Nat × Nat} {a b : Int} (hG : w.heap.size < G) (h : SM w wr G M f a b) (c : Int) : SM w (wr.setCell ⟨G, 0, none⟩ (.int .i64 c)) G M f c b :=
  ⟨row_keep h.row (Below.heap_setCell _ _ _ _ (by show w.heap.size ≠ G; omega)), heap_setCell_same wr _ 0 _ _ _ h.arr, h.bel.setCell (by show w.heap.size ≤ G; omega) _⟩
theorem sm_set1 {w wr : World} {G M : Nat} {f : Nat → Nat × Nat} {a b : Int} (hG : w.heap.size < G) (h : SM w wr G M f a b) (c : Int) : SM w (wr.setCell ⟨G, 1, none⟩ (.int .i64 c)) G M f a c :=
  ⟨row_keep h.row (Below.heap_setCell _ _ _ _ (by show w.heap.size ≠ G; omega)), heap_setCell_same wr _ 1 _ _ _ h.arr, h.bel.setCell (by show w.heap.size ≤ G; omega) _⟩
theorem sm_row {w wr : World} {G M i : Nat} {f : Nat → Nat × Nat} {a b : Int} (hG : w.heap.size < G) (h : SM w wr G M f a b) (c : Nat × Nat) : SM w (wr.setCell ⟨w.heap.size, i, none⟩ (cv c)) G M (upd f i c) a b :=
  ⟨row_set h.row i c, by rw [Below.heap_setCell _ _ _ _ (by show G ≠ w.heap.size; omega)]; exact h.arr, h.bel.setCell (Nat.le_refl _) _⟩
theorem sm_cells {w wr : World} {G M : Nat} {f : Nat → Nat × Nat} {a b : Int} (h : SM w wr G M f a b) : wr.cell? ⟨G, 0, none⟩ = some (.int .i64 a) ∧ wr.cell? ⟨G, 1, none⟩ = some (.int .i64 b) ∧ wr.frozen? ⟨G, 0, none⟩ = false ∧ wr.frozen? ⟨G, 1, none⟩ = false :=
  ⟨by simp [World.cell?, h.arr], by simp [World.cell?, h.arr], by simp [World.frozen?, h.arr], by simp [World.frozen?, h.arr]⟩

/-- What is told of bytes that are steps. -/
def StepsPost (w : World) (M : Nat) (K : List Nat) (r : Ending) (w' : World) : Prop :=
  ((∃ gz f, r = .returned (.tuple #[.slice (some ⟨gz, 0, none⟩) M M, .bool true]) ∧ Row w' gz M f ∧ w.heap.size ≤ gz ∧ (∀ j, j < M → (f j).1 < 18446744073709551616 ∧ (f j).2 < 18446744073709551616) ∧ (∀ f', StepsOf K M f' → ∀ j, j < M → f j = f' j)) ∨ ((∀ f', ¬ StepsOf K M f') ∧ r = .returned (.tuple #[.slice none 0 0, .bool false]))) ∧ Below w.heap.size w w'

set_option maxRecDepth 100000 in
set_option maxHeartbeats 12800000 in
theorem progReadSteps {a : Option Addr} {g o c l M : Nat} {K : List Nat} (hM : M ≤ 4096) (hl : l = K.length) (hc : l ≤ c) (hbig : l ≤ 140737488355328) (w : World) (h : BAt w a g o K) :
    Calls Try.prog 62 #[.slice a l c, .int .i64 M] w (StepsPost w M K) := by
  have H := hide h
  have HL := hide hl
  obtain ⟨i0, hi0, hz0, hz1, hz2⟩ := info_parts infoC
  clear h hl
  go_enter Try.func62, Try.ntmps62
  go_wp2_with (first
    | (at_make; refine wpList_make_full _ rfl (.tmp 13) (.tmp 13) 28 rfl w.heap.size 40 i0 (.complex .f64 0 0) 1 Try.underlying28 hi0 hz0 hz1 .i64 .i64 M M M rfl rfl rfl rfl ?c1 ?c2 ?c3 ?_))
  case c1 => rw [hz2]; omega
  case c2 => unfold maxLen; omega
  case c3 => simp
  intro W2 hown2 hg2
  have hT : Row W2 w.heap.size M (fun _ => (0, 0)) := row_made hown2 (fun _ => (0, 0)) (fun i hi => zeros_get M i hi) (fun _ _ => rfl)
  have hb2 := grown_below hg2
  clear hown2 hg2
  have hG := row_lt hT
  have SM0 : Hid (SM w (W2.alloc (.cells #[.int .i64 0, .int .i64 0] 107)) W2.heap.size M (fun _ => (0, 0)) 0 0) := ⟨row_keep hT (Below.heap_alloc _ _ _ hG), heap_alloc_new _ _, hb2.alloc hb2.size _⟩
  clear hT hb2
  go_wp2_with fail
  generalize W2.heap.size = G at *
  generalize W2.alloc (.cells #[.int .i64 0, .int .i64 0] 107) = W3 at *
  go_loopw [0, 17] (fun fv iv wr => ∃ (i p : Nat) (a1 : Option Addr) (l1 c1 : Nat) (f : Nat → Nat × Nat) (x y : Int), i ≤ M ∧ fv = .slice a1 l1 c1 ∧ iv = .int .i64 i ∧ l1 ≤ c1 ∧ l1 ≤ 140737488355328 ∧ Hid (l1 = (K.drop p).length) ∧ Hid (∀ W, BAt W a g o K → BAt W a1 g (o + p) (K.drop p)) ∧ Hid (SM w wr G M f x y) ∧ Hid (S0 K M i p x y) ∧ Hid (∀ j, j < i → (f j).1 < 18446744073709551616 ∧ (f j).2 < 18446744073709551616) ∧ Hid (∀ f', StepsOf K M f' → ∀ j, j < i → f j = f' j)) (fun _ iv _ => M - (intOf iv).toNat)
  case atStart => exact ⟨0, 0, a, l, c, fun _ => (0, 0), 0, 0, Nat.zero_le _, rfl, rfl, hc, hbig, HL, fun W hW => hW, SM0, s0_start K M, fun j hj => absurd hj (Nat.not_lt_zero j), fun _ _ j hj => absurd hj (Nat.not_lt_zero j)⟩
  case round =>
    clear SM0
    obtain ⟨i, p, a1, l1, c1, f, x, y, hi, rfl, rfl, hc1, hb1, hd1, hF, hS, hI, hbs, hcs⟩ := hrel
    by_cases hic : i < M
    · have q1 : ((i : Int) < (M : Int)) = True := by simp; omega
      have I0 : Hid (InS K M i 0 p x y) := .inl ⟨rfl, unhide hI⟩
      clear hI
      go_wp2_with fail
      go_loopw [0, 20] (fun fv sv wr => ∃ (s p : Nat) (a1 : Option Addr) (l1 c1 : Nat) (x y : Int), s ≤ 2 ∧ fv = .slice a1 l1 c1 ∧ sv = .int .i64 s ∧ l1 ≤ c1 ∧ l1 ≤ 140737488355328 ∧ Hid (l1 = (K.drop p).length) ∧ Hid (∀ W, BAt W a g o K → BAt W a1 g (o + p) (K.drop p)) ∧ Hid (SM w wr G M f x y) ∧ Hid (InS K M i s p x y)) (fun _ sv _ => 2 - (intOf sv).toNat)
      case atStart => exact ⟨0, p, a1, l1, c1, x, y, by decide, rfl, rfl, hc1, hb1, hd1, hF, hS, I0⟩
      case round =>
        clear hd1 hF hS I0 hc1 hb1
        obtain ⟨s, p, a1, l1, c1, x, y, hs, rfl, rfl, hc1, hb1, hd1, hF, hS, hI⟩ := hrel
        have hs' : s = 0 ∨ s = 1 ∨ s = 2 := by omega
        rcases hs' with rfl | rfl | rfl
        · have hI0 : Hid (S0 K M i p x y) := by
            rcases unhide hI with ⟨h0, h⟩ | ⟨h0, h⟩ | ⟨h0, h⟩
            all_goals first | exact h | (exfalso; omega)
          have kG := hide (progGroups (c := c1) (unhide hd1) hc1 hb1 wr (unhide hF wr (bat_keep (unhide H) (unhide hS).bel)))
          clear hI
          go_wp2_with fail
          refine (unhide kG).mono ?_
          rintro e w3 (⟨v, k, a2, d, rfl, hv, hk, hR, ht, rfl⟩ | ⟨rfl, hno, hw3⟩)
          · have U := hide (progUnfolded hv)
            have N1 := hide (s0_next (k := k) (v := v) hic (unhide hI0) ht)
            have F1 : Hid (∀ W, BAt W a g o K → BAt W a2 g (o + (p + (k + 1))) (K.drop (p + (k + 1)))) := fun W hW => by
              have := hR W (unhide hF W hW)
              rw [List.drop_drop, Nat.add_assoc o p (k + 1)] at this
              exact this
            have D1 : Hid (l1 - (k + 1) = (K.drop (p + (k + 1))).length) := by
              show _ = _
              have := unhide hd1
              rw [List.length_drop] at this ⊢
              omega
            have S4 := hide (sm_drew (d := d) (unhide hS))
            clear hR ht kG hI0 hS hF hd1
            go_wp2_with fail
            generalize wr.drewN d = w4 at *
            generalize unfoldZ v = z at *
            obtain ⟨e0, e1, e2, e3⟩ := sm_cells (unhide S4)
            obtain ⟨z1, hz1⟩ : ∃ z1, z1 = IntKind.i64.wrap (x + z) := ⟨_, rfl⟩
            rw [← hz1] at N1
            have hz1' : IntKind.i64.wrap (x + z) = z1 := hz1.symm
            clear hz1
            have S5 := hide (fun nq => sm_set0 hG (sm_drew (d := nq) (unhide S4)) z1)
            have hfn : ∀ f, Fence.wide.fn f = True := fun _ => rfl
            refine (wpIn_wide (n := 0)).1 ?_
            refine region_quiet 7 mixedK (by kernel_rfl) ?_
            simp only [List.take_succ_cons, List.take_zero, List.drop_succ_cons, List.drop_zero]
            repeat (gi_big_quiet_step ((refine ⟨rfl, CallsIn.quiet_of_same (callsIn_wide.2 (unhide U _))⟩)))
            refine wpQuietIn_nil ?_
            intro _ hw'
            obtain ⟨nq, rfl⟩ := hw'
            gi_wp2
            have S6 := hide (unhide S5 nq)
            have I6 : Hid (InS K M i 1 (p + (k + 1)) z1 y) := .inr (.inl ⟨rfl, unhide N1⟩)
            clear S5 N1
            go_wp2_with fail
            go_roundw
            case rel => exact ⟨1, p + (k + 1), a2, l1 - (k + 1), c1 - (k + 1), z1, y, by decide, rfl, by go_num, by omega, by omega, D1, F1, S6, I6⟩
            case measure => simp [intOf]
          · obtain rfl := hw3.symm
            have NO := hide (s0_no hic (unhide hI0) hno)
            clear hno hI0 kG
            go_wp2_with fail
            go_ret2
            exact ⟨.inr ⟨unhide NO, rfl⟩, (unhide hS).bel⟩
        · have hI0 : Hid (S1 K M i p x y) := by
            rcases unhide hI with ⟨h0, h⟩ | ⟨h0, h⟩ | ⟨h0, h⟩
            all_goals first | exact h | (exfalso; omega)
          have kG := hide (progGroups (c := c1) (unhide hd1) hc1 hb1 wr (unhide hF wr (bat_keep (unhide H) (unhide hS).bel)))
          clear hI
          go_wp2_with fail
          refine (unhide kG).mono ?_
          rintro e w3 (⟨v, k, a2, d, rfl, hv, hk, hR, ht, rfl⟩ | ⟨rfl, hno, hw3⟩)
          · have U := hide (progUnfolded hv)
            have N1 := hide (s1_next (k := k) (v := v) hic (unhide hI0) ht)
            have F1 : Hid (∀ W, BAt W a g o K → BAt W a2 g (o + (p + (k + 1))) (K.drop (p + (k + 1)))) := fun W hW => by
              have := hR W (unhide hF W hW)
              rw [List.drop_drop, Nat.add_assoc o p (k + 1)] at this
              exact this
            have D1 : Hid (l1 - (k + 1) = (K.drop (p + (k + 1))).length) := by
              show _ = _
              have := unhide hd1
              rw [List.length_drop] at this ⊢
              omega
            have S4 := hide (sm_drew (d := d) (unhide hS))
            clear hR ht kG hI0 hS hF hd1
            go_wp2_with fail
            generalize wr.drewN d = w4 at *
            generalize unfoldZ v = z at *
            obtain ⟨e0, e1, e2, e3⟩ := sm_cells (unhide S4)
            obtain ⟨z1, hz1⟩ : ∃ z1, z1 = IntKind.i64.wrap (y + z) := ⟨_, rfl⟩
            rw [← hz1] at N1
            have hz1' : IntKind.i64.wrap (y + z) = z1 := hz1.symm
            clear hz1
            have S5 := hide (fun nq => sm_set1 hG (sm_drew (d := nq) (unhide S4)) z1)
            have hfn : ∀ f, Fence.wide.fn f = True := fun _ => rfl
            refine (wpIn_wide (n := 0)).1 ?_
            refine region_quiet 7 mixedK (by kernel_rfl) ?_
            simp only [List.take_succ_cons, List.take_zero, List.drop_succ_cons, List.drop_zero]
            repeat (gi_big_quiet_step ((refine ⟨rfl, CallsIn.quiet_of_same (callsIn_wide.2 (unhide U _))⟩)))
            refine wpQuietIn_nil ?_
            intro _ hw'
            obtain ⟨nq, rfl⟩ := hw'
            gi_wp2
            have S6 := hide (unhide S5 nq)
            have I6 : Hid (InS K M i 2 (p + (k + 1)) x z1) := .inr (.inr ⟨rfl, unhide N1⟩)
            clear S5 N1
            go_wp2_with fail
            go_roundw
            case rel => exact ⟨2, p + (k + 1), a2, l1 - (k + 1), c1 - (k + 1), x, z1, by decide, rfl, by go_num, by omega, by omega, D1, F1, S6, I6⟩
            case measure => simp [intOf]
          · obtain rfl := hw3.symm
            have NO := hide (s1_no hic (unhide hI0) hno)
            clear hno hI0 kG
            go_wp2_with fail
            go_ret2
            exact ⟨.inr ⟨unhide NO, rfl⟩, (unhide hS).bel⟩
        · have hI2 : Hid (S2 K M i p x y) := by
            rcases unhide hI with ⟨h0, h⟩ | ⟨h0, h⟩ | ⟨h0, h⟩
            all_goals first | exact h | (exfalso; omega)
          clear hI
          have C2 := hide (s2_cell hic (unhide hI2))
          have N2 := hide (s2_next (unhide hI2))
          obtain ⟨e0, e1, e2, e3⟩ := sm_cells (unhide hS)
          have c0 := row_at (unhide hS).row hic
          have f0 := row_frozen (unhide hS).row i
          have S3 := hide (sm_row (i := i) hG (unhide hS) (floatOfInt .f64 x, floatOfInt .f64 y))
          have bs2 : Hid (∀ j, j < i + 1 → (upd f i (floatOfInt .f64 x, floatOfInt .f64 y) j).1 < 18446744073709551616 ∧ (upd f i (floatOfInt .f64 x, floatOfInt .f64 y) j).2 < 18446744073709551616) := upd_all (Q := fun _ c => c.1 < 18446744073709551616 ∧ c.2 < 18446744073709551616) (unhide hbs) ⟨float_lt _, float_lt _⟩
          have cs2 : Hid (∀ f', StepsOf K M f' → ∀ j, j < i + 1 → upd f i (floatOfInt .f64 x, floatOfInt .f64 y) j = f' j) := fun f' hf' => upd_all (Q := fun j c => c = f' j) (unhide hcs f' hf') (unhide C2 f' hf')
          unfold cv at c0 S3
          clear hbs hcs C2 hI2
          go_wp2_with fail
          go_roundw
          case rel => exact ⟨i + 1, p, a1, l1, c1, _, x, y, hic, rfl, by go_num, hc1, hb1, hd1, hF, S3, N2, bs2, cs2⟩
          case measure => simp [intOf]; omega
    · have q1 : ((i : Int) < (M : Int)) = False := by simp; omega
      have e : i = M := by omega
      subst e
      clear hF hI hd1
      go_wp2_with fail
      go_ret2
      exact ⟨.inl ⟨_, f, rfl, (unhide hS).row, Nat.le_refl _, unhide hbs, unhide hcs⟩, (unhide hS).bel⟩
end Go.Proofs.Ytpmbgjoilfdkaaa

namespace Go.Proofs.Ytpmbgjoilfdkaaa
open Go.RowKit Fl Ieee

/-- What is read is what everyone reads of right bytes, and right bytes are those that it is packed to. -/
def Rd (L : List Nat) (f : Nat → Nat × Nat) : Prop := (∀ f', Good L f' → ∀ j, j < side L * side L → f j = f' j) ∧ (∀ a, Sh (side L) (side L * side L) f a → byL a (side L) (side L * side L) f = L → Good L f)
theorem rd_cells {L : List Nat} {f : Nat → Nat × Nat} (hH : Head L) (h : ∀ j, j < side L * side L → CellIs L (L.getD 0 0) j (f j)) : Rd L f :=
  ⟨fun _ hg j hj => good_same hg h j hj, fun a hs he => ⟨hH, h, a, hs, he⟩⟩
theorem rd_steps {L : List Nat} {f : Nat → Nat × Nat} (hH : Head L) (hz : L.getD 0 0 = 2) (hb : ∀ j, j < side L * side L → (f j).1 < 18446744073709551616 ∧ (f j).2 < 18446744073709551616) (h : ∀ f', StepsOf (L.drop 2) (side L * side L) f' → ∀ j, j < side L * side L → f j = f' j) : Rd L f :=
  ⟨fun f' hg j hj => h f' (good_steps hg hz) j hj, fun a hs he => by
    have ha := head_byL he
    obtain rfl : a = 2 := by omega
    refine ⟨hH, fun j hj => ?_, 2, hs, he⟩
    rw [hz]
    exact cell_steps (sh_can hs).1 hb he hj⟩
theorem wide_bits {c x : Nat} (h : WideOk c x) : x < 18446744073709551616 := h.1

def RcPost (w : World) (L : List Nat) (r : Ending) (w' : World) : Prop :=
  ((∃ gz f, r = .returned (.tuple #[.slice (some ⟨gz, 0, none⟩) (side L * side L) (side L * side L), .bool true]) ∧ Row w' gz (side L * side L) f ∧ w.heap.size ≤ gz ∧ (∀ j, j < side L * side L → (f j).1 < 18446744073709551616 ∧ (f j).2 < 18446744073709551616) ∧ Rd L f) ∨ ((∀ f, ¬ Good L f) ∧ r = .returned (.tuple #[.slice none 0 0, .bool false]))) ∧ Below w.heap.size w w'

set_option maxRecDepth 100000 in
set_option maxHeartbeats 6400000 in
theorem readCellsOk {a : Option Addr} {g o c l M z : Nat} {L : List Nat} (h2 : 2 ≤ L.length) (hn1 : 1 ≤ side L) (hn2 : side L ≤ 64) (hz : L.getD 0 0 = z) (hMe : side L * side L = M) (hl : l = (L.drop 2).length) (hc : l ≤ c) (hbig : l ≤ 140737488355328) (w : World) (h : BAt w a g o (L.drop 2)) :
    Calls Try.prog 53 #[.int .i64 z, .slice a l c, .int .i64 M] w (RcPost w L) := by
  have hM : M ≤ 4096 := by rw [← hMe]; exact Nat.mul_le_mul hn2 hn2
  by_cases hz3 : z ≤ 2
  · have hH : Head L := ⟨h2, by omega, hn1, hn2⟩
    have hz' : z = 0 ∨ z = 1 ∨ z = 2 := by omega
    rcases hz' with rfl | rfl | rfl
    · have k : Hid (Calls Try.prog 59 #[.slice a l c, .int .i64 M, .func (.func 42) #[] #[]] w fun r w' => ∃ (v : Value) (t : Bool), r = .returned (.tuple #[v, .bool t]) ∧ RcPost w L r w') := by
        refine (readParts64 hM hl hc w h).mono ?_
        rintro r w' ⟨⟨he, gz, f, rfl, hR, hg, hQ⟩ | ⟨he, rfl⟩, hb⟩
        · refine ⟨_, _, rfl, .inl ⟨gz, f, by rw [hMe], by rw [hMe]; exact hR, hg, ?_, rd_cells hH ?_⟩, hb⟩
          · intro j hj
            rw [hQ j (by omega)]
            exact ⟨Nat.lt_of_lt_of_le (numB_lt h.lt _ 8) (by decide), Nat.lt_of_lt_of_le (numB_lt h.lt _ 8) (by decide)⟩
          · intro j hj
            rw [hz]
            refine .inl ⟨rfl, ?_⟩
            rw [hQ j (by omega), numB_drop, numB_drop, stU0, Nat.add_assoc]
        · refine ⟨_, _, rfl, .inr ⟨fun f hf => he ?_, rfl⟩, hb⟩
          rw [hl, good_len0 hf hz, hMe]
      clear h hl hn1 hn2 hH hMe
      go_enter Try.func53, Try.ntmps53
      go_wp2_with fail
      refine (unhide k).mono ?_
      rintro e w1 ⟨v, t, rfl, hP⟩
      have P1 := hide hP
      clear hP k
      go_wp2_with fail
      go_ret2
      exact unhide P1
    · have k : Hid (Calls Try.prog 60 #[.slice a l c, .int .i64 M, .func (.func 61) #[] #[]] w fun r w' => ∃ (v : Value) (t : Bool), r = .returned (.tuple #[v, .bool t]) ∧ RcPost w L r w') := by
        refine (readParts32 hM hl hc w h).mono ?_
        rintro r w' ⟨⟨he, gz, f, rfl, hR, hg, hQ⟩ | ⟨he, rfl⟩, hb⟩
        · refine ⟨_, _, rfl, .inl ⟨gz, f, by rw [hMe], by rw [hMe]; exact hR, hg, ?_, rd_cells hH ?_⟩, hb⟩
          · intro j hj
            have := hQ j (by omega)
            exact ⟨this.1.1, this.2.1⟩
          · intro j hj
            rw [hz]
            refine .inr (.inl ⟨rfl, ?_, ?_⟩)
            · rw [stU1, ← numB_drop]
              exact (hQ j (by omega)).1
            · rw [stU1, Nat.add_assoc, ← numB_drop]
              exact (hQ j (by omega)).2
        · refine ⟨_, _, rfl, .inr ⟨fun f hf => he ?_, rfl⟩, hb⟩
          rw [hl, good_len1 hf hz, hMe]
      clear h hl hn1 hn2 hH hMe
      go_enter Try.func53, Try.ntmps53
      go_wp2_with fail
      refine (unhide k).mono ?_
      rintro e w1 ⟨v, t, rfl, hP⟩
      have P1 := hide hP
      clear hP k
      go_wp2_with fail
      go_ret2
      exact unhide P1
    · have k : Hid (Calls Try.prog 62 #[.slice a l c, .int .i64 M] w fun r w' => ∃ (v : Value) (t : Bool), r = .returned (.tuple #[v, .bool t]) ∧ RcPost w L r w') := by
        refine (progReadSteps hM hl hc hbig w h).mono ?_
        rintro r w' ⟨⟨gz, f, rfl, hR, hg, hb2, hQ⟩ | ⟨he, rfl⟩, hb⟩
        · exact ⟨_, _, rfl, .inl ⟨gz, f, by rw [hMe], by rw [hMe]; exact hR, hg, by rw [hMe]; exact hb2, rd_steps hH hz (by rw [hMe]; exact hb2) (by rw [hMe]; exact hQ)⟩, hb⟩
        · refine ⟨_, _, rfl, .inr ⟨fun f hf => he f ?_, rfl⟩, hb⟩
          rw [← hMe]
          exact good_steps hf hz
      clear h hl hn1 hn2 hH hMe
      go_enter Try.func53, Try.ntmps53
      go_wp2_with fail
      refine (unhide k).mono ?_
      rintro e w1 ⟨v, t, rfl, hP⟩
      have P1 := hide hP
      clear hP k
      go_wp2_with fail
      go_ret2
      exact unhide P1
  · have q0 : ((z : Int) == 0) = false := by rw [beq_eq_false_iff_ne]; omega
    have q1 : ((z : Int) == 1) = false := by rw [beq_eq_false_iff_ne]; omega
    have q2 : ((z : Int) == 2) = false := by rw [beq_eq_false_iff_ne]; omega
    have NO : Hid (∀ f, ¬ Good L f) := fun f hf => by have := hf.1.way; omega
    clear h hl hn1 hn2 hMe hz
    go_enter Try.func53, Try.ntmps53
    go_wp2_with fail
    go_ret2
    exact ⟨.inr ⟨unhide NO, rfl⟩, Below.refl _ _⟩

set_option maxRecDepth 100000 in
set_option maxHeartbeats 800000 in
theorem isSideOk (n : Nat) (w : World) : Calls Try.prog 51 #[.int .i64 n] w fun r w' => ∃ t : Bool, r = .returned (.bool t) ∧ (t = true ↔ 1 ≤ n ∧ n ≤ 64) ∧ w' = w := by
  by_cases c1 : 1 ≤ n
  · have q1 : ((1 : Int) ≤ (n : Int)) = True := by simp; omega
    go_enter Try.func51, Try.ntmps51
    go_wp2_with fail
    go_ret
    refine ⟨_, rfl, ?_, rfl⟩
    simp
    omega
  · have q1 : ((1 : Int) ≤ (n : Int)) = False := by simp; omega
    go_enter Try.func51, Try.ntmps51
    go_wp2_with fail
    go_ret
    refine ⟨false, rfl, ?_, rfl⟩
    simp
    omega
end Go.Proofs.Ytpmbgjoilfdkaaa
