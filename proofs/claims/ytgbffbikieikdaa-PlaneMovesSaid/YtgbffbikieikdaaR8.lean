/- The transform of a list: weights, halves, Forward. -/
import Derived.Test.YtgbffbikieikdaaR7
namespace Go.Proofs.Ytgbffbikieikdaa
open Go.RowKit
attribute [local go_sem] store_complex

theorem laid_all {F : Nat → Nat × Nat} {l c : Nat} {xs : Nat → Nat × Nat} (i : Nat) (hi : i < 2 ^ l) : laid F 0 l c (sub xs 0 1) i = fft l c xs i := by
  unfold laid
  rw [if_pos (by omega)]
  have : sub xs 0 1 = xs := by
    funext j
    unfold sub
    rw [Nat.mul_one, Nat.zero_add]
  rw [this, Nat.sub_zero]

theorem zeros_get (n i : Nat) (hi : i < n) : (madeCells #[Value.complex .f64 0 0] n).toList[i]? = some (.complex .f64 0 0) := by
  rw [toList_madeCells_one, List.getElem?_replicate, if_pos (by omega)]

/-- Numbers whose transform is reckoned without loss of range. -/
def Nums (b n : Nat) (xs : Nat → Nat × Nat) : Prop := ∃ X : Nat → Int × Int, (∀ j, j < n → CV (xs j) (X j)) ∧ ∀ j, j < n → N2 (X j) (2 ^ b)

set_option maxHeartbeats 1600000 in
theorem byHalvesAny {c b L n gx ax gw cx : Nat} {xs : Nat → Nat × Nat} (hc : c % 2 = 1) (hb : 60 ≤ b) (hb2 : b ≤ 1900) (hL : L ≤ 12) (hn : n = 2 ^ L) (hX : Nums b n xs) (hcx : n ≤ cx) (w : World) (hx : Span w gx ax n xs) (hw : Row w gw n (wB c L)) :
    Calls Try.prog 22 #[.slice (some ⟨gx, ax, none⟩) n cx, .slice (some ⟨gw, 0, none⟩) n n] w fun e w' =>
      ∃ g, e = .returned (.slice (some ⟨g, 0, none⟩) n n) ∧ w.heap.size ≤ g ∧ Row w' g n (fft L c xs) ∧ Below w.heap.size w w' := by
  obtain ⟨i0, hi0, hz0, hz1, hz2⟩ := info_parts infoC
  have h1 := hx.lt
  have h2 := row_lt hw
  have hK : Fix c b L n w.heap.size gx gw xs := ⟨hc, hb, hb2, hL, hn, by omega, by omega, hX⟩
  have hn4 : n ≤ 4096 := by rw [hn]; exact Nat.pow_le_pow_right (n := 2) (by decide) hL
  have hA : At L n L n 1 0 0 n n cx := ⟨Nat.le_refl _, hn, Nat.mul_one _, by omega, by omega, by omega, Nat.le_refl _, hcx, hn4⟩
  have hH := hide (layAny (q := ax) hK L (fun _ => (0, 0)) 0 0 n n cx 1 n hA ax rfl 1 rfl)
  have HN := hide hn
  clear hK hX hA hn
  go_enter Try.func22, Try.ntmps22
  go_wp2_with (first
    | (at_make; refine wpList_make_full _ rfl (.tmp 7) (.tmp 7) 24 rfl w.heap.size 28 i0 (.complex .f64 0 0) 1 Try.underlying24 hi0 hz0 hz1 .i64 .i64 n n n rfl rfl rfl rfl ?c1 ?c2 ?c3 ?_))
  case c1 => rw [hz2]; omega
  case c2 => unfold maxLen; omega
  case c3 => exact Nat.le_refl _
  intro w2 hown2 hg2
  have hT := row_made hown2 (fun _ => (0, 0)) (fun i hi => zeros_get n i hi) (fun _ _ => rfl)
  have hx2 := span_grown hx hg2 (by simp)
  have hw2 := row_grown hw hg2 (by simp)
  have hC := hide (unhide hH w2 hT hx2 hw2)
  have hB := hide (grown_below hg2)
  have hs2 := hide hg2.size
  clear hT hx2 hw2 hown2 hg2 hH hx hw
  go_wp2_with fail
  refine (unhide hC).mono ?_
  rintro e w3 ⟨rfl, hR3, hg3⟩
  go_wp2_with fail
  go_ret
  exact ⟨_, rfl, Nat.le_refl _, row_ext hR3 fun i hi => laid_all i (by rw [← unhide HN]; exact hi), (unhide hB).trans (grown_below' hg3 (Nat.le_refl _) (unhide hs2))⟩

/-- The weights that the chapter calls W. -/
theorem wB_conj {L n k : Nat} (hL : L ≤ 12) (hn : n = 2 ^ L) (hk : k < n) : wB 4095 L k = (plainB (full (k * 2 ^ (12 - L))).1, plainB (negB (full (k * 2 ^ (12 - L))).2)) := by
  have hp : 2 ^ L * 2 ^ (12 - L) = 4096 := by rw [← Nat.pow_add, show L + (12 - L) = 12 by omega]
  have hlt : k * 2 ^ (12 - L) < 4096 := by
    rw [← hp, ← hn]
    exact Nat.mul_lt_mul_of_pos_right hk (Nat.two_pow_pos _)
  rw [← full_conj hlt]
  unfold wB
  rw [Nat.mul_assoc]
  generalize k * 2 ^ (12 - L) = y at hlt
  congr 1
  omega

theorem wB_plain {L n k : Nat} (hL : L ≤ 12) (hn : n = 2 ^ L) (hk : k < n) : full (k * 2 ^ (12 - L)) = wB 1 L k := by
  have hp : 2 ^ L * 2 ^ (12 - L) = 4096 := by rw [← Nat.pow_add, show L + (12 - L) = 12 by omega]
  have hlt : k * 2 ^ (12 - L) < 4096 := by
    rw [← hp, ← hn]
    exact Nat.mul_lt_mul_of_pos_right hk (Nat.two_pow_pos _)
  unfold wB
  rw [Nat.one_mul, Nat.mod_eq_of_lt hlt]

theorem table_row {L n : Nat} (hL : L ≤ 12) (hn : n = 2 ^ L) (w : World) :
    Calls Try.prog 30 #[.int .i64 n] w fun e w' => ∃ g, e = .returned (.tuple #[.slice (some ⟨g, 0, none⟩) n n, .int .i64 0]) ∧ w.heap.size ≤ g ∧ Row w' g n (wB 1 L) ∧ Below w.heap.size w w' := by
  refine (table_yes (s := 2 ^ (12 - L)) ⟨L, hL, hn, rfl⟩ w).mono ?_
  rintro e w' ⟨g, rfl, hg, hT, hB⟩
  exact ⟨g, rfl, hg, row_ext (row_of_tab hT) fun i hi => wB_plain hL hn hi, hB⟩

/-- The table's first k numbers turned into weights. -/
def turning (L k : Nat) : Nat → Nat × Nat := fun i => if i < k then wB 4095 L i else wB 1 L i

set_option maxHeartbeats 1600000 in
theorem weightsAny {L n : Nat} (hL : L ≤ 12) (hn : n = 2 ^ L) (w : World) :
    Calls Try.prog 21 #[.int .i64 n] w fun e w' => ∃ g, e = .returned (.tuple #[.slice (some ⟨g, 0, none⟩) n n, .int .i64 0]) ∧ w.heap.size ≤ g ∧ Row w' g n (wB 4095 L) ∧ Below w.heap.size w w' := by
  have hT := hide (table_row hL hn)
  have hn4 : n ≤ 4096 := by rw [hn]; exact Nat.pow_le_pow_right (n := 2) (by decide) hL
  have HN := hide hn
  clear hn
  go_enter Try.func21, Try.ntmps21
  go_wp2_with fail
  refine (unhide hT _).mono ?_
  rintro e w1 ⟨g, rfl, hg, hR, hB⟩
  have hR : Hid (Row w1 g n (turning L 0)) := row_ext hR fun i _ => by unfold turning; rw [if_neg (by omega)]
  have hB := hide hB
  have hg := hide hg
  go_wp2_with fail
  go_loopw [15] (fun ix wr => ∃ k : Nat, k ≤ n ∧ ix = .int .i64 k ∧ Hid (Row wr g n (turning L k)) ∧ Hid (Below w.heap.size w wr)) (fun ix _ => n - (intOf ix).toNat)
  case atStart => exact ⟨0, Nat.zero_le _, rfl, hR, hB⟩
  case round =>
    obtain ⟨k, hk, rfl, hRr, hBr⟩ := hrel
    by_cases hkn : k < n
    · have hI : (k : Int) < (n : Int) := by omega
      have c1 := row_at (unhide hRr) hkn
      have f1 := row_frozen (unhide hRr) k
      have hv : turning L k k = full (k * 2 ^ (12 - L)) := by
        unfold turning
        rw [if_neg (by omega), wB_plain hL (unhide HN) hkn]
      have hw := hide (wB_conj hL (unhide HN) hkn)
      rw [hv] at c1
      unfold cv at c1
      have hS := hide (fun v => row_set (unhide hRr) k v)
      generalize (full (k * 2 ^ (12 - L))).1 = x at c1 hw
      generalize (full (k * 2 ^ (12 - L))).2 = y at c1 hw
      have hRn : Hid (Row (wr.setCell ⟨g, k, none⟩ (.complex .f64 (plainB x) (plainB (negB y)))) g n (turning L (k + 1))) := by
        refine row_ext (unhide hS (plainB x, plainB (negB y))) fun i _ => ?_
        unfold upd turning
        by_cases e : i = k
        · subst e
          rw [if_pos rfl, if_pos (by omega)]
          exact (unhide hw).symm
        · rw [if_neg e]
          by_cases e2 : i < k
          · rw [if_pos e2, if_pos (by omega)]
          · rw [if_neg e2, if_neg (by omega)]
      have hBn := hide ((unhide hBr).setCell (p := ⟨g, k, none⟩) (unhide hg) (.complex .f64 (plainB x) (plainB (negB y))))
      clear hv hw hS hRr hBr hR hB
      go_wp2_with (first | (go_at_call 32; refine (conjAny _ _ _).mono ?_; rintro e w3 ⟨rfl, rfl⟩) | (go_at_call 31; refine (plain34 _ _ _).mono ?_; rintro e w3 ⟨rfl, rfl⟩))
      go_roundw
      case rel => exact ⟨k + 1, hkn, by go_num, hRn, hBn⟩
      case measure => simp [intOf]; omega
    · have hkn' : k = n := by omega
      subst hkn'
      go_wp2_with fail
      go_ret2
      exact ⟨_, rfl, unhide hg, row_ext (unhide hRr) fun i hi => by unfold turning; rw [if_pos hi], unhide hBr⟩

set_option maxHeartbeats 800000 in
theorem forwardSpan {b L n gx ax cx : Nat} {xs : Nat → Nat × Nat} (hb : 60 ≤ b) (hb2 : b ≤ 1900) (hL : L ≤ 12) (hn : n = 2 ^ L) (hX : Nums b n xs) (hcx : n ≤ cx) (w : World) (hx : Span w gx ax n xs) :
    Calls Try.prog 12 #[.slice (some ⟨gx, ax, none⟩) n cx] w fun e w' =>
      ∃ g, e = .returned (.tuple #[.slice (some ⟨g, 0, none⟩) n n, .int .i64 0]) ∧ w.heap.size ≤ g ∧ Row w' g n (fft L 4095 xs) ∧ Below w.heap.size w w' := by
  have hW := hide (weightsAny hL hn)
  have hH := hide (fun gw => byHalvesAny (c := 4095) (gx := gx) (ax := ax) (gw := gw) (by decide) hb hb2 hL hn hX hcx)
  have hx := hide hx
  clear hX hn
  go_enter Try.func12, Try.ntmps12
  go_wp2_with fail
  refine (unhide hW _).mono ?_
  rintro e w1 ⟨gw, rfl, hg, hR, hB⟩
  have hC := hide (unhide hH gw w1 (span_below (unhide hx) hB (unhide hx).lt) hR)
  have hB := hide hB
  clear hR hg hH hW
  go_wp2_with fail
  refine (unhide hC).mono ?_
  rintro e w2 ⟨g2, rfl, hg2, hR2, hB2⟩
  go_wp2_with fail
  go_ret2
  exact ⟨_, rfl, Nat.le_trans (unhide hB).size hg2, hR2, (unhide hB).trans (hB2.mono (unhide hB).size)⟩

theorem forwardAny {b L n gx cx : Nat} {xs : Nat → Nat × Nat} (hb : 60 ≤ b) (hb2 : b ≤ 1900) (hL : L ≤ 12) (hn : n = 2 ^ L) (hX : Nums b n xs) (hcx : n ≤ cx) (w : World) (hx : Row w gx n xs) :
    Calls Try.prog 12 #[.slice (some ⟨gx, 0, none⟩) n cx] w fun e w' =>
      ∃ g, e = .returned (.tuple #[.slice (some ⟨g, 0, none⟩) n n, .int .i64 0]) ∧ w.heap.size ≤ g ∧ Row w' g n (fft L 4095 xs) ∧ Below w.heap.size w w' := forwardSpan hb hb2 hL hn hX hcx w (span_row hx)
end Go.Proofs.Ytgbffbikieikdaa
