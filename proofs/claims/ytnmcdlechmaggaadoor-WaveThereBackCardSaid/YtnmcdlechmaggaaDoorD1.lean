/- The transform by its definition. -/
import Derived.Test.YtnmcdlechmaggaaDoorR8
namespace Go.Proofs.YtnmcdlechmaggaaDoor
open Go.RowKit Fl
attribute [local go_sem] store_complex

/-- The weights of place k. -/
def wt (L n k : Nat) : Nat → Nat × Nat := fun j => wB 4095 L (j * k % n)

theorem dir_steps {b L n k : Nat} {xs : Nat → Nat × Nat} (hb : 60 ≤ b) (hb2 : b ≤ 1900) (hn : n ≤ 256) (hX : Nums b n xs) (j : Nat) (hj : j < n) : DirStep (dirS xs (wt L n k) j) (xs j) (wt L n k j) := by
  obtain ⟨X, h1, h2⟩ := hX
  exact (dir_near hb hb2 xs (wt L n k) X (fun j => 4095 * (j * k % n) * 2 ^ (12 - L)) n hn h1 h2 (fun j _ => rfl) j (by omega)).2 hj

set_option maxHeartbeats 1600000 in
theorem sumAny {L n k gx gw cx : Nat} {xs : Nat → Nat × Nat} (hs : ∀ j, j < n → DirStep (dirS xs (wt L n k) j) (xs j) (wt L n k j)) (hn : n ≤ 256) (hk : k < n) (w : World) (hx : Row w gx n xs) (hw : Row w gw n (wB 4095 L)) :
    Calls Tryd.prog 22 #[.int .i64 k, .slice (some ⟨gx, 0, none⟩) n cx, .slice (some ⟨gw, 0, none⟩) n n] w fun e w' =>
      e = .returned (.complex .f64 (dirS xs (wt L n k) n).1 (dirS xs (wt L n k) n).2) ∧ w' = w := by
  have cX := hide fun i (hi : i < n) => row_at hx hi
  have cW := hide fun i (hi : i < n) => row_at hw hi
  have hs := hide hs
  clear hx hw
  go_enter Tryd.func22, Tryd.ntmps22
  go_wp2_with fail
  go_loopw [7, 12] (fun sv ix wr => ∃ j : Nat, j ≤ n ∧ ix = .int .i64 j ∧ sv = .complex .f64 (dirS xs (wt L n k) j).1 (dirS xs (wt L n k) j).2 ∧ w = wr) (fun _ ix _ => n - (intOf ix).toNat)
  case atStart => exact ⟨0, Nat.zero_le _, rfl, rfl, rfl⟩
  case round =>
    obtain ⟨j, hj, rfl, rfl, rfl⟩ := hrel
    by_cases hjn : j < n
    · have hI : (j : Int) < (n : Int) := by omega
      have hm := Nat.mod_lt (j * k) (show n > 0 by omega)
      have c1 := unhide cX j hjn
      have c2 := unhide cW (j * k % n) hm
      have st := unhide hs j hjn
      have hM := hide (mul45 st.mul)
      have hA := hide (addAny st.add)
      have hN : Hid (dirS xs (wt L n k) (j + 1) = addC (dirS xs (wt L n k) j) (mulC (xs j) (wt L n k j))) := rfl
      have hu : wt L n k j = wB 4095 L (j * k % n) := rfl
      rw [hu] at hM hA hN
      clear st hu
      unfold cv at c1 c2
      have hjk : j * k ≤ 255 * 255 := Nat.mul_le_mul (by omega) (by omega)
      have hwj : IntKind.i64.wrap ((j : Int) * (k : Int)) = ((j * k : Nat) : Int) := by
        rw [← Int.natCast_mul]
        generalize j * k = y at hjk
        rw [IntKind.wrap_i64]
        omega
      have hmod : ((j * k : Nat) : Int) % (n : Int) = ((j * k % n : Nat) : Int) := rfl
      generalize j * k % n = r at c2 hm hM hA hN hmod
      generalize j * k = jk at hwj hmod hjk
      generalize mulC (xs j) (wB 4095 L r) = m at hM hA hN
      generalize wB 4095 L r = u at c2 hM
      generalize xs j = x at c1 hM
      generalize addC (dirS xs (wt L n k) j) m = a at hA hN
      have hI2 : (r : Int) < (n : Int) := by omega
      generalize hS : dirS xs (wt L n k) j = s at hA ⊢
      go_wp2_with (first | (go_at_call 37; refine (unhide hM _).mono ?_; rintro e w' ⟨rfl, rfl⟩) | (go_at_call 36; refine (unhide hA _).mono ?_; rintro e w' ⟨rfl, rfl⟩))
      exact ⟨⟨j + 1, hjn, by go_num, by rw [unhide hN], trivial⟩, by simp [intOf]; omega⟩
    · have hjn' : j = n := by omega
      subst hjn'
      go_wp2_with fail
      go_ret
      exact ⟨rfl, rfl⟩

/-- The row's first i numbers reckoned. -/
def summing (L n : Nat) (xs : Nat → Nat × Nat) (i : Nat) : Nat → Nat × Nat := fun k => if k < i then dirS xs (wt L n k) n else (0, 0)

set_option maxHeartbeats 1600000 in
theorem directAny {b L n gx cx : Nat} {xs : Nat → Nat × Nat} (hb : 60 ≤ b) (hb2 : b ≤ 1900) (hL : L ≤ 8) (hn : n = 2 ^ L) (hX : Nums b n xs) (w : World) (hx : Row w gx n xs) :
    Calls Tryd.prog 13 #[.slice (some ⟨gx, 0, none⟩) n cx] w fun e w' =>
      ∃ g, e = .returned (.tuple #[.slice (some ⟨g, 0, none⟩) n n, .int .i64 0]) ∧ w.heap.size ≤ g ∧ Row w' g n (fun k => dirS xs (wt L n k) n) ∧ Below w.heap.size w w' := by
  obtain ⟨i0, hi0, hz0, hz1, hz2⟩ := info_parts infoC
  have hW := hide (weightsAny (show L ≤ 12 by omega) hn)
  have hn4 : n ≤ 256 := by rw [hn]; exact Nat.pow_le_pow_right (n := 2) (j := 8) (by decide) hL
  have hst := hide (fun k => dir_steps (L := L) (k := k) hb hb2 hn4 hX)
  have hx := hide hx
  clear hX hn
  go_enter Tryd.func13, Tryd.ntmps13
  go_wp2_with fail
  refine (unhide hW _).mono ?_
  rintro e w1 ⟨gw, rfl, hg, hR, hB⟩
  have hR := hide hR
  have hB1 := hide hB
  have hx1 := hide (row_below (unhide hx) hB (row_lt (unhide hx)))
  clear hB hg hW
  go_wp2_with (first
    | (at_make; refine wpList_make_full _ rfl (.tmp 21) (.tmp 21) 24 rfl w1.heap.size 31 i0 (.complex .f64 0 0) 1 Tryd.underlying24 hi0 hz0 hz1 .i64 .i64 n n n rfl rfl rfl rfl ?c1 ?c2 ?c3 ?_))
  case c1 => rw [hz2]; omega
  case c2 => unfold maxLen; omega
  case c3 => exact Nat.le_refl _
  intro w2 hown2 hg2
  have hT : Hid (Row w2 w1.heap.size n (summing L n xs 0)) := row_ext (row_made hown2 (fun _ => (0, 0)) (fun i hi => zeros_get n i hi) (fun _ _ => rfl)) fun i _ => by unfold summing; rw [if_neg (by omega)]
  have hB2 := hide (grown_below hg2)
  clear hown2 hg2
  go_wp2_with fail
  go_loopw [25] (fun ix wr => ∃ k : Nat, k ≤ n ∧ ix = .int .i64 k ∧ Hid (Row wr w1.heap.size n (summing L n xs k)) ∧ Hid (Below w1.heap.size w1 wr)) (fun ix _ => n - (intOf ix).toNat)
  case atStart => exact ⟨0, Nat.zero_le _, rfl, hT, hB2⟩
  case round =>
    obtain ⟨k, hk, rfl, hRr, hBr⟩ := hrel
    by_cases hkn : k < n
    · have hI : (k : Int) < (n : Int) := by omega
      have hS := hide (sumAny (cx := cx) (unhide hst k) hn4 hkn wr (row_below (unhide hx1) (unhide hBr) (row_lt (unhide hx1))) (row_below (unhide hR) (unhide hBr) (row_lt (unhide hR))))
      have c1 := row_at (unhide hRr) hkn
      have f1 := row_frozen (unhide hRr) k
      unfold cv at c1
      have hRn : Hid (Row (wr.setCell ⟨w1.heap.size, k, none⟩ (.complex .f64 (dirS xs (wt L n k) n).1 (dirS xs (wt L n k) n).2)) w1.heap.size n (summing L n xs (k + 1))) := by
        refine row_ext (row_set (unhide hRr) k (dirS xs (wt L n k) n)) fun i _ => ?_
        unfold upd summing
        by_cases e : i = k
        · subst e
          rw [if_pos rfl, if_pos (by omega)]
        · rw [if_neg e]
          by_cases e2 : i < k
          · rw [if_pos e2, if_pos (by omega)]
          · rw [if_neg e2, if_neg (by omega)]
      have hBn := hide ((unhide hBr).setCell (p := ⟨w1.heap.size, k, none⟩) (Nat.le_refl _) (.complex .f64 (dirS xs (wt L n k) n).1 (dirS xs (wt L n k) n).2))
      generalize (dirS xs (wt L n k) n).1 = d1 at hS hRn hBn
      generalize (dirS xs (wt L n k) n).2 = d2 at hS hRn hBn
      clear hRr hBr
      go_wp2_with (first | (go_at_call 22; refine (unhide hS).mono ?_; rintro e w3 ⟨rfl, rfl⟩))
      go_roundw
      case rel => exact ⟨k + 1, hkn, by go_num, hRn, hBn⟩
      case measure => simp [intOf]; omega
    · have hkn' : k = n := by omega
      go_wp2_with fail
      go_ret2
      refine ⟨_, rfl, (unhide hB1).size, row_ext (unhide hRr) fun i hi => by unfold summing; rw [if_pos (by omega)], (unhide hB1).trans ((unhide hBr).mono (unhide hB1).size)⟩
end Go.Proofs.YtnmcdlechmaggaaDoor
