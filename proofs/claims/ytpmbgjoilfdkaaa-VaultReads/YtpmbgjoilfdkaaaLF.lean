/- The program's bytes of a field by each way. -/
import Derived.Test.YtpmbgjoilfdkaaaM4
import Derived.Test.YtpmbgjoilfdkaaaLB
import Derived.Test.YtpmbgjoilfdkaaaLC
import Derived.Test.YtpmbgjoilfdkaaaLD
import Derived.Test.YtpmbgjoilfdkaaaLE
namespace Go.Proofs.Ytpmbgjoilfdkaaa
open Go.RowKit Fl Ieee

set_option maxRecDepth 100000 in
set_option maxHeartbeats 6400000 in
theorem progWide {B n g m c : Nat} {f : Nat → Nat × Nat} {v : Value} (hm : m ≤ 4096) (w : World) (hB : B ≤ w.heap.size) (hg : g < B) (hR : Row w g m f) (hO : w.ownsRow B 5 1 v 2 (bL [0, n])) :
    Calls Try.prog 58 #[v, .slice (some ⟨g, 0, none⟩) m c] w fun r w' => ∃ v', r = .returned v' ∧ w'.ownsRow B 5 1 v' (byL 0 n m f).length (bL (byL 0 n m f)) ∧ Below B w w' := by
  have RX := hide hR
  have HO : Hid (w.ownsRow B 5 1 v (byL 0 n 0 f).length (bL (byL 0 n 0 f))) := hO
  have HB := hide hB
  have k0 := bits32
  clear hR hO hB
  go_enter Try.func58, Try.ntmps58
  go_wp2_with fail
  go_loopw [0, 9] (fun bv iv wr => ∃ i : Nat, i ≤ m ∧ iv = .int .i64 i ∧ Hid (wr.ownsRow B 5 1 bv (byL 0 n i f).length (bL (byL 0 n i f))) ∧ Hid (Below B w wr)) (fun _ iv _ => m - (intOf iv).toNat)
  case atStart => exact ⟨0, Nat.zero_le _, rfl, HO, Below.refl _ _⟩
  case round =>
    obtain ⟨i, hi, rfl, hO, hBe⟩ := hrel
    by_cases hc : i < m
    · have q1 : ((i : Int) < (m : Int)) = True := by simp; omega
      have c1 := row_at (row_below (unhide RX) (unhide hBe) hg) hc
      unfold cv at c1
      have hl := byL_len 0 n i f
      have hs : B ≤ wr.heap.size := Nat.le_trans (unhide HB) (unhide hBe).size
      have k1 := hide (write64 (x := (f i).1) (by omega) wr hs (unhide hO))
      have k2 := hide (fun v (W : World) h1 h2 => write64 (B := B) (m := (byL 0 n i f).length + 8) (x := (f i).2) (v := v) (xs := byL 0 n i f ++ highL (f i).1 8) (by omega) W h1 h2)
      have e1 : Hid (byL 0 n (i + 1) f = (byL 0 n i f ++ highL (f i).1 8) ++ highL (f i).2 8) := by
        show _ = _
        rw [byL_next, List.append_assoc]
        rfl
      have e2 : Hid ((byL 0 n (i + 1) f).length = (byL 0 n i f).length + 8 + 8) := by
        show _ = _
        rw [unhide e1]
        simp [highL_len]
      generalize (f i).1 = x1 at *
      generalize (f i).2 = x2 at *
      go_wp2_with fail
      refine (unhide k1).mono ?_
      rintro e w3 ⟨v3, rfl, O3, h3⟩
      have B3 := hide ((unhide hBe).trans h3)
      have s3 : B ≤ w3.heap.size := Nat.le_trans hs h3.size
      have k2 := hide (unhide k2 v3 w3 s3 O3)
      clear O3 h3 k1 hO hBe
      go_wp2_with fail
      refine (unhide k2).mono ?_
      rintro e w4 ⟨v4, rfl, O4, h4⟩
      have B4 := hide ((unhide B3).trans h4)
      have O4 : Hid (w4.ownsRow B 5 1 v4 (byL 0 n (i + 1) f).length (bL (byL 0 n (i + 1) f))) := by
        show World.ownsRow _ _ _ _ _ _ _
        rw [unhide e2, unhide e1]
        exact O4
      clear h4 k2 B3
      go_wp2_with fail
      go_roundw
      case rel => exact ⟨i + 1, hc, by go_num, O4, B4⟩
      case measure => simp [intOf]; omega
    · have q1 : ((i : Int) < (m : Int)) = False := by simp; omega
      have e : i = m := by omega
      subst e
      go_wp2_with fail
      go_ret
      exact ⟨_, rfl, unhide hO, unhide hBe⟩

set_option maxRecDepth 100000 in
set_option maxHeartbeats 6400000 in
theorem progNarrow {B n g m c : Nat} {f : Nat → Nat × Nat} {v : Value} (hm : m ≤ 4096) (w : World) (hB : B ≤ w.heap.size) (hg : g < B) (hR : Row w g m f) (hO : w.ownsRow B 5 1 v 2 (bL [1, n])) :
    Calls Try.prog 56 #[v, .slice (some ⟨g, 0, none⟩) m c] w fun r w' => ∃ (t : Bool) (v' : Value), r = .returned (.tuple #[v', .bool t]) ∧ (t = true ↔ Can 1 m f) ∧ (t = true → w'.ownsRow B 5 1 v' (byL 1 n m f).length (bL (byL 1 n m f))) ∧ Below B w w' := by
  have RX := hide hR
  have HO : Hid (w.ownsRow B 5 1 v (byL 1 n 0 f).length (bL (byL 1 n 0 f))) := hO
  have HB := hide hB
  have k0 := bits32n
  clear hR hO hB
  go_enter Try.func56, Try.ntmps56
  go_wp2_with fail
  go_loopw [0, 12] (fun bv iv wr => ∃ i : Nat, i ≤ m ∧ iv = .int .i64 i ∧ Hid (∀ j, j < i → CanC 1 (f j)) ∧ Hid (wr.ownsRow B 5 1 bv (byL 1 n i f).length (bL (byL 1 n i f))) ∧ Hid (Below B w wr)) (fun _ iv _ => m - (intOf iv).toNat)
  case atStart => exact ⟨0, Nat.zero_le _, rfl, fun j hj => absurd hj (Nat.not_lt_zero j), HO, Below.refl _ _⟩
  case round =>
    obtain ⟨i, hi, rfl, hCn, hO, hBe⟩ := hrel
    by_cases hc : i < m
    · have q1 : ((i : Int) < (m : Int)) = True := by simp; omega
      have c1 := row_at (row_below (unhide RX) (unhide hBe) hg) hc
      unfold cv at c1
      have hl := byL_len 1 n i f
      have hs : B ≤ wr.heap.size := Nat.le_trans (unhide HB) (unhide hBe).size
      have kN := hide (cxNarrowAll (f i).1 (f i).2 wr)
      have e0 : Hid (∀ a b, Nar (f i).1 a → Nar (f i).2 b → byL 1 n (i + 1) f = (byL 1 n i f ++ highL a 4) ++ highL b 4) := fun a b ha hb => by
        rw [byL_next, List.append_assoc]
        unfold cellL
        rw [if_neg (by decide), if_pos rfl, narB_iff.2 ha, narB_iff.2 hb]
        rfl
      have hC0 : Hid (((∃ r, Nar (f i).1 r) ∧ ∃ r, Nar (f i).2 r) ↔ CanC 1 (f i)) := by
        constructor
        · intro h; exact .inr (.inl ⟨rfl, h⟩)
        · rintro (h | ⟨_, h⟩ | ⟨h, _⟩)
          · exact absurd h (by decide)
          · exact h
          · exact absurd h (by decide)
      generalize (f i).1 = x1 at *
      generalize (f i).2 = x2 at *
      go_wp2_with fail
      refine (unhide kN).mono ?_
      rintro e w2 ⟨t, m1, m2, rfl, ht, hn2, hb2⟩
      have T := hide ht
      have N2 := hide hn2
      have B2 := hide ((unhide hBe).trans (hb2.mono hs))
      have O2 := hide (own_below (unhide hO) hb2)
      have s2 : B ≤ w2.heap.size := Nat.le_trans hs hb2.size
      clear ht hn2 kN hb2 hO hBe
      cases t
      · go_wp2_with fail
        go_ret2
        refine ⟨false, _, rfl, ⟨fun h => absurd h (by decide), fun h => ?_⟩, fun h => absurd h (by decide), unhide B2⟩
        exact (unhide T).2 ((unhide hC0).2 (h i hc))
      · obtain ⟨a1, a2⟩ := unhide N2 (by trivial)
        have l1 := nar_lt a1
        have l2 := nar_lt a2
        have e1 := hide (unhide e0 _ _ a1 a2)
        have hC1 : Hid (∀ j, j < i + 1 → CanC 1 (f j)) := fun j hj => by
          by_cases c2 : j = i
          · subst c2
            exact (unhide hC0).1 ⟨⟨_, a1⟩, ⟨_, a2⟩⟩
          · exact unhide hCn j (by omega)
        have k1 := hide (write32 (x := m1) (by omega) w2 s2 (unhide O2))
        have k2 := hide (fun v (W : World) h1 h2 => write32 (B := B) (m := (byL 1 n i f).length + 4) (x := m2) (v := v) (xs := byL 1 n i f ++ highL m1 4) (by omega) W h1 h2)
        have e2 : Hid ((byL 1 n (i + 1) f).length = (byL 1 n i f).length + 4 + 4) := by
          show _ = _
          rw [unhide e1]
          simp [highL_len]
        clear a1 a2 N2 T e0 hC0 O2
        go_wp2_with fail
        refine (unhide k1).mono ?_
        rintro e w3 ⟨v3, rfl, O3, h3⟩
        have B3 := hide ((unhide B2).trans h3)
        have s3 : B ≤ w3.heap.size := Nat.le_trans s2 h3.size
        have k2 := hide (unhide k2 v3 w3 s3 O3)
        clear O3 h3 k1 B2
        go_wp2_with fail
        refine (unhide k2).mono ?_
        rintro e w4 ⟨v4, rfl, O4, h4⟩
        have B4 := hide ((unhide B3).trans h4)
        have O4 : Hid (w4.ownsRow B 5 1 v4 (byL 1 n (i + 1) f).length (bL (byL 1 n (i + 1) f))) := by
          show World.ownsRow _ _ _ _ _ _ _
          rw [unhide e2, unhide e1]
          exact O4
        clear h4 k2 B3
        go_wp2_with fail
        go_roundw
        case rel => exact ⟨i + 1, hc, by go_num, hC1, O4, B4⟩
        case measure => simp [intOf]; omega
    · have q1 : ((i : Int) < (m : Int)) = False := by simp; omega
      have e : i = m := by omega
      subst e
      go_wp2_with fail
      go_ret2
      exact ⟨true, _, rfl, ⟨fun _ => unhide hCn, fun _ => rfl⟩, fun _ => unhide hO, unhide hBe⟩

set_option maxRecDepth 100000 in
set_option maxHeartbeats 6400000 in
theorem progSteps {B n g m c : Nat} {f : Nat → Nat × Nat} {v : Value} (hm : m ≤ 4096) (hlt : ∀ i, i < m → (f i).1 < 18446744073709551616 ∧ (f i).2 < 18446744073709551616) (w : World) (hB : B ≤ w.heap.size) (hg : g < B) (hR : Row w g m f) (hO : w.ownsRow B 5 1 v 2 (bL [2, n])) :
    Calls Try.prog 57 #[v, .slice (some ⟨g, 0, none⟩) m c] w fun r w' => ∃ (t : Bool) (v' : Value), r = .returned (.tuple #[v', .bool t]) ∧ (t = true ↔ Can 2 m f) ∧ (t = true → w'.ownsRow B 5 1 v' (byL 2 n m f).length (bL (byL 2 n m f))) ∧ Below B w w' := by
  have RX := hide hR
  have HO : Hid (w.ownsRow B 5 1 v (byL 2 n 0 f).length (bL (byL 2 n 0 f))) := hO
  have HB := hide hB
  have HL := hide hlt
  clear hR hO hB hlt
  go_enter Try.func57, Try.ntmps57
  go_wp2_with fail
  go_loopw [0, 6, 7, 14] (fun bv rv sv iv wr => ∃ i : Nat, i ≤ m ∧ iv = .int .i64 i ∧ (∃ a b : Int, rv = .int .i64 a ∧ sv = .int .i64 b ∧ a.natAbs ≤ 2147483648 ∧ b.natAbs ≤ 2147483648 ∧ Hid (a = valZ (aheadC f i).1) ∧ Hid (b = valZ (aheadC f i).2)) ∧ Hid (∀ j, j < i → CanC 2 (f j)) ∧ Hid (wr.ownsRow B 5 1 bv (byL 2 n i f).length (bL (byL 2 n i f))) ∧ Hid (Below B w wr)) (fun _ _ _ iv _ => m - (intOf iv).toNat)
  case atStart => exact ⟨0, Nat.zero_le _, rfl, ⟨0, 0, rfl, rfl, by decide, by decide, val_zero.symm, val_zero.symm⟩, fun j hj => absurd hj (Nat.not_lt_zero j), HO, Below.refl _ _⟩
  case round =>
    obtain ⟨i, hi, rfl, ⟨a, b, rfl, rfl, ha, hb, ea, eb⟩, hCn, hO, hBe⟩ := hrel
    by_cases hc : i < m
    · have q1 : ((i : Int) < (m : Int)) = True := by simp; omega
      have c1 := row_at (row_below (unhide RX) (unhide hBe) hg) hc
      unfold cv at c1
      have hl := byL_len 2 n i f
      have hs : B ≤ wr.heap.size := Nat.le_trans (unhide HB) (unhide hBe).size
      have kW := hide (cxWholeAll (f i).1 (f i).2 2147483648 (unhide HL i hc).1 (unhide HL i hc).2 (by decide) wr)
      have e0 : Hid (byL 2 n (i + 1) f = (byL 2 n i f ++ lowL (foldZ (valZ (f i).1 - a))) ++ lowL (foldZ (valZ (f i).2 - b))) := by
        show _ = _
        rw [byL_next, List.append_assoc]
        unfold cellL
        rw [if_neg (by decide), if_neg (by decide), unhide ea, unhide eb]
      have hC0 : Hid ((Wh 2147483648 (f i).1 ∧ Wh 2147483648 (f i).2) ↔ CanC 2 (f i)) := by
        constructor
        · intro h; exact .inr (.inr ⟨rfl, h⟩)
        · rintro (h | ⟨h, _⟩ | ⟨_, h⟩)
          · exact absurd h (by decide)
          · exact absurd h (by decide)
          · exact h
      have ea' : Hid (valZ (f i).1 = valZ (aheadC f (i + 1)).1) := by show _ = _; rw [ahead_next]
      have eb' : Hid (valZ (f i).2 = valZ (aheadC f (i + 1)).2) := by show _ = _; rw [ahead_next]
      generalize (f i).1 = x1 at *
      generalize (f i).2 = x2 at *
      clear ea eb
      go_wp2_with fail
      refine (unhide kW).mono ?_
      rintro e w2 ⟨t, rfl, ht, hw2⟩
      obtain rfl := hw2.symm
      have T := hide ht
      clear ht kW
      cases t
      · go_wp2_with fail
        go_ret2
        refine ⟨false, _, rfl, ⟨fun h => absurd h (by decide), fun h => ?_⟩, fun h => absurd h (by decide), unhide hBe⟩
        exact (unhide T).2 ((unhide hC0).2 (h i hc))
      · obtain ⟨a1, a2⟩ := (unhide T).1 (by trivial)
        obtain ⟨l1, v1⟩ := wh_val a1
        obtain ⟨l2, v2⟩ := wh_val a2
        have hC1 : Hid (∀ j, j < i + 1 → CanC 2 (f j)) := fun j hj => by
          by_cases c2 : j = i
          · subst c2
            exact (unhide hC0).1 ⟨a1, a2⟩
          · exact unhide hCn j (by omega)
        clear a1 a2 T hC0 hCn
        generalize valZ x1 = p1 at *
        generalize valZ x2 = p2 at *
        have r1 := fun (w : World) => run_convert_float_int (P := Try.prog) w 47 2 .f64 .i64 x1 p1 (by kernel_rfl) (by kernel_rfl) v1
        have r2 := fun (w : World) => run_convert_float_int (P := Try.prog) w 47 2 .f64 .i64 x2 p2 (by kernel_rfl) (by kernel_rfl) v2
        clear v1 v2
        have m1 : IntKind.i64.wrap (p1 - a) = p1 - a := by rw [IntKind.wrap_i64]; omega
        have m2 : IntKind.i64.wrap (p2 - b) = p2 - b := by rw [IntKind.wrap_i64]; omega
        have f1 := hide (progFolded (p1 - a) (by have : (2 : Nat) ^ 60 = 1152921504606846976 := by decide
                                                 omega))
        have f2 := hide (progFolded (p2 - b) (by have : (2 : Nat) ^ 60 = 1152921504606846976 := by decide
                                                 omega))
        have g1 := foldZ_lt (d := p1 - a) (by omega)
        have g2 := foldZ_lt (d := p2 - b) (by omega)
        have y1 := lowL_len (foldZ (p1 - a))
        have k1 := hide (progLow (x := foldZ (p1 - a)) (by omega) g1 wr hs (unhide hO))
        have k2 := hide (fun v (W : World) h1 h2 => progLow (B := B) (m := (byL 2 n i f).length + (lowL (foldZ (p1 - a))).length) (x := foldZ (p2 - b)) (v := v) (xs := byL 2 n i f ++ lowL (foldZ (p1 - a))) (by omega) g2 W h1 h2)
        have e2 : Hid ((byL 2 n (i + 1) f).length = (byL 2 n i f).length + (lowL (foldZ (p1 - a))).length + (lowL (foldZ (p2 - b))).length) := by
          show _ = _
          rw [unhide e0, List.length_append, List.length_append]
        clear g1 g2 y1
        generalize foldZ (p1 - a) = F1 at *
        generalize foldZ (p2 - b) = F2 at *
        go_wp2_with fail
        refine (unhide f1 _).mono ?_
        rintro e w2 ⟨rfl, hw⟩
        obtain rfl := hw.symm
        go_wp2_with fail
        refine (unhide k1).mono ?_
        rintro e w3 ⟨v3, rfl, O3, h3⟩
        have B3 := hide ((unhide hBe).trans h3)
        have s3 : B ≤ w3.heap.size := Nat.le_trans hs h3.size
        have k2 := hide (unhide k2 v3 w3 s3 O3)
        clear O3 h3 k1 hO hBe
        go_wp2_with fail
        refine (unhide f2 _).mono ?_
        rintro e w2 ⟨rfl, hw⟩
        obtain rfl := hw.symm
        go_wp2_with fail
        refine (unhide k2).mono ?_
        rintro e w4 ⟨v4, rfl, O4, h4⟩
        have B4 := hide ((unhide B3).trans h4)
        have O4 : Hid (w4.ownsRow B 5 1 v4 (byL 2 n (i + 1) f).length (bL (byL 2 n (i + 1) f))) := by
          show World.ownsRow _ _ _ _ _ _ _
          rw [unhide e2, unhide e0]
          exact O4
        clear h4 k2 B3
        go_wp2_with fail
        go_roundw
        case rel => exact ⟨i + 1, hc, by go_num, ⟨p1, p2, rfl, rfl, l1, l2, ea', eb'⟩, hC1, O4, B4⟩
        case measure => simp [intOf]; omega
    · have q1 : ((i : Int) < (m : Int)) = False := by simp; omega
      have e : i = m := by omega
      subst e
      go_wp2_with fail
      go_ret2
      exact ⟨true, _, rfl, ⟨fun _ => unhide hCn, fun _ => rfl⟩, fun _ => unhide hO, unhide hBe⟩
end Go.Proofs.Ytpmbgjoilfdkaaa
