/- The document's bytes of a field by the way 0. The document's bytes of a field by the way 1. The document's bytes of a field by the way 2. -/
import Derived.Test.YtfklhipjccempaaKP
namespace Go.Proofs.Ytfklhipjccempaa
open Go.RowKit Fl Ieee

/-- What is asked of the bytes by a way. -/
def ByOk (fn way : Nat) : Prop := ∀ (n g m c : Nat) (f : Nat → Nat × Nat) (w : World), n ≤ 64 → m ≤ 4096 → (∀ i, i < m → (f i).1 < 18446744073709551616 ∧ (f i).2 < 18446744073709551616) → Row w g m f →
  Calls Try.prog fn #[fieldV n g m c, .int .i64 way] w fun r w' => ∃ (t : Bool) (v : Value), r = .returned (.tuple #[v, .bool t]) ∧ (t = true ↔ Can way m f) ∧ (t = true → w'.ownsRow w.heap.size 5 1 v (byL way n m f).length (bL (byL way n m f))) ∧ Below w.heap.size w w'

theorem own_less {w : World} {B C n : Nat} {v : Value} {xs : List Value} (h : w.ownsRow B 5 1 v n xs) (hC : C ≤ B) : w.ownsRow C 5 1 v n xs := by
  refine ⟨h.1, ?_⟩
  rcases h.2 with h1 | ⟨g, cap, cur, h1, h2, h3⟩
  · exact .inl h1
  · exact .inr ⟨g, cap, cur, h1, Nat.le_trans hC h2, h3⟩

theorem byL_next {way n i : Nat} {f : Nat → Nat × Nat} : byL way n (i + 1) f = byL way n i f ++ cellL way (aheadC f i) (f i) := by
  unfold byL
  rw [cellsL, List.append_assoc]
theorem byL_len (way n m : Nat) (f : Nat → Nat × Nat) : (byL way n m f).length ≤ 2 + 130 * m := by
  unfold byL
  have := cellsL_len way f m
  simp
  omega

/-- The box of a field, and what lies below it. -/
def box (w : World) (n g m c : Nat) : World := w.alloc (.cells #[.int .i64 n, .slice (some ⟨g, 0, none⟩) m c] 26)
theorem box_size (w : World) (n g m c : Nat) : (box w n g m c).heap.size = w.heap.size + 1 := World.size_alloc _ _
theorem box_cells {w wr : World} {n g m c : Nat} (h : Below (w.heap.size + 1) (box w n g m c) wr) : wr.cell? ⟨w.heap.size, 0, none⟩ = some (.int .i64 n) ∧ wr.cell? ⟨w.heap.size, 1, none⟩ = some (.slice (some ⟨g, 0, none⟩) m c) := by
  refine ⟨(h.cell (p := ⟨w.heap.size, 0, none⟩) (by show w.heap.size < _; omega)).trans ?_, (h.cell (p := ⟨w.heap.size, 1, none⟩) (by show w.heap.size < _; omega)).trans ?_⟩
  · unfold box; simp
  · unfold box; simp
theorem box_row {w wr : World} {n g m c k : Nat} {f : Nat → Nat × Nat} (h : Below (w.heap.size + 1) (box w n g m c) wr) (hR : Row w g k f) : Row wr g k f := by
  have hl := row_lt hR
  refine row_keep (row_keep hR (Below.heap_alloc w (.cells #[.int .i64 n, .slice (some ⟨g, 0, none⟩) m c] 26) g hl)) (h.block g (by omega))
theorem box_below {w wr : World} {n g m c : Nat} (h : Below (w.heap.size + 1) (box w n g m c) wr) : Below w.heap.size w wr :=
  ((Below.refl _ w).alloc (Nat.le_refl _) (.cells #[.int .i64 n, .slice (some ⟨g, 0, none⟩) m c] 26)).trans (h.mono (by omega))

set_option maxRecDepth 100000 in
set_option maxHeartbeats 6400000 in
theorem refBy0 : ByOk 22 0 := by
  intro n g m c f w hn hm _ hR
  have RX := hide hR
  have hgl := row_lt hR
  have n1 : IntKind.u8.wrap (n : Int) = (n : Int) := byte2 n (by omega)
  have n2 : (n : Int) % 256 = (n : Int) := by omega
  have k0 := bits32
  clear hR
  unfold fieldV
  go_enter Try.func22, Try.ntmps22
  go_wp2_with fail
  have O0 : Hid (((box w n g m c).alloc (.cells #[.int .u8 0, .int .u8 n] 5)).ownsRow (w.heap.size + 1) 5 1 (.slice (some ⟨w.heap.size + 1, 0, none⟩) 2 2) (byL 0 n 0 f).length (bL (byL 0 n 0 f))) := by
    have := two_own (w := box w n g m c) (B := w.heap.size + 1) (by rw [box_size]; exact Nat.le_refl _) 0 n
    rw [box_size] at this
    exact this
  have B0 : Hid (Below (w.heap.size + 1) (box w n g m c) ((box w n g m c).alloc (.cells #[.int .u8 0, .int .u8 n] 5))) := (Below.refl _ _).alloc (by rw [box_size]; exact Nat.le_refl _) _
  go_loopw [6, 9] (fun bv iv wr => ∃ i : Nat, i ≤ m ∧ iv = .int .i64 i ∧ Hid (wr.ownsRow (w.heap.size + 1) 5 1 bv (byL 0 n i f).length (bL (byL 0 n i f))) ∧ Hid (Below (w.heap.size + 1) (box w n g m c) wr)) (fun _ iv _ => m - (intOf iv).toNat)
  case atStart => exact ⟨0, Nat.zero_le _, rfl, O0, B0⟩
  case round =>
    clear O0 B0
    obtain ⟨i, hi, rfl, hO, hB⟩ := hrel
    obtain ⟨b1, b2⟩ := box_cells (unhide hB)
    by_cases hc : i < m
    · have q1 : ((i : Int) < (m : Int)) = True := by simp; omega
      have c1 := row_at (box_row (unhide hB) (unhide RX)) hc
      unfold cv at c1
      have hl := byL_len 0 n i f
      have hs : w.heap.size + 1 ≤ wr.heap.size := by have := (unhide hB).size; rw [box_size] at this; exact this
      have k1 := hide (refHigh (x := (f i).1) (n := 8) (by decide) (by omega) wr hs (unhide hO))
      have k2 := hide (fun v (W : World) h1 h2 => refHigh (B := w.heap.size + 1) (m := (byL 0 n i f).length + 8) (x := (f i).2) (n := 8) (v := v) (xs := byL 0 n i f ++ highL (f i).1 8) (by decide) (by omega) W h1 h2)
      have e1 : Hid (byL 0 n (i + 1) f = (byL 0 n i f ++ highL (f i).1 8) ++ highL (f i).2 8) := by
        show _ = _
        rw [byL_next, List.append_assoc]
        rfl
      have e2 : Hid ((byL 0 n (i + 1) f).length = (byL 0 n i f).length + 8 + 8) := by
        show _ = _
        rw [unhide e1]
        simp [highL_len]
      generalize (f i).1 = x1 at *
      generalize (f i).2 = x2 at *
      go_wp2_with fail
      refine (unhide k1).mono ?_
      rintro e w3 ⟨v3, rfl, O3, h3⟩
      have B3 := hide ((unhide hB).trans h3)
      have s3 : w.heap.size + 1 ≤ w3.heap.size := Nat.le_trans hs h3.size
      have k2 := hide (unhide k2 v3 w3 s3 O3)
      clear O3 h3 k1 hO hB
      go_wp2_with fail
      refine (unhide k2).mono ?_
      rintro e w4 ⟨v4, rfl, O4, h4⟩
      have B4 := hide ((unhide B3).trans h4)
      have O4 : Hid (w4.ownsRow (w.heap.size + 1) 5 1 v4 (byL 0 n (i + 1) f).length (bL (byL 0 n (i + 1) f))) := by
        show World.ownsRow _ _ _ _ _ _ _
        rw [unhide e2, unhide e1]
        exact O4
      clear h4 k2 B3
      go_wp2_with fail
      go_roundw
      case rel => exact ⟨_, _, _, _, _, _, _, _, _, _, _, _, _, _, _, _, _, _, _, _, _, _, _, _, _, _, _, _, _, _, _, _, _, _, _, _, _, _, _, _, _, _, _, _, _, _, _, _, _, _, _, _, _, _, _, _, _, _, _, _, _, _, _, _, _, _, _, _, _, _, _, _, _, _, _, _, _, _, _, _, ⟨i + 1, hc, by go_num, O4, B4⟩, rfl⟩
      case measure => simp [intOf]; omega
    · have q1 : ((i : Int) < (m : Int)) = False := by simp; omega
      have e : i = m := by omega
      subst e
      go_wp2_with fail
      go_ret2
      exact ⟨true, _, rfl, ⟨fun _ => fun _ _ => .inl rfl, fun _ => rfl⟩, fun _ => own_less (unhide hO) (by omega), box_below (unhide hB)⟩
end Go.Proofs.Ytfklhipjccempaa

namespace Go.Proofs.Ytfklhipjccempaa
open Go.RowKit Fl Ieee

theorem bits32n (b : Nat) (w : World) : (callFunc 32 #[.float .f32 b]).run Try.prog w = .ok (.value (.int .u32 b)) w := by
  rw [run_callFunc_extern (e := Extern.MathFloatBits.float32bits) Try.func32 (by kernel_rfl) (by kernel_rfl) (by kernel_rfl) (by kernel_rfl)]
  rfl
theorem nar_lt {x r : Nat} (h : Nar x r) : r < 4294967296 := by
  have h1 := h.1
  unfold floatToFloatBits at h1
  rw [if_neg (by decide)] at h1
  split at h1
  · cases h1
  · cases h1; exact single.write_lt _
  · split at h1
    · cases h1
    · cases h1; exact single.write_lt _
theorem own_drewN {w : World} {B n d : Nat} {v : Value} {xs : List Value} (h : w.ownsRow B 5 1 v n xs) : (w.drewN d).ownsRow B 5 1 v n xs := h
theorem below_dn {B d : Nat} {w w' : World} (h : Below B w w') : Below B w (w'.drewN d) := ⟨h.os, h.tape, h.output, h.size, h.block⟩

set_option maxRecDepth 100000 in
set_option maxHeartbeats 6400000 in
theorem refBy1 : ByOk 22 1 := by
  intro n g m c f w hn hm _ hR
  have RX := hide hR
  have hgl := row_lt hR
  have n1 : IntKind.u8.wrap (n : Int) = (n : Int) := byte2 n (by omega)
  have n2 : (n : Int) % 256 = (n : Int) := by omega
  have k0 := bits32n
  clear hR
  unfold fieldV
  go_enter Try.func22, Try.ntmps22
  go_wp2_with fail
  have O0 : Hid (((box w n g m c).alloc (.cells #[.int .u8 1, .int .u8 n] 5)).ownsRow (w.heap.size + 1) 5 1 (.slice (some ⟨w.heap.size + 1, 0, none⟩) 2 2) (byL 1 n 0 f).length (bL (byL 1 n 0 f))) := by
    have := two_own (w := box w n g m c) (B := w.heap.size + 1) (by rw [box_size]; exact Nat.le_refl _) 1 n
    rw [box_size] at this
    exact this
  have B0 : Hid (Below (w.heap.size + 1) (box w n g m c) ((box w n g m c).alloc (.cells #[.int .u8 1, .int .u8 n] 5))) := (Below.refl _ _).alloc (by rw [box_size]; exact Nat.le_refl _) _
  go_loopw [6, 9] (fun bv iv wr => ∃ i : Nat, i ≤ m ∧ iv = .int .i64 i ∧ Hid (∀ j, j < i → CanC 1 (f j)) ∧ Hid (wr.ownsRow (w.heap.size + 1) 5 1 bv (byL 1 n i f).length (bL (byL 1 n i f))) ∧ Hid (Below (w.heap.size + 1) (box w n g m c) wr)) (fun _ iv _ => m - (intOf iv).toNat)
  case atStart => exact ⟨0, Nat.zero_le _, rfl, fun j hj => absurd hj (Nat.not_lt_zero j), O0, B0⟩
  case round =>
    clear O0 B0
    obtain ⟨i, hi, rfl, hCn, hO, hB⟩ := hrel
    obtain ⟨b1, b2⟩ := box_cells (unhide hB)
    by_cases hc : i < m
    · have q1 : ((i : Int) < (m : Int)) = True := by simp; omega
      have c1 := row_at (box_row (unhide hB) (unhide RX)) hc
      unfold cv at c1
      have hl := byL_len 1 n i f
      have hs : w.heap.size + 1 ≤ wr.heap.size := by have := (unhide hB).size; rw [box_size] at this; exact this
      have kN := hide (refNarrow (f i).1 (f i).2 wr)
      have e0 : Hid (∀ a b, Nar (f i).1 a → Nar (f i).2 b → byL 1 n (i + 1) f = (byL 1 n i f ++ highL a 4) ++ highL b 4) := fun a b ha hb => by
        rw [byL_next, List.append_assoc]
        unfold cellL
        rw [if_neg (by decide), if_pos rfl, narB_iff.2 ha, narB_iff.2 hb]
        rfl
      have hC0 : Hid (((∃ r, Nar (f i).1 r) ∧ ∃ r, Nar (f i).2 r) ↔ CanC 1 (f i)) := by
        constructor
        · intro h; exact .inr (.inl ⟨rfl, h⟩)
        · rintro (h | ⟨_, h⟩ | ⟨h, _⟩)
          · exact absurd h (by decide)
          · exact h
          · exact absurd h (by decide)
      generalize (f i).1 = x1 at *
      generalize (f i).2 = x2 at *
      go_wp2_with fail
      refine (unhide kN).mono ?_
      rintro e w2 ⟨t, m1, m2, d, rfl, ht, hn2, rfl⟩
      have T := hide ht
      have N2 := hide hn2
      clear ht hn2 kN
      cases t
      · go_wp2_with fail
        go_ret2
        refine ⟨false, _, rfl, ⟨fun h => absurd h (by decide), fun h => ?_⟩, fun h => absurd h (by decide), below_dn (box_below (unhide hB))⟩
        exact (unhide T).2 ((unhide hC0).2 (h i hc))
      · obtain ⟨a1, a2⟩ := unhide N2 (by trivial)
        have l1 := nar_lt a1
        have l2 := nar_lt a2
        have e1 := hide (unhide e0 _ _ a1 a2)
        have hC1 : Hid (∀ j, j < i + 1 → CanC 1 (f j)) := fun j hj => by
          by_cases c2 : j = i
          · subst c2
            exact (unhide hC0).1 ⟨⟨_, a1⟩, ⟨_, a2⟩⟩
          · exact unhide hCn j (by omega)
        have k1 := hide (refHigh (x := m1) (n := 4) (by decide) (by omega) (wr.drewN d) hs (own_drewN (unhide hO)))
        have k2 := hide (fun v (W : World) h1 h2 => refHigh (B := w.heap.size + 1) (m := (byL 1 n i f).length + 4) (x := m2) (n := 4) (v := v) (xs := byL 1 n i f ++ highL m1 4) (by decide) (by omega) W h1 h2)
        have e2 : Hid ((byL 1 n (i + 1) f).length = (byL 1 n i f).length + 4 + 4) := by
          show _ = _
          rw [unhide e1]
          simp [highL_len]
        clear a1 a2 N2 T e0 hC0
        go_wp2_with fail
        refine (unhide k1).mono ?_
        rintro e w3 ⟨v3, rfl, O3, h3⟩
        have B3 := hide ((below_dn (d := d) (unhide hB)).trans h3)
        have s3 : w.heap.size + 1 ≤ w3.heap.size := Nat.le_trans hs h3.size
        have k2 := hide (unhide k2 v3 w3 s3 O3)
        clear O3 h3 k1 hO hB
        go_wp2_with fail
        refine (unhide k2).mono ?_
        rintro e w4 ⟨v4, rfl, O4, h4⟩
        have B4 := hide ((unhide B3).trans h4)
        have O4 : Hid (w4.ownsRow (w.heap.size + 1) 5 1 v4 (byL 1 n (i + 1) f).length (bL (byL 1 n (i + 1) f))) := by
          show World.ownsRow _ _ _ _ _ _ _
          rw [unhide e2, unhide e1]
          exact O4
        clear h4 k2 B3
        go_wp2_with fail
        go_roundw
        case rel => exact ⟨_, _, _, _, _, _, _, _, _, _, _, _, _, _, _, _, _, _, _, _, _, _, _, _, _, _, _, _, _, _, _, _, _, _, _, _, _, _, _, _, _, _, _, _, _, _, _, _, _, _, _, _, _, _, _, _, _, _, _, _, _, _, _, _, _, _, _, _, _, _, _, _, _, _, _, _, _, _, _, _, ⟨i + 1, hc, by go_num, hC1, O4, B4⟩, rfl⟩
        case measure => simp [intOf]; omega
    · have q1 : ((i : Int) < (m : Int)) = False := by simp; omega
      have e : i = m := by omega
      subst e
      go_wp2_with fail
      go_ret2
      exact ⟨true, _, rfl, ⟨fun _ => unhide hCn, fun _ => rfl⟩, fun _ => own_less (unhide hO) (by omega), box_below (unhide hB)⟩
end Go.Proofs.Ytfklhipjccempaa

namespace Go.Proofs.Ytfklhipjccempaa
open Go.RowKit Fl Ieee

theorem val_zero : valZ 0 = 0 := valZ_iv iv_zero
theorem wh_val {b : Nat} (h : Wh 2147483648 b) : (valZ b).natAbs ≤ 2147483648 ∧ floatToIntVal .f64 b .i64 = some (valZ b) := by
  obtain ⟨n, hn, _, hle⟩ := h
  rw [valZ_iv hn]
  refine ⟨hle, ?_⟩
  unfold floatToIntVal
  rw [iv_toInt hn]
  dsimp only
  rw [if_pos ⟨by show -9223372036854775808 ≤ _; omega, by show _ ≤ 9223372036854775807; omega⟩]
theorem ahead_next (f : Nat → Nat × Nat) (i : Nat) : aheadC f (i + 1) = f i := by unfold aheadC; rw [if_neg (by omega)]; rfl
theorem foldZ_lt {d : Int} (h : d.natAbs ≤ 4294967296) : foldZ d < 2 ^ 64 := by
  have e : (2 : Nat) ^ 64 = 18446744073709551616 := by decide
  rw [e]
  unfold foldZ
  split <;> omega

set_option maxRecDepth 100000 in
set_option maxHeartbeats 6400000 in
theorem refBy2 : ByOk 22 2 := by
  intro n g m c f w hn hm hlt hR
  have RX := hide hR
  have hgl := row_lt hR
  have n1 : IntKind.u8.wrap (n : Int) = (n : Int) := byte2 n (by omega)
  have n2 : (n : Int) % 256 = (n : Int) := by omega
  have HL := hide hlt
  clear hR hlt
  unfold fieldV
  go_enter Try.func22, Try.ntmps22
  go_wp2_with fail
  have O0 : Hid (((box w n g m c).alloc (.cells #[.int .u8 2, .int .u8 n] 5)).ownsRow (w.heap.size + 1) 5 1 (.slice (some ⟨w.heap.size + 1, 0, none⟩) 2 2) (byL 2 n 0 f).length (bL (byL 2 n 0 f))) := by
    have := two_own (w := box w n g m c) (B := w.heap.size + 1) (by rw [box_size]; exact Nat.le_refl _) 2 n
    rw [box_size] at this
    exact this
  have B0 : Hid (Below (w.heap.size + 1) (box w n g m c) ((box w n g m c).alloc (.cells #[.int .u8 2, .int .u8 n] 5))) := (Below.refl _ _).alloc (by rw [box_size]; exact Nat.le_refl _) _
  go_loopw [6, 7, 8, 9] (fun bv rv sv iv wr => ∃ i : Nat, i ≤ m ∧ iv = .int .i64 i ∧ (∃ a b : Int, rv = .int .i64 a ∧ sv = .int .i64 b ∧ a.natAbs ≤ 2147483648 ∧ b.natAbs ≤ 2147483648 ∧ Hid (a = valZ (aheadC f i).1) ∧ Hid (b = valZ (aheadC f i).2)) ∧ Hid (∀ j, j < i → CanC 2 (f j)) ∧ Hid (wr.ownsRow (w.heap.size + 1) 5 1 bv (byL 2 n i f).length (bL (byL 2 n i f))) ∧ Hid (Below (w.heap.size + 1) (box w n g m c) wr)) (fun _ _ _ iv _ => m - (intOf iv).toNat)
  case atStart => exact ⟨0, Nat.zero_le _, rfl, ⟨0, 0, rfl, rfl, by decide, by decide, val_zero.symm, val_zero.symm⟩, fun j hj => absurd hj (Nat.not_lt_zero j), O0, B0⟩
  case round =>
    clear O0 B0
    obtain ⟨i, hi, rfl, ⟨a, b, rfl, rfl, ha, hb, ea, eb⟩, hCn, hO, hB⟩ := hrel
    obtain ⟨b1, b2⟩ := box_cells (unhide hB)
    by_cases hc : i < m
    · have q1 : ((i : Int) < (m : Int)) = True := by simp; omega
      have c1 := row_at (box_row (unhide hB) (unhide RX)) hc
      unfold cv at c1
      have hl := byL_len 2 n i f
      have hs : w.heap.size + 1 ≤ wr.heap.size := by have := (unhide hB).size; rw [box_size] at this; exact this
      have kW := hide (refWhole (f i).1 (f i).2 2147483648 (unhide HL i hc).1 (unhide HL i hc).2 (by decide) wr)
      have e0 : Hid (byL 2 n (i + 1) f = (byL 2 n i f ++ lowL (foldZ (valZ (f i).1 - a))) ++ lowL (foldZ (valZ (f i).2 - b))) := by
        show _ = _
        rw [byL_next, List.append_assoc]
        unfold cellL
        rw [if_neg (by decide), if_neg (by decide), unhide ea, unhide eb]
      have hC0 : Hid ((Wh 2147483648 (f i).1 ∧ Wh 2147483648 (f i).2) ↔ CanC 2 (f i)) := by
        constructor
        · intro h; exact .inr (.inr ⟨rfl, h⟩)
        · rintro (h | ⟨h, _⟩ | ⟨_, h⟩)
          · exact absurd h (by decide)
          · exact absurd h (by decide)
          · exact h
      have ea' : Hid (valZ (f i).1 = valZ (aheadC f (i + 1)).1) := by show _ = _; rw [ahead_next]
      have eb' : Hid (valZ (f i).2 = valZ (aheadC f (i + 1)).2) := by show _ = _; rw [ahead_next]
      generalize (f i).1 = x1 at *
      generalize (f i).2 = x2 at *
      clear ea eb
      go_wp2_with fail
      refine (unhide kW).mono ?_
      rintro e w2 ⟨t, d, rfl, ht, rfl⟩
      have T := hide ht
      clear ht kW
      cases t
      · go_wp2_with fail
        go_ret2
        refine ⟨false, _, rfl, ⟨fun h => absurd h (by decide), fun h => ?_⟩, fun h => absurd h (by decide), below_dn (box_below (unhide hB))⟩
        exact (unhide T).2 ((unhide hC0).2 (h i hc))
      · obtain ⟨a1, a2⟩ := (unhide T).1 (by trivial)
        obtain ⟨l1, v1⟩ := wh_val a1
        obtain ⟨l2, v2⟩ := wh_val a2
        have hC1 : Hid (∀ j, j < i + 1 → CanC 2 (f j)) := fun j hj => by
          by_cases c2 : j = i
          · subst c2
            exact (unhide hC0).1 ⟨a1, a2⟩
          · exact unhide hCn j (by omega)
        clear a1 a2 T hC0 hCn
        generalize valZ x1 = p1 at *
        generalize valZ x2 = p2 at *
        have r1 := fun (w : World) => run_convert_float_int (P := Try.prog) w 39 3 .f64 .i64 x1 p1 (by kernel_rfl) (by kernel_rfl) v1
        have r2 := fun (w : World) => run_convert_float_int (P := Try.prog) w 39 3 .f64 .i64 x2 p2 (by kernel_rfl) (by kernel_rfl) v2
        clear v1 v2
        have m1 : IntKind.i64.wrap (p1 - a) = p1 - a := by rw [IntKind.wrap_i64]; omega
        have m2 : IntKind.i64.wrap (p2 - b) = p2 - b := by rw [IntKind.wrap_i64]; omega
        have f1 := hide (refFolded (p1 - a) (by have : (2 : Nat) ^ 60 = 1152921504606846976 := by decide
                                                omega))
        have f2 := hide (refFolded (p2 - b) (by have : (2 : Nat) ^ 60 = 1152921504606846976 := by decide
                                                omega))
        have g1 := foldZ_lt (d := p1 - a) (by omega)
        have g2 := foldZ_lt (d := p2 - b) (by omega)
        have y1 := lowL_len (foldZ (p1 - a))
        have k1 := hide (refLow (x := foldZ (p1 - a)) (by omega) g1 (wr.drewN d) hs (own_drewN (unhide hO)))
        have k2 := hide (fun v (W : World) h1 h2 => refLow (B := w.heap.size + 1) (m := (byL 2 n i f).length + (lowL (foldZ (p1 - a))).length) (x := foldZ (p2 - b)) (v := v) (xs := byL 2 n i f ++ lowL (foldZ (p1 - a))) (by omega) g2 W h1 h2)
        have e2 : Hid ((byL 2 n (i + 1) f).length = (byL 2 n i f).length + (lowL (foldZ (p1 - a))).length + (lowL (foldZ (p2 - b))).length) := by
          show _ = _
          rw [unhide e0, List.length_append, List.length_append]
        clear g1 g2 y1
        generalize foldZ (p1 - a) = F1 at *
        generalize foldZ (p2 - b) = F2 at *
        go_wp2_with fail
        refine (unhide f1 _).mono ?_
        rintro e w2 ⟨rfl, hw⟩
        obtain rfl := hw.symm
        go_wp2_with fail
        refine (unhide k1).mono ?_
        rintro e w3 ⟨v3, rfl, O3, h3⟩
        have B3 := hide ((below_dn (d := d) (unhide hB)).trans h3)
        have s3 : w.heap.size + 1 ≤ w3.heap.size := Nat.le_trans hs h3.size
        have k2 := hide (unhide k2 v3 w3 s3 O3)
        clear O3 h3 k1 hO hB
        go_wp2_with fail
        refine (unhide f2 _).mono ?_
        rintro e w2 ⟨rfl, hw⟩
        obtain rfl := hw.symm
        go_wp2_with fail
        refine (unhide k2).mono ?_
        rintro e w4 ⟨v4, rfl, O4, h4⟩
        have B4 := hide ((unhide B3).trans h4)
        have O4 : Hid (w4.ownsRow (w.heap.size + 1) 5 1 v4 (byL 2 n (i + 1) f).length (bL (byL 2 n (i + 1) f))) := by
          show World.ownsRow _ _ _ _ _ _ _
          rw [unhide e2, unhide e0]
          exact O4
        clear h4 k2 B3
        go_wp2_with fail
        go_roundw
        case rel => exact ⟨_, _, _, _, _, _, _, _, _, _, _, _, _, _, _, _, _, _, _, _, _, _, _, _, _, _, _, _, _, _, _, _, _, _, _, _, _, _, _, _, _, _, _, _, _, _, _, _, _, _, _, _, _, _, _, _, _, _, _, _, _, _, _, _, _, _, _, _, _, _, _, _, _, _, _, _, _, _, _, _, ⟨i + 1, hc, by go_num, ⟨p1, p2, rfl, rfl, l1, l2, ea', eb'⟩, hC1, O4, B4⟩, rfl⟩
        case measure => simp [intOf]; omega
    · have q1 : ((i : Int) < (m : Int)) = False := by simp; omega
      have e : i = m := by omega
      subst e
      go_wp2_with fail
      go_ret2
      exact ⟨true, _, rfl, ⟨fun _ => unhide hCn, fun _ => rfl⟩, fun _ => own_less (unhide hO) (by omega), box_below (unhide hB)⟩
end Go.Proofs.Ytfklhipjccempaa
