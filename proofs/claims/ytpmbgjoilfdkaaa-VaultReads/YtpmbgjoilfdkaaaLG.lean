/- The program's bytes of a field by a way; the shortest. -/
import Derived.Test.YtpmbgjoilfdkaaaLF
import Derived.Laws.Cover3
namespace Go.Proofs.Ytpmbgjoilfdkaaa
open Go.RowKit Fl Ieee

theorem eq_nil (t e : TypeId) (h : Try.prog.underlying t = some (.slice e)) (a : Option Addr) (l c : Nat) (w : World) : (binOp .eql t (.slice a l c) (.slice none 0 0)).run Try.prog w = .ok (.bool a.isNone) w := by
  simp [binOp, run_equal_slice_nil w t e a l c h]
theorem eq_nil0 (w : World) : (binOp .eql 22 (.slice none 0 0) (.slice none 0 0)).run Try.prog w = .ok (.bool true) w := eq_nil _ _ Try.underlying22 none 0 0 w
theorem eq_nil1 (b : Addr) (l c : Nat) (w : World) : (binOp .eql 22 (.slice (some b) l c) (.slice none 0 0)).run Try.prog w = .ok (.bool false) w := eq_nil _ _ Try.underlying22 (some b) l c w
theorem box_head {w : World} {n g m c : Nat} (x : Nat) : ((box w n g m c).alloc (.cells #[.int .u8 x, .int .u8 n] 5)).ownsRow (w.heap.size + 1) 5 1 (.slice (some ⟨w.heap.size + 1, 0, none⟩) 2 2) 2 (bL [x, n]) := by
  have := two_own (w := box w n g m c) (B := w.heap.size + 1) (by rw [box_size]; exact Nat.le_refl _) x n
  rw [box_size] at this
  exact this
theorem box_two {w : World} {n g m c : Nat} (o : Obj) : Below (w.heap.size + 1) (box w n g m c) ((box w n g m c).alloc o) := (Below.refl _ _).alloc (by rw [box_size]; exact Nat.le_refl _) _

set_option maxRecDepth 100000 in
set_option maxHeartbeats 6400000 in
theorem progBy0 : ByOk 52 0 := by
  intro n g m c f w hn hm _ hR
  have n1 : IntKind.u8.wrap (n : Int) = (n : Int) := byte2 n (by omega)
  have n2 : (n : Int) % 256 = (n : Int) := by omega
  have B0 : Below (w.heap.size + 1) (box w n g m c) ((box w n g m c).alloc (.cells #[.int .u8 0, .int .u8 n] 5)) := box_two _
  have sz : w.heap.size + 1 ≤ ((box w n g m c).alloc (.cells #[.int .u8 0, .int .u8 n] 5)).heap.size := by rw [World.size_alloc, box_size]; omega
  have k := hide (progWide (c := c) (n := n) hm ((box w n g m c).alloc (.cells #[.int .u8 0, .int .u8 n] 5)) sz (by have := row_lt hR; omega) (box_row B0 hR) (box_head 0))
  have BB := hide B0
  obtain ⟨b1, b2⟩ := box_cells B0
  clear B0 hR sz
  unfold fieldV
  go_enter Try.func52, Try.ntmps52
  go_wp2_with fail
  refine (unhide k).mono ?_
  rintro e w3 ⟨v3, rfl, O3, h3⟩
  have B3 := hide (box_below ((unhide BB).trans h3))
  have O3 := hide (own_less O3 (Nat.le_succ w.heap.size))
  clear h3 k BB
  go_wp2_with fail
  go_ret2
  exact ⟨true, _, rfl, ⟨fun _ => fun _ _ => .inl rfl, fun _ => rfl⟩, fun _ => unhide O3, unhide B3⟩

set_option maxRecDepth 100000 in
set_option maxHeartbeats 6400000 in
theorem progBy1 : ByOk 52 1 := by
  intro n g m c f w hn hm _ hR
  have n1 : IntKind.u8.wrap (n : Int) = (n : Int) := byte2 n (by omega)
  have n2 : (n : Int) % 256 = (n : Int) := by omega
  have B0 : Below (w.heap.size + 1) (box w n g m c) ((box w n g m c).alloc (.cells #[.int .u8 1, .int .u8 n] 5)) := box_two _
  have sz : w.heap.size + 1 ≤ ((box w n g m c).alloc (.cells #[.int .u8 1, .int .u8 n] 5)).heap.size := by rw [World.size_alloc, box_size]; omega
  have k := hide (progNarrow (c := c) (n := n) hm ((box w n g m c).alloc (.cells #[.int .u8 1, .int .u8 n] 5)) sz (by have := row_lt hR; omega) (box_row B0 hR) (box_head 1))
  have BB := hide B0
  obtain ⟨b1, b2⟩ := box_cells B0
  clear B0 hR sz
  unfold fieldV
  go_enter Try.func52, Try.ntmps52
  go_wp2_with fail
  refine (unhide k).mono ?_
  rintro e w3 ⟨t, v3, rfl, ht, O3, h3⟩
  have B3 := hide (box_below ((unhide BB).trans h3))
  have T := hide ht
  have O3 := hide (fun h => own_less (O3 h) (Nat.le_succ w.heap.size))
  clear h3 k BB ht
  go_wp2_with fail
  go_ret2
  exact ⟨t, _, rfl, unhide T, unhide O3, unhide B3⟩

set_option maxRecDepth 100000 in
set_option maxHeartbeats 6400000 in
theorem progBy2 : ByOk 52 2 := by
  intro n g m c f w hn hm hlt hR
  have n1 : IntKind.u8.wrap (n : Int) = (n : Int) := byte2 n (by omega)
  have n2 : (n : Int) % 256 = (n : Int) := by omega
  have B0 : Below (w.heap.size + 1) (box w n g m c) ((box w n g m c).alloc (.cells #[.int .u8 2, .int .u8 n] 5)) := box_two _
  have sz : w.heap.size + 1 ≤ ((box w n g m c).alloc (.cells #[.int .u8 2, .int .u8 n] 5)).heap.size := by rw [World.size_alloc, box_size]; omega
  have k := hide (progSteps (c := c) (n := n) hm hlt ((box w n g m c).alloc (.cells #[.int .u8 2, .int .u8 n] 5)) sz (by have := row_lt hR; omega) (box_row B0 hR) (box_head 2))
  have BB := hide B0
  obtain ⟨b1, b2⟩ := box_cells B0
  clear B0 hR sz hlt
  unfold fieldV
  go_enter Try.func52, Try.ntmps52
  go_wp2_with fail
  refine (unhide k).mono ?_
  rintro e w3 ⟨t, v3, rfl, ht, O3, h3⟩
  have B3 := hide (box_below ((unhide BB).trans h3))
  have T := hide ht
  have O3 := hide (fun h => own_less (O3 h) (Nat.le_succ w.heap.size))
  clear h3 k BB ht
  go_wp2_with fail
  go_ret2
  exact ⟨t, _, rfl, unhide T, unhide O3, unhide B3⟩

/-- What the program's shortest tells. -/
def PShortOk (fn : Nat) : Prop := ∀ (n g m c : Nat) (f : Nat → Nat × Nat) (w : World), n ≤ 64 → m ≤ 4096 → (∀ i, i < m → (f i).1 < 18446744073709551616 ∧ (f i).2 < 18446744073709551616) → Row w g m f →
  Calls Try.prog fn #[fieldV n g m c] w fun r w' => ∃ (a g' c' : Nat), r = .returned (.slice (some ⟨g', 0, none⟩) (byL a n m f).length c') ∧ Sh n m f a ∧ w'.ownsRow w.heap.size 5 1 (.slice (some ⟨g', 0, none⟩) (byL a n m f).length c') (byL a n m f).length (bL (byL a n m f)) ∧ Below w.heap.size w w'
/-- What holds ahead of the k-th way. -/
def PSt (w wr : World) (n m : Nat) (f : Nat → Nat × Nat) (k : Nat) (v : Value) : Prop := (k = 0 ∧ v = .slice none 0 0) ∨ ∃ a g' c', 1 ≤ k ∧ a ≤ 2 ∧ v = .slice (some ⟨g', 0, none⟩) (byL a n m f).length c' ∧ St n m f k a ∧ wr.ownsRow (w.heap.size + 1) 5 1 (.slice (some ⟨g', 0, none⟩) (byL a n m f).length c') (byL a n m f).length (bL (byL a n m f))

set_option maxRecDepth 100000 in
set_option maxHeartbeats 6400000 in
theorem progShort : PShortOk 39 := by
  intro n g m c f w hn hm hlt hR
  have K : Hid (∀ k : Nat, k ≤ 2 → ∀ (W : World), Row W g m f → Calls Try.prog 52 #[fieldV n g m c, .int .i64 k] W fun r w' => ∃ (t : Bool) (v : Value), r = .returned (.tuple #[v, .bool t]) ∧ (t = true ↔ Can k m f) ∧ (t = true → w'.ownsRow W.heap.size 5 1 v (byL k n m f).length (bL (byL k n m f))) ∧ Below W.heap.size W w') := by
    intro k hk2 W hr
    have : k = 0 ∨ k = 1 ∨ k = 2 := by omega
    rcases this with rfl | rfl | rfl
    · exact progBy0 n g m c f W hn hm hlt hr
    · exact progBy1 n g m c f W hn hm hlt hr
    · exact progBy2 n g m c f W hn hm hlt hr
  have RX := hide hR
  have BB0 : Hid (Below (w.heap.size + 1) (box w n g m c) (box w n g m c)) := Below.refl _ _
  have kq0 := eq_nil0
  have kq1 := eq_nil1
  have hz0 := byL_len 0 n m f
  have hz1 := byL_len 1 n m f
  have hz2 := byL_len 2 n m f
  clear hR hlt
  unfold fieldV at *
  go_enter Try.func39, Try.ntmps39
  go_wp2_with fail
  go_loopw [3, 7] (fun bv kv wr => ∃ k : Nat, k ≤ 3 ∧ kv = .int .i64 k ∧ Hid (PSt w wr n m f k bv) ∧ Hid (Below (w.heap.size + 1) (box w n g m c) wr)) (fun _ kv _ => 3 - (intOf kv).toNat)
  case atStart => exact ⟨0, by decide, rfl, .inl ⟨rfl, rfl⟩, BB0⟩
  case round =>
    clear BB0
    obtain ⟨k, hk3, rfl, hS, hB⟩ := hrel
    obtain ⟨b1, b2⟩ := box_cells (unhide hB)
    by_cases hc : k ≤ 2
    · have q1 : ((k : Int) < 3) = True := by simp; omega
      have hs : w.heap.size + 1 ≤ wr.heap.size := by have := (unhide hB).size; rw [box_size] at this; exact this
      have k1 := hide (unhide K k hc wr (box_row (unhide hB) (unhide RX)))
      rcases unhide hS with ⟨rfl, rfl⟩ | ⟨a, g1, c1, hk1, ha2, rfl, hSt, hO⟩
      · clear hS
        go_wp2_with fail
        refine (unhide k1).mono ?_
        rintro e w3 ⟨t, v, rfl, ht, hv, hb⟩
        obtain rfl : t = true := ht.2 (fun _ _ => .inl rfl)
        have hv := hv rfl
        obtain ⟨g0, c0, rfl⟩ := own_slice hv (by have := byL_pos 0 n m f; omega)
        have B3 := hide ((unhide hB).trans (hb.mono hs))
        have O3 : Hid (PSt w w3 n m f (0 + 1) (.slice (some ⟨g0, 0, none⟩) (byL 0 n m f).length c0)) := .inr ⟨0, g0, c0, by decide, by decide, rfl, .inl ⟨rfl, rfl⟩, own_less hv hs⟩
        clear ht hv hb k1 hB
        go_wp2_with fail
        go_roundw
        case rel => exact ⟨0 + 1, by decide, by go_num, O3, B3⟩
        case measure => simp [intOf]
      · have HS := hide hSt
        have HO := hide hO
        clear hS hSt hO
        go_wp2_with fail
        refine (unhide k1).mono ?_
        rintro e w3 ⟨t, v, rfl, ht, hv, hb⟩
        have B3 := hide ((unhide hB).trans (hb.mono hs))
        have O3 := hide (own_below (unhide HO) hb)
        have T := hide ht
        have V := hide hv
        clear ht hv hb k1 hB HO
        cases t
        · have hP : Hid (PSt w w3 n m f (k + 1) (.slice (some ⟨g1, 0, none⟩) (byL a n m f).length c1)) := .inr ⟨a, g1, c1, by omega, ha2, rfl, st_next (unhide HS) hc (.inr ⟨rfl, fun h => absurd ((unhide T).2 h.1) (by decide)⟩), unhide O3⟩
          go_wp2_with fail
          go_roundw
          case rel => exact ⟨k + 1, by omega, by go_num, hP, B3⟩
          case measure => simp [intOf]; omega
        · obtain ⟨g2, c2, rfl⟩ := own_slice (unhide V (by trivial)) (by have := byL_pos k n m f; omega)
          have hCn : Hid (Can k m f) := (unhide T).1 (by trivial)
          have O4 := hide (own_less (unhide V (by trivial)) hs)
          by_cases hl : (byL k n m f).length < (byL a n m f).length
          · have q2 : (((byL k n m f).length : Int) < ((byL a n m f).length : Int)) = True := by simp; omega
            have hP : Hid (PSt w w3 n m f (k + 1) (.slice (some ⟨g2, 0, none⟩) (byL k n m f).length c2)) := .inr ⟨k, g2, c2, by omega, hc, rfl, st_next (unhide HS) hc (.inl ⟨rfl, unhide hCn, hl⟩), unhide O4⟩
            clear V T
            go_wp2_with fail
            go_roundw
            case rel => exact ⟨k + 1, by omega, by go_num, hP, B3⟩
            case measure => simp [intOf]; omega
          · have q2 : (((byL k n m f).length : Int) < ((byL a n m f).length : Int)) = False := by simp; omega
            have hP : Hid (PSt w w3 n m f (k + 1) (.slice (some ⟨g1, 0, none⟩) (byL a n m f).length c1)) := .inr ⟨a, g1, c1, by omega, ha2, rfl, st_next (unhide HS) hc (.inr ⟨rfl, fun h => hl h.2⟩), unhide O3⟩
            clear V T
            go_wp2_with fail
            go_roundw
            case rel => exact ⟨k + 1, by omega, by go_num, hP, B3⟩
            case measure => simp [intOf]; omega
    · have q1 : ((k : Int) < 3) = False := by simp; omega
      rcases unhide hS with ⟨rfl, _⟩ | ⟨a, g1, c1, hk1, ha2, rfl, hSt, hO⟩
      · omega
      · have hF : Hid (Sh n m f a) := by
          rcases hSt with ⟨h, _⟩ | ⟨h, _⟩ | ⟨_, h⟩
          · omega
          · omega
          · exact h
        have O3 := hide hO
        clear hSt hO hS
        go_wp2_with fail
        go_ret
        exact ⟨a, g1, c1, rfl, unhide hF, own_less (unhide O3) (by omega), box_below (unhide hB)⟩
end Go.Proofs.Ytpmbgjoilfdkaaa
