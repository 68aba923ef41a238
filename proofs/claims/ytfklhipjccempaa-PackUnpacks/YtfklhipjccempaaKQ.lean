/- The document's shortest bytes of a field. -/
import Derived.Test.YtfklhipjccempaaM1
namespace Go.Proofs.Ytfklhipjccempaa
open Go.RowKit Fl Ieee

def Pick (n m : Nat) (f : Nat → Nat × Nat) (k a b : Nat) : Prop := (b = k ∧ Can k m f ∧ (byL k n m f).length < (byL a n m f).length) ∨ (b = a ∧ ¬ (Can k m f ∧ (byL k n m f).length < (byL a n m f).length))
/-- The way in which a field is packed. -/
def Sh (n m : Nat) (f : Nat → Nat × Nat) (b : Nat) : Prop := ∃ a, Pick n m f 1 0 a ∧ Pick n m f 2 a b
theorem pick_one {n m : Nat} {f : Nat → Nat × Nat} {k a b c : Nat} (h1 : Pick n m f k a b) (h2 : Pick n m f k a c) : b = c := by
  rcases h1 with ⟨rfl, h⟩ | ⟨rfl, h⟩
  · rcases h2 with ⟨rfl, _⟩ | ⟨_, h'⟩
    · rfl
    · exact absurd h h'
  · rcases h2 with ⟨_, h'⟩ | ⟨rfl, _⟩
    · exact absurd h' h
    · rfl
theorem sh_one {n m : Nat} {f : Nat → Nat × Nat} {b c : Nat} (h1 : Sh n m f b) (h2 : Sh n m f c) : b = c := by
  obtain ⟨a1, p1, q1⟩ := h1
  obtain ⟨a2, p2, q2⟩ := h2
  obtain rfl := pick_one p1 p2
  exact pick_one q1 q2
theorem sh_can {n m : Nat} {f : Nat → Nat × Nat} {b : Nat} (h : Sh n m f b) : Can b m f ∧ b ≤ 2 := by
  obtain ⟨a, h1, h2⟩ := h
  have ha : Can a m f ∧ a ≤ 2 := by
    rcases h1 with ⟨rfl, h, _⟩ | ⟨rfl, _⟩
    · exact ⟨h, by decide⟩
    · exact ⟨fun _ _ => .inl rfl, by decide⟩
  rcases h2 with ⟨rfl, h, _⟩ | ⟨rfl, _⟩
  · exact ⟨h, by decide⟩
  · exact ha

def ShortOk (fn : Nat) : Prop := ∀ (n g m c : Nat) (f : Nat → Nat × Nat) (w : World), n ≤ 64 → m ≤ 4096 → (∀ i, i < m → (f i).1 < 18446744073709551616 ∧ (f i).2 < 18446744073709551616) → Row w g m f →
  Calls Try.prog fn #[fieldV n g m c] w fun r w' => ∃ (a g' c' : Nat), r = .returned (.tuple #[.slice (some ⟨g', 0, none⟩) (byL a n m f).length c', .int .i64 a]) ∧ Sh n m f a ∧ w'.ownsRow w.heap.size 5 1 (.slice (some ⟨g', 0, none⟩) (byL a n m f).length c') (byL a n m f).length (bL (byL a n m f)) ∧ Below w.heap.size w w'

theorem own_below {w w' : World} {B n : Nat} {v : Value} {xs : List Value} (h : w.ownsRow B 5 1 v n xs) (hb : Below w.heap.size w w') : w'.ownsRow B 5 1 v n xs := by
  have hl := h.lt
  refine ⟨h.1, ?_⟩
  rcases h.2 with h1 | ⟨g, cap, cur, h1, h2, h3, h4⟩
  · exact .inl h1
  · refine .inr ⟨g, cap, cur, h1, h2, ?_, h4⟩
    rw [hb.block g (hl g (by rw [h1]; rfl)).2]
    exact h3
theorem own_slice {w : World} {B n : Nat} {v : Value} {xs : List Value} (h : w.ownsRow B 5 1 v n xs) (hn : 1 ≤ n) : ∃ g c, v = .slice (some ⟨g, 0, none⟩) n c := by
  rcases h.2 with ⟨_, h2⟩ | ⟨g, cap, cur, h1, _⟩
  · omega
  · exact ⟨g, cap, h1⟩
theorem byL_pos (way n m : Nat) (f : Nat → Nat × Nat) : 2 ≤ (byL way n m f).length := by unfold byL; simp
def St (n m : Nat) (f : Nat → Nat × Nat) (k a : Nat) : Prop := (k = 1 ∧ a = 0) ∨ (k = 2 ∧ Pick n m f 1 0 a) ∨ (k = 3 ∧ Sh n m f a)
theorem st_next {n m : Nat} {f : Nat → Nat × Nat} {k a b : Nat} (h : St n m f k a) (hk : k ≤ 2) (hp : Pick n m f k a b) : St n m f (k + 1) b := by
  rcases h with ⟨rfl, rfl⟩ | ⟨rfl, h⟩ | ⟨rfl, _⟩
  · exact .inr (.inl ⟨rfl, hp⟩)
  · exact .inr (.inr ⟨rfl, a, h, hp⟩)
  · omega

set_option maxRecDepth 100000 in
set_option maxHeartbeats 6400000 in
theorem shortOk {fn : Nat} (hfn : fn = 16) (h0 : ByOk 22 0) (h1 : ByOk 22 1) (h2 : ByOk 22 2) : ShortOk fn := by
  subst hfn
  intro n g m c f w hn hm hlt hR
  have K0 := hide (fun (W : World) hr => h0 n g m c f W hn hm hlt hr)
  have K : Hid (∀ k : Nat, 1 ≤ k → k ≤ 2 → ∀ (W : World), Row W g m f → Calls Try.prog 22 #[fieldV n g m c, .int .i64 k] W fun r w' => ∃ (t : Bool) (v : Value), r = .returned (.tuple #[v, .bool t]) ∧ (t = true ↔ Can k m f) ∧ (t = true → w'.ownsRow W.heap.size 5 1 v (byL k n m f).length (bL (byL k n m f))) ∧ Below W.heap.size W w') := by
    intro k hk1 hk2 W hr
    have : k = 1 ∨ k = 2 := by omega
    rcases this with rfl | rfl
    · exact h1 n g m c f W hn hm hlt hr
    · exact h2 n g m c f W hn hm hlt hr
  have RX := hide hR
  have BB0 : Hid (Below (w.heap.size + 1) (box w n g m c) (box w n g m c)) := Below.refl _ _
  have hz0 := byL_len 0 n m f
  have hz1 := byL_len 1 n m f
  have hz2 := byL_len 2 n m f
  clear hR h0 h1 h2 hlt
  unfold fieldV at *
  go_enter Try.func16, Try.ntmps16
  go_wp2_with fail
  refine (unhide K0 (box w n g m c) (box_row (unhide BB0) (unhide RX))).mono ?_
  rintro e w1 ⟨t, v, rfl, ht, hv, hb⟩
  obtain rfl : t = true := ht.2 (fun _ _ => .inl rfl)
  have hv := hv rfl
  obtain ⟨g0, c0, rfl⟩ := own_slice hv (by have := byL_pos 0 n m f; omega)
  rw [box_size] at hb hv
  have O0 := hide hv
  have B0 := hide hb
  clear hv hb ht K0
  go_wp2_with fail
  go_loopw [4, 6, 7] (fun bv av kv wr => ∃ k a g' c' : Nat, 1 ≤ k ∧ k ≤ 3 ∧ kv = .int .i64 k ∧ av = .int .i64 a ∧ a ≤ 2 ∧ bv = .slice (some ⟨g', 0, none⟩) (byL a n m f).length c' ∧ Hid (St n m f k a) ∧ Hid (wr.ownsRow (w.heap.size + 1) 5 1 (.slice (some ⟨g', 0, none⟩) (byL a n m f).length c') (byL a n m f).length (bL (byL a n m f))) ∧ Hid (Below (w.heap.size + 1) (box w n g m c) wr)) (fun _ _ kv _ => 3 - (intOf kv).toNat)
  case atStart => exact ⟨1, 0, g0, c0, by decide, by decide, rfl, rfl, by decide, rfl, .inl ⟨rfl, rfl⟩, O0, B0⟩
  case round =>
    clear O0 B0
    obtain ⟨k, a, g1, c1, hk1, hk3, rfl, rfl, ha2, rfl, hS, hO, hB⟩ := hrel
    obtain ⟨b1, b2⟩ := box_cells (unhide hB)
    by_cases hc : k ≤ 2
    · have q1 : ((k : Int) ≤ 2) = True := by simp; omega
      have hs : w.heap.size + 1 ≤ wr.heap.size := by have := (unhide hB).size; rw [box_size] at this; exact this
      have k1 := hide (unhide K k hk1 hc wr (box_row (unhide hB) (unhide RX)))
      go_wp2_with fail
      refine (unhide k1).mono ?_
      rintro e w3 ⟨t, v, rfl, ht, hv, hb⟩
      have B3 := hide ((unhide hB).trans (hb.mono hs))
      have O3 := hide (own_below (unhide hO) hb)
      have T := hide ht
      have V := hide hv
      clear ht hv hb k1 hO hB
      cases t
      · have hP : Hid (St n m f (k + 1) a) := st_next (unhide hS) hc (.inr ⟨rfl, fun h => absurd ((unhide T).2 h.1) (by decide)⟩)
        go_wp2_with fail
        go_roundw
        case rel => exact ⟨k + 1, a, g1, c1, by omega, by omega, by go_num, rfl, ha2, rfl, hP, O3, B3⟩
        case measure => simp [intOf]; omega
      · obtain ⟨g2, c2, rfl⟩ := own_slice (unhide V (by trivial)) (by have := byL_pos k n m f; omega)
        have hCn : Hid (Can k m f) := (unhide T).1 (by trivial)
        have O4 := hide (own_less (unhide V (by trivial)) hs)
        by_cases hl : (byL k n m f).length < (byL a n m f).length
        · have q2 : (((byL k n m f).length : Int) < ((byL a n m f).length : Int)) = True := by simp; omega
          have hP : Hid (St n m f (k + 1) k) := st_next (unhide hS) hc (.inl ⟨rfl, unhide hCn, hl⟩)
          clear V T
          go_wp2_with fail
          go_roundw
          case rel => exact ⟨k + 1, k, g2, c2, by omega, by omega, by go_num, rfl, hc, rfl, hP, O4, B3⟩
          case measure => simp [intOf]; omega
        · have q2 : (((byL k n m f).length : Int) < ((byL a n m f).length : Int)) = False := by simp; omega
          have hP : Hid (St n m f (k + 1) a) := st_next (unhide hS) hc (.inr ⟨rfl, fun h => hl h.2⟩)
          clear V T
          go_wp2_with fail
          go_roundw
          case rel => exact ⟨k + 1, a, g1, c1, by omega, by omega, by go_num, rfl, ha2, rfl, hP, O3, B3⟩
          case measure => simp [intOf]; omega
    · have q1 : ((k : Int) ≤ 2) = False := by simp; omega
      have hF : Hid (Sh n m f a) := by
        rcases unhide hS with ⟨h, _⟩ | ⟨h, _⟩ | ⟨_, h⟩
        · omega
        · omega
        · exact h
      go_wp2_with fail
      go_ret2
      exact ⟨a, g1, c1, rfl, unhide hF, own_less (unhide hO) (by omega), box_below (unhide hB)⟩
theorem refShort : ShortOk 16 := shortOk rfl refBy0 refBy1 refBy2
end Go.Proofs.Ytfklhipjccempaa
