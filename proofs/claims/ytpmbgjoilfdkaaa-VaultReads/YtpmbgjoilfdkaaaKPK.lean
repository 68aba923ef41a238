/- The document's Pack. -/
import Derived.Test.YtpmbgjoilfdkaaaKH
namespace Go.Proofs.Ytpmbgjoilfdkaaa
open Go.RowKit Fl Ieee

set_option maxRecDepth 100000 in
set_option maxHeartbeats 1600000 in
theorem refRight {n g c : Nat} (h1 : 1 ≤ n) (h2 : n ≤ 64) (w : World) : Calls Try.prog 47 #[fieldV n g (n * n) c] w fun r w' => r = .returned (.bool true) ∧ Below w.heap.size w w' := by
  obtain ⟨M, hM⟩ : ∃ M, M = n * n := ⟨_, rfl⟩
  have nn : (n : Int) * (n : Int) = (M : Int) := by rw [hM, Int.natCast_mul]
  have hM2 : M ≤ 4096 := by rw [hM]; exact Nat.mul_le_mul h2 h2
  have nw : IntKind.i64.wrap ((n : Int) * (n : Int)) = (M : Int) := by rw [nn, IntKind.wrap_i64]; omega
  have q1 : ((1 : Int) ≤ (n : Int)) = True := by simp; omega
  have q2 : ((n : Int) ≤ 64) = True := by simp; omega
  unfold fieldV
  rw [← hM]
  clear hM
  go_enter Try.func47, Try.ntmps47
  go_wp2_with fail
  go_ret
  exact ⟨rfl, (Below.refl _ _).alloc (Nat.le_refl _) _⟩

/-- What is asked of Pack. -/
def PackOk (fn : Nat) : Prop := ∀ (n g c : Nat) (f : Nat → Nat × Nat) (w : World), 1 ≤ n → n ≤ 64 → (∀ i, i < n * n → (f i).1 < 18446744073709551616 ∧ (f i).2 < 18446744073709551616) → Row w g (n * n) f →
  Calls Try.prog fn #[fieldV n g (n * n) c] w fun r w' => ∃ (a g' c' : Nat), r = .returned (.tuple #[.slice (some ⟨g', 0, none⟩) (byL a n (n * n) f).length c', .int .i64 0]) ∧ Sh n (n * n) f a ∧ w'.ownsRow w.heap.size 5 1 (.slice (some ⟨g', 0, none⟩) (byL a n (n * n) f).length c') (byL a n (n * n) f).length (bL (byL a n (n * n) f)) ∧ Below w.heap.size w w'

set_option maxRecDepth 100000 in
set_option maxHeartbeats 1600000 in
theorem refPack : PackOk 55 := by
  intro n g c f w h1 h2 hb hR
  have hm : n * n ≤ 4096 := Nat.mul_le_mul h2 h2
  have kR := hide (fun W => refRight (g := g) (c := c) h1 h2 W)
  have kS := hide (fun (W : World) hr => refShort n g (n * n) c f W h2 hm hb hr)
  have RX := hide hR
  clear hR hb
  unfold fieldV at *
  generalize hM : n * n = M at *
  go_enter Try.func55, Try.ntmps55
  go_wp2_with fail
  refine (unhide kR _).mono ?_
  rintro e w1 ⟨rfl, hb1⟩
  have s0 : (w.alloc (.cells #[.int .i64 n, .slice (some ⟨g, 0, none⟩) M c] 30)).heap.size = w.heap.size + 1 := World.size_alloc _ _
  rw [s0] at hb1
  have BX : Hid (Below (w.heap.size + 1) (box w n g M c) w1) := hb1
  obtain ⟨b1, b2⟩ := box_cells (unhide BX)
  have k2 := hide (unhide kS w1 (box_row (unhide BX) (unhide RX)))
  have hs : w.heap.size ≤ w1.heap.size := (box_below (unhide BX)).size
  clear hb1 kS kR
  go_wp2_with fail
  refine (unhide k2).mono ?_
  rintro e w2 ⟨a, g', c', rfl, hSh, hown, hb2⟩
  have B2 := hide ((box_below (unhide BX)).trans (hb2.mono hs))
  have O2 := hide (own_less hown hs)
  have S2 := hide hSh
  clear hown hb2 k2 hSh
  go_wp2_with fail
  go_ret2
  exact ⟨a, g', c', rfl, unhide S2, unhide O2, unhide B2⟩

end Go.Proofs.Ytpmbgjoilfdkaaa
