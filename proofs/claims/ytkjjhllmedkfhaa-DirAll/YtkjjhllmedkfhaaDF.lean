/- The first statement's walk: forms, order, the direction across. -/
import Derived.Test.YtkjjhllmedkfhaaDX
import Derived.Deep.RegionHeld3
namespace Go.Proofs.Ytkjjhllmedkfhaa
open Go.RowKit

theorem fix_normal : normalS (-4) (-6) = ((2, 3), 0) := by decide +kernel
theorem fix_check : checkS 0 0 = 60 := by decide +kernel

theorem below_on {w0 w w' : World} (h : Below w0.heap.size w0 w) (hb : Below w.heap.size w w') : Below w0.heap.size w0 w' := h.trans (hb.mono h.size)
theorem below_alloc (w : World) (o : Obj) : Below w.heap.size w (w.alloc o) := (Below.refl _ _).alloc (Nat.le_refl _) _

set_option maxHeartbeats 1600000 in
theorem aliveAny (w : World) : Calls Try.prog 9 #[] w fun e w' => e = .returned (.bool true) ∧ Below w.heap.size w w' := by
  have k1 := hide (fun w => dirNormal (p := -4) (q := -6) (by unfold I64; decide) (by unfold I64; decide) w)
  have k2 := hide (fun w => dirCheck (P := 0) (Q := 0) (by unfold I64; decide) (by unfold I64; decide) w)
  rw [fix_normal] at k1
  rw [fix_check] at k2
  unfold dirV at k1 k2
  dsimp only at k1 k2
  go_enter Try.func9, Try.ntmps9
  go_wp2_with fail
  refine (unhide k1 _).mono ?_
  rintro e w1 ⟨rfl, hb1⟩
  have hB := hide hb1
  clear hb1
  go_wp2_with fail
  refine (unhide k2 _).mono ?_
  rintro e w2 ⟨rfl, hb2⟩
  have hB2 := hide (below_on (below_on (unhide hB) (below_alloc _ _)) hb2)
  clear hb2
  go_wp2_with fail
  go_ret
  exact ⟨rfl, unhide hB2⟩

/-- A direction in a box of its own. -/
structure BoxD (w : World) (b : Nat) (x y : Int) : Prop where
  one : w.cell? ⟨b, 0, none⟩ = some (.int .i64 x)
  two : w.cell? ⟨b, 1, none⟩ = some (.int .i64 y)
  lt : b < w.heap.size

theorem boxD_below {w w' : World} {b : Nat} {x y : Int} (h : BoxD w b x y) (hb : Below w.heap.size w w') : BoxD w' b x y :=
  ⟨(hb.cell h.lt).trans h.one, (hb.cell h.lt).trans h.two, Nat.lt_of_lt_of_le h.lt hb.size⟩
theorem boxD_new (w : World) (x y : Int) : BoxD (w.alloc (.cells #[.int .i64 x, .int .i64 y] 23)) w.heap.size x y := ⟨by simp [go_sem], by simp [go_sem], by simp⟩

set_option maxHeartbeats 12800000 in
set_option maxRecDepth 100000 in
theorem formsWalk {a b : Int × Int} (ha : Dir64 a) (hb : Dir64 b) (w : World) :
    Calls Try.prog 3 #[dirV a, dirV b] w fun e w' => e = .returned (.bool true) ∧ Below w.heap.size w w' := by
  have kN := hide (fun w => dirNormal ha.one ha.two w)
  have rN := hide (fun w => normalAny ha.one ha.two w)
  have kA := hide (fun w => dirAcross ha w)
  have rA := hide (fun w => acrossAny ha w)
  have kC := hide (fun w => dirCheck ha.one ha.two w)
  have rC := hide (fun w => checkAny ha.one ha.two w)
  have kM := hide (fun w => dirCmp ha hb w)
  have rM := hide (fun w => cmpAny ha hb w)
  generalize checkS a.1 a.2 = c at kC rC
  generalize cmpS a b = m at kM rM
  generalize acrossS a = x at kA rA
  obtain ⟨P, Q⟩ := a
  obtain ⟨R, S⟩ := b
  dsimp only at kN rN
  generalize normalS P Q = y at kN rN
  obtain ⟨⟨x1, x2⟩, x3⟩ := x
  obtain ⟨⟨y1, y2⟩, y3⟩ := y
  unfold dirV at *
  dsimp only at *
  clear ha hb
  go_enter Try.func3, Try.ntmps3
  go_wp2_with fail
  refine (aliveAny _).mono ?_
  rintro e w1 ⟨rfl, hb1⟩
  have hB1 : Hid (Below w.heap.size w w1) := below_on (below_on (below_alloc w _) (below_alloc _ _)) hb1
  have A1 : BoxD w1 w.heap.size P Q := boxD_below (boxD_below (boxD_new w P Q) (below_alloc _ _)) hb1
  have C1 : BoxD w1 (w.heap.size + 1) R S := by
    have h := boxD_below (boxD_new (w.alloc (.cells #[.int .i64 P, .int .i64 Q] 23)) R S) hb1
    simpa using h
  generalize w.heap.size + 1 = bB at C1 ⊢
  generalize w.heap.size = bA at A1 ⊢
  have q1 := A1.one
  have q2 := A1.two
  have A1 := hide A1
  have C1 := hide C1
  clear hb1
  go_wp2_with fail
  refine (unhide kN _).mono ?_
  rintro e w2 ⟨rfl, hb2⟩
  have hB2 := hide (below_on (unhide hB1) hb2)
  have A2 := hide (boxD_below (unhide A1) hb2)
  have C2 := hide (boxD_below (unhide C1) hb2)
  have q1 : ∀ o, (w2.alloc o).cell? ⟨bA, 0, none⟩ = some (.int .i64 P) := fun o => (boxD_below (unhide A2) (below_alloc _ o)).one
  have q2 : ∀ o, (w2.alloc o).cell? ⟨bA, 1, none⟩ = some (.int .i64 Q) := fun o => (boxD_below (unhide A2) (below_alloc _ o)).two
  clear hb2 hB1 A1 C1 kN
  go_wp2_with fail
  generalize hE : World.alloc _ _ = e2
  have hb : Below w2.heap.size w2 e2 := by rw [← hE]; exact below_alloc _ _
  have D2 : BoxD e2 w2.heap.size y1 y2 := by rw [← hE]; exact boxD_new _ _ _
  have hB2' := hide (below_on (unhide hB2) hb)
  have A2' := hide (boxD_below (unhide A2) hb)
  have C2' := hide (boxD_below (unhide C2) hb)
  generalize w2.heap.size = b5 at D2 ⊢
  have D2 := hide D2
  clear hE hb hB2 A2 C2 q1 q2
  refine (unhide rN _).mono ?_
  rintro e w3 ⟨rfl, hb3⟩
  have hB3 := hide (below_on (unhide hB2') hb3)
  have A3 := hide (boxD_below (unhide A2') hb3)
  have C3 := hide (boxD_below (unhide C2') hb3)
  have D3 := hide (boxD_below (unhide D2) hb3)
  have q1 : ∀ o, (w3.alloc o).cell? ⟨bA, 0, none⟩ = some (.int .i64 P) := fun o => (boxD_below (unhide A3) (below_alloc _ o)).one
  have q2 : ∀ o, (w3.alloc o).cell? ⟨bA, 1, none⟩ = some (.int .i64 Q) := fun o => (boxD_below (unhide A3) (below_alloc _ o)).two
  clear hb3 hB2' A2' C2' D2 rN
  go_wp2_with fail
  generalize hE : World.alloc _ _ = e3
  have hb : Below w3.heap.size w3 e3 := by rw [← hE]; exact below_alloc _ _
  have E3 : BoxD e3 w3.heap.size y1 y2 := by rw [← hE]; exact boxD_new _ _ _
  have hB3' := hide (below_on (unhide hB3) hb)
  have A3' := hide (boxD_below (unhide A3) hb)
  have C3' := hide (boxD_below (unhide C3) hb)
  have D3' := hide (boxD_below (unhide D3) hb)
  generalize w3.heap.size = b7 at E3 ⊢
  have E3 := hide E3
  clear hE hb hB3 A3 C3 D3 q1 q2
  refine (unhide kA _).mono ?_
  rintro e w4 ⟨rfl, hb4⟩
  have hB4 := hide (below_on (unhide hB3') hb4)
  have A4 := hide (boxD_below (unhide A3') hb4)
  have C4 := hide (boxD_below (unhide C3') hb4)
  have D4 := hide (boxD_below (unhide D3') hb4)
  have E4 := hide (boxD_below (unhide E3) hb4)
  have q1 : ∀ o, (w4.alloc o).cell? ⟨bA, 0, none⟩ = some (.int .i64 P) := fun o => (boxD_below (unhide A4) (below_alloc _ o)).one
  have q2 : ∀ o, (w4.alloc o).cell? ⟨bA, 1, none⟩ = some (.int .i64 Q) := fun o => (boxD_below (unhide A4) (below_alloc _ o)).two
  clear hb4 hB3' A3' C3' D3' E3 kA
  go_wp2_with fail
  generalize hE : World.alloc _ _ = e4
  have hb : Below w4.heap.size w4 e4 := by rw [← hE]; exact below_alloc _ _
  have F4 : BoxD e4 w4.heap.size x1 x2 := by rw [← hE]; exact boxD_new _ _ _
  have hB4' := hide (below_on (unhide hB4) hb)
  have A4' := hide (boxD_below (unhide A4) hb)
  have C4' := hide (boxD_below (unhide C4) hb)
  have D4' := hide (boxD_below (unhide D4) hb)
  have E4' := hide (boxD_below (unhide E4) hb)
  generalize w4.heap.size = b9 at F4 ⊢
  have F4 := hide F4
  clear hE hb hB4 A4 C4 D4 E4 q1 q2
  refine (unhide rA _).mono ?_
  rintro e w5 ⟨rfl, hb5⟩
  have hB5 := hide (below_on (unhide hB4') hb5)
  have A5 := hide (boxD_below (unhide A4') hb5)
  have C5 := hide (boxD_below (unhide C4') hb5)
  have D5 := hide (boxD_below (unhide D4') hb5)
  have E5 := hide (boxD_below (unhide E4') hb5)
  have F5 := hide (boxD_below (unhide F4) hb5)
  clear hb5 hB4' A4' C4' D4' E4' F4 rA
  go_wp2_with fail
  generalize hE : World.alloc _ _ = e5
  have hb : Below w5.heap.size w5 e5 := by rw [← hE]; exact below_alloc _ _
  have G6 : BoxD e5 w5.heap.size x1 x2 := by rw [← hE]; exact boxD_new _ _ _
  have hB6 := hide (below_on (unhide hB5) hb)
  have A6 := boxD_below (unhide A5) hb
  have C6 := boxD_below (unhide C5) hb
  have D6 := boxD_below (unhide D5) hb
  have E6 := boxD_below (unhide E5) hb
  have F6 := boxD_below (unhide F5) hb
  generalize w5.heap.size = b11 at G6 ⊢
  clear hE hb hB5 A5 C5 D5 E5 F5
  have fct : Hid (∀ w8 : World, Below e5.heap.size e5 w8 → w8.cell? ⟨bA, 0, none⟩ = some (.int .i64 P) ∧ w8.cell? ⟨bA, 1, none⟩ = some (.int .i64 Q) ∧ w8.cell? ⟨bB, 0, none⟩ = some (.int .i64 R) ∧ w8.cell? ⟨bB, 1, none⟩ = some (.int .i64 S) ∧
      w8.cell? ⟨b5, 0, none⟩ = some (.int .i64 y1) ∧ w8.cell? ⟨b5, 1, none⟩ = some (.int .i64 y2) ∧ w8.cell? ⟨b7, 0, none⟩ = some (.int .i64 y1) ∧ w8.cell? ⟨b7, 1, none⟩ = some (.int .i64 y2) ∧
      w8.cell? ⟨b9, 0, none⟩ = some (.int .i64 x1) ∧ w8.cell? ⟨b9, 1, none⟩ = some (.int .i64 x2) ∧ w8.cell? ⟨b11, 0, none⟩ = some (.int .i64 x1) ∧ w8.cell? ⟨b11, 1, none⟩ = some (.int .i64 x2)) := by
    intro w8 h
    have A7 := boxD_below A6 h
    have C7 := boxD_below C6 h
    have D7 := boxD_below D6 h
    have E7 := boxD_below E6 h
    have F7 := boxD_below F6 h
    have G7 := boxD_below G6 h
    exact ⟨A7.one, A7.two, C7.one, C7.two, D7.one, D7.two, E7.one, E7.two, F7.one, F7.two, G7.one, G7.two⟩
  obtain ⟨z1, z2, z3, z4, z5, z6, z7, z8, z9, z10, z11, z12⟩ := unhide fct e5 (Below.refl _ _)
  clear A6 C6 D6 E6 F6 G6
  go_region_held3 (fun w8 => w8.cell? ⟨bA, 0, none⟩ = some (.int .i64 P) ∧ w8.cell? ⟨bA, 1, none⟩ = some (.int .i64 Q) ∧ w8.cell? ⟨bB, 0, none⟩ = some (.int .i64 R) ∧ w8.cell? ⟨bB, 1, none⟩ = some (.int .i64 S) ∧
      w8.cell? ⟨b5, 0, none⟩ = some (.int .i64 y1) ∧ w8.cell? ⟨b5, 1, none⟩ = some (.int .i64 y2) ∧ w8.cell? ⟨b7, 0, none⟩ = some (.int .i64 y1) ∧ w8.cell? ⟨b7, 1, none⟩ = some (.int .i64 y2) ∧
      w8.cell? ⟨b9, 0, none⟩ = some (.int .i64 x1) ∧ w8.cell? ⟨b9, 1, none⟩ = some (.int .i64 x2) ∧ w8.cell? ⟨b11, 0, none⟩ = some (.int .i64 x1) ∧ w8.cell? ⟨b11, 1, none⟩ = some (.int .i64 x2))
    (first | exact unhide fct _ (unhide hx4) | exact unhide fct _ (unhide hx3) | exact unhide fct _ (unhide hx2) | exact unhide fct _ (unhide hx1) | go_keep)
    (first
    | (go_at_call 14; refine (unhide kC _).mono ?_; rintro e v1 ⟨rfl, hv1⟩
       have hx1 : Hid (Below e5.heap.size e5 v1) := ⟨hv1.os, hv1.tape, hv1.output, hv1.size, hv1.block⟩
       clear hv1)
    | (go_at_call 15; refine (unhide rC _).mono ?_; rintro e v2 ⟨rfl, hv2⟩
       have hx2 : Hid (Below e5.heap.size e5 v2) := below_on (unhide hx1) hv2
       clear hv2)
    | (go_at_call 16; refine (unhide kM _).mono ?_; rintro e v3 ⟨rfl, hv3⟩
       have hx3 : Hid (Below e5.heap.size e5 v3) := below_on (unhide hx2) hv3
       clear hv3)
    | (go_at_call 17; refine (unhide rM _).mono ?_; rintro e v4 ⟨rfl, hv4⟩
       have hx4 : Hid (Below e5.heap.size e5 v4) := below_on (unhide hx3) hv4
       clear hv4))
  go_wp2_with fail
  go_ret
  exact ⟨rfl, below_on (unhide hB6) (unhide hx4)⟩
end Go.Proofs.Ytkjjhllmedkfhaa
