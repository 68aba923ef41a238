/- The fixed fact of layer 22. -/
import Derived.Test.YtpmbgjoilfdkaaaVM
import Derived.Test.YtpmbgjoilfdkaaaKA1
namespace Go.Proofs.Ytpmbgjoilfdkaaa
open Go.RowKit Fl Ieee

def b13 : List Nat := [0, 0, 0, 5, 1, 181, 197, 217, 0, 2, 1, 6, 1]
theorem pack31 : PackIs 1 f31 [2, 1, 6, 1] := ⟨2, sh31, by31.symm⟩
theorem body31 : BodyIs none 1 f31 [0, 2, 1, 6, 1] := ⟨[2, 1, 6, 1], pack31, .inr ⟨fun p e => (by cases e), rfl⟩⟩
theorem rec31 : recL [0, 2, 1, 6, 1] = b13 := by
  unfold b13
  decide
theorem next31 : NextIs none b13 1 f31 13 := by
  have e : inner b13 = [2, 1, 6, 1] := by decide
  refine ⟨by decide, by decide, by decide, by decide, ⟨f31, ?_, ?_, fun h => absurd h (by decide), fun _ _ _ => rfl⟩, [0, 2, 1, 6, 1], body31, ?_⟩
  · rw [e]; exact good31
  · rw [e]; decide
  · rw [rec31]; decide
theorem cut31 : CutEnd b13 1 (fun _ => (1, f31)) (fun i => if i = 0 then 0 else 13) := by
  refine ⟨⟨rfl, fun i hi => ?_⟩, by decide, .inr fun n f k h => ?_⟩
  · obtain rfl : i = 0 := by omega
    exact ⟨13, next31, rfl, by decide⟩
  · exact absurd (next_nil h (by decide)) id

/-- What is asked of Add of a file without slices. -/
def AddOk (fn : Nat) : Prop := ∀ (n g c : Nat) (f : Nat → Nat × Nat) (w : World), 1 ≤ n → n ≤ 64 → Bits n f → Row w g (n * n) f →
  Calls Try.prog fn #[.slice none 0 0, fieldV n g (n * n) c] w fun r w' => ∃ (bs : List Nat) (g' c' : Nat), r = .returned (.tuple #[.slice (some ⟨g', 0, none⟩) (recL bs).length c', .int .i64 0]) ∧ BodyIs none n f bs ∧ BAt w' (some ⟨g', 0, none⟩) g' 0 (recL bs) ∧ (recL bs).length ≤ c' ∧ Below w.heap.size w w'
def SumOk (fn : Nat) : Prop := ∀ (a : Option Addr) (g o c : Nat) (L : List Nat) (w : World), L.length ≤ 4611686018427387904 → BAt w a g o L → Calls Try.prog fn #[.slice a L.length c] w fun r w' => r = .returned (.int .u32 (sumB L L.length)) ∧ Below w.heap.size w w'
theorem sumOk : SumOk 50 := by
  intro a g o c L w hl h
  refine (refSum hl w h).mono ?_
  rintro r w' ⟨rfl, rfl⟩
  exact ⟨rfl, Below.refl _ _⟩
theorem bat_zero (w : World) : BAt (w.alloc (.cells #[.int .u8 0] 5)) (some ⟨w.heap.size, 0, none⟩) w.heap.size 0 [0] := by
  refine ⟨fun i => ?_, fun _ => ⟨rfl, by rw [World.size_alloc]; omega⟩, fun i hi => ?_⟩
  · match i with
    | 0 => decide
    | n + 1 => simp
  · rw [Nat.zero_add, cell_of_row _ _ i _ _ (0, 0) (heap_alloc_new w _)]
    match i, hi with
    | 0, _ => rfl

set_option maxRecDepth 100000 in
set_option maxHeartbeats 3200000 in
theorem alive22 (hA : AddOk 13) (hC : CutOk 9) (hS : SumOk 14) (w : World) : Calls Try.prog 4 #[] w fun e w' => e = .returned (.bool true) ∧ Below w.heap.size w w' := by
  have b1 : Below w.heap.size w (w.alloc (.cells #[.complex .f64 4613937818241073152 13830554455654793216] 40)) := (Below.refl _ _).alloc (Nat.le_refl _) _
  have k1 : Hid (Calls Try.prog 13 #[.slice none 0 0, .agg #[.int .i64 1, .slice (some ⟨w.heap.size, 0, none⟩) 1 1]] (w.alloc (.cells #[.complex .f64 4613937818241073152 13830554455654793216] 40)) fun r w' => ∃ g' c' : Nat, r = .returned (.tuple #[.slice (some ⟨g', 0, none⟩) 13 c', .int .i64 0]) ∧ BAt w' (some ⟨g', 0, none⟩) g' 0 b13 ∧ 13 ≤ c' ∧ Below w.heap.size w w') := by
    refine (hA 1 w.heap.size 1 f31 _ (by decide) (by decide) bits31 (row31 w)).mono ?_
    rintro r w' ⟨bs, g', c', rfl, hI, hT, hc, hB⟩
    obtain rfl := body_one body31 hI
    rw [rec31] at hT hc ⊢
    exact ⟨g', c', rfl, hT, hc, b1.trans (hB.mono b1.size)⟩
  have k2 : Hid (∀ (g c : Nat) (W : World), 13 ≤ c → BAt W (some ⟨g, 0, none⟩) g 0 b13 → Calls Try.prog 9 #[.slice (some ⟨g, 0, none⟩) 13 c] W fun r w' => r = .returned (.tuple #[.int .i64 1, .int .i64 13]) ∧ Below W.heap.size W w') := by
    intro g c W hc hT
    refine (hC _ g 0 c b13 W hT (fun e => by cases e) hc (by decide)).mono ?_
    rintro r w' ⟨k, S, P, hE, rfl, hB⟩
    obtain ⟨rfl, e2, _⟩ := cut_one cut31 hE
    refine ⟨?_, hB⟩
    rw [e2]
    rfl
  have k3 : Hid (∀ W : World, Calls Try.prog 14 #[.slice (some ⟨W.heap.size, 0, none⟩) 1 1] (W.alloc (.cells #[.int .u8 0] 5)) fun r w' => r = .returned (.int .u32 31) ∧ Below W.heap.size W w') := by
    intro W
    have b2 : Below W.heap.size W (W.alloc (.cells #[.int .u8 0] 5)) := (Below.refl _ _).alloc (Nat.le_refl _) _
    refine (hS _ W.heap.size 0 1 [0] _ (by decide) (bat_zero W)).mono ?_
    rintro r w' ⟨rfl, hB⟩
    exact ⟨rfl, b2.trans (hB.mono b2.size)⟩
  clear b1
  go_enter Try.func4, Try.ntmps4
  go_wp2_with fail
  refine (unhide k1).mono ?_
  rintro e w1 ⟨g1, c1, rfl, hT, hc, hB⟩
  have T1 := hide hT
  have B1 := hide hB
  clear hT hB k1
  go_wp2_with fail
  refine (unhide k2 g1 c1 w1 hc (unhide T1)).mono ?_
  rintro e w2 ⟨rfl, hB⟩
  have B2 := hide ((unhide B1).trans (hB.mono (unhide B1).size))
  have T2 := bat_keep (unhide T1) hB
  have c3 := T2.cell 3 (by decide)
  have c8 := T2.cell 8 (by decide)
  have d3 : b13.getD 3 0 = 5 := by decide
  have d8 : b13.getD 8 0 = 0 := by decide
  rw [d3] at c3
  rw [d8] at c8
  clear hB k2 T1 B1 T2 d3 d8
  go_wp2_with fail
  refine (unhide k3 w2).mono ?_
  rintro e w3 ⟨rfl, hB⟩
  have B3 := hide ((unhide B2).trans (hB.mono (unhide B2).size))
  clear hB k3 B2 c3 c8
  go_wp2_with fail
  go_ret
  exact ⟨rfl, unhide B3⟩
end Go.Proofs.Ytpmbgjoilfdkaaa
