/- Two fields held against each other, bit by bit. -/
import Derived.Test.YtpmbgjoilfdkaaaKV2
import Derived.Deep.QuietTactic
import Derived.BigQuiet
namespace Go.Proofs.Ytpmbgjoilfdkaaa
open Go.RowKit Fl Ieee

def noneV : Value := .agg #[.int .i64 0, .slice none 0 0]

theorem below_two (w : World) (o1 o2 : Obj) : Below w.heap.size w ((w.alloc o1).alloc o2) :=
  ((Below.refl _ _).alloc (Nat.le_refl _) o1).alloc (by rw [World.size_alloc]; omega) o2

set_option maxRecDepth 100000 in
set_option maxHeartbeats 3200000 in
theorem sameNone (w : World) : Calls Try.prog 12 #[noneV, noneV] w fun r w' => r = .returned (.bool true) ∧ Below w.heap.size w w' := by
  unfold noneV
  go_enter Try.func12, Try.ntmps12
  go_wp2_with fail
  go_loopw [5] (fun iv wr => iv = .int .i64 0 ∧ wr = (w.alloc (.cells #[.int .i64 0, .slice none 0 0] 30)).alloc (.cells #[.int .i64 0, .slice none 0 0] 30)) (fun _ _ => 0)
  case atStart => exact ⟨rfl, rfl⟩
  case round =>
    obtain ⟨rfl, rfl⟩ := hrel
    go_wp2_with fail
    go_ret
    exact ⟨rfl, below_two _ _ _⟩

/-- The boxes of two fields. -/
structure Box2 (w wr : World) (n g m c g' c' : Nat) : Prop where
  one : wr.heap[w.heap.size]? = some (.cells #[.int .i64 n, .slice (some ⟨g, 0, none⟩) m c] 30 (0, 0))
  two : wr.heap[w.heap.size + 1]? = some (.cells #[.int .i64 n, .slice (some ⟨g', 0, none⟩) m c'] 30 (0, 0))
  bel : Below w.heap.size w wr
theorem box2_new (w : World) (n g m c g' c' : Nat) : Box2 w ((w.alloc (.cells #[.int .i64 n, .slice (some ⟨g, 0, none⟩) m c] 30)).alloc (.cells #[.int .i64 n, .slice (some ⟨g', 0, none⟩) m c'] 30)) n g m c g' c' := by
  have s1 : (w.alloc (.cells #[.int .i64 n, .slice (some ⟨g, 0, none⟩) m c] 30)).heap.size = w.heap.size + 1 := World.size_alloc _ _
  refine ⟨?_, ?_, below_two _ _ _⟩
  · rw [Below.heap_alloc _ _ _ (by rw [s1]; omega)]
    exact heap_alloc_new w _
  · rw [← s1]
    exact heap_alloc_new _ _

set_option maxRecDepth 100000 in
set_option maxHeartbeats 3200000 in
theorem sameRows {n g m c g' c' : Nat} {f f' : Nat → Nat × Nat} (hm : m ≤ 4096) (he : ∀ j, j < m → f' j = f j) (w : World) (h1 : Row w g m f) (h2 : Row w g' m f') :
    Calls Try.prog 12 #[fieldV n g m c, fieldV n g' m c'] w fun r w' => r = .returned (.bool true) ∧ Below w.heap.size w w' := by
  have R1 := hide h1
  have R2 := hide h2
  have HE := hide he
  have B0 := hide (box2_new w n g m c g' c')
  have k0 := bits32
  clear h1 h2 he
  unfold fieldV
  go_enter Try.func12, Try.ntmps12
  go_wp2_with fail
  go_loopw [5] (fun iv wr => ∃ i : Nat, i ≤ m ∧ iv = .int .i64 i ∧ Hid (Box2 w wr n g m c g' c')) (fun iv _ => m - (intOf iv).toNat)
  case atStart => exact ⟨0, Nat.zero_le _, rfl, B0⟩
  case round =>
    clear B0
    obtain ⟨i, hi, rfl, hB⟩ := hrel
    have b1 : wr.cell? ⟨w.heap.size, 1, none⟩ = some (.slice (some ⟨g, 0, none⟩) m c) := by simp [World.cell?, (unhide hB).one]
    have b2 : wr.cell? ⟨w.heap.size + 1, 1, none⟩ = some (.slice (some ⟨g', 0, none⟩) m c') := by simp [World.cell?, (unhide hB).two]
    by_cases hc : i < m
    · have q1 : ((i : Int) < (m : Int)) = True := by simp; omega
      have c1 := row_at (row_below (unhide R1) (unhide hB).bel (row_lt (unhide R1))) hc
      have c2 := row_at (row_below (unhide R2) (unhide hB).bel (row_lt (unhide R2))) hc
      rw [unhide HE i hc] at c2
      unfold cv at c1 c2
      generalize (f i).1 = x at *
      generalize (f i).2 = y at *
      have hB2 : Hid (∀ k, Box2 w (wr.drewN k) n g m c g' c') := fun k => ⟨(unhide hB).one, (unhide hB).two, ⟨(unhide hB).bel.os, (unhide hB).bel.tape, (unhide hB).bel.output, (unhide hB).bel.size, (unhide hB).bel.block⟩⟩
      clear hB
      go_wp2_with fail
      go_quiet (fail)
      have hB3 := hide (unhide hB2 nq)
      generalize wr.drewN nq = W at *
      go_wp2
      all_goals exact ⟨⟨i + 1, hc, by go_num, hB3⟩, by simp [intOf]; omega⟩
    · have q1 : ((i : Int) < (m : Int)) = False := by simp; omega
      go_wp2_with fail
      go_ret
      exact ⟨rfl, (unhide hB).bel⟩
end Go.Proofs.Ytpmbgjoilfdkaaa
