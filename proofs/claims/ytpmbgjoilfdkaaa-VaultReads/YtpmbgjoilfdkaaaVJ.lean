/- The document's longest beginning that is a file. -/
import Derived.Test.YtpmbgjoilfdkaaaVI
namespace Go.Proofs.Ytpmbgjoilfdkaaa
open Go.RowKit Fl Ieee

/-- What is asked of the slices of the longest beginning. -/
def CutsPost (L : List Nat) (w : World) (r : Ending) (w' : World) : Prop := ∃ (c : Nat) (S : Nat → Sli) (P : Nat → Nat) (G : Nat → Nat × Nat) (a : Option Addr) (cap : Nat), r = .returned (.tuple #[.slice a c cap, .int .i64 (P c : Nat)]) ∧ CutEnd L c S P ∧ Grids w' w.heap.size (.slice a c cap) c S G ∧ Below w.heap.size w w'
def CutsOk (fn : Nat) : Prop := ∀ (a : Option Addr) (g o cap : Nat) (L : List Nat) (w : World), BAt w a g o L → (a = none → cap = 0) → L.length ≤ cap → L.length ≤ 140737488355328 →
  Calls Try.prog fn #[.slice a L.length cap] w (CutsPost L w)

theorem bat_drop {w : World} {g o p : Nat} {L : List Nat} (h : BAt w (some ⟨g, o, none⟩) g o L) : BAt w (some ⟨g, o + p, none⟩) g (o + p) (L.drop p) := by
  have hg : ∀ i, (L.drop p).getD i 0 = L.getD (p + i) 0 := fun i => by
    rw [List.getD_eq_getElem?_getD, List.getD_eq_getElem?_getD, List.getElem?_drop]
  refine ⟨fun i => by rw [hg]; exact h.lt _, fun hl => ?_, fun i hi => ?_⟩
  · rw [List.length_drop] at hl
    exact ⟨rfl, (h.at_ (by omega)).2⟩
  · rw [List.length_drop] at hi
    rw [hg, Nat.add_assoc]
    exact h.cell _ (by omega)
theorem next_at {a ab : Option Addr} {l cap g o cb m : Nat} {prev : Option Sli} {B : List Nat} (w : World) (hL : LastAt w a l prev) (hB : BAt w ab g o B) (hm : m = B.length) (hc : m ≤ cb) (hb : m ≤ 140737488355328) :
    Calls Try.prog 25 #[.slice a l cap, .slice ab m cb] w fun r w' => ((∃ n f k gz cz, NextIs prev B n f k ∧ r = .returned (.tuple #[.agg #[.int .i64 (n : Nat), .slice (some ⟨gz, 0, none⟩) (n * n) cz], .int .i64 (k : Nat), .bool true]) ∧ Row w' gz (n * n) f ∧ w.heap.size ≤ gz ∧ 1 ≤ n ∧ n ≤ 64 ∧ Bits n f) ∨
    ((∀ n f k, ¬ NextIs prev B n f k) ∧ r = .returned (.tuple #[.agg #[.int .i64 0, .slice none 0 0], .int .i64 0, .bool false]))) ∧ Below w.heap.size w w' := by
  subst hm
  exact refNext a ab l cap g o cb prev B w hL hB hc hb
theorem next_nil {prev : Option Sli} {n k : Nat} {f : Nat → Nat × Nat} {B : List Nat} (h : NextIs prev B n f k) (hB : B.length < 9) : False := by
  have := h.len
  omega
theorem cuts_zero (L : List Nat) (S : Nat → Sli) : Cuts L 0 S (fun _ => 0) := ⟨rfl, fun i hi => absurd hi (Nat.not_lt_zero i)⟩
def lenOf : Value → Nat
  | .slice _ n _ => n
  | _ => 0

set_option maxRecDepth 100000 in
set_option maxHeartbeats 6400000 in
theorem refCutNil (a : Option Addr) (cap : Nat) (w : World) (hn : a = none → cap = 0) : Calls Try.prog 16 #[.slice a 0 cap] w (CutsPost [] w) := by
  have kN := hide (fun (ab : Option Addr) (cb : Nat) => next_at (a := none) (ab := ab) (l := 0) (cap := 0) (g := 0) (o := 0) (cb := cb) (prev := none) (B := []) w (.inl ⟨rfl, rfl⟩) (bat_nil rfl) rfl (Nat.zero_le _) (by decide))
  have hE : Hid (CutEnd [] 0 (fun _ => (0, fun _ => (0, 0))) (fun _ => 0)) := ⟨cuts_zero _ _, by decide, .inr fun n f k h => absurd (next_nil h (by decide)) id⟩
  have NN : Hid (∀ n f k, ¬ NextIs none [] n f k) := fun n f k h => next_nil h (by decide)
  cases a with
  | none =>
    obtain rfl := hn rfl
    go_enter Try.func16, Try.ntmps16
    go_wp2_with fail
    go_loopw [4, 5] (fun lv av wr => lv = .slice none 0 0 ∧ av = .int .i64 0 ∧ wr = w) (fun _ _ _ => 0)
    case atStart => exact ⟨rfl, rfl, rfl⟩
    case round =>
      obtain ⟨rfl, rfl, rfl⟩ := hrel
      go_wp2_with fail
      refine (unhide kN _ _).mono ?_
      rintro e w2 ⟨⟨n, f, k, gz, cz, h, _⟩ | ⟨_, rfl⟩, hb⟩
      · exact absurd h (unhide NN n f k)
      · have B2 := hide hb
        clear hb kN
        go_wp2_with fail
        go_ret2
        exact ⟨0, _, _, fun _ => (0, 0), none, 0, rfl, unhide hE, grids_nil _ _ _ _, (unhide B2).alloc (unhide B2).size _⟩
  | some ad =>
    by_cases hc : cap = 0
    · subst hc
      go_enter Try.func16, Try.ntmps16
      go_wp2_with fail
      go_loopw [4, 5] (fun lv av wr => lv = .slice none 0 0 ∧ av = .int .i64 0 ∧ wr = w) (fun _ _ _ => 0)
      case atStart => exact ⟨rfl, rfl, rfl⟩
      case round =>
        obtain ⟨rfl, rfl, rfl⟩ := hrel
        go_wp2_with fail
        refine (unhide kN _ _).mono ?_
        rintro e w2 ⟨⟨n, f, k, gz, cz, h, _⟩ | ⟨_, rfl⟩, hb⟩
        · exact absurd h (unhide NN n f k)
        · have B2 := hide hb
          clear hb kN
          go_wp2_with fail
          go_ret2
          exact ⟨0, _, _, fun _ => (0, 0), none, 0, rfl, unhide hE, grids_nil _ _ _ _, (unhide B2).alloc (unhide B2).size _⟩
    · have hc' : (cap = 0) = False := by simp; omega
      go_enter Try.func16, Try.ntmps16
      go_wp2_with fail
      go_loopw [4, 5] (fun lv av wr => lv = .slice none 0 0 ∧ av = .int .i64 0 ∧ wr = w) (fun _ _ _ => 0)
      case atStart => exact ⟨rfl, rfl, rfl⟩
      case round =>
        obtain ⟨rfl, rfl, rfl⟩ := hrel
        go_wp2_with fail
        refine (unhide kN _ _).mono ?_
        rintro e w2 ⟨⟨n, f, k, gz, cz, h, _⟩ | ⟨_, rfl⟩, hb⟩
        · exact absurd h (unhide NN n f k)
        · have B2 := hide hb
          clear hb kN
          go_wp2_with fail
          go_ret2
          exact ⟨0, _, _, fun _ => (0, 0), none, 0, rfl, unhide hE, grids_nil _ _ _ _, (unhide B2).alloc (unhide B2).size _⟩
end Go.Proofs.Ytpmbgjoilfdkaaa
