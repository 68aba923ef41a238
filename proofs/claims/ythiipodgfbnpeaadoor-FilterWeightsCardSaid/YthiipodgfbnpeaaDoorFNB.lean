/- How a kind weighs: the values that weigh, and where what they hold lies. -/
import Derived.Test.YthiipodgfbnpeaaDoorRows
import Derived.Test.YthiipodgfbnpeaaDoorS
import Derived.OwnWalk
import Derived.Below
namespace Go.Proofs.YthiipodgfbnpeaaDoor
open Go.RowKit

theorem store_func {P : Program} {w : World} {a : Addr} {m : Mode} (f : Fn) (x y : Array Value) : (store a (.func f x y) m).run P w = stored P w a (.func f x y) m := run_store P w a _ m rfl
attribute [local go_sem] store_func

def pt (b : Nat) : Value := .pointer (some ⟨b, 0, none⟩)
def rampV (b : Nat) : Value := .func (.func 25) #[] #[pt (b + 1)]
/-- What weighs by a kind, its boxes from b on. -/
def byV (kind b : Nat) : Value := if kind = 1 then .func (.func 24) #[] #[] else if kind = 2 then rampV b else .func (.func 26) #[] #[pt (b + 1 + 1), pt b]
/-- The boxes of the roots, of their number, of the ramp. -/
def Boxes (w : World) (b : Nat) (r : Value) (n : Nat) : Prop := w.cell? ⟨b, 0, none⟩ = some r ∧ w.cell? ⟨b + 1, 0, none⟩ = some (.int .i64 n) ∧ w.cell? ⟨b + 1 + 1, 0, none⟩ = some (rampV b) ∧ b + 1 + 1 < w.heap.size

theorem boxes_below {w w' : World} {b n B : Nat} {r : Value} (h : Boxes w b r n) (hb : Below B w w') (hB : b + 1 + 1 < B) : Boxes w' b r n :=
  ⟨(hb.cell (p := ⟨b, 0, none⟩) (by show b < _; omega)).trans h.1, (hb.cell (p := ⟨b + 1, 0, none⟩) (by show b + 1 < _; omega)).trans h.2.1, (hb.cell (p := ⟨b + 1 + 1, 0, none⟩) hB).trans h.2.2.1, Nat.lt_of_lt_of_le h.2.2.2 hb.size⟩

theorem cell_new (w : World) (v : Value) (t : TypeId) {b : Nat} (h : w.heap.size = b) : (w.alloc (.cells #[v] t)).cell? ⟨b, 0, none⟩ = some v := by subst h; simp

theorem boxes_new (w : World) (r : Value) (n : Nat) (t1 t2 t3 : TypeId) : Boxes (((w.alloc (.cells #[r] t1)).alloc (.cells #[.int .i64 n] t2)).alloc (.cells #[rampV w.heap.size] t3)) w.heap.size r n := by
  have s1 : (w.alloc (.cells #[r] t1)).heap.size = w.heap.size + 1 := World.size_alloc _ _
  have s2 : ((w.alloc (.cells #[r] t1)).alloc (.cells #[.int .i64 n] t2)).heap.size = w.heap.size + 1 + 1 := by rw [World.size_alloc, s1]
  refine ⟨?_, ?_, ?_, ?_⟩
  · refine (World.cell?_of_block (Below.heap_alloc _ _ _ (by rw [s2]; show w.heap.size < _; omega))).trans ((World.cell?_of_block (Below.heap_alloc _ _ _ (by rw [s1]; show w.heap.size < _; omega))).trans ?_)
    simp
  · refine (World.cell?_of_block (Below.heap_alloc _ _ _ (by rw [s2]; show w.heap.size + 1 < _; omega))).trans ?_
    rw [← s1]
    simp
  · exact cell_new _ _ _ s2
  · rw [World.size_alloc, s2]
    omega

theorem below_three (w : World) (o1 o2 o3 : Obj) : Below w.heap.size w (((w.alloc o1).alloc o2).alloc o3) :=
  (((Below.refl _ _).alloc (Nat.le_refl _) o1).alloc (by rw [World.size_alloc]; omega) o2).alloc (by rw [World.size_alloc, World.size_alloc]; omega) o3

set_option maxHeartbeats 1600000 in
theorem by_kind {kind : Nat} (h1 : 1 ≤ kind) (h3 : kind ≤ 3) (a : Option Addr) (n c : Nat) (w : World) :
    Calls Tryd.prog 15 #[.int .i64 kind, .slice a n c] w fun r w' => r = .returned (.tuple #[byV kind w.heap.size, .bool true]) ∧ Boxes w' w.heap.size (.slice a n c) n ∧ Below w.heap.size w w' := by
  have q : kind = 1 ∨ kind = 2 ∨ kind = 3 := by omega
  clear h1 h3
  rcases q with rfl | rfl | rfl
  · go_enter Tryd.func15, Tryd.ntmps15
    go_wp2_with fail
    go_ret2
    exact ⟨rfl, boxes_new w _ n _ _ _, below_three _ _ _ _⟩
  · go_enter Tryd.func15, Tryd.ntmps15
    go_wp2_with fail
    go_ret2
    exact ⟨rfl, boxes_new w _ n _ _ _, below_three _ _ _ _⟩
  · go_enter Tryd.func15, Tryd.ntmps15
    go_wp2_with fail
    go_ret2
    exact ⟨rfl, boxes_new w _ n _ _ _, below_three _ _ _ _⟩

set_option maxHeartbeats 1600000 in
theorem by_none {k : Int} (h : k < 1 ∨ 3 < k) (a : Option Addr) (n c : Nat) (w : World) :
    Calls Tryd.prog 15 #[.int .i64 k, .slice a n c] w fun r w' => r = .returned (.tuple #[.nilFunc, .bool false]) ∧ Below w.heap.size w w' := by
  have d1 : (k == 1) = false := by rw [beq_eq_false_iff_ne]; omega
  have d2 : (k == 2) = false := by rw [beq_eq_false_iff_ne]; omega
  have d3 : (k == 3) = false := by rw [beq_eq_false_iff_ne]; omega
  clear h
  go_enter Tryd.func15, Tryd.ntmps15
  go_wp2_with fail
  go_ret2
  exact ⟨rfl, below_three _ _ _ _⟩
end Go.Proofs.YthiipodgfbnpeaaDoor
