/- Which cells are certain, and how wide bounds are: the walk. -/
import Derived.Test.YthbghcebcahlnaaBC
namespace Go.Proofs.Ythbghcebcahlnaa
open Go.RowKit

theorem BoolsAt.get {w : World} {a : Option Addr} {g o : Nat} {L : List Bool} (h : BoolsAt w a g o L) {i : Nat} (hi : i < L.length) : w.cell? ⟨g, o + i, none⟩ = some (.bool (L.getD i false)) := by
  refine h.cell i _ ?_
  rw [List.getD_eq_getElem?_getD, List.getElem?_eq_getElem hi]
  rfl

def AliveOk : Prop := ∀ w : World, Calls (barP Try.prog) 5 #[] w fun e w' => e = .returned (.bool true) ∧ Below w.heap.size w w'

section
variable {w6 W W' : World} {b : Nat} {x y : Value}
theorem held_keep (hb : b < w6.heap.size) (h : W.cell? ⟨b, 0, none⟩ = some x ∧ W.cell? ⟨b, 1, none⟩ = some y ∧ Hid (Below w6.heap.size w6 W)) (k : Hid (Below W.heap.size W W')) :
    W'.cell? ⟨b, 0, none⟩ = some x ∧ W'.cell? ⟨b, 1, none⟩ = some y ∧ Hid (Below w6.heap.size w6 W') := by
  have hs := (unhide h.2.2).size
  have k := unhide k
  exact ⟨(k.cell (p := ⟨b, 0, none⟩) (by show b < _; omega)).trans h.1, (k.cell (p := ⟨b, 1, none⟩) (by show b < _; omega)).trans h.2.1, (unhide h.2.2).trans (k.mono hs)⟩
theorem held_drew (h : W.cell? ⟨b, 0, none⟩ = some x ∧ W.cell? ⟨b, 1, none⟩ = some y ∧ Hid (Below w6.heap.size w6 W)) : W.drew.cell? ⟨b, 0, none⟩ = some x ∧ W.drew.cell? ⟨b, 1, none⟩ = some y ∧ Hid (Below w6.heap.size w6 W.drew) :=
  ⟨h.1, h.2.1, (unhide h.2.2).drew⟩
theorem same_held {u v : Value} {L : List Int} (h : W.cell? ⟨b, 0, none⟩ = some x ∧ W.cell? ⟨b, 1, none⟩ = some y ∧ Hid (Below w6.heap.size w6 W)) (hL : L.length ≤ 9223372036854775807) (hu : Hid (Ints w6 u L)) (hv : Hid (Ints w6 v L)) :
    Calls (barP Try.prog) 12 #[u, v] W fun e w' => e = .returned (.bool true) ∧ Below W.heap.size W w' :=
  sameYes hL W (ints_below (unhide hu) (unhide h.2.2)) (ints_below (unhide hv) (unhide h.2.2))
theorem width_held {f : Nat} {u v : Value} {A B : List Int} (hW : Hid (WidthOk f)) (h : W.cell? ⟨b, 0, none⟩ = some x ∧ W.cell? ⟨b, 1, none⟩ = some y ∧ Hid (Below w6.heap.size w6 W)) (lA : A.length ≤ 9223372036854775807) (lB : B.length ≤ 9223372036854775807) (hu : Hid (Ints w6 u A)) (hv : Hid (Ints w6 v B)) :
    Calls (barP Try.prog) f #[u, v] W fun e w' => e = .returned (.int .i64 (widS A B)) ∧ Below W.heap.size W w' :=
  unhide hW A B u v W lA lB (ints_below (unhide hu) (unhide h.2.2)) (ints_below (unhide hv) (unhide h.2.2))
end

theorem wide_len (n : Int) : (wideLo n).length ≤ 9223372036854775807 ∧ (wideHi n).length ≤ 9223372036854775807 := by
  unfold wideLo wideHi
  by_cases h : n < 1 ∨ 16 < n
  · rw [if_pos h, if_pos h]
    exact ⟨Nat.zero_le _, Nat.zero_le _⟩
  · rw [if_neg h, if_neg h, List.length_replicate, List.length_replicate]
    have : n.toNat * n.toNat ≤ 16 * 16 := Nat.mul_le_mul (by omega) (by omega)
    omega

end Go.Proofs.Ythbghcebcahlnaa
