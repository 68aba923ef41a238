/- Lists of ints in memory; the document's SameInts and Width. -/
import Derived.Test.YthbghcebcahlnaaDL
import Derived.Deep.RegionHeld3
import Derived.Deep.RegionLaw
namespace Go.Proofs.Ythbghcebcahlnaa
open Go.RowKit

structure IntsAt (w : World) (a : Option Addr) (g o : Nat) (L : List Int) : Prop where
  at_ : 0 < L.length → a = some ⟨g, o, none⟩ ∧ g < w.heap.size
  cell : ∀ i c, L[i]? = some c → w.cell? ⟨g, o + i, none⟩ = some (.int .i64 c)

def Ints (w : World) (v : Value) (L : List Int) : Prop := ∃ a cap g o, v = .slice a L.length cap ∧ IntsAt w a g o L

theorem IntsAt.below {w w' : World} {a : Option Addr} {g o : Nat} {L : List Int} (h : IntsAt w a g o L) (hb : Below w.heap.size w w') : IntsAt w' a g o L := by
  refine ⟨fun hl => ⟨(h.at_ hl).1, Nat.lt_of_lt_of_le (h.at_ hl).2 hb.size⟩, fun i c hi => ?_⟩
  have hl : 0 < L.length := by
    have := (List.getElem?_eq_some_iff.1 hi).1
    omega
  exact (hb.cell (p := ⟨g, o + i, none⟩) (h.at_ hl).2).trans (h.cell i c hi)

theorem ints_below {w w' : World} {v : Value} {L : List Int} (h : Ints w v L) (hb : Below w.heap.size w w') : Ints w' v L := by
  obtain ⟨a, cap, g, o, h1, h2⟩ := h
  exact ⟨a, cap, g, o, h1, h2.below hb⟩
theorem ints_none (w : World) : Ints w (.slice none 0 0) [] := ⟨none, 0, 0, 0, rfl, ⟨fun h => absurd h (by simp), fun i c h => by simp at h⟩⟩

theorem IntsAt.get {w : World} {a : Option Addr} {g o : Nat} {L : List Int} (h : IntsAt w a g o L) {i : Nat} (hi : i < L.length) : w.cell? ⟨g, o + i, none⟩ = some (.int .i64 (L.getD i 0)) := by
  refine h.cell i _ ?_
  rw [List.getD_eq_getElem?_getD, List.getElem?_eq_getElem hi]
  rfl

theorem heapCell {w w' : World} (h : w'.heap = w.heap) (p : Addr) : w'.cell? p = w.cell? p := by unfold World.cell?; rw [h]

set_option maxHeartbeats 1600000 in
/-- Two lists that are the same. -/
theorem sameYes {u v : Value} {L : List Int} (hL : L.length ≤ 9223372036854775807) (w : World) (hu : Ints w u L) (hv : Ints w v L) :
    Calls (barP Try.prog) 12 #[u, v] w fun e w' => e = .returned (.bool true) ∧ Below w.heap.size w w' := by
  obtain ⟨a1, cap1, g1, o1, rfl, h1⟩ := hu
  obtain ⟨a2, cap2, g2, o2, rfl, h2⟩ := hv
  have s1 := hide h1.at_
  have s2 := hide h2.at_
  have t1 := hide (fun i (hi : i < L.length) => h1.get hi)
  have t2 := hide (fun i (hi : i < L.length) => h2.get hi)
  clear h1 h2
  go_enter Bar.func12, Bar.ntmps12
  go_wp2_with fail
  go_loopw [5] (fun iv wr => ∃ i : Nat, i ≤ L.length ∧ iv = .int .i64 i ∧ Hid (wr.heap = w.heap) ∧ Hid (Below w.heap.size w wr)) (fun iv _ => L.length - (intOf iv).toNat)
  case atStart => exact ⟨0, Nat.zero_le _, rfl, rfl, Below.refl _ _⟩
  case round =>
    obtain ⟨i, hi, rfl, hh, hB⟩ := hrel
    by_cases c : i < L.length
    · have q1 : ((i : Int) < (L.length : Int)) = True := by simp; omega
      have k1 := (heapCell (unhide hh) _).trans (unhide t1 i c)
      have k2 := (heapCell (unhide hh) _).trans (unhide t2 i c)
      rw [(unhide s1 (by omega)).1, (unhide s2 (by omega)).1]
      generalize L.length = N at *
      generalize L.getD i 0 = x at *
      go_wp2_with fail
      go_quiet (fail)
      go_wp2_with fail
      have hb := unhide hB
      exact ⟨⟨i + 1, c, by go_num, unhide hh, ⟨hb.os, hb.tape, hb.output, hb.size, hb.block⟩⟩, by simp [intOf]; omega⟩
    · have q1 : ((i : Int) < (L.length : Int)) = False := by simp; omega
      generalize L.length = N at *
      go_wp2_with fail
      go_ret
      exact ⟨rfl, unhide hB⟩

/-- How wide the first k bounds are together. -/
def widK (A B : List Int) : Nat → Int
  | 0 => 0
  | k + 1 => wrap64 (widK A B k + wrap64 (B.getD k 0 - A.getD k 0))
def widS (A B : List Int) : Int := widK A B (min A.length B.length)

def WidthOk (f : Nat) : Prop := ∀ (A B : List Int) (u v : Value) (w : World), A.length ≤ 9223372036854775807 → B.length ≤ 9223372036854775807 → Ints w u A → Ints w v B →
  Calls (barP Try.prog) f #[u, v] w fun e w' => e = .returned (.int .i64 (widS A B)) ∧ Below w.heap.size w w'

end Go.Proofs.Ythbghcebcahlnaa
