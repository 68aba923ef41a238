/- Slices of directions; two of them alike. -/
import Derived.Test.YthbghcebcahlnaaM32
namespace Go.Proofs.Ythbghcebcahlnaa
open Go.RowKit

/-- A slice of directions in memory. -/
structure Dirs (w : World) (a : Option Addr) (g o : Nat) (L : List (Int × Int)) : Prop where
  at_ : 0 < L.length → a = some ⟨g, o, none⟩ ∧ g < w.heap.size
  cell : ∀ i c, L[i]? = some c → w.cell? ⟨g, o + i * 2, none⟩ = some (.int .i64 c.1) ∧ w.cell? ⟨g, o + i * 2 + 1, none⟩ = some (.int .i64 c.2)

theorem dirs_below {w w' : World} {a : Option Addr} {g o : Nat} {L : List (Int × Int)} (h : Dirs w a g o L) (hb : Below w.heap.size w w') : Dirs w' a g o L := by
  refine ⟨fun hl => ⟨(h.at_ hl).1, Nat.lt_of_lt_of_le (h.at_ hl).2 hb.size⟩, fun i c hi => ?_⟩
  have hl : 0 < L.length := by
    have := (List.getElem?_eq_some_iff.1 hi).1
    omega
  exact ⟨(hb.cell (h.at_ hl).2).trans (h.cell i c hi).1, (hb.cell (h.at_ hl).2).trans (h.cell i c hi).2⟩

theorem dirs_owns {w : World} {B : Nat} {v : Value} {L : List (Int × Int)} (h : w.ownsRow B 47 2 v L.length (flat2 L)) : ∃ a cap g, v = .slice a L.length cap ∧ Dirs w a g 0 L := by
  rcases h.2 with ⟨h1, h2⟩ | ⟨g, cap, cur, h1, h2, h3, h4, h5, h6, h7⟩
  · refine ⟨none, 0, 0, by rw [h2]; exact h1, ⟨fun hl => by omega, fun i c hi => ?_⟩⟩
    have := (List.getElem?_eq_some_iff.1 hi).1
    omega
  · refine ⟨_, cap, g, h1, ⟨fun _ => ⟨rfl, (Array.getElem?_eq_some_iff.1 h3).1⟩, fun i c hi => ?_⟩⟩
    have hlt := (List.getElem?_eq_some_iff.1 hi).1
    obtain ⟨f1, f2⟩ := flat2_get hi
    rw [← h7, List.getElem?_take, if_pos (by omega)] at f1 f2
    rw [Nat.zero_add]
    refine ⟨?_, ?_⟩
    · simp [World.cell?, h3]
      simpa using f1
    · simp [World.cell?, h3]
      simpa using f2

theorem infoDir : ((barP Try.prog).info? 47).map (fun i => (i.zero, i.size, i.bytes)) = some (some (.agg #[.int .i64 0, .int .i64 0]), 2, 16) := by kernel_rfl

theorem flat2_at {L : List (Int × Int)} {j : Nat} {u : Value} (h : (flat2 L)[j]? = some u) : ∃ i c, L[i]? = some c ∧ ((j = i * 2 ∧ u = .int .i64 c.1) ∨ (j = i * 2 + 1 ∧ u = .int .i64 c.2)) := by
  have hj := (List.getElem?_eq_some_iff.1 h).1
  rw [flat2_length] at hj
  obtain ⟨x, y, hc⟩ := pairs2_get (L := L) (i := j / 2) (by omega)
  obtain ⟨f1, f2⟩ := flat2_get hc
  by_cases c : j % 2 = 0
  · have e : j = j / 2 * 2 := by omega
    rw [← e, h] at f1
    exact ⟨j / 2, (x, y), hc, Or.inl ⟨e, by simpa using f1⟩⟩
  · have e : j = j / 2 * 2 + 1 := by omega
    rw [← e, h] at f2
    exact ⟨j / 2, (x, y), hc, Or.inr ⟨e, by simpa using f2⟩⟩

theorem addr_plus (g o j : Nat) : (⟨g, o, none⟩ : Addr).add j = ⟨g, o + j, none⟩ := by unfold Addr.add; split <;> simp_all

end Go.Proofs.Ythbghcebcahlnaa
