/- Slices of directions; two of them alike. -/
import Derived.Test.YtkjjhllmedkfhaaDF
import Derived.Test.YtkjjhllmedkfhaaDQ
namespace Go.Proofs.Ytkjjhllmedkfhaa
open Go.RowKit

/-- A slice of directions in memory. -/
structure Dirs (w : World) (a : Option Addr) (g o : Nat) (L : List (Int × Int)) : Prop where
  at_ : 0 < L.length → a = some ⟨g, o, none⟩ ∧ g < w.heap.size
  cell : ∀ i c, L[i]? = some c → w.cell? ⟨g, o + i * 2, none⟩ = some (.int .i64 c.1) ∧ w.cell? ⟨g, o + i * 2 + 1, none⟩ = some (.int .i64 c.2)

theorem dirs_below {w w' : World} {a : Option Addr} {g o : Nat} {L : List (Int × Int)} (h : Dirs w a g o L) (hb : Below w.heap.size w w') : Dirs w' a g o L := by
  refine ⟨fun hl => ⟨(h.at_ hl).1, Nat.lt_of_lt_of_le (h.at_ hl).2 hb.size⟩, fun i c hi => ?_⟩
  have hl : 0 < L.length := by
    have := (List.getElem?_eq_some_iff.1 hi).1
    omega
  exact ⟨(hb.cell (h.at_ hl).2).trans (h.cell i c hi).1, (hb.cell (h.at_ hl).2).trans (h.cell i c hi).2⟩

theorem dirs_owns {w : World} {B : Nat} {v : Value} {L : List (Int × Int)} (h : w.ownsRow B 23 2 v L.length (flat2 L)) : ∃ a cap g, v = .slice a L.length cap ∧ Dirs w a g 0 L := by
  rcases h.2 with ⟨h1, h2⟩ | ⟨g, cap, cur, h1, h2, h3, h4, h5, h6, h7⟩
  · refine ⟨none, 0, 0, by rw [h2]; exact h1, ⟨fun hl => by omega, fun i c hi => ?_⟩⟩
    have := (List.getElem?_eq_some_iff.1 hi).1
    omega
  · refine ⟨_, cap, g, h1, ⟨fun _ => ⟨rfl, (Array.getElem?_eq_some_iff.1 h3).1⟩, fun i c hi => ?_⟩⟩
    have hlt := (List.getElem?_eq_some_iff.1 hi).1
    obtain ⟨f1, f2⟩ := flat2_get hi
    rw [← h7, List.getElem?_take, if_pos (by omega)] at f1 f2
    rw [Nat.zero_add]
    refine ⟨?_, ?_⟩
    · simp [World.cell?, h3]
      simpa using f1
    · simp [World.cell?, h3]
      simpa using f2

set_option maxHeartbeats 1600000 in
theorem sameAny {L : List (Int × Int)} {a b : Option Addr} {ca cb g o g' o' : Nat} (hN : L.length ≤ 9223372036854775807) (w : World) (h : Dirs w a g o L) (h' : Dirs w b g' o' L) :
    Calls Try.prog 20 #[.slice a L.length ca, .slice b L.length cb] w fun e w' => e = .returned (.bool true) ∧ Below w.heap.size w w' := by
  have H := hide h
  have H' := hide h'
  have hat := hide (fun i (hi : i < L.length) => pairs2_get (L := L) hi)
  clear h h'
  generalize hNN : L.length = N at *
  go_enter Try.func20, Try.ntmps20
  go_wp2_with fail
  go_loopw [5] (fun ix wr => ∃ i : Nat, i ≤ N ∧ ix = .int .i64 i ∧ Hid (Below w.heap.size w wr)) (fun ix _ => N - (intOf ix).toNat)
  case atStart => exact ⟨0, Nat.zero_le _, rfl, Below.refl _ _⟩
  case round =>
    obtain ⟨i, hi, rfl, hBr⟩ := hrel
    by_cases hc : i < N
    · have qq : ((i : Int) < (N : Int)) = True := by simp; omega
      obtain ⟨x, y, hd⟩ := unhide hat i hc
      obtain ⟨e1, l1⟩ := (unhide H).at_ (by omega)
      obtain ⟨e2, l2⟩ := (unhide H').at_ (by omega)
      have c1 := ((unhide hBr).cell (p := ⟨g, o + i * 2, none⟩) l1).trans ((unhide H).cell i _ hd).1
      have c2 := ((unhide hBr).cell (p := ⟨g, o + i * 2 + 1, none⟩) l1).trans ((unhide H).cell i _ hd).2
      have c3 := ((unhide hBr).cell (p := ⟨g', o' + i * 2, none⟩) l2).trans ((unhide H').cell i _ hd).1
      have c4 := ((unhide hBr).cell (p := ⟨g', o' + i * 2 + 1, none⟩) l2).trans ((unhide H').cell i _ hd).2
      dsimp only at c1 c2 c3 c4
      rw [e1, e2]
      clear hd hNN
      go_wp2_with fail
      go_quiet (fail)
      go_wp2_with fail
      have hb := unhide hBr
      exact ⟨⟨i + 1, hc, by go_num, ⟨hb.os, hb.tape, hb.output, hb.size, hb.block⟩⟩, by simp [intOf]; omega⟩
    · have qq : ((i : Int) < (N : Int)) = False := by simp; omega
      clear hNN
      go_wp2_with fail
      go_ret
      exact ⟨rfl, unhide hBr⟩

theorem infoDir : (Try.prog.info? 23).map (fun i => (i.zero, i.size, i.bytes)) = some (some (.agg #[.int .i64 0, .int .i64 0]), 2, 16) := by kernel_rfl

theorem flat2_at {L : List (Int × Int)} {j : Nat} {u : Value} (h : (flat2 L)[j]? = some u) : ∃ i c, L[i]? = some c ∧ ((j = i * 2 ∧ u = .int .i64 c.1) ∨ (j = i * 2 + 1 ∧ u = .int .i64 c.2)) := by
  have hj := (List.getElem?_eq_some_iff.1 h).1
  rw [flat2_length] at hj
  obtain ⟨x, y, hc⟩ := pairs2_get (L := L) (i := j / 2) (by omega)
  obtain ⟨f1, f2⟩ := flat2_get hc
  by_cases c : j % 2 = 0
  · have e : j = j / 2 * 2 := by omega
    rw [← e, h] at f1
    exact ⟨j / 2, (x, y), hc, Or.inl ⟨e, by simpa using f1⟩⟩
  · have e : j = j / 2 * 2 + 1 := by omega
    rw [← e, h] at f2
    exact ⟨j / 2, (x, y), hc, Or.inr ⟨e, by simpa using f2⟩⟩

theorem addr_plus (g o j : Nat) : (⟨g, o, none⟩ : Addr).add j = ⟨g, o + j, none⟩ := by unfold Addr.add; split <;> simp_all

end Go.Proofs.Ytkjjhllmedkfhaa
