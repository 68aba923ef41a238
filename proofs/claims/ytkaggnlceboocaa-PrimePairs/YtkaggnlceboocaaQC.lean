/- The cells of a line are told as the document says: the walk. -/
import Derived.Test.YtkaggnlceboocaaQB
namespace Go.Proofs.Ytkaggnlceboocaa
open Go.RowKit

def AliveOk : Prop := ∀ w : World, Calls Try.prog 5 #[] w fun e w' => e = .returned (.bool true) ∧ Below w.heap.size w w'

theorem at2 {w : World} {L : List (Int × Int)} {g o i : Nat} (h3 : ∀ i c, L[i]? = some c → w.cell? ⟨g, o + i * 2, none⟩ = some (.int .i64 c.1) ∧ w.cell? ⟨g, o + i * 2 + 1, none⟩ = some (.int .i64 c.2)) (hi : i < L.length) :
    ∃ x y, L[i]? = some (x, y) ∧ w.cell? ⟨g, o + i * 2, none⟩ = some (.int .i64 x) ∧ w.cell? ⟨g, o + i * 2 + 1, none⟩ = some (.int .i64 y) := by
  have e : L[i]? = some (L[i].1, L[i].2) := List.getElem?_eq_getElem hi
  exact ⟨_, _, e, (h3 i _ e).1, (h3 i _ e).2⟩
theorem cellHeap {w w' : World} (h : w'.heap = w.heap) (p : Addr) : w'.cell? p = w.cell? p := by unfold World.cell?; rw [h]

theorem linePS_len (p m t : Int) : (linePS p m t).1.length ≤ 61 := by
  unfold linePS
  split
  · exact Nat.zero_le _
  · rename_i h
    split
    · exact Nat.zero_le _
    · obtain ⟨n, rfl, _, h2, _⟩ := isP_nat (p := p) (by simpa using h)
      rw [lineP_len]
      simpa using h2

set_option maxHeartbeats 6400000 in
set_option maxRecDepth 100000 in
theorem linesWalk (hal : AliveOk) (hl : LineOk 6) (p m t : Int) (w : World) :
    Calls Try.prog 3 #[.int .i64 p, .int .i64 m, .int .i64 t] w fun e w' => e = .returned (.bool true) ∧ Below w.heap.size w w' := by
  have kL := hide (fun W => hl p m t W)
  have rL := hide (fun W => refLine p m t W)
  have hlen := linePS_len p m t
  have hal := hide hal
  generalize linePS p m t = ll at *
  obtain ⟨L, le⟩ := ll
  dsimp only at *
  clear hl
  go_enter Try.func3, Try.ntmps3
  go_wp2_with fail
  refine (unhide hal _).mono ?_
  rintro e w1 ⟨rfl, hb1⟩
  have B1 := hide hb1
  clear hb1 hal
  go_wp2_with fail
  refine (unhide kL _).mono ?_
  rintro e w2 ⟨v, rfl, hp2, hb2⟩
  have B2 := hide ((unhide B1).trans (hb2.mono (unhide B1).size))
  have P2 := hide hp2
  clear hb2 hp2 kL B1
  go_wp2_with fail
  refine (unhide rL _).mono ?_
  rintro e w3 ⟨v', rfl, hp3, hb3⟩
  have B3 := hide ((unhide B2).trans (hb3.mono (unhide B2).size))
  obtain ⟨a1, c1, g1, o1, rfl, s1, t1⟩ := pairs2_below (unhide P2) hb3
  obtain ⟨a2, c2, g2, o2, rfl, s2, t2⟩ := hp3
  have s1 := hide s1
  have s2 := hide s2
  have t1 := hide t1
  have t2 := hide t2
  clear hb3 rL B2 P2
  go_wp2_with fail
  go_loopw [11] (fun ix wr => ∃ i : Nat, i ≤ L.length ∧ ix = .int .i64 i ∧ Hid (wr.heap = w3.heap) ∧ Hid (Below w.heap.size w wr)) (fun ix _ => L.length - (intOf ix).toNat)
  case atStart => exact ⟨0, Nat.zero_le _, rfl, rfl, B3⟩
  case round =>
    obtain ⟨i, hi, rfl, hh, hBr⟩ := hrel
    by_cases hc : i < L.length
    · have qq : ((i : Int) < (L.length : Int)) = True := by simp; omega
      obtain ⟨x, y, e1, k1, k2⟩ := at2 (unhide t1) hc
      obtain ⟨x', y', e2, k3, k4⟩ := at2 (unhide t2) hc
      rw [e1] at e2
      obtain ⟨rfl, rfl⟩ : x = x' ∧ y = y' := by simpa using e2
      have k1 := (cellHeap (unhide hh) _).trans k1
      have k2 := (cellHeap (unhide hh) _).trans k2
      have k3 := (cellHeap (unhide hh) _).trans k3
      have k4 := (cellHeap (unhide hh) _).trans k4
      rw [(unhide s1 (by omega)).1, (unhide s2 (by omega)).1]
      clear e1 e2
      generalize L.length = N at *
      go_wp2_with fail
      go_quiet (fail)
      go_wp2_with fail
      have hb := unhide hBr
      exact ⟨⟨i + 1, hc, by go_num, unhide hh, ⟨hb.os, hb.tape, hb.output, hb.size, hb.block⟩⟩, by simp [intOf]; omega⟩
    · have qq : ((i : Int) < (L.length : Int)) = False := by simp; omega
      generalize L.length = N at *
      go_wp2_with fail
      go_ret
      exact ⟨rfl, unhide hBr⟩
end Go.Proofs.Ytkaggnlceboocaa
