/- The document's own Open: first, cell, close, till no line has just one. -/
import Derived.Test.YtgbkfmjkemkajaaPB6
namespace Go.Proofs.Ytgbkfmjkemkajaa
open Go.RowKit

set_option maxRecDepth 100000 in
set_option maxHeartbeats 6400000 in
theorem refOpenGood (hS : StartOk) : OpenGood 8 := by
  intro n L a cap g o w hA h hE
  obtain ⟨m', hm, S⟩ := sound_of hE
  obtain rfl : n = m' := by omega
  have hn := S.n1
  have h64 := S.n64
  have hL := S.len
  have ho := S.ok
  have kb := hide (fun (W : World) => binsAny (n := (n : Int)) (a := (1, 0)) ⟨by unfold I64; omega, by unfold I64; omega⟩ W)
  unfold dirV at kb
  dsimp only at kb
  have e0 := bins_one (n := (n : Int)) (by omega) (by omega)
  generalize binsS (n : Int) (1, 0) = bb at *
  obtain ⟨bn, be⟩ := bb
  dsimp only at e0 kb
  subst e0
  have et : twiceS L = 0 := by
    have := hE
    unfold openErr at this
    rw [if_neg (by omega), if_neg (by omega)] at this
    exact this
  have kt := hide (fun (W : World) (hw : Dirs W a g o L) => twiceAny (cap := cap) (by omega) hA W hw.at_ hw.cell)
  rw [et] at kt
  have q1 : ((64 : Int) < (L.length : Int)) = False := by simp; omega
  have ks := hide (fun (W : World) (hw : Dirs W a g o L) => hS n L a cap g o W hn h64 hL ho hw)
  have H := hide h
  have hO := hide ho
  clear h hE et hA hm S hS ho
  go_enter Try.func8, Try.ntmps8
  go_wp2_with fail
  refine (unhide kb _).mono ?_
  rintro e w1 ⟨rfl, hb1⟩
  have B1 := hide hb1
  clear hb1 kb
  go_wp2_with fail
  refine (unhide kt _ (dirs_below (unhide H) (unhide B1))).mono ?_
  rintro e w2 ⟨rfl, hb2⟩
  have B2 := hide (on (unhide B1) hb2)
  clear hb2 kt B1
  go_wp2_with fail
  refine (unhide ks _ (dirs_below (unhide H) (unhide B2))).mono ?_
  rintro e w3 ⟨V, rfl, hb, hb3⟩
  have Bd := hide hb
  have B3 := hide (on (unhide B2) hb3)
  have hsz := (unhide B2).size
  have hg : 0 < L.length → g < w2.heap.size := fun hl => Nat.lt_of_lt_of_le ((unhide H).at_ hl).2 hsz
  clear hb3 ks hb
  have hM : n * n ≤ 4096 := Nat.mul_le_mul h64 h64
  have hBn := hide (fun k (hk : k < L.length) => binN_le (n := n) h64 (unhide hO _ (dk_mem hk)))
  go_wp2_with fail
  go_loopw [9] (fun _ wr => ∃ b, Hid (Holds n L b) ∧ Hid (Board wr w2.heap.size n L a cap g o V b (fun _ => b)) ∧ Hid (Below w.heap.size w wr)) (fun _ wr => openN (V.blk 1) (n * n) wr)
  case atStart => exact ⟨fun _ => true, holds_all n L, Bd, B3⟩
  case round =>
    obtain ⟨b, hH, hb, hB⟩ := hrel
    clear Bd B3
    go_wp2_with fail
    refine (boardFirst hL (unhide hBn) hM wr (unhide hb)).mono ?_
    rintro e w4 ⟨hcase, hb4⟩
    have Bd4 := hide ((unhide hb).below hb4)
    have B4 := hide (on (unhide hB) hb4)
    have hmz := openN_eq (unhide hb)
    have hmz := hide hmz
    clear hb4
    rcases hcase with ⟨k, j, hk, hj, h1, rfl⟩ | ⟨hall, rfl⟩
    · have kc := hide (boardCell hn h64 hL hk (unhide hO _ (dk_mem hk)) hj h1 w4 (unhide Bd4))
      have h1 := hide h1
      go_wp2_with fail
      refine (unhide kc).mono ?_
      rintro e w5 ⟨c, hc, hbc, hl, rfl, hb5⟩
      have Bd5 := hide ((unhide Bd4).below hb5)
      have B5 := hide (on (unhide B4) hb5)
      have hH2 := hide (holds_shut (unhide hH) (dk_mem hk) hc hbc (by rw [hl]; exact unhide h1))
      have hms := hide (cnt_less hc hbc)
      have kd := hide (boardClose hn h64 hL (unhide hO) hc hbc w5 hg (unhide Bd5))
      clear hb5 hl kc
      go_wp2_with fail
      refine (unhide kd).mono ?_
      rintro e w6 ⟨⟨v, rfl⟩, hbd, hb6⟩
      have B6 := hide ((unhide B5).trans (hb6.mono hsz))
      have hmy := hide (openN_eq hbd)
      have Bd6 := hide hbd
      clear hbd hb6 kd
      go_wp2_with fail
      refine ⟨⟨shutB b c, hH2, Bd6, B6⟩, ?_⟩
      rw [unhide hmz, unhide hmy]
      have := unhide hms
      unfold shutB
      omega
    · have c1 : w4.cell? ⟨V.blk 0, 1, none⟩ = some (.slice (some ⟨V.blk 1, 0, none⟩) (n * n) V.cO) := (unhide Bd4).field (by omega)
      have hall := hide hall
      go_wp2_with fail
      go_ret2
      exact ⟨V.blk 1, V.cO, b, rfl, Nat.le_trans hsz ((unhide Bd4).mem.above 1 (Or.inl (by omega))), (unhide Bd4).mem.row 1 (Or.inl (by omega)), final_of hn h64 (unhide hO) (unhide hH) (unhide hall), unhide B4⟩
end Go.Proofs.Ytgbkfmjkemkajaa
