/- bound.Run of a grid's own projections. -/
import Derived.Test.YthbghcebcahlnaaRPB
namespace Go.Proofs.Ythbghcebcahlnaa
open Go.RowKit Go.Shelf

set_option maxHeartbeats 800000 in
theorem linesZero {n : Int} {gq cq : Nat} (w : World) : Calls (barP Try.prog) 21 #[.int .i64 n, .slice (some ⟨gq, 0, none⟩) (0 : Nat) cq] w fun e w' => e = .returned (.slice none 0 0) ∧ w' = w := by
  go_enter Bar.func21, Bar.ntmps21
  go_wp2_with fail
  go_loopw [5, 17] (fun v kv wr => v = .slice none 0 0 ∧ kv = .int .i64 0 ∧ w = wr) (fun _ _ _ => 0)
  case atStart => exact ⟨rfl, rfl, rfl⟩
  case round =>
    obtain ⟨rfl, rfl, rfl⟩ := hrel
    go_wp2_with fail
    go_ret
    exact ⟨rfl, rfl⟩
set_option maxRecDepth 100000 in
set_option maxHeartbeats 3200000 in
theorem runZero {n gq cq : Nat} {u v : Value} {A B : List Int} (h1 : 1 ≤ n) (h2 : n ≤ 16) (hl : levs n A B = true) (hc : ∀ i, i < A.length → A.getD i 0 ≤ B.getD i 0) (w : World) (hu : Ints w u A) (hv : Ints w v B) (hq : gq < w.heap.size) :
    Calls (barP Try.prog) 9 #[.int .i64 n, .slice (some ⟨gq, 0, none⟩) (0 : Nat) cq, u, v] w fun e w' => ∃ gl cl gh ch, e = .returned (.tuple #[.slice (some ⟨gl, 0, none⟩) A.length cl, .slice (some ⟨gh, 0, none⟩) A.length ch, .int .i64 0]) ∧
      IRow w' gl A.length (fun i => A.getD i 0) ∧ IRow w' gh A.length (fun i => B.getD i 0) ∧ Below w.heap.size w w' := by
  have kl := hide (lookGood (cq := cq) (ps := []) h1 h2 hl (Nat.zero_le _) (fun i hi => absurd hi (Nat.not_lt_zero _)) (fun i j hi => absurd hi (Nat.not_lt_zero _)) w hu hv ⟨hq, fun i hi => absurd hi (Nat.not_lt_zero _), fun i hi => absurd hi (Nat.not_lt_zero _)⟩)
  rw [show ([] : List PD).length = 0 from rfl] at kl
  obtain ⟨lA, lB⟩ := levs_len hl
  obtain ⟨m1, m2⟩ := sq_small (n := (n : Int)) (by omega) (by omega)
  have hu := hide hu
  have hv := hide hv
  have hc := hide hc
  have e12 : Hid (A.length = B.length) := by show _ = _; omega
  have mA1 : 1 ≤ A.length := by omega
  have mA2 : A.length ≤ 4096 := by omega
  have mB1 : 1 ≤ B.length := by omega
  have mB2 : B.length ≤ 4096 := by omega
  clear hl lA lB m1 m2
  go_enter Bar.func9, Bar.ntmps9
  go_wp2_with fail
  refine (unhide kl).mono ?_
  rintro e w1 ⟨rfl, hb1⟩
  have B1 := hide hb1
  obtain ⟨a1, cap1, g1, o1, rfl, i1⟩ := ints_below (unhide hu) hb1
  have k2 := hide (cloneInts (cap := cap1) mA1 mA2 w1 i1)
  clear hb1 i1 kl
  go_wp2_with fail
  refine (unhide k2).mono ?_
  rintro e w2 ⟨gl, cl, rfl, hgl, r2, own2, hb2⟩
  have B2 := hide ((unhide B1).trans (hb2.mono (unhide B1).size))
  obtain ⟨a2, cap2, g2, o2, rfl, i2⟩ := ints_below (unhide hv) (unhide B2)
  have k3 := hide (cloneInts (cap := cap2) mB1 mB2 w2 i2)
  have R2 := hide r2
  have hs1 : w.heap.size ≤ w1.heap.size := (unhide B1).size
  have hs2 : w1.heap.size ≤ w2.heap.size := hb2.size
  have gl2 : gl < w2.heap.size := vrow_lt r2
  clear hb2 i2 k2 r2 own2 B1
  go_wp2_with fail
  refine (unhide k3).mono ?_
  rintro e w3 ⟨gh, ch, rfl, hgh, r3, own3, hb3⟩
  have B3 := hide ((unhide B2).trans (hb3.mono (by omega)))
  have R2 := hide (vrow_keep (unhide R2) (hb3.block _ gl2))
  have gh3 : gh < w3.heap.size := vrow_lt r3
  have hs3 : w2.heap.size ≤ w3.heap.size := hb3.size
  have r3' := r3
  rw [← unhide e12] at r3'
  have R3 := hide r3'
  clear hb3 k3 r3 r3' own3 B2
  rw [← unhide e12]
  go_wp2_with fail
  refine (linesZero _).mono ?_
  rintro e w4 ⟨rfl, rfl⟩
  have k5 := hide (settleNil (cl := cl) (ch := ch) mA2 (unhide hc) w4 (unhide R2) (unhide R3))
  go_wp2_with fail
  refine (unhide k5).mono ?_
  rintro e w5 ⟨rfl, hb5⟩
  have B6 := hide ((unhide B3).trans (hb5.mono (unhide B3).size))
  have R6 := hide (vrow_keep (w' := w5) (unhide R2) (hb5.block _ (vrow_lt (unhide R2))))
  have R7 := hide (vrow_keep (w' := w5) (unhide R3) (hb5.block _ (vrow_lt (unhide R3))))
  clear k5 hb5 B3 R2 R3
  go_wp2_with fail
  go_ret3
  exact ⟨gl, cl, gh, ch, rfl, unhide R6, unhide R7, unhide B6⟩
end Go.Proofs.Ythbghcebcahlnaa
