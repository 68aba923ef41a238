/- The program's Apply. -/
import Derived.Test.YthiipodgfbnpeaaDoorFNE
import Derived.Test.YthiipodgfbnpeaaDoorFF
namespace Go.Proofs.YthiipodgfbnpeaaDoor
open Go.RowKit Fl
attribute [local go_sem] store_complex

set_option maxRecDepth 100000 in
set_option maxHeartbeats 6400000 in
theorem applyGen (hWG : WeightsGood 6) (hLG : LengthGood 8) : ApplyGen 10 := by
  intro m c g kind xs P sc b b' w hm1 hm2 _ hk1 hk3 hb hb2 hb' hb2' hX hP hN hS hD hR
  have hl := lenE_le m
  have hbig := lenE_big hm2
  have kL := hide (fun W => hLG m W hm1 hm2)
  have kW := hide (fun W => hWG (2 ^ lenE m) (2 ^ (12 - lenE m)) kind W (ord_pow hl) hk1 hk3)
  have kF := hide (fun gw cw (W : World) hd hx hw => filteredAny (m := m) (c := c) (g := g) (kind := kind) (gw := gw) (cw := cw) (xs := xs) (P := P) (sc := sc) hm2 hb hb2 hb' hb2' hX hP hN hS W hd hx hw)
  have RX := hide hR
  have HD := hide hD
  have gl := deb_lt hD
  clear hWG hLG hX hP hN hS hR hD hb hb2 hb' hb2'
  generalize hs : 2 ^ (12 - lenE m) = s at *
  generalize hn : 2 ^ lenE m = n at *
  have hn' := hide hn
  have hs' := hide hs
  have qm : ((m : Int) ≤ (n : Int)) = True := by simp; omega
  clear hn hs
  go_enter Tryd.func10, Tryd.ntmps10
  go_wp2_with fail
  refine (unhide kL _).mono ?_
  rintro e w1 ⟨rfl, hb1⟩
  have B1 := hide hb1
  have RX := hide (row_below (unhide RX) hb1 (row_lt (unhide RX)))
  clear hb1 kL
  go_wp2_with fail
  refine (unhide kW _).mono ?_
  rintro e w2 ⟨gw, cw, rfl, hgw, hWR, hb2⟩
  have B2 := hide ((unhide B1).trans (hb2.mono (unhide B1).size))
  have RX := hide (row_below (unhide RX) hb2 (row_lt (unhide RX)))
  have RW := hide hWR
  have HD2 := hide (deb_below (unhide HD) (unhide B2) gl)
  clear hb2 kW B1 hgw hWR
  go_wp2_with fail
  refine (unhide kF gw cw _ (unhide HD2) (unhide RX) (unhide RW)).mono ?_
  rintro e w3 ⟨gz, rfl, R7, hb3⟩
  have B3 := hide ((unhide B2).trans (hb3.mono (unhide B2).size))
  have RZ : Hid (Row w3 gz m sc) := by
    obtain ⟨cur, c1, c2, c3⟩ := row_cur R7
    exact ⟨cur, c1, by omega, fun i hi => c3 i (by omega)⟩
  clear hb3 R7 kF
  go_wp2_with fail
  go_ret2
  exact ⟨gz, _, rfl, unhide RZ, unhide B3⟩

set_option maxHeartbeats 1600000 in
theorem applyNone (hLB : LengthBad 8) : ApplyNone 10 := by
  intro kind a c w
  have kL := hide (fun W => hLB 0 W (Or.inl (by decide)))
  clear hLB
  go_enter Tryd.func10, Tryd.ntmps10
  go_wp2_with fail
  refine (unhide kL _).mono ?_
  rintro e w1 ⟨rfl, hb1⟩
  have B1 := hide hb1
  clear hb1
  go_wp2_with fail
  go_ret2
  exact ⟨_, _, rfl, unhide B1⟩

set_option maxHeartbeats 1600000 in
theorem applyKind (hWB : WeightsBad 6) (hLG : LengthGood 8) : ApplyKind 10 := by
  intro kind m c g xs w hm1 hm2 hk hR
  have kL := hide (fun W => hLG m W hm1 hm2)
  have kW := hide (fun W => hWB ((2 ^ lenE m : Nat) : Int) kind W (Or.inr hk))
  rw [werr_kind (ord_pow (lenE_le m))] at kW
  generalize 2 ^ lenE m = n at *
  clear hWB hLG hR hk
  go_enter Tryd.func10, Tryd.ntmps10
  go_wp2_with fail
  refine (unhide kL _).mono ?_
  rintro e w1 ⟨rfl, hb1⟩
  have B1 := hide hb1
  clear hb1
  go_wp2_with fail
  refine (unhide kW _).mono ?_
  rintro e w2 ⟨rfl, hb2⟩
  have B2 := hide ((unhide B1).trans (hb2.mono (unhide B1).size))
  clear hb2
  go_wp2_with fail
  go_ret2
  exact ⟨_, _, rfl, unhide B2⟩
end Go.Proofs.YthiipodgfbnpeaaDoor
