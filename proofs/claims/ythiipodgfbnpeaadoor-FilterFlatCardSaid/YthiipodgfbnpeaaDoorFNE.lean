/- The program's filtered bins. -/
import Derived.Test.YthiipodgfbnpeaaDoorFQ0
namespace Go.Proofs.YthiipodgfbnpeaaDoor
open Go.RowKit Fl
attribute [local go_sem] store_complex

set_option maxHeartbeats 400000 in
theorem weighed_at {x1 x2 t y1 y2 : Nat} (p1 : floatBits .mul .f64 x1 t = some y1) (p2 : floatBits .mul .f64 x2 t = some y2) (w : World) :
    Calls Tryd.prog 31 #[.complex .f64 x1 x2, .float .f64 t] w fun r w' => r = .returned (.complex .f64 y1 y2) ∧ w' = w := by
  have m1 := fun (W : World) t => run_float_arith (P := Tryd.prog) W .mul t .f64 _ _ _ p1
  have m2 := fun (W : World) t => run_float_arith (P := Tryd.prog) W .mul t .f64 _ _ _ p2
  clear p1 p2
  go_enter Tryd.func31, Tryd.ntmps31
  go_wp2_with fail
  go_ret
  exact ⟨rfl, rfl⟩

set_option maxRecDepth 100000 in
set_option maxHeartbeats 12800000 in
theorem filteredAny {m c g kind gw cw : Nat} {xs P sc : Nat → Nat × Nat} {b b' : Nat} (hm2 : m ≤ 2048)
    (hb : 60 ≤ b) (hb2 : b ≤ 1900) (hb' : 60 ≤ b') (hb2' : b' ≤ 1900) (hX : Nums b (2 ^ lenE m) (padX m xs))
    (hP : ∀ k, k < 2 ^ lenE m → floatBits .mul .f64 (fft (lenE m) 4095 (padX m xs) k).1 (wT kind (k * 2 ^ (12 - lenE m))) = some (P k).1 ∧ floatBits .mul .f64 (fft (lenE m) 4095 (padX m xs) k).2 (wT kind (k * 2 ^ (12 - lenE m))) = some (P k).2)
    (hN : Nums b' (2 ^ lenE m) P) (hS : ∀ k, k < 2 ^ lenE m → LdTo (lenE m) (fft (lenE m) 1 P k).1 (sc k).1 ∧ LdTo (lenE m) (fft (lenE m) 1 P k).2 (sc k).2) (w : World) (hD : Deb w) (hR : Row w g m xs)
    (hWR : WRow w gw (2 ^ lenE m) (wV kind (2 ^ (12 - lenE m)))) :
    Calls Tryd.prog 18 #[.slice (some ⟨g, 0, none⟩) m c, .slice (some ⟨gw, 0, none⟩) (2 ^ lenE m) cw] w fun r w' => ∃ gz, r = .returned (.tuple #[.slice (some ⟨gz, 0, none⟩) (2 ^ lenE m) (2 ^ lenE m), .int .i64 0]) ∧ Row w' gz (2 ^ lenE m) sc ∧ Below w.heap.size w w' := by
  obtain ⟨i0, hi0, hz0, hz1, hz2⟩ := info_parts infoC
  have hsz : (Tryd.prog.info? 33).map (·.size) = some 1 := by rw [hi0]; exact congrArg some hz1
  have hl := lenE_le m
  have hbig := lenE_big hm2
  have hn4 : 2 ^ lenE m ≤ 4096 := Nat.pow_le_pow_right (n := 2) (by decide) hl
  have kF := hide (fun gx cx (W : World) hcx (h : Row W gx (2 ^ lenE m) (padX m xs)) => forwardAny (gx := gx) (cx := cx) hb hb2 hl rfl hX hcx W h)
  have kB := hide (fun gx cx (W : World) hcx hd (h : Row W gx (2 ^ lenE m) P) => backAny (gx := gx) (cx := cx) hb' hb2' hl rfl hN hcx hS W hd h)
  have HP := hide hP
  have RX := hide hR
  have RW := hide hWR
  have HD := hide hD
  have gl := deb_lt hD
  have hgwlt : gw < w.heap.size := wrow_lt hWR
  clear hX hP hN hS hR hD hb hb2 hb' hb2' hWR
  generalize fft (lenE m) 4095 (padX m xs) = F at *
  generalize hs : 2 ^ (12 - lenE m) = s at *
  generalize hn : 2 ^ lenE m = n at *
  have hn1 : 1 ≤ n := by rw [← hn]; exact Nat.one_le_two_pow
  have hn' := hide hn
  have hs' := hide hs
  clear hn hs
  go_enter Tryd.func18, Tryd.ntmps18
  go_wp2_with (first
    | (at_make; refine wpList_make_full _ rfl (.tmp 12) (.tmp 12) 32 rfl w.heap.size 33 i0 (.complex .f64 0 0) 1 Tryd.underlying32 hi0 hz0 hz1 .i64 .i64 n n n rfl rfl rfl rfl ?c1 ?c2 ?c3 ?_))
  case c1 => rw [hz2]; omega
  case c2 => unfold maxLen; omega
  case c3 => exact Nat.le_refl _
  intro w3 hown3 hg3
  have R3 := hide (row_made hown3 (fun _ => (0, 0)) (fun j hj => zeros_get n j hj) (fun _ _ => rfl))
  have B3 := hide (grown_below hg3)
  have RX := hide (row_below (unhide RX) (unhide B3) (row_lt (unhide RX)))
  have RW := hide (wrow_below (unhide RW) (unhide B3))
  clear hown3 hg3
  go_wp2_with (first
    | (refine wpList_copy_pad rfl (.tmp 14) (.tmp 15) 32 32 rfl 33 Tryd.underlying32 hsz w.heap.size n n g m c rfl rfl hbig xs (unhide R3) (unhide RX) ?_))
  intro w4 hR4 hg4
  have R4 := hide hR4
  have hlt2 : w.heap.size < w3.heap.size := row_lt (unhide R3)
  have B4 : Hid (Below w.heap.size w w4) := (unhide B3).grown hg4 (by omega) (fun k hk => by cases hk; exact Nat.le_refl _)
  have RW := hide (wrow_keep (w' := w4) (unhide RW) (hg4.block gw (by omega) (by simp; omega)))
  clear hR4 hg4 R3 RX B3
  go_wp2_with fail
  refine (unhide kF _ _ _ (Nat.le_refl _) (unhide R4)).mono ?_
  rintro e w5 ⟨gf, rfl, hgf, R5, hb5⟩
  have B5 := hide ((unhide B4).trans (hb5.mono (unhide B4).size))
  have hgf0 : w.heap.size ≤ gf := Nat.le_trans (unhide B4).size hgf
  have hfw : gf ≠ gw := by omega
  have RW := hide (wrow_below (unhide RW) hb5)
  have RF := hide R5
  clear hb5 R5 R4 B4 kF hgf
  go_wp2_with fail
  go_loopw [27] (fun kv wr => ∃ k : Nat, k ≤ n ∧ kv = .int .i64 k ∧ Hid (Row wr gf n (prodTo F P k)) ∧ Hid (WRow wr gw n (wV kind s)) ∧ Hid (Below w.heap.size w wr)) (fun kv _ => n - (intOf kv).toNat)
  case atStart => exact ⟨0, Nat.zero_le _, rfl, row_ext (unhide RF) (fun i _ => by unfold prodTo; rw [if_neg (by omega)]), RW, B5⟩
  case round =>
    clear RF RW B5
    obtain ⟨k, hk, rfl, hF, hW, hB⟩ := hrel
    by_cases hkn : k < n
    · have q1 : ((k : Int) < (n : Int)) = True := by simp; omega
      obtain ⟨p1, p2⟩ := unhide HP k hkn
      have c1 := row_at (unhide hF) hkn
      have f1 := row_frozen (unhide hF) k
      have c2 := wrow_at (unhide hW) hkn
      unfold cv prodTo at c1
      rw [if_neg (Nat.lt_irrefl k)] at c1
      unfold wV at c2
      have kM := hide (weighed_at p1 p2)
      have hF2 : Hid (Row (wr.setCell ⟨gf, k, none⟩ (cv (P k))) gf n (prodTo F P (k + 1))) := row_ext (row_set (unhide hF) k (P k)) fun i _ => by
        unfold prodTo upd
        by_cases e : i = k
        · rw [if_pos e, if_pos (by omega), e]
        · rw [if_neg e]
          show (if i < k then P i else F i) = _
          by_cases e2 : i < k
          · rw [if_pos e2, if_pos (by omega)]
          · rw [if_neg e2, if_neg (by omega)]
      have hW2 : Hid (WRow (wr.setCell ⟨gf, k, none⟩ (cv (P k))) gw n (wV kind s)) := wrow_keep (unhide hW) (Below.heap_setCell _ _ _ _ (by show gw ≠ gf; exact hfw.symm))
      have hB2 := hide ((unhide hB).setCell (p := ⟨gf, k, none⟩) hgf0 (cv (P k)))
      unfold cv at hF2 hW2 hB2
      generalize (F k).1 = x1 at *
      generalize (F k).2 = x2 at *
      generalize wT kind (k * s) = wt at *
      generalize (P k).1 = y1 at *
      generalize (P k).2 = y2 at *
      clear hF hW hB p1 p2
      go_wp2_with fail
      refine (unhide kM _).mono ?_
      rintro e w6 ⟨rfl, hw⟩
      obtain rfl := hw.symm
      go_wp2_with fail
      go_roundw
      case rel => exact ⟨k + 1, hkn, by go_num, hF2, hW2, hB2⟩
      case measure => simp [intOf]; omega
    · have q1 : ((k : Int) < (n : Int)) = False := by simp; omega
      have hP2 : Hid (Row wr gf n P) := row_ext (unhide hF) fun i hi => by unfold prodTo; rw [if_pos (by omega)]
      have hDr := hide (deb_below (unhide HD) (unhide hB) gl)
      clear hF hW HP
      go_wp2_with fail
      refine (unhide kB _ _ _ (Nat.le_refl _) (unhide hDr) (unhide hP2)).mono ?_
      rintro e w7 ⟨gz, rfl, hgz, R7, hb7⟩
      have B7 := hide ((unhide hB).trans (hb7.mono (unhide hB).size))
      have RZ := hide R7
      clear hb7 R7 hgz kB
      go_wp2_with fail
      go_ret2
      exact ⟨gz, rfl, unhide RZ, unhide B7⟩
end Go.Proofs.YthiipodgfbnpeaaDoor
