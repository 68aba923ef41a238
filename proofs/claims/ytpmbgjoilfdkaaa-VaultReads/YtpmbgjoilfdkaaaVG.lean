/- The document's record of a slice. -/
import Derived.Test.YtpmbgjoilfdkaaaVF
namespace Go.Proofs.Ytpmbgjoilfdkaaa
open Go.RowKit Fl Ieee

theorem bL_app (A B : List Nat) : bL A ++ bL B = bL (A ++ B) := by unfold bL; rw [List.map_append]
theorem recL_len (bs : List Nat) : (recL bs).length = 8 + bs.length := by unfold recL; rw [List.length_append, List.length_append, highL_len, highL_len]
theorem recL_lt {bs : List Nat} (h : ∀ y ∈ bs, y < 256) : ∀ y ∈ recL bs, y < 256 := fun y hy => by
  unfold recL at hy
  rcases List.mem_append.1 hy with hy | hy
  · rcases List.mem_append.1 hy with hy | hy
    · exact high_lt hy
    · exact high_lt hy
  · exact h y hy

/-- What is asked of record. -/
def RecOk (fn : Nat) : Prop := ∀ (n g c l cap : Nat) (a : Option Addr) (f : Nat → Nat × Nat) (prev : Option Sli) (w : World), 1 ≤ n → n ≤ 64 → Bits n f → Row w g (n * n) f → LastAt w a l prev →
  Calls Try.prog fn #[.slice a l cap, fieldV n g (n * n) c] w fun r w' => ∃ (bs : List Nat) (g' c' : Nat), r = .returned (.slice (some ⟨g', 0, none⟩) (recL bs).length c') ∧ BodyIs prev n f bs ∧ (∀ y ∈ bs, y < 256) ∧ w'.ownsRow w.heap.size 5 1 (.slice (some ⟨g', 0, none⟩) (recL bs).length c') (recL bs).length (bL (recL bs)) ∧ Below w.heap.size w w'

set_option maxRecDepth 100000 in
set_option maxHeartbeats 12800000 in
theorem refRecord : RecOk 37 := by
  intro n g c l cap a f prev w h1 h2 hf hR hL
  obtain ⟨i0, hi0, hz0, hz1, hz2⟩ := info_parts infoB
  have BB0 : Hid (Below (w.heap.size + 1) (box w n g (n * n) c) (box w n g (n * n) c)) := Below.refl _ _
  have kB := hide (refBody n g c l cap a f prev (box w n g (n * n) c) h1 h2 hf (box_row (unhide BB0) hR) (last_keep hL (box_below (unhide BB0))))
  clear hR hL hf
  unfold fieldV at *
  generalize hM : n * n = M at *
  go_enter Try.func37, Try.ntmps37
  go_wp2_with fail
  refine (unhide kB).mono ?_
  rintro e w1 ⟨bs, g1, c1, rfl, hP, h256, hlo, hhi, hO, hb⟩
  rw [box_size] at hO hb
  have PX := hide hP
  have B1 := hide (box_below hb)
  have Y1 := hide h256
  have T1 := hide (bat_of_own hO h256)
  have sz1 : w.heap.size ≤ w1.heap.size := (unhide B1).size
  clear hP hO hb h256 kB BB0
  have kS := hide (fun W (h : BAt W (some ⟨g1, 0, none⟩) g1 0 bs) => refSum (c := c1) (L := bs) (by omega) W h)
  obtain ⟨m, hm⟩ : ∃ m, m = bs.length := ⟨_, rfl⟩
  have hmI : ((bs.length : Nat) : Int) = (m : Int) := by rw [hm]
  rw [← hm] at hlo hhi
  have u1 : IntKind.u32.wrap (m : Int) = (m : Int) := by show (m : Int) % 4294967296 = _; omega
  have u2 : (m : Int) % 4294967296 = (m : Int) := by omega
  have kF := hide (fun W => refFour (x := m) (by omega) W)
  have hx := sumB_lt bs bs.length
  have HM := hide hm
  have eR : Hid (recL bs = highL m 4 ++ highL (sumB bs bs.length) 4 ++ bs) := by show _ = _; unfold recL; rw [← hm]
  have kG := hide (fun W => refFour (x := sumB bs bs.length) hx W)
  generalize sumB bs bs.length = x at *
  rw [← hm] at kS ⊢
  clear hmI hm
  go_wp2_with fail
  refine (unhide kF _).mono ?_
  rintro e w2 ⟨v2, rfl, hO, hb2⟩
  obtain ⟨g2, c2, rfl⟩ := own_slice hO (by decide)
  have O2 := hide hO
  have B2 := hide hb2
  have T2 := hide (bat_keep (unhide T1) hb2)
  clear hO hb2 kF
  go_wp2_with fail
  refine (unhide kS _ (unhide T2)).mono ?_
  rintro e w2' ⟨rfl, rfl⟩
  clear kS
  go_wp2_with fail
  refine (unhide kG _).mono ?_
  rintro e w3 ⟨v3, rfl, hO, hb3⟩
  obtain ⟨g3, c3, rfl⟩ := own_slice hO (by decide)
  have e4 : (highL x 4).length = 4 := highL_len x 4
  have hy : ∀ y ∈ highL x 4, y < 256 := fun y h => high_lt h
  have T3 : Hid (BAt w3 (some ⟨g3, 0, none⟩) g3 0 (highL x 4)) := by
    have h := hO
    rw [← e4] at h
    exact bat_of_own h hy
  have O3 := hide (own_below (unhide O2) hb3)
  have B3 := hide ((unhide B2).trans (hb3.mono (unhide B2).size))
  have sz3 : w1.heap.size ≤ w3.heap.size := (unhide B3).size
  have hnews := hide (news_bytes (unhide T3) rfl)
  have hone := hide (bL_one (highL x 4))
  have el : Hid ((bL (highL x 4)).length = 4 * 1) := by show _ = _; rw [bL_len, e4]
  clear hO hb3 kG hy e4 T2 O2 B2
  go_wp2_with (first
      | (at_builtin; refine wpList_append_own _ rfl (.tmp 13) (.tmp 16) 22 rfl w1.heap.size 5 i0 (.int .u8 0) 1 1 Try.underlying22 hi0 hz0 hz1 hz2 rfl (by decide) _ 4 _ rfl (unhide O3) ⟨g3, 0, none⟩ 4 c3 (bL (highL x 4)) rfl (unhide el) (unhide hnews) (unhide hone) ?c3 ?c4 ?c5 ?_))
  case c3 => unfold maxLen; omega
  case c4 => omega
  case c5 => exact sz3
  intro v4 w4 hown' hgrow _
  have B4 : Hid (Below w1.heap.size w1 w4) := (unhide B3).grown hgrow sz3 (fun k hk => ((unhide O3).lt k hk).1)
  have O4 : Hid (w4.ownsRow w1.heap.size 5 1 v4 8 (bL (highL m 4 ++ highL x 4))) := by
    rw [← bL_app]
    exact hown'
  obtain ⟨g4, c4, rfl⟩ := own_slice (unhide O4) (by decide)
  have T4 := hide (bat_keep (unhide T1) (unhide B4))
  have hnews2 := hide (news_bytes (unhide T4) rfl)
  have hone2 := hide (bL_one bs)
  have el2 : Hid ((bL bs).length = m * 1) := by show _ = _; rw [bL_len, Nat.mul_one, unhide HM]
  clear hown' hgrow hnews hone el T3 B3 O3 T1
  go_wp2_with (first
      | (at_builtin; refine wpList_append_own _ rfl (.tmp 18) (.tmp 19) 22 rfl w1.heap.size 5 i0 (.int .u8 0) 1 1 Try.underlying22 hi0 hz0 hz1 hz2 rfl (by decide) _ 8 _ rfl (unhide O4) ⟨g1, 0, none⟩ m c1 (bL bs) rfl (unhide el2) (unhide hnews2) (unhide hone2) ?c3 ?c4 ?c5 ?_))
  case c3 => unfold maxLen; omega
  case c4 => omega
  case c5 => exact (unhide B4).size
  intro v5 w5 hown' hgrow _
  have B5 : Hid (Below w1.heap.size w1 w5) := (unhide B4).grown hgrow (unhide B4).size (fun k hk => ((unhide O4).lt k hk).1)
  have B6 := hide ((unhide B1).trans ((unhide B5).mono sz1))
  have O5 : Hid (w5.ownsRow w1.heap.size 5 1 v5 (recL bs).length (bL (recL bs))) := by
    have h := hown'
    rw [bL_app, ← unhide eR] at h
    rw [recL_len, ← unhide HM]
    exact h
  obtain ⟨g5, c5, rfl⟩ := own_slice (unhide O5) (by rw [recL_len]; omega)
  have O6 := hide (own_less (unhide O5) sz1)
  clear hown' hgrow hnews2 hone2 el2 O5 B5 B4 O4
  go_wp2_with fail
  go_ret
  exact ⟨bs, g5, c5, rfl, unhide PX, unhide Y1, unhide O6, unhide B6⟩
end Go.Proofs.Ytpmbgjoilfdkaaa
