/- The document's longest beginning that is a file, of any bytes. -/
import Derived.Test.YtpmbgjoilfdkaaaVJ
namespace Go.Proofs.Ytpmbgjoilfdkaaa
open Go.RowKit Fl Ieee

theorem cuts_push {B : List Nat} {c k n : Nat} {S : Nat → Sli} {P : Nat → Nat} {f : Nat → Nat × Nat} (h : Cuts B c S P) (hn : NextIs (prevOf S c) (B.drop (P c)) n f k) (hp : P c + k ≤ 1048576) :
    Cuts B (c + 1) (setS S c (n, f)) (setS P (c + 1) (P c + k)) ∧ setS P (c + 1) (P c + k) (c + 1) = P c + k := ⟨cuts_next h hn hp, setS_eq⟩
theorem next_le {prev : Option Sli} {B : List Nat} {n k : Nat} {f : Nat → Nat × Nat} (h : NextIs prev B n f k) : k ≤ B.length := by rw [h.num]; have := h.hi; omega
theorem cut_post {L : List Nat} {w w' : World} {c p cp : Nat} {S : Nat → Sli} {P : Nat → Nat} {G : Nat → Nat × Nat} {a : Option Addr} (hp : p = P c) (hC : Cuts L c S P) (hc : c ≤ 64) (hf : c = 64 ∨ ∀ n f k, NextIs (prevOf S c) (L.drop p) n f k → 1048576 < p + k) (hG : Grids w' w.heap.size (.slice a c cp) c S G) (hB : Below w.heap.size w w') :
    CutsPost L w (.returned (.tuple #[.slice a c cp, .int .i64 (p : Nat)])) w' := by
  subst hp
  exact ⟨c, S, P, G, a, cp, rfl, ⟨hC, hc, hf⟩, hG, hB⟩
theorem own_sliceG {w : World} {B n : Nat} {v : Value} {xs : List Value} (h : w.ownsRow B 30 2 v n xs) : ∃ a c, v = .slice a n c := by
  rcases h.2 with ⟨h1, h2⟩ | ⟨g, cap, cur, h1, _⟩
  · exact ⟨none, 0, by rw [h1, h2]⟩
  · exact ⟨_, cap, h1⟩
theorem two_one {x y : Value} (hx : x.oneCell' = true) (hy : y.oneCell' = true) : ∀ u ∈ [x, y], u.oneCell' = true := fun u hu => by
  simp at hu
  rcases hu with rfl | rfl
  · exact hx
  · exact hy

set_option maxRecDepth 100000 in
set_option maxHeartbeats 12800000 in
theorem refCutSome {g o cap : Nat} {L : List Nat} (w : World) (hB : BAt w (some ⟨g, o, none⟩) g o L) (hcap : L.length ≤ cap) (hbig : L.length ≤ 140737488355328) : Calls Try.prog 16 #[.slice (some ⟨g, o, none⟩) L.length cap] w (CutsPost L w) := by
  obtain ⟨i0, hi0, hz0, hz1, hz2⟩ := info_parts infoG3
  have BX := hide hB
  clear hB
  obtain ⟨m, hm⟩ : ∃ m, m = L.length := ⟨_, rfl⟩
  have HM := hide hm
  rw [← hm] at hcap hbig ⊢
  clear hm
  go_enter Try.func16, Try.ntmps16
  go_wp2_with fail
  go_loopw [4, 5] (fun lv av wr => ∃ (c p : Nat) (S : Nat → Sli) (P : Nat → Nat) (G : Nat → Nat × Nat) (a : Option Addr) (cp : Nat), c ≤ 64 ∧ p ≤ m ∧ p ≤ 1048576 ∧ lv = .slice a c cp ∧ av = .int .i64 (p : Nat) ∧ Hid (p = P c) ∧ Hid (Cuts L c S P) ∧ Hid (Grids wr w.heap.size (.slice a c cp) c S G) ∧ Hid (Below w.heap.size w wr)) (fun lv _ _ => 64 - lenOf lv)
  case atStart => exact ⟨0, 0, fun _ => (0, fun _ => (0, 0)), fun _ => 0, fun _ => (0, 0), none, 0, by decide, Nat.zero_le _, by decide, rfl, rfl, rfl, cuts_zero _ _, grids_nil _ _ _ _, Below.refl _ _⟩
  case round =>
    obtain ⟨c, p, S, P, G, a, cp, hc, hpm, hp20, rfl, rfl, hP, hC, hG, hBW⟩ := hrel
    by_cases hc64 : c < 64
    · have q1 : ((c : Int) < 64) = True := by simp; omega
      have q2 : (c < 64) = True := by simp; omega
      have n1 : (0 : Int) ≤ (p : Int) := by omega
      have n2 : (p : Int) ≤ (m : Int) := by omega
      have n3 : (m : Int) ≤ (cap : Int) := by omega
      have LA := hide (grids_last (unhide hG) hc)
      have eD : Hid (m - p = (L.drop p).length) := by show _ = _; rw [List.length_drop, unhide HM]
      have BX2 := hide (bat_keep (unhide BX) (unhide hBW))
      by_cases hcp : cap = p
      · have kN := hide (next_at (cap := cp) (ab := some ⟨g, o, none⟩) (g := g) (o := o) (cb := 0) (m := 0) (B := L.drop p) wr (unhide LA) (bat_nil (by rw [← unhide eD]; omega)) (by rw [← unhide eD]; omega) (by omega) (by omega))
        have NN : Hid (∀ n f k, ¬ NextIs (prevOf S c) (L.drop p) n f k) := fun n f k h => next_nil h (by rw [← unhide eD]; omega)
        subst hcp
        go_wp2_with fail
        refine (unhide kN).mono ?_
        rintro e w2 ⟨⟨n, f, k, gz, cz, h, _⟩ | ⟨_, rfl⟩, hb⟩
        · exact absurd h (unhide NN n f k)
        · have B2 := hide hb
          clear hb kN
          go_wp2_with fail
          go_ret2
          have ba := (Below.refl w2.heap.size w2).alloc (Nat.le_refl _) (.cells #[.int .i64 0, .slice none 0 0] 30)
          exact cut_post (unhide hP) (unhide hC) hc (.inr fun n f k h => absurd h (unhide NN n f k)) (grids_keep (grids_keep (unhide hG) (unhide B2)) ba) (((unhide hBW).trans ((unhide B2).mono (unhide hBW).size)).trans (ba.mono (Nat.le_trans (unhide hBW).size (unhide B2).size)))
      · have hcp' : (cap = p) = False := by simp; omega
        have kN := hide (next_at (cap := cp) (cb := cap - p) wr (unhide LA) (bat_drop (p := p) (unhide BX2)) (unhide eD) (by omega) (by omega))
        have swr : w.heap.size ≤ wr.heap.size := (unhide hBW).size
        go_wp2_with fail
        refine (unhide kN).mono ?_
        rintro e w2 ⟨⟨n, f, k, gz, cz, hN, rfl, hR, hgz, h1, h2, hbt⟩ | ⟨hno, rfl⟩, hb⟩
        · have hk := next_le hN
          rw [← unhide eD] at hk
          obtain ⟨s, hs⟩ : ∃ s, s = p + k := ⟨_, rfl⟩
          have t1 : (p : Int) + (k : Int) = (s : Int) := by omega
          have t2 : IntKind.i64.wrap (s : Int) = (s : Int) := by rw [IntKind.wrap_i64]; omega
          have ba : Below w2.heap.size w2 (w2.alloc (.cells #[.int .i64 (n : Nat), .slice (some ⟨gz, 0, none⟩) (n * n) cz] 30)) := (Below.refl _ _).alloc (Nat.le_refl _) _
          have G3 := hide (grids_keep (grids_keep (unhide hG) hb) ba)
          have B3 := hide (((unhide hBW).trans (hb.mono swr)).trans (ba.mono (Nat.le_trans swr hb.size)))
          have R3 := hide (row_below hR ba (row_lt hR))
          have NX := hide hN
          have HS := hide hs
          have HT := hide hbt
          have sw2 : w.heap.size ≤ w2.heap.size := Nat.le_trans swr hb.size
          clear hb ba hR hN hs hbt kN hG hBW LA BX2
          by_cases hgt : 1048576 < s
          · have t3 : ((1048576 : Int) < (s : Int)) = True := by simp; omega
            have t4 : (1048576 < s) = True := by simp; omega
            have FI : Hid (∀ n f k, NextIs (prevOf S c) (L.drop p) n f k → 1048576 < p + k) := fun n' f' k' h => by
              have := (next_one (unhide NX) h).1
              have := unhide HS
              omega
            go_wp2_with fail
            go_ret2
            exact cut_post (unhide hP) (unhide hC) hc (.inr (unhide FI)) (unhide G3) (unhide B3)
          · have t3 : ((1048576 : Int) < (s : Int)) = False := by simp; omega
            have t4 : (1048576 < s) = False := by simp; omega
            have CP : Hid (Cuts L (c + 1) (setS S c (n, f)) (setS P (c + 1) s) ∧ setS P (c + 1) s (c + 1) = s) := by
              have h3 := unhide HS
              have h4 := unhide hP
              subst h3 h4
              exact cuts_push (unhide hC) (unhide NX) (by omega)
            have s2 : (w2.alloc (.cells #[.int .i64 (n : Nat), .slice (some ⟨gz, 0, none⟩) (n * n) cz] 30)).heap.size = w2.heap.size + 1 := World.size_alloc _ _
            have hsm : s ≤ m := by have := unhide HS; omega
            have bd : Below (w2.heap.size + 1) (w2.alloc (.cells #[.int .i64 (n : Nat), .slice (some ⟨gz, 0, none⟩) (n * n) cz] 30)) ((w2.alloc (.cells #[.int .i64 (n : Nat), .slice (some ⟨gz, 0, none⟩) (n * n) cz] 30)).alloc (.cells #[.int .i64 (n : Nat), .slice (some ⟨gz, 0, none⟩) (n * n) cz] 30)) := by
              have h := (Below.refl (w2.alloc (.cells #[.int .i64 (n : Nat), .slice (some ⟨gz, 0, none⟩) (n * n) cz] 30)).heap.size (w2.alloc (.cells #[.int .i64 (n : Nat), .slice (some ⟨gz, 0, none⟩) (n * n) cz] 30))).alloc (Nat.le_refl _) (.cells #[.int .i64 (n : Nat), .slice (some ⟨gz, 0, none⟩) (n * n) cz] 30)
              rw [s2] at h
              exact h
            have bd' := bd
            rw [← s2] at bd'
            have G4 := hide (grids_keep (unhide G3) bd')
            have R4 := hide (row_below (unhide R3) bd' (row_lt (unhide R3)))
            have B4 := hide ((unhide B3).trans (bd'.mono (by omega)))
            have hnews := hide (two_news (W := w2.alloc (.cells #[.int .i64 (n : Nat), .slice (some ⟨gz, 0, none⟩) (n * n) cz] 30)) (.int .i64 (n : Nat)) (.slice (some ⟨gz, 0, none⟩) (n * n) cz) 30)
            rw [s2] at hnews
            have hone := hide (two_one (x := .int .i64 (n : Nat)) (y := .slice (some ⟨gz, 0, none⟩) (n * n) cz) rfl rfl)
            have O4 := hide (unhide G4).own
            clear bd bd' G3 R3 B3
            go_wp2_with (first
              | (at_builtin; refine wpList_append_own _ rfl (.tmp 29) (.tmp 31) 24 rfl w.heap.size 30 i0 (.agg #[.int .i64 0, .slice none 0 0]) 2 32 Try.underlying24 hi0 hz0 hz1 hz2 rfl (by decide) _ c _ rfl (unhide O4) ⟨w2.heap.size + 1, 0, none⟩ 1 1 [.int .i64 (n : Nat), .slice (some ⟨gz, 0, none⟩) (n * n) cz] rfl rfl (unhide hnews) (unhide hone) ?c3 ?c4 ?c5 ?_))
            case c3 => unfold maxLen; omega
            case c4 => omega
            case c5 => simp; omega
            intro v' w5 hown' hgrow _
            have G5 := hide (grids_push (unhide G4) (unhide R4) (by omega) ⟨h1, h2, unhide HT⟩ hown' hgrow)
            have B5 : Hid (Below w.heap.size w w5) := (unhide B4).grown hgrow (by simp; omega) (fun k hk => ((unhide O4).lt k hk).1)
            obtain ⟨a5, c5, rfl⟩ := own_sliceG (unhide G5).own
            clear hown' hgrow hnews hone O4 G4 B4 R4
            go_wp2_with fail
            exact ⟨⟨c + 1, s, _, _, _, a5, c5, by omega, hsm, by omega, rfl, rfl, (unhide CP).2.symm, (unhide CP).1, G5, B5⟩, by show 64 - (c + 1) < 64 - c; omega⟩
        · have B2 := hide hb
          have NN := hide hno
          clear hb kN hno
          go_wp2_with fail
          go_ret2
          have ba := (Below.refl w2.heap.size w2).alloc (Nat.le_refl _) (.cells #[.int .i64 0, .slice none 0 0] 30)
          exact cut_post (unhide hP) (unhide hC) hc (.inr fun n f k h => absurd h (unhide NN n f k)) (grids_keep (grids_keep (unhide hG) (unhide B2)) ba) (((unhide hBW).trans ((unhide B2).mono (unhide hBW).size)).trans (ba.mono (Nat.le_trans (unhide hBW).size (unhide B2).size)))
    · have q1 : ((c : Int) < 64) = False := by simp; omega
      have q2 : (c < 64) = False := by simp; omega
      go_wp2_with fail
      go_ret2
      exact cut_post (unhide hP) (unhide hC) hc (.inl (by omega)) (unhide hG) (unhide hBW)
theorem refCut : CutsOk 16 := by
  intro a g o cap L w h hn hc hb
  by_cases hl : 0 < L.length
  · obtain ⟨rfl, _⟩ := h.at_ hl
    exact refCutSome w h hc hb
  · have e : L = [] := List.eq_nil_of_length_eq_zero (by omega)
    subst e
    exact refCutNil a cap w hn
end Go.Proofs.Ytpmbgjoilfdkaaa
