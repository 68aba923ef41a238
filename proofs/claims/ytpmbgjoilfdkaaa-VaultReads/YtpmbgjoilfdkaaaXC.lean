/- The program's body of a slice. -/
import Derived.Test.YtpmbgjoilfdkaaaXB
namespace Go.Proofs.Ytpmbgjoilfdkaaa
open Go.RowKit Fl Ieee

/-- The boxes of two fields. -/
structure Two (w wr : World) (x y x' y' : Value) : Prop where
  one : wr.heap[w.heap.size]? = some (.cells #[x, y] 30 (0, 0))
  two : wr.heap[w.heap.size + 1]? = some (.cells #[x', y'] 30 (0, 0))
  bel : Below w.heap.size w wr
theorem two_boxes (w : World) (x y x' y' : Value) : Two w ((w.alloc (.cells #[x, y] 30)).alloc (.cells #[x', y'] 30)) x y x' y' := by
  have s1 : (w.alloc (.cells #[x, y] 30)).heap.size = w.heap.size + 1 := World.size_alloc _ _
  refine ⟨?_, ?_, ((Below.refl _ _).alloc (Nat.le_refl _) _).alloc (by rw [s1]; omega) _⟩
  · rw [Below.heap_alloc _ _ _ (by rw [s1]; omega)]
    exact heap_alloc_new w _
  · rw [← s1]
    exact heap_alloc_new _ _
theorem two_size {w wr : World} {x y x' y' : Value} (h : Two w wr x y x' y') : w.heap.size + 1 < wr.heap.size := (Array.getElem?_eq_some_iff.1 h.two).1
theorem two_keep {w wr wx : World} {x y x' y' : Value} (h : Two w wr x y x' y') (hb : Below wr.heap.size wr wx) : Two w wx x y x' y' := by
  have hs := two_size h
  exact ⟨by rw [hb.block _ (by omega)]; exact h.one, by rw [hb.block _ (by omega)]; exact h.two, h.bel.trans (hb.mono h.bel.size)⟩

/-- What is asked of the body of a slice. -/
def BodyP (prev : Option Sli) (n : Nat) (f : Nat → Nat × Nat) (w : World) (r : Ending) (w' : World) : Prop := ∃ (bs : List Nat) (g' c' : Nat), r = .returned (.tuple #[.slice (some ⟨g', 0, none⟩) bs.length c', .int .i64 0]) ∧ BodyIs prev n f bs ∧ (∀ y ∈ bs, y < 256) ∧ 1 ≤ bs.length ∧ bs.length ≤ 600001 ∧ w'.ownsRow w.heap.size 5 1 (.slice (some ⟨g', 0, none⟩) bs.length c') bs.length (bL bs) ∧ Below w.heap.size w w'

set_option maxRecDepth 100000 in
set_option maxHeartbeats 12800000 in
theorem progBody {n g c n' m c' : Nat} {a : Option Addr} {f : Nat → Nat × Nat} {prev : Option Sli} (h1 : 1 ≤ n) (h2 : n ≤ 64) (hf : Bits n f) (w : World) (hR : Row w g (n * n) f) (hA : AheadAt w n' a m c' prev) :
    Calls Try.prog 18 #[fieldV n g (n * n) c, .agg #[.int .i64 (n' : Nat), .slice a m c']] w (BodyP prev n f w) := by
  obtain ⟨i0, hi0, hz0, hz1, hz2⟩ := info_parts infoB
  have kP := hide (fun (W : World) hr => packO progPack n g c f W h1 h2 hf hr)
  have kX := hide (fun (W : World) r1 r2 => changeAny (g := g) (c := c) (n' := n') (m := m) (c' := c') (a := a) (prev := prev) h1 h2 hf W r1 r2)
  have kQ := hide (fun (p : Nat → Nat × Nat) (hp : Bits n p) (g' c' : Nat) (W : World) hr => packO progPack n g' c' (xorC f p) W h1 h2 (bits_xor hf hp) hr)
  have T0 := hide (two_boxes w (.int .i64 n) (.slice (some ⟨g, 0, none⟩) (n * n) c) (.int .i64 n') (.slice a m c'))
  have RX := hide hR
  have AX := hide hA
  clear hR hA hf
  unfold fieldV at *
  generalize hM : n * n = M at *
  clear hM
  go_enter Try.func18, Try.ntmps18
  go_wp2_with fail
  generalize ((w.alloc (.cells #[.int .i64 n, .slice (some ⟨g, 0, none⟩) M c] 30)).alloc (.cells #[.int .i64 n', .slice a m c'] 30)) = W0 at *
  refine (unhide kP W0 (row_below (unhide RX) (unhide T0).bel (row_lt (unhide RX)))).mono ?_
  rintro e w1 ⟨L, g1, c1, rfl, hP, h256, hlo, hhi, hO, hb⟩
  have PX := hide hP
  have O1 := hide hO
  have Y1 := hide h256
  have T1 := hide (two_keep (unhide T0) hb)
  obtain ⟨a0, a1, _, _⟩ := box2_cells (unhide T1).one
  obtain ⟨b0, b1, _, _⟩ := box2_cells (unhide T1).two
  clear hP hO hb h256 kP T0
  go_wp2_with fail
  refine (unhide kX w1 (row_below (unhide RX) (unhide T1).bel (row_lt (unhide RX))) (ahead_keep (unhide AX) (unhide T1).bel)).mono ?_
  rintro e w2 ⟨hor, hb⟩
  have B2 := hide ((unhide T1).bel.trans (hb.mono (unhide T1).bel.size))
  have O2 := hide (own_below (unhide O1) hb)
  clear hb kX a0 a1 b0 b1 T1 O1 AX RX
  rcases hor with ⟨p, gz, cz, hprev, hbp, rfl, hRz, hgz⟩ | ⟨hno, rfl⟩
  · have HPV := hide hprev
    have ba : Below w2.heap.size w2 (w2.alloc (.cells #[.int .i64 n, .slice (some ⟨gz, 0, none⟩) M cz] 30)) := (Below.refl _ _).alloc (Nat.le_refl _) _
    have B3 := hide ((unhide B2).trans (ba.mono (unhide B2).size))
    have O3 := hide (own_below (unhide O2) ba)
    obtain ⟨d0, d1, _, _⟩ := box2_cells (W := w2.alloc (.cells #[.int .i64 n, .slice (some ⟨gz, 0, none⟩) M cz] 30)) (heap_alloc_new w2 _)
    have KZ := hide (unhide kQ p hbp gz cz _ (row_below hRz ba (row_lt hRz)))
    clear hprev hbp hRz hgz ba kQ B2 O2
    go_wp2_with fail
    refine (unhide KZ).mono ?_
    rintro e w5 ⟨C, g3, c3, rfl, hP, h256, hlo3, hhi3, hO, hb⟩
    have PC := hide hP
    have O5 := hide hO
    have B5 := hide ((unhide B3).trans (hb.mono (unhide B3).size))
    have O6 := hide (own_below (unhide O3) hb)
    have Y3 := hide h256
    clear hP hO hb h256 KZ O3 B3 d0 d1
    by_cases hlt : C.length < L.length
    · have t1 : ((C.length : Int) < (L.length : Int)) = True := by simp; omega
      have t2 : (C.length < L.length) = True := by simp; omega
      have BZ : Hid (BodyIs prev n f (1 :: C)) := ⟨L, unhide PX, .inl ⟨p, C, unhide HPV, unhide PC, hlt, rfl⟩⟩
      have hown0 := hide (World.ownsRow_lit (base := (w5).heap.size) (e := 5) (size := 1) (w5) #[.int .u8 1] 1 (Nat.le_refl _) (by decide) rfl)
      have hnews : Hid (∀ j u, (bL C)[j]? = some u → ((w5).alloc (.cells #[.int .u8 1] 5)).cell? ((⟨g3, 0, none⟩ : Addr).add j) = some u) := by
        exact news_bytes (bat_keep (bat_of_own (unhide O5) (unhide Y3)) ((Below.refl _ (w5)).alloc (Nat.le_refl _) (.cells #[.int .u8 1] 5))) rfl
      have hone := hide (bL_one C)
      go_wp2_with (first
        | (at_builtin; refine wpList_append_own _ rfl (.tmp 41) (.tmp 42) 22 rfl (w5).heap.size 5 i0 (.int .u8 0) 1 1 Try.underlying22 hi0 hz0 hz1 hz2 rfl (by decide) _ 1 _ rfl (unhide hown0) ⟨g3, 0, none⟩ C.length c3 (bL C) rfl (by rw [bL_len, Nat.mul_one]) (unhide hnews) (unhide hone) ?c3 ?c4 ?c5 ?_))
      case c3 => unfold maxLen; omega
      case c4 => omega
      case c5 => simp
      intro v' w9 hown' hgrow _
      have bw : Below (w5).heap.size (w5) w9 := ((Below.refl _ _).alloc (Nat.le_refl _) _).grown hgrow (by simp) (fun k hk => by cases hk; exact Nat.le_refl _)
      have O7 : Hid (w9.ownsRow (w5).heap.size 5 1 v' (1 :: C).length (bL (1 :: C))) := by
        have := hown'
        rw [Nat.add_comm] at this
        exact this
      obtain ⟨g7, c7, rfl⟩ := own_slice (unhide O7) (by simp)
      have O8 := hide (own_less (unhide O7) (unhide B5).size)
      have B7 := hide ((unhide B5).trans (bw.mono (unhide B5).size))
      have Y7 := hide (cons_lt (by decide : 1 < 256) (unhide Y3))
      have el7 : (1 :: C).length = C.length + 1 := rfl
      clear hown' hgrow bw hown0 hnews hone O7
      go_wp2_with fail
      go_ret2
      exact ⟨1 :: C, g7, c7, rfl, unhide BZ, unhide Y7, by simp, by simp; omega, unhide O8, unhide B7⟩
    · have t1 : ((C.length : Int) < (L.length : Int)) = False := by simp; omega
      have t2 : (C.length < L.length) = False := by simp; omega
      have BZ : Hid (BodyIs prev n f (0 :: L)) := ⟨L, unhide PX, .inr ⟨fun p' e => (by rw [unhide HPV] at e; cases e; exact ⟨C, unhide PC, hlt⟩), rfl⟩⟩
      have hown0 := hide (World.ownsRow_lit (base := (w5).heap.size) (e := 5) (size := 1) (w5) #[.int .u8 0] 1 (Nat.le_refl _) (by decide) rfl)
      have hnews : Hid (∀ j u, (bL L)[j]? = some u → ((w5).alloc (.cells #[.int .u8 0] 5)).cell? ((⟨g1, 0, none⟩ : Addr).add j) = some u) := by
        exact news_bytes (bat_keep (bat_of_own (unhide O6) (unhide Y1)) ((Below.refl _ (w5)).alloc (Nat.le_refl _) (.cells #[.int .u8 0] 5))) rfl
      have hone := hide (bL_one L)
      go_wp2_with (first
        | (at_builtin; refine wpList_append_own _ rfl (.tmp 41) (.tmp 42) 22 rfl (w5).heap.size 5 i0 (.int .u8 0) 1 1 Try.underlying22 hi0 hz0 hz1 hz2 rfl (by decide) _ 1 _ rfl (unhide hown0) ⟨g1, 0, none⟩ L.length c1 (bL L) rfl (by rw [bL_len, Nat.mul_one]) (unhide hnews) (unhide hone) ?c3 ?c4 ?c5 ?_))
      case c3 => unfold maxLen; omega
      case c4 => omega
      case c5 => simp
      intro v' w9 hown' hgrow _
      have bw : Below (w5).heap.size (w5) w9 := ((Below.refl _ _).alloc (Nat.le_refl _) _).grown hgrow (by simp) (fun k hk => by cases hk; exact Nat.le_refl _)
      have O7 : Hid (w9.ownsRow (w5).heap.size 5 1 v' (0 :: L).length (bL (0 :: L))) := by
        have := hown'
        rw [Nat.add_comm] at this
        exact this
      obtain ⟨g7, c7, rfl⟩ := own_slice (unhide O7) (by simp)
      have O8 := hide (own_less (unhide O7) (unhide B5).size)
      have B7 := hide ((unhide B5).trans (bw.mono (unhide B5).size))
      have Y7 := hide (cons_lt (by decide : 0 < 256) (unhide Y1))
      have el7 : (0 :: L).length = L.length + 1 := rfl
      clear hown' hgrow bw hown0 hnews hone O7
      go_wp2_with fail
      go_ret2
      exact ⟨0 :: L, g7, c7, rfl, unhide BZ, unhide Y7, by simp, by simp; omega, unhide O8, unhide B7⟩
  · have ba : Below w2.heap.size w2 (w2.alloc (.cells #[.int .i64 0, .slice none 0 0] 30)) := (Below.refl _ _).alloc (Nat.le_refl _) _
    have B3 := hide ((unhide B2).trans (ba.mono (unhide B2).size))
    have O3 := hide (own_below (unhide O2) ba)
    have BZ : Hid (BodyIs prev n f (0 :: L)) := ⟨L, unhide PX, .inr ⟨fun p e => absurd e (hno p), rfl⟩⟩
    clear hno ba kQ B2 O2
    have h0 := hide (World.ownsRow_lit (base := (w2.alloc (.cells #[.int .i64 0, .slice none 0 0] 30)).heap.size) (e := 5) (size := 1) (w2.alloc (.cells #[.int .i64 0, .slice none 0 0] 30)) #[.int .u8 0] 1 (Nat.le_refl _) (by decide) rfl)
    have s2 : (w2.alloc (.cells #[.int .i64 0, .slice none 0 0] 30)).heap.size = w2.heap.size + 1 := World.size_alloc _ _
    have hown0 : Hid (((w2.alloc (.cells #[.int .i64 0, .slice none 0 0] 30)).alloc (.cells #[.int .u8 0] 5)).ownsRow (w2.heap.size + 1) 5 1 (.slice (some ⟨w2.heap.size + 1, 0, none⟩) 1 1) 1 [.int .u8 0]) := by
      have h := unhide h0
      rw [s2] at h
      exact h
    clear h0
    have hnews : Hid (∀ j u, (bL L)[j]? = some u → ((w2.alloc (.cells #[.int .i64 0, .slice none 0 0] 30)).alloc (.cells #[.int .u8 0] 5)).cell? ((⟨g1, 0, none⟩ : Addr).add j) = some u) := by
      exact news_bytes (bat_keep (bat_of_own (unhide O3) (unhide Y1)) ((Below.refl _ (w2.alloc (.cells #[.int .i64 0, .slice none 0 0] 30))).alloc (Nat.le_refl _) (.cells #[.int .u8 0] 5))) rfl
    have hone := hide (bL_one L)
    go_wp2_with (first
      | (at_builtin; refine wpList_append_own _ rfl (.tmp 41) (.tmp 42) 22 rfl (w2.heap.size + 1) 5 i0 (.int .u8 0) 1 1 Try.underlying22 hi0 hz0 hz1 hz2 rfl (by decide) _ 1 _ rfl (unhide hown0) ⟨g1, 0, none⟩ L.length c1 (bL L) rfl (by rw [bL_len, Nat.mul_one]) (unhide hnews) (unhide hone) ?c3 ?c4 ?c5 ?_))
    case c3 => unfold maxLen; omega
    case c4 => omega
    case c5 => simp
    intro v' w9 hown' hgrow _
    have bw : Below (w2.heap.size + 1) (w2.alloc (.cells #[.int .i64 0, .slice none 0 0] 30)) w9 := ((Below.refl _ _).alloc (by rw [s2]; exact Nat.le_refl _) _).grown hgrow (by simp) (fun k hk => by cases hk; exact Nat.le_refl _)
    have O7 : Hid (w9.ownsRow (w2.heap.size + 1) 5 1 v' (0 :: L).length (bL (0 :: L))) := by
      have := hown'
      rw [Nat.add_comm 1] at this
      exact this
    obtain ⟨g7, c7, rfl⟩ := own_slice (unhide O7) (by simp)
    have O8 := hide (own_less (unhide O7) (by have := (unhide B3).size; rw [s2] at this; exact this : w.heap.size ≤ w2.heap.size + 1))
    have B7 := hide ((unhide B3).trans (bw.mono (by have := (unhide B3).size; rw [s2] at this; exact this)))
    have Y7 := hide (cons_lt (by decide : 0 < 256) (unhide Y1))
    have el7 : (0 :: L).length = L.length + 1 := rfl
    clear hown' hgrow bw hown0 hnews hone O7
    go_wp2_with fail
    go_ret2
    exact ⟨0 :: L, g7, c7, rfl, unhide BZ, unhide Y7, by simp, by simp; omega, unhide O8, unhide B7⟩
end Go.Proofs.Ytpmbgjoilfdkaaa
