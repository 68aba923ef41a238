/- The ghost of any directions, and whether it fits, are told as the document says: the statement's own walk. -/
import Derived.Test.YtfddchjonjklkaaGT
namespace Go.Proofs.Ytfddchjonjklkaa
open Go.RowKit Fl

theorem on {w0 w w' : World} (h : Below w0.heap.size w0 w) (hb : Below w.heap.size w w') : Below w0.heap.size w0 w' := h.trans (hb.mono h.size)
theorem mw_le {L : List (Int × Int)} (h : makeErr L = 0) : gW L * gH L ≤ 4096 := Nat.mul_le_mul (right_of h).w64 (right_of h).h64

set_option maxRecDepth 100000 in
set_option maxHeartbeats 6400000 in
theorem ghostMakesWalk (hAl : AliveOk) {n : Int} {L : List (Int × Int)} {a : Option Addr} {cap g o : Nat} (hN : L.length * 16 ≤ 140737488351232) (hA : All64 L) (u : World) (h : Dirs u a g o L) (hnil : a = none → cap = 0) :
    Calls Try.prog 3 #[.slice a L.length cap, .int .i64 n] u fun e w' => e = .returned (.bool true) ∧ Past u w' := by
  obtain ⟨i0, hi0, hz0, hz1, hz2⟩ := info_parts infoDir
  have H := hide h
  have kG := hide (fun (hE : makeErr L = 0) (b : Option Addr) (cb g' o' : Nat) (w' : World) (hw : Dirs w' b g' o' L) => gMake (cap := cb) hE hA w' hw)
  have kB := hide (fun (hE : makeErr L ≠ 0) (b : Option Addr) (cb g' o' : Nat) (w' : World) (hw : Dirs w' b g' o' L) => gMakeBad (cap := cb) (by omega) hE hA w' hw)
  have rG := hide (fun (hE : makeErr L = 0) (w' : World) (hw : Dirs w' a g o L) => makeGood (cap := cap) hE hA w' hw)
  have rB := hide (fun (hE : makeErr L ≠ 0) (w' : World) (hw : Dirs w' a g o L) => makeBad (cap := cap) (by omega) hE hA w' hw)
  have kF := hide (fun (b : Option Addr) (cb g' o' : Nat) (w' : World) (hw : Dirs w' b g' o' L) => gFits (n := n) (cap := cb) (by omega) hA w' hw)
  have rF := hide (fun (w' : World) (hw : Dirs w' a g o L) => fitsAny (n := n) (cap := cap) (by omega) hA w' hw)
  have hat := hide (fun i (hi : i < L.length) => pairs2_get (L := L) hi)
  unfold ghostV at kG
  generalize fitsS n L = r at kF rF
  obtain ⟨r1, r2⟩ := r
  dsimp only at kF rF
  clear h
  go_enter Try.func3, Try.ntmps3
  go_wp2_with fail
  refine (hAl _).mono ?_
  rintro e w1 ⟨rfl, hp1⟩
  obtain ⟨w, hv, hb1⟩ := hp1.split
  have hvh := hide hv
  have H0 := hide (dirs_alike hv (unhide H))
  have hB1 := hide hb1
  have H1 := hide (dirs_below (unhide H0) hb1)
  clear hb1 hp1 hv
  cases a with
  | none =>
    have hl : L.length = 0 := by
      rcases Nat.eq_zero_or_pos L.length with e | e
      · exact e
      · have := ((unhide H).at_ e).1
        cases this
    have hcap := hnil rfl
    subst hcap
    obtain rfl : L = [] := List.length_eq_zero_iff.1 hl
    have hD2 : Dirs (w1.alloc (.cells #[] 34)) (some ⟨w1.heap.size, 0, none⟩) w1.heap.size 0 [] := ⟨fun h => (by cases h), fun i c hi => (by simp at hi)⟩
    have hb2 : Below w1.heap.size w1 (w1.alloc (.cells #[] 34)) := (Below.refl _ _).alloc (Nat.le_refl _) _
    have hE : makeErr [] = 0 := by decide +kernel
    go_wp2_with fail
    generalize w1.alloc (.cells #[] 34) = w2 at *
    refine (unhide kG hE _ _ _ 0 w2 hD2).mono ?_
    rintro e w3 ⟨g3, c3, rfl, hg3, ⟨R3, _⟩, hb3⟩
    have hb4 := (Below.refl _ w3).alloc (Nat.le_refl _) (.cells #[.int .i64 (gW []), .int .i64 (gH []), .slice (some ⟨g3, 0, none⟩) (gW [] * gH [] : Nat) c3] 26)
    have X4 := hide (heap_alloc_new w3 (.cells #[.int .i64 (gW []), .int .i64 (gH []), .slice (some ⟨g3, 0, none⟩) (gW [] * gH [] : Nat) c3] 26))
    have hs4 : w3.heap.size + 1 ≤ (w3.alloc (.cells #[.int .i64 (gW []), .int .i64 (gH []), .slice (some ⟨g3, 0, none⟩) (gW [] * gH [] : Nat) c3] 26)).heap.size := by rw [World.size_alloc]; exact Nat.le_refl _
    have G4 := hide (dirs_below (dirs_below hD2 hb3) hb4)
    have H4 := hide (dirs_below (dirs_below (dirs_below (unhide H1) hb2) hb3) hb4)
    have B4 := hide (on (on (on (unhide hB1) hb2) hb3) hb4)
    have R4 := hide (row_below R3 hb4 (row_lt R3))
    have hl3 := row_lt R3
    clear hb3 hb4 R3 hD2 hb2 H1 hB1 kB rB
    go_wp2_with fail
    generalize w3.alloc (.cells #[.int .i64 (gW []), .int .i64 (gH []), .slice (some ⟨g3, 0, none⟩) (gW [] * gH [] : Nat) c3] 26) = w4 at *
    refine (unhide rG hE w4 (unhide H4)).mono ?_
    rintro e w5 ⟨g5, c5, rfl, hg5, ⟨R5, _⟩, hb5⟩
    have hb6 := (Below.refl _ w5).alloc (Nat.le_refl _) (.cells #[.int .i64 (gW []), .int .i64 (gH []), .slice (some ⟨g5, 0, none⟩) (gW [] * gH [] : Nat) c5] 26)
    have X6 := hide (heap_alloc_new w5 (.cells #[.int .i64 (gW []), .int .i64 (gH []), .slice (some ⟨g5, 0, none⟩) (gW [] * gH [] : Nat) c5] 26))
    have hs6 : w5.heap.size + 1 ≤ (w5.alloc (.cells #[.int .i64 (gW []), .int .i64 (gH []), .slice (some ⟨g5, 0, none⟩) (gW [] * gH [] : Nat) c5] 26)).heap.size := by rw [World.size_alloc]; exact Nat.le_refl _
    have hs5 := hb5.size
    have Y6 := hide ((hb6.block _ (by omega)).trans ((hb5.block _ (by omega)).trans (unhide X4)))
    have G6 := hide (dirs_below (dirs_below (unhide G4) hb5) hb6)
    have H6 := hide (dirs_below (dirs_below (unhide H4) hb5) hb6)
    have B6 := hide (on (on (unhide B4) hb5) hb6)
    have R6 := hide (row_below (row_below (unhide R4) hb5 (by omega)) hb6 (by omega))
    have hl5 := row_lt R5
    have S6 := hide (row_below R5 hb6 hl5)
    clear hb5 hb6 R5 R4 G4 H4 B4 X4 kG rG
    go_wp2_with fail
    generalize w5.alloc (.cells #[.int .i64 (gW []), .int .i64 (gH []), .slice (some ⟨g5, 0, none⟩) (gW [] * gH [] : Nat) c5] 26) = w6 at *
    refine (unhide kF _ _ _ 0 w6 (unhide G6)).mono ?_
    rintro e w7 ⟨rfl, hb7⟩
    have hs7 := hb7.size
    have G7 := hide (dirs_below (unhide G6) hb7)
    have H7 := hide (dirs_below (unhide H6) hb7)
    have B7 := hide (on (unhide B6) hb7)
    have X7 := hide ((hb7.block _ (by omega)).trans (unhide X6))
    have Y7 := hide ((hb7.block _ (by omega)).trans (unhide Y6))
    have R7 := hide (row_below (unhide R6) hb7 (by omega))
    have S7 := hide (row_below (unhide S6) hb7 (by omega))
    clear hb7 G6 H6 B6 X6 Y6 R6 S6 kF
    go_wp2_with fail
    refine (unhide rF w7 (unhide H7)).mono ?_
    rintro e w8 ⟨rfl, hb8⟩
    have hs8 := hb8.size
    have G8 := hide (dirs_below (unhide G7) hb8)
    have H8 := hide (dirs_below (unhide H7) hb8)
    have B8 := hide (on (unhide B7) hb8)
    have X8 := (hb8.block _ (by omega)).trans (unhide X7)
    have Y8 := (hb8.block _ (by omega)).trans (unhide Y7)
    have x0 := block_cell X8 0
    have x1 := block_cell X8 1
    have x2 := block_cell X8 2
    have y0 := block_cell Y8 0
    have y1 := block_cell Y8 1
    have y2 := block_cell Y8 2
    simp only [List.getElem?_toArray, List.getElem?_cons_zero, List.getElem?_cons_succ] at x0 x1 x2 y0 y1 y2
    have kS := hide (sameGood (x := gW []) (y := gH []) (ca := c3) (cb := c5) w8 (row_below (unhide R7) hb8 (by omega)) (row_below (unhide S7) hb8 (by omega)) (mw_le hE))
    clear hb8 G7 H7 B7 X7 Y7 X8 Y8 R7 S7 rF
    go_wp2_with (first | (go_at_call 11; refine (unhide kS).mono ?_; rintro e w9 ⟨rfl, hb9⟩; have B9 := hide (on (unhide B8) hb9); have G9 := hide (dirs_below (unhide G8) hb9); have H9 := hide (dirs_below (unhide H8) hb9); clear hb9))
    clear kS x0 x1 x2 y0 y1 y2 B8 G8 H8
    go_loopw [14] (fun iv wr => iv = .int .i64 0 ∧ w9 = wr) (fun _ _ => 0)
    case atStart => exact ⟨rfl, rfl⟩
    case round =>
      obtain ⟨rfl, rfl⟩ := hrel
      go_wp2_with fail
      go_ret
      exact ⟨rfl, past_of (unhide hvh) (unhide B9)⟩
  | some ad =>
    have hx : ∀ hl : 0 < L.length, ad = ⟨g, o, none⟩ := fun hl => by
      have := ((unhide H).at_ hl).1
      injection this
    have hown0 := hide (World.ownsRow_lit (base := w1.heap.size) (e := 34) (size := 2) w1 #[] 0 (Nat.le_refl _) (Nat.zero_le _) rfl)
    have hnews : Hid (∀ j u, (flat2 L)[j]? = some u → (w1.alloc (.cells #[] 34)).cell? (ad.add j) = some u) := by
      intro j u hj
      obtain ⟨i, c, hc, hu⟩ := flat2_at hj
      have hl : 0 < L.length := by
        have := (List.getElem?_eq_some_iff.1 hc).1
        omega
      have hb : (w1.alloc (.cells #[] 34)).heap[g]? = w1.heap[g]? := Below.heap_alloc _ _ _ ((unhide H1).at_ hl).2
      obtain ⟨c1, c2⟩ := (unhide H1).cell i c hc
      rw [hx hl, addr_plus]
      rcases hu with ⟨rfl, rfl⟩ | ⟨rfl, rfl⟩
      · exact (World.cell?_of_block hb).trans c1
      · exact (World.cell?_of_block hb).trans c2
    have hone : Hid (∀ u ∈ flat2 L, u.oneCell' = true) := by
      intro u hu
      obtain ⟨j, hj⟩ := List.mem_iff_getElem?.1 hu
      obtain ⟨i, c, hc, h | h⟩ := flat2_at hj
      · rw [h.2]; rfl
      · rw [h.2]; rfl
    go_wp2_with (first
      | (at_builtin; refine wpList_append_own _ rfl (.tmp 17) (.tmp 18) 22 rfl w1.heap.size 34 i0 (.agg #[.int .i64 0, .int .i64 0]) 2 16 Try.underlying22 hi0 hz0 hz1 hz2 rfl (by decide) _ 0 _ rfl (unhide hown0) ad L.length cap (flat2 L) rfl (flat2_length L) (unhide hnews) (unhide hone) ?c3 ?c4 ?c5 ?_))
    case c3 => unfold maxLen; omega
    case c4 => omega
    case c5 => simp
    intro v' w2 hown' hgrow _
    obtain ⟨b, cb, g', rfl, hD2⟩ := dirs_owns hown'
    have hb2 : Below w1.heap.size w1 w2 := ((Below.refl _ _).alloc (Nat.le_refl _) _).grown hgrow (by simp) (fun k hk => by cases hk; exact Nat.le_refl _)
    clear hown' hgrow hnews hone hown0
    go_wp2_with fail
    by_cases hE : makeErr L = 0
    · refine (unhide kG hE _ _ g' 0 w2 hD2).mono ?_
      rintro e w3 ⟨g3, c3, rfl, hg3, ⟨R3, _⟩, hb3⟩
      have hb4 := (Below.refl _ w3).alloc (Nat.le_refl _) (.cells #[.int .i64 (gW L), .int .i64 (gH L), .slice (some ⟨g3, 0, none⟩) (gW L * gH L : Nat) c3] 26)
      have X4 := hide (heap_alloc_new w3 (.cells #[.int .i64 (gW L), .int .i64 (gH L), .slice (some ⟨g3, 0, none⟩) (gW L * gH L : Nat) c3] 26))
      have hs4 : w3.heap.size + 1 ≤ (w3.alloc (.cells #[.int .i64 (gW L), .int .i64 (gH L), .slice (some ⟨g3, 0, none⟩) (gW L * gH L : Nat) c3] 26)).heap.size := by rw [World.size_alloc]; exact Nat.le_refl _
      have G4 := hide (dirs_below (dirs_below hD2 hb3) hb4)
      have H4 := hide (dirs_below (dirs_below (dirs_below (unhide H1) hb2) hb3) hb4)
      have B4 := hide (on (on (on (unhide hB1) hb2) hb3) hb4)
      have R4 := hide (row_below R3 hb4 (row_lt R3))
      have hl3 := row_lt R3
      clear hb3 hb4 R3 hD2 hb2 H1 hB1 kB rB
      go_wp2_with fail
      generalize w3.alloc (.cells #[.int .i64 (gW L), .int .i64 (gH L), .slice (some ⟨g3, 0, none⟩) (gW L * gH L : Nat) c3] 26) = w4 at *
      refine (unhide rG hE w4 (unhide H4)).mono ?_
      rintro e w5 ⟨g5, c5, rfl, hg5, ⟨R5, _⟩, hb5⟩
      have hb6 := (Below.refl _ w5).alloc (Nat.le_refl _) (.cells #[.int .i64 (gW L), .int .i64 (gH L), .slice (some ⟨g5, 0, none⟩) (gW L * gH L : Nat) c5] 26)
      have X6 := hide (heap_alloc_new w5 (.cells #[.int .i64 (gW L), .int .i64 (gH L), .slice (some ⟨g5, 0, none⟩) (gW L * gH L : Nat) c5] 26))
      have hs6 : w5.heap.size + 1 ≤ (w5.alloc (.cells #[.int .i64 (gW L), .int .i64 (gH L), .slice (some ⟨g5, 0, none⟩) (gW L * gH L : Nat) c5] 26)).heap.size := by rw [World.size_alloc]; exact Nat.le_refl _
      have hs5 := hb5.size
      have Y6 := hide ((hb6.block _ (by omega)).trans ((hb5.block _ (by omega)).trans (unhide X4)))
      have G6 := hide (dirs_below (dirs_below (unhide G4) hb5) hb6)
      have H6 := hide (dirs_below (dirs_below (unhide H4) hb5) hb6)
      have B6 := hide (on (on (unhide B4) hb5) hb6)
      have R6 := hide (row_below (row_below (unhide R4) hb5 (by omega)) hb6 (by omega))
      have hl5 := row_lt R5
      have S6 := hide (row_below R5 hb6 hl5)
      clear hb5 hb6 R5 R4 G4 H4 B4 X4 kG rG
      go_wp2_with fail
      generalize w5.alloc (.cells #[.int .i64 (gW L), .int .i64 (gH L), .slice (some ⟨g5, 0, none⟩) (gW L * gH L : Nat) c5] 26) = w6 at *
      refine (unhide kF _ _ g' 0 w6 (unhide G6)).mono ?_
      rintro e w7 ⟨rfl, hb7⟩
      have hs7 := hb7.size
      have G7 := hide (dirs_below (unhide G6) hb7)
      have H7 := hide (dirs_below (unhide H6) hb7)
      have B7 := hide (on (unhide B6) hb7)
      have X7 := hide ((hb7.block _ (by omega)).trans (unhide X6))
      have Y7 := hide ((hb7.block _ (by omega)).trans (unhide Y6))
      have R7 := hide (row_below (unhide R6) hb7 (by omega))
      have S7 := hide (row_below (unhide S6) hb7 (by omega))
      clear hb7 G6 H6 B6 X6 Y6 R6 S6 kF
      go_wp2_with fail
      refine (unhide rF w7 (unhide H7)).mono ?_
      rintro e w8 ⟨rfl, hb8⟩
      have hs8 := hb8.size
      have G8 := hide (dirs_below (unhide G7) hb8)
      have H8 := hide (dirs_below (unhide H7) hb8)
      have B8 := hide (on (unhide B7) hb8)
      have X8 := (hb8.block _ (by omega)).trans (unhide X7)
      have Y8 := (hb8.block _ (by omega)).trans (unhide Y7)
      have x0 := block_cell X8 0
      have x1 := block_cell X8 1
      have x2 := block_cell X8 2
      have y0 := block_cell Y8 0
      have y1 := block_cell Y8 1
      have y2 := block_cell Y8 2
      simp only [List.getElem?_toArray, List.getElem?_cons_zero, List.getElem?_cons_succ] at x0 x1 x2 y0 y1 y2
      have kS := hide (sameGood (x := gW L) (y := gH L) (ca := c3) (cb := c5) w8 (row_below (unhide R7) hb8 (by omega)) (row_below (unhide S7) hb8 (by omega)) (mw_le hE))
      clear hb8 G7 H7 B7 X7 Y7 X8 Y8 R7 S7 rF
      go_wp2_with (first | (go_at_call 11; refine (unhide kS).mono ?_; rintro e w9 ⟨rfl, hb9⟩; have B9 := hide (on (unhide B8) hb9); have G9 := hide (dirs_below (unhide G8) hb9); have H9 := hide (dirs_below (unhide H8) hb9); clear hb9))
      clear kS x0 x1 x2 y0 y1 y2 B8 G8 H8
      go_loopw [14] (fun iv wr => ∃ i : Nat, i ≤ L.length ∧ iv = .int .i64 i ∧ Hid (Below w9.heap.size w9 wr)) (fun iv _ => L.length - (intOf iv).toNat)
      case atStart => exact ⟨0, Nat.zero_le _, rfl, Below.refl _ _⟩
      case round =>
        obtain ⟨i, hi, rfl, hBr⟩ := hrel
        by_cases hc : i < L.length
        · have qq : ((i : Int) < (L.length : Int)) = True := by simp; omega
          obtain ⟨x, y, hd⟩ := unhide hat i hc
          obtain ⟨e1, l1⟩ := (unhide G9).at_ (by omega)
          obtain ⟨e2, l2⟩ := (unhide H9).at_ (by omega)
          have c1 := ((unhide hBr).cell (p := ⟨g', 0 + i * 2, none⟩) l1).trans ((unhide G9).cell i _ hd).1
          have c2 := ((unhide hBr).cell (p := ⟨g', 0 + i * 2 + 1, none⟩) l1).trans ((unhide G9).cell i _ hd).2
          have c3 := ((unhide hBr).cell (p := ⟨g, o + i * 2, none⟩) l2).trans ((unhide H9).cell i _ hd).1
          have c4 := ((unhide hBr).cell (p := ⟨g, o + i * 2 + 1, none⟩) l2).trans ((unhide H9).cell i _ hd).2
          rw [Nat.zero_add] at c1 c2
          dsimp only at c1 c2 c3 c4
          rw [e1, e2]
          clear hd
          go_wp2_with fail
          go_quiet (fail)
          go_wp2_with fail
          have hb := unhide hBr
          exact ⟨⟨i + 1, hc, by go_num, ⟨hb.os, hb.tape, hb.output, hb.size, hb.block⟩⟩, by simp [intOf]; omega⟩
        · have qq : ((i : Int) < (L.length : Int)) = False := by simp; omega
          go_wp2_with fail
          go_ret
          exact ⟨rfl, past_of (unhide hvh) (on (unhide B9) (unhide hBr))⟩
    · refine (unhide kB hE _ _ g' 0 w2 hD2).mono ?_
      rintro e w3 ⟨rfl, hb3⟩
      have hb4 := (Below.refl _ w3).alloc (Nat.le_refl _) (.cells #[.int .i64 0, .int .i64 0, .slice none 0 0] 26)
      have X4 := hide (heap_alloc_new w3 (.cells #[.int .i64 0, .int .i64 0, .slice none 0 0] 26))
      have hs4 : w3.heap.size + 1 ≤ (w3.alloc (.cells #[.int .i64 0, .int .i64 0, .slice none 0 0] 26)).heap.size := by rw [World.size_alloc]; exact Nat.le_refl _
      have G4 := hide (dirs_below (dirs_below hD2 hb3) hb4)
      have H4 := hide (dirs_below (dirs_below (dirs_below (unhide H1) hb2) hb3) hb4)
      have B4 := hide (on (on (on (unhide hB1) hb2) hb3) hb4)
      clear hb3 hb4 hD2 hb2 H1 hB1 kG rG
      go_wp2_with fail
      generalize w3.alloc (.cells #[.int .i64 0, .int .i64 0, .slice none 0 0] 26) = w4 at *
      refine (unhide rB hE w4 (unhide H4)).mono ?_
      rintro e w5 ⟨rfl, hb5⟩
      have hb6 := (Below.refl _ w5).alloc (Nat.le_refl _) (.cells #[.int .i64 0, .int .i64 0, .slice none 0 0] 26)
      have X6 := hide (heap_alloc_new w5 (.cells #[.int .i64 0, .int .i64 0, .slice none 0 0] 26))
      have hs6 : w5.heap.size + 1 ≤ (w5.alloc (.cells #[.int .i64 0, .int .i64 0, .slice none 0 0] 26)).heap.size := by rw [World.size_alloc]; exact Nat.le_refl _
      have hs5 := hb5.size
      have Y6 := hide ((hb6.block _ (by omega)).trans ((hb5.block _ (by omega)).trans (unhide X4)))
      have G6 := hide (dirs_below (dirs_below (unhide G4) hb5) hb6)
      have H6 := hide (dirs_below (dirs_below (unhide H4) hb5) hb6)
      have B6 := hide (on (on (unhide B4) hb5) hb6)
      clear hb5 hb6 G4 H4 B4 X4 kB rB
      go_wp2_with fail
      generalize w5.alloc (.cells #[.int .i64 0, .int .i64 0, .slice none 0 0] 26) = w6 at *
      refine (unhide kF _ _ g' 0 w6 (unhide G6)).mono ?_
      rintro e w7 ⟨rfl, hb7⟩
      have hs7 := hb7.size
      have G7 := hide (dirs_below (unhide G6) hb7)
      have H7 := hide (dirs_below (unhide H6) hb7)
      have B7 := hide (on (unhide B6) hb7)
      have X7 := hide ((hb7.block _ (by omega)).trans (unhide X6))
      have Y7 := hide ((hb7.block _ (by omega)).trans (unhide Y6))
      clear hb7 G6 H6 B6 X6 Y6 kF
      go_wp2_with fail
      refine (unhide rF w7 (unhide H7)).mono ?_
      rintro e w8 ⟨rfl, hb8⟩
      have hs8 := hb8.size
      have G8 := hide (dirs_below (unhide G7) hb8)
      have H8 := hide (dirs_below (unhide H7) hb8)
      have B8 := hide (on (unhide B7) hb8)
      have X8 := (hb8.block _ (by omega)).trans (unhide X7)
      have Y8 := (hb8.block _ (by omega)).trans (unhide Y7)
      have x0 := block_cell X8 0
      have x1 := block_cell X8 1
      have x2 := block_cell X8 2
      have y0 := block_cell Y8 0
      have y1 := block_cell Y8 1
      have y2 := block_cell Y8 2
      simp only [List.getElem?_toArray, List.getElem?_cons_zero, List.getElem?_cons_succ] at x0 x1 x2 y0 y1 y2
      clear hb8 G7 H7 B7 X7 Y7 X8 Y8 rF
      go_wp2_with (first | (go_at_call 11; refine (sameEmpty w8).mono ?_; rintro e w9 ⟨rfl, hb9⟩; have B9 := hide (on (unhide B8) hb9); have G9 := hide (dirs_below (unhide G8) hb9); have H9 := hide (dirs_below (unhide H8) hb9); clear hb9))
      clear x0 x1 x2 y0 y1 y2 B8 G8 H8
      go_loopw [14] (fun iv wr => ∃ i : Nat, i ≤ L.length ∧ iv = .int .i64 i ∧ Hid (Below w9.heap.size w9 wr)) (fun iv _ => L.length - (intOf iv).toNat)
      case atStart => exact ⟨0, Nat.zero_le _, rfl, Below.refl _ _⟩
      case round =>
        obtain ⟨i, hi, rfl, hBr⟩ := hrel
        by_cases hc : i < L.length
        · have qq : ((i : Int) < (L.length : Int)) = True := by simp; omega
          obtain ⟨x, y, hd⟩ := unhide hat i hc
          obtain ⟨e1, l1⟩ := (unhide G9).at_ (by omega)
          obtain ⟨e2, l2⟩ := (unhide H9).at_ (by omega)
          have c1 := ((unhide hBr).cell (p := ⟨g', 0 + i * 2, none⟩) l1).trans ((unhide G9).cell i _ hd).1
          have c2 := ((unhide hBr).cell (p := ⟨g', 0 + i * 2 + 1, none⟩) l1).trans ((unhide G9).cell i _ hd).2
          have c3 := ((unhide hBr).cell (p := ⟨g, o + i * 2, none⟩) l2).trans ((unhide H9).cell i _ hd).1
          have c4 := ((unhide hBr).cell (p := ⟨g, o + i * 2 + 1, none⟩) l2).trans ((unhide H9).cell i _ hd).2
          rw [Nat.zero_add] at c1 c2
          dsimp only at c1 c2 c3 c4
          rw [e1, e2]
          clear hd
          go_wp2_with fail
          go_quiet (fail)
          go_wp2_with fail
          have hb := unhide hBr
          exact ⟨⟨i + 1, hc, by go_num, ⟨hb.os, hb.tape, hb.output, hb.size, hb.block⟩⟩, by simp [intOf]; omega⟩
        · have qq : ((i : Int) < (L.length : Int)) = False := by simp; omega
          go_wp2_with fail
          go_ret
          exact ⟨rfl, past_of (unhide hvh) (on (unhide B9) (unhide hBr))⟩
end Go.Proofs.Ytfddchjonjklkaa
