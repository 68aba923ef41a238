/- The order of the directions changes nothing in their ghost: the statement's own walk. -/
import Derived.Test.YtfddchjonjklkaaGO0
import Derived.Test.YtfddchjonjklkaaGC
namespace Go.Proofs.Ytfddchjonjklkaa
open Go.RowKit Fl
attribute [local go_sem] store_complex

/-- What lies there while the first ghost is spoilt. -/
structure Kept (w : World) (bA gA cA bB gB cB bK gK cK M Wd Hd : Nat) (f : Nat → Nat × Nat) (W : World) : Prop where
  ra : ∃ fA, Row W gA M fA
  ca : CapOk W gA M cA
  xa : W.heap[bA]? = some (.cells #[.int .i64 Wd, .int .i64 Hd, .slice (some ⟨gA, 0, none⟩) M cA] 26 (0, 0))
  xb : W.heap[bB]? = some (.cells #[.int .i64 Wd, .int .i64 Hd, .slice (some ⟨gB, 0, none⟩) M cB] 26 (0, 0))
  rb : Row W gB M f
  xk : W.heap[bK]? = some (.cells #[.int .i64 Wd, .int .i64 Hd, .slice (some ⟨gK, 0, none⟩) M cK] 26 (0, 0))
  rk : Row W gK M f
  below : Below w.heap.size w W

structure Apart (w : World) (bA gA bB gB bK gK : Nat) : Prop where
  n1 : bA ≠ gA
  n2 : bB ≠ gA
  n3 : gB ≠ gA
  n4 : bK ≠ gA
  n5 : gK ≠ gA
  n6 : bB ≠ bA
  n7 : gB ≠ bA
  n8 : bK ≠ bA
  n9 : gK ≠ bA
  l1 : w.heap.size ≤ gA
  l2 : w.heap.size ≤ bA

theorem Kept.set {w W : World} {bA gA cA bB gB cB bK gK cK M Wd Hd : Nat} {f : Nat → Nat × Nat} (h : Kept w bA gA cA bB gB cB bK gK cK M Wd Hd f W) (ap : Apart w bA gA bB gB bK gK) (i : Nat) (r : Nat × Nat) :
    Kept w bA gA cA bB gB cB bK gK cK M Wd Hd f (W.setCell ⟨gA, i, none⟩ (cv r)) := by
  obtain ⟨fA, hA⟩ := h.ra
  exact ⟨⟨_, row_set hA i r⟩, cap_set h.ca i _, (Below.heap_setCell _ _ _ _ ap.n1).trans h.xa, (Below.heap_setCell _ _ _ _ ap.n2).trans h.xb, row_keep h.rb (Below.heap_setCell _ _ _ _ ap.n3),
    (Below.heap_setCell _ _ _ _ ap.n4).trans h.xk, row_keep h.rk (Below.heap_setCell _ _ _ _ ap.n5), h.below.setCell ap.l1 _⟩

theorem Kept.owns {w W : World} {bA gA cA bB gB cB bK gK cK M Wd Hd : Nat} {f : Nat → Nat × Nat} (h : Kept w bA gA cA bB gB cB bK gK cK M Wd Hd f W) (ap : Apart w bA gA bB gB bK gK) :
    ∃ xs, W.ownsRow w.heap.size 38 1 (.slice (some ⟨gA, 0, none⟩) M cA) M xs := by
  obtain ⟨cur, h1, h2, h3, h4⟩ := h.ca
  refine ⟨cur.toList.take (M * 1), ?_, Or.inr ⟨gA, cA, cur, rfl, ap.l1, h1, h3, h4, by omega, rfl⟩⟩
  rw [List.length_take, Array.length_toList]
  omega

/-- Behind the append: the spoilt one's last cell is 3; the others are as they were. -/
structure Spoilt (w : World) (bA gN cN bB gB cB bK gK cK M Wd Hd : Nat) (f : Nat → Nat × Nat) (W : World) : Prop where
  lt : gN < W.heap.size
  last : W.cell? ⟨gN, M, none⟩ = some (.complex .f64 4613937818241073152 0)
  xa : W.heap[bA]? = some (.cells #[.int .i64 Wd, .int .i64 Hd, .slice (some ⟨gN, 0, none⟩) (M + 1 : Nat) cN] 26 (0, 0))
  xb : W.heap[bB]? = some (.cells #[.int .i64 Wd, .int .i64 Hd, .slice (some ⟨gB, 0, none⟩) M cB] 26 (0, 0))
  rb : Row W gB M f
  xk : W.heap[bK]? = some (.cells #[.int .i64 Wd, .int .i64 Hd, .slice (some ⟨gK, 0, none⟩) M cK] 26 (0, 0))
  rk : Row W gK M f
  below : Below w.heap.size w W

theorem Spoilt.on {w W W' : World} {bA gN cN bB gB cB bK gK cK M Wd Hd : Nat} {f : Nat → Nat × Nat} (h : Spoilt w bA gN cN bB gB cB bK gK cK M Wd Hd f W) (hb : Below W.heap.size W W') : Spoilt w bA gN cN bB gB cB bK gK cK M Wd Hd f W' := by
  have lt : ∀ {b : Nat} {o : Obj}, W.heap[b]? = some o → b < W.heap.size := fun h => (Array.getElem?_eq_some_iff.1 h).1
  exact ⟨Nat.lt_of_lt_of_le h.lt hb.size, (hb.cell (p := ⟨gN, M, none⟩) h.lt).trans h.last, (hb.block _ (lt h.xa)).trans h.xa, (hb.block _ (lt h.xb)).trans h.xb, row_below h.rb hb (row_lt h.rb), (hb.block _ (lt h.xk)).trans h.xk, row_below h.rk hb (row_lt h.rk), Go.Proofs.Ytfddchjonjklkaa.on h.below hb⟩

theorem spoilt_of {w W W1 W2 : World} {bA gA cA bB gB cB bK gK cK M Wd Hd : Nat} {f : Nat → Nat × Nat} (h : Kept w bA gA cA bB gB cB bK gK cK M Wd Hd f W) (ap : Apart w bA gA bB gB bK gK) (hb : Below W.heap.size W W1) {xs : List Value} (hx : xs.length = M) {v : Value}
    (ho : W2.ownsRow w.heap.size 38 1 v (M + 1) (xs ++ [.complex .f64 4613937818241073152 0])) (hg : W1.grownBy W2 (some gA)) :
    ∃ gN cN, v = .slice (some ⟨gN, 0, none⟩) (M + 1 : Nat) cN ∧ (W2.heap[bA]? = some (.cells #[.int .i64 Wd, .int .i64 Hd, .slice (some ⟨gA, 0, none⟩) M cA] 26 (0, 0))) ∧
      Spoilt w bA gN cN bB gB cB bK gK cK M Wd Hd f (W2.setCell ⟨bA, 2, none⟩ (.slice (some ⟨gN, 0, none⟩) (M + 1 : Nat) cN)) := by
  have lt : ∀ {b : Nat} {o : Obj}, W.heap[b]? = some o → b < W.heap.size := fun h => (Array.getElem?_eq_some_iff.1 h).1
  have kp : ∀ b, b < W.heap.size → b ≠ gA → W2.heap[b]? = W.heap[b]? := fun b hl hn => (hg.block b (Nat.lt_of_lt_of_le hl hb.size) (by simp; exact hn)).trans (hb.block b hl)
  rcases ho.2 with ⟨_, h'⟩ | ⟨gN, cN, cur, rfl, hbs, hgN, hle, _, hcs, htake⟩
  · omega
  · have hxa := (kp bA (lt h.xa) ap.n1).trans h.xa
    have hne : gN ≠ bA := by
      intro e
      rw [e, hxa] at hgN
      have e1 : (26 : TypeId) = 38 := by
        injection hgN with hgN
        injection hgN
      exact absurd e1 (by decide)
    have hlast : cur[M]? = some (.complex .f64 4613937818241073152 0) := by
      have e1 : (xs ++ [Value.complex .f64 4613937818241073152 0])[M]? = some (.complex .f64 4613937818241073152 0) := by
        rw [List.getElem?_append_right (by omega), hx, Nat.sub_self]
        rfl
      rw [← htake, List.getElem?_take, if_pos (by omega)] at e1
      simpa using e1
    have hS : ∀ b, b ≠ bA → (W2.setCell ⟨bA, 2, none⟩ (.slice (some ⟨gN, 0, none⟩) (M + 1 : Nat) cN)).heap[b]? = W2.heap[b]? := fun b hn => Below.heap_setCell _ _ _ _ hn
    refine ⟨gN, cN, rfl, hxa, ?_, ?_, ?_, ?_, ?_, ?_, ?_, ?_⟩
    · have := (Array.getElem?_eq_some_iff.1 hgN).1
      simpa [World.setCell] using this
    · rw [block_cell ((hS gN hne).trans hgN)]
      exact hlast
    · have := heap_setCell_same W2 bA 2 _ _ (.slice (some ⟨gN, 0, none⟩) (M + 1 : Nat) cN) hxa
      exact this
    · exact (hS bB ap.n6).trans ((kp bB (lt h.xb) ap.n2).trans h.xb)
    · exact row_keep h.rb ((hS gB ap.n7).trans (kp gB (row_lt h.rb) ap.n3))
    · exact (hS bK ap.n8).trans ((kp bK (lt h.xk) ap.n4).trans h.xk)
    · exact row_keep h.rk ((hS gK ap.n9).trans (kp gK (row_lt h.rk) ap.n5))
    · refine Below.setCell ?_ ap.l2 _
      exact (Go.Proofs.Ytfddchjonjklkaa.on h.below hb).grown hg (Nat.le_trans (Go.Proofs.Ytfddchjonjklkaa.on h.below hb).size (Nat.le_refl _)) (fun k e => by cases e; exact ap.l1)

set_option maxRecDepth 100000 in
set_option maxHeartbeats 12800000 in
theorem ghostOrdersWalk (hAl : AliveOk) {L : List (Int × Int)} {a : Option Addr} {cap g o : Nat} (hN : L.length * 16 ≤ 140737488351232) (hA : All64 L) (u : World) (h : Dirs u a g o L) :
    Calls Try.prog 5 #[.slice a L.length cap] u fun e w' => e = .returned (.bool true) ∧ Past u w' := by
  obtain ⟨i0, hi0, hz0, hz1, hz2⟩ := info_parts infoDir
  have H := hide h
  have hat := hide (fun i (hi : i < L.length) => pairs2_get (L := L) hi)
  have hst := hide (fun k (hk : k < L.length) d => rev_step (L := L) hk (d := d))
  have hrl : Hid (L.reverse.take L.length = L.reverse) := by
    show _ = _
    rw [List.take_of_length_le (by rw [List.length_reverse]; exact Nat.le_refl _)]
  have hlr : Hid (L.reverse.length = L.length) := List.length_reverse
  have hA' := all_reverse hA
  clear h
  by_cases hE : makeErr L = 0
  · have hE' := err_reverse hE
    have kG := hide (fun (w' : World) (hw : Dirs w' a g o L) => gMake (cap := cap) hE hA w' hw)
    have kR := hide (fun (b : Option Addr) (cb g' o' : Nat) (w' : World) (hw : Dirs w' b g' o' L.reverse) => gMake (cap := cb) hE' hA' w' hw)
    have hM1 : 1 ≤ gW L * gH L := Nat.mul_le_mul (right_of hE).w1 (right_of hE).h1
    have hM2 := mw_le hE
    unfold ghostV at kG kR
    rw [gW_reverse, gH_reverse, ghB_reverse, unhide hlr] at kR
    generalize ghB L (gW L) = f at *
    generalize gW L * gH L = M at *
    generalize gW L = Wd at *
    generalize gH L = Hd at *
    clear hE hE' hA hA'
    go_enter Try.func5, Try.ntmps5
    go_wp2_with fail
    refine (hAl _).mono ?_
    rintro e w1 ⟨rfl, hp1⟩
    obtain ⟨w, hv, hb1⟩ := hp1.split
    have hvh := hide hv
    have H := hide (dirs_alike hv (unhide H))
    clear hp1 hv
    have hsw1 := hb1.size
    have D := hide (dirs_below (unhide H) hb1)
    have B := hide hb1
    clear hb1
    go_wp2_with fail
    refine (unhide kG w1 (unhide D)).mono ?_
    rintro e w2 ⟨gA, cA, rfl, hgA, ⟨RA, CA⟩, hb2⟩
    have hlA := row_lt RA
    have D_1 := hide (dirs_below (unhide D) hb2)
    have B_1 := hide (on (unhide B) hb2)
    clear D B
    have RA := hide RA
    have CA := hide CA
    clear hb2
    have hbx := (Below.refl _ w2).alloc (Nat.le_refl _) (.cells #[.int .i64 Wd, .int .i64 Hd, .slice (some ⟨gA, 0, none⟩) M cA] 26)
    have XA := hide (heap_alloc_new w2 (.cells #[.int .i64 Wd, .int .i64 Hd, .slice (some ⟨gA, 0, none⟩) M cA] 26))
    have hs_w3 : w2.heap.size + 1 ≤ (w2.alloc (.cells #[.int .i64 Wd, .int .i64 Hd, .slice (some ⟨gA, 0, none⟩) M cA] 26)).heap.size := by rw [World.size_alloc]; exact Nat.le_refl _
    have D_2 := hide (dirs_below (unhide D_1) hbx)
    have B_2 := hide (on (unhide B_1) hbx)
    have RA_2 := hide (row_below (unhide RA) hbx (by omega))
    have CA_2 := hide (cap_keep (unhide CA) (hbx.block _ (by omega)))
    clear D_1 B_1 RA CA
    clear hbx
    go_wp2_with fail
    generalize w2.alloc (.cells #[.int .i64 Wd, .int .i64 Hd, .slice (some ⟨gA, 0, none⟩) M cA] 26) = w3 at *
    go_loopw [5, 6] (fun lv iv wr => ∃ (k : Nat) (m : Int) (v : Value), k ≤ L.length ∧ v = lv ∧ iv = .int .i64 m ∧ m = (L.length : Int) - 1 - k ∧ Hid (wr.ownsRow w3.heap.size 34 2 v k (flat2 (L.reverse.take k))) ∧ Hid (Below w3.heap.size w3 wr)) (fun _ iv _ => ((intOf iv) + 1).toNat)
    case atStart => exact ⟨0, (L.length : Int) - 1, _, Nat.zero_le _, rfl, rfl, by omega, by rw [List.take_zero]; exact World.ownsRow_nil _ _ _ _, Below.refl _ _⟩
    case round =>
      obtain ⟨k, m, v, hk, rfl, rfl, hm, hO, hBr⟩ := hrel
      by_cases hkN : k < L.length
      · obtain ⟨j, rfl⟩ : ∃ j : Nat, m = (j : Int) := ⟨m.toNat, by omega⟩
        have hjk : L.length - 1 - k = j := by omega
        have qj : (0 ≤ (j : Int)) = True := by simp
        obtain ⟨x, y, hd⟩ := unhide hat j (by omega)
        have hs := hide (unhide hst k hkN (x, y) (by rw [hjk]; exact hd))
        obtain ⟨e1, l1⟩ := (unhide D_2).at_ (by omega)
        have c1 := ((unhide hBr).cell (p := ⟨g, o + j * 2, none⟩) l1).trans ((unhide D_2).cell j _ hd).1
        have c2 := ((unhide hBr).cell (p := ⟨g, o + j * 2 + 1, none⟩) l1).trans ((unhide D_2).cell j _ hd).2
        dsimp only at c1 c2
        have hjN : j < L.length := by omega
        have hbs : w3.heap.size ≤ wr.heap.size := (unhide hBr).size
        have hwj : IntKind.i64.wrap ((j : Int) - 1) = (j : Int) - 1 := by rw [IntKind.wrap_i64]; omega
        rw [e1]
        have hmH := hide hm
        clear hd hjk hm
        go_wp2_with (first
          | (at_builtin; refine wpList_append_own _ rfl (.tmp 27) (.tmp 32) 22 rfl w3.heap.size 34 i0 (.agg #[.int .i64 0, .int .i64 0]) 2 16 Try.underlying22 hi0 hz0 hz1 hz2 rfl (by decide) _ _ _ rfl ((unhide hO).alloc _) ⟨wr.heap.size, 0, none⟩ 1 1 [.int .i64 x, .int .i64 y] rfl rfl (news_two _ _ _ _) ?c2 ?c3 ?c4 ?c5 ?_))
        case c2 => intro u hu; simp at hu; rcases hu with rfl | rfl <;> rfl
        case c3 => unfold maxLen; omega
        case c4 => omega
        case c5 => simp; omega
        intro v' w4 hown' hgrow _
        have hB4 : Hid (Below w3.heap.size w3 w4) := ((unhide hBr).alloc hbs _).grown hgrow (by simp; omega) (fun k hk => ((unhide hO).lt k hk).1)
        have hO4 : Hid (w4.ownsRow w3.heap.size 34 2 v' (k + 1) (flat2 (L.reverse.take (k + 1)))) := by
          rw [unhide hs, flat2_snoc]
          exact hown'
        clear hown' hgrow hO hBr hs c1 c2
        go_wp2_with fail
        go_roundw
        case rel => exact ⟨k + 1, (j : Int) - 1, _, by omega, rfl, rfl, by have := unhide hmH; omega, hO4, hB4⟩
        case measure => simp [intOf]
      · have e : k = L.length := by omega
        subst e
        obtain rfl : m = -1 := by omega
        have hO := unhide hO
        rw [unhide hrl] at hO
        have hO' : wr.ownsRow w3.heap.size 34 2 v L.reverse.length (flat2 L.reverse) := by rw [unhide hlr]; exact hO
        obtain ⟨b, cb, g', rfl, hD⟩ := dirs_owns hO'
        rw [unhide hlr]
        have hBr := unhide hBr
        have hs4 := hBr.size
        clear hO hO' hat hst hrl hm hkN hk
        have D_3 := hide (dirs_below (unhide D_2) hBr)
        have B_3 := hide (on (unhide B_2) hBr)
        have RA_3 := hide (row_below (unhide RA_2) hBr (by omega))
        have CA_3 := hide (cap_keep (unhide CA_2) (hBr.block _ (by omega)))
        have XA_3 := hide ((hBr.block _ (by omega)).trans (unhide XA))
        clear D_2 B_2 RA_2 CA_2 XA
        go_wp2_with fail
        refine (unhide kR b cb g' 0 wr hD).mono ?_
        rintro e w5 ⟨gB, cB, rfl, hgB, ⟨RB, _⟩, hb5⟩
        have hlB := row_lt RB
        have hs5 := hb5.size
        have D_4 := hide (dirs_below (unhide D_3) hb5)
        have B_4 := hide (on (unhide B_3) hb5)
        have RA_4 := hide (row_below (unhide RA_3) hb5 (by omega))
        have CA_4 := hide (cap_keep (unhide CA_3) (hb5.block _ (by omega)))
        have XA_4 := hide ((hb5.block _ (by omega)).trans (unhide XA_3))
        clear D_3 B_3 RA_3 CA_3 XA_3
        have RB := hide RB
        clear hb5 hBr hD
        have hbx := (Below.refl _ w5).alloc (Nat.le_refl _) (.cells #[.int .i64 Wd, .int .i64 Hd, .slice (some ⟨gB, 0, none⟩) M cB] 26)
        have XB := hide (heap_alloc_new w5 (.cells #[.int .i64 Wd, .int .i64 Hd, .slice (some ⟨gB, 0, none⟩) M cB] 26))
        have hs_w6 : w5.heap.size + 1 ≤ (w5.alloc (.cells #[.int .i64 Wd, .int .i64 Hd, .slice (some ⟨gB, 0, none⟩) M cB] 26)).heap.size := by rw [World.size_alloc]; exact Nat.le_refl _
        have D_5 := hide (dirs_below (unhide D_4) hbx)
        have B_5 := hide (on (unhide B_4) hbx)
        have RA_5 := hide (row_below (unhide RA_4) hbx (by omega))
        have CA_5 := hide (cap_keep (unhide CA_4) (hbx.block _ (by omega)))
        have XA_5 := hide ((hbx.block _ (by omega)).trans (unhide XA_4))
        have RB_5 := hide (row_below (unhide RB) hbx (by omega))
        clear D_4 B_4 RA_4 CA_4 XA_4 RB
        clear hbx
        have x0 := block_cell (unhide XA_5) 0
        have x1 := block_cell (unhide XA_5) 1
        have x2 := block_cell (unhide XA_5) 2
        have y0 := block_cell (unhide XB) 0
        have y1 := block_cell (unhide XB) 1
        have y2 := block_cell (unhide XB) 2
        simp only [List.getElem?_toArray, List.getElem?_cons_zero, List.getElem?_cons_succ] at x0 x1 x2 y0 y1 y2
        have kS := hide (sameGood (x := Wd) (y := Hd) (ca := cA) (cb := cB) _ (unhide RA_5) (unhide RB_5) hM2)
        go_wp2_with fail
        generalize w5.alloc (.cells #[.int .i64 Wd, .int .i64 Hd, .slice (some ⟨gB, 0, none⟩) M cB] 26) = w6 at *
        refine (unhide kS).mono ?_
        rintro e w7 ⟨rfl, hb7⟩
        have hs7 := hb7.size
        clear x0 x1 x2 y0 y1 y2 kS
        have D_6 := hide (dirs_below (unhide D_5) hb7)
        have B_6 := hide (on (unhide B_5) hb7)
        have RA_6 := hide (row_below (unhide RA_5) hb7 (by omega))
        have CA_6 := hide (cap_keep (unhide CA_5) (hb7.block _ (by omega)))
        have XA_6 := hide ((hb7.block _ (by omega)).trans (unhide XA_5))
        have RB_6 := hide (row_below (unhide RB_5) hb7 (by omega))
        have XB_6 := hide ((hb7.block _ (by omega)).trans (unhide XB))
        clear D_5 B_5 RA_5 CA_5 XA_5 RB_5 XB
        have y0 := block_cell (unhide XB_6) 0
        have y1 := block_cell (unhide XB_6) 1
        have y2 := block_cell (unhide XB_6) 2
        simp only [List.getElem?_toArray, List.getElem?_cons_zero, List.getElem?_cons_succ] at y0 y1 y2
        clear hb7
        go_wp2_with fail
        refine (copyAny (x := Wd) (y := Hd) hM1 hM2 w7 (unhide RB_6)).mono ?_
        rintro e w8 ⟨gK, cK, rfl, hgK, RK, hb8⟩
        have hlK := row_lt RK
        have hs8 := hb8.size
        clear y0 y1 y2
        have D_7 := hide (dirs_below (unhide D_6) hb8)
        have B_7 := hide (on (unhide B_6) hb8)
        have RA_7 := hide (row_below (unhide RA_6) hb8 (by omega))
        have CA_7 := hide (cap_keep (unhide CA_6) (hb8.block _ (by omega)))
        have XA_7 := hide ((hb8.block _ (by omega)).trans (unhide XA_6))
        have RB_7 := hide (row_below (unhide RB_6) hb8 (by omega))
        have XB_7 := hide ((hb8.block _ (by omega)).trans (unhide XB_6))
        clear D_6 B_6 RA_6 CA_6 XA_6 RB_6 XB_6
        have RK := hide RK
        clear hb8
        have hbx := (Below.refl _ w8).alloc (Nat.le_refl _) (.cells #[.int .i64 Wd, .int .i64 Hd, .slice (some ⟨gK, 0, none⟩) M cK] 26)
        have XK := hide (heap_alloc_new w8 (.cells #[.int .i64 Wd, .int .i64 Hd, .slice (some ⟨gK, 0, none⟩) M cK] 26))
        have hs_w9 : w8.heap.size + 1 ≤ (w8.alloc (.cells #[.int .i64 Wd, .int .i64 Hd, .slice (some ⟨gK, 0, none⟩) M cK] 26)).heap.size := by rw [World.size_alloc]; exact Nat.le_refl _
        have D_8 := hide (dirs_below (unhide D_7) hbx)
        have B_8 := hide (on (unhide B_7) hbx)
        have RA_8 := hide (row_below (unhide RA_7) hbx (by omega))
        have CA_8 := hide (cap_keep (unhide CA_7) (hbx.block _ (by omega)))
        have XA_8 := hide ((hbx.block _ (by omega)).trans (unhide XA_7))
        have RB_8 := hide (row_below (unhide RB_7) hbx (by omega))
        have XB_8 := hide ((hbx.block _ (by omega)).trans (unhide XB_7))
        have RK_8 := hide (row_below (unhide RK) hbx (by omega))
        clear D_7 B_7 RA_7 CA_7 XA_7 RB_7 XB_7 RK
        clear hbx
        have K9 : Hid (Kept w w2.heap.size gA cA w5.heap.size gB cB w8.heap.size gK cK M Wd Hd f (w8.alloc (.cells #[.int .i64 Wd, .int .i64 Hd, .slice (some ⟨gK, 0, none⟩) M cK] 26))) := ⟨⟨_, (unhide RA_8)⟩, (unhide CA_8), (unhide XA_8), (unhide XB_8), (unhide RB_8), (unhide XK), (unhide RK_8), (unhide B_8)⟩
        have hl0 := (unhide B_8).size
        have hww1 : w.heap.size ≤ w1.heap.size := hsw1
        have ap : Apart w w2.heap.size gA w5.heap.size gB w8.heap.size gK := ⟨by omega, by omega, by omega, by omega, by omega, by omega, by omega, by omega, by omega, by omega, by omega⟩
        clear D_8 B_8 RA_8 CA_8 XA_8 RB_8 XB_8 RK_8 XK
        go_wp2_with fail
        generalize w8.alloc (.cells #[.int .i64 Wd, .int .i64 Hd, .slice (some ⟨gK, 0, none⟩) M cK] 26) = w9 at *
        have o99 := hide (fun (W : World) (hb : Below w.heap.size w W) => dirs_below (unhide H) hb)
        generalize w2.heap.size = bA at *
        generalize w5.heap.size = bB at *
        generalize w8.heap.size = bK at *
        have ap := hide ap
        go_loopw [10] (fun iv wr => ∃ i : Nat, i ≤ M ∧ iv = .int .i64 i ∧ Hid (Kept w bA gA cA bB gB cB bK gK cK M Wd Hd f wr)) (fun iv _ => M - (intOf iv).toNat)
        case atStart => exact ⟨0, Nat.zero_le _, rfl, K9⟩
        case round =>
          clear K9
          obtain ⟨i, hi, rfl, Kr⟩ := hrel
          have x2 := block_cell (unhide Kr).xa 2
          simp only [List.getElem?_toArray, List.getElem?_cons_zero, List.getElem?_cons_succ] at x2
          by_cases hiM : i < M
          · have qi : ((i : Int) < (M : Int)) = True := by simp; omega
            obtain ⟨fA, hfA⟩ := (unhide Kr).ra
            have c1 := row_at hfA hiM
            have f1 := row_frozen hfA i
            unfold cv at c1
            have Kn := hide ((unhide Kr).set (unhide ap) i (4636666922610458624, 0))
            unfold cv at Kn
            dsimp only at Kn
            clear Kr hfA
            go_wp2_with fail
            go_roundw
            case rel => exact ⟨i + 1, by omega, by simp, Kn⟩
            case measure => simp [intOf]; omega
          · have e : i = M := by omega
            subst e
            have qi : ((i : Int) < (i : Int)) = False := by simp
            obtain ⟨xs, hown⟩ := (unhide Kr).owns (unhide ap)
            have hxs : Hid (xs.length = i) := by
              show _ = _
              have := hown.1
              omega
            have hown := hide hown
            have hba := hide ((Below.refl _ wr).alloc (Nat.le_refl _) (.cells #[.complex .f64 4613937818241073152 0] 38))
            have hnews : Hid (∀ j u, [Value.complex .f64 4613937818241073152 0][j]? = some u → (wr.alloc (.cells #[.complex .f64 4613937818241073152 0] 38)).cell? ((⟨wr.heap.size, 0, none⟩ : Addr).add j) = some u) := by
              intro j u hj
              cases j with
              | zero =>
                simp at hj
                subst hj
                rw [addr_add]
                simp [go_sem]
              | succ j => simp at hj
            have hxA2 := hide ((World.cell?_of_block ((unhide hba).block bA (Array.getElem?_eq_some_iff.1 (unhide Kr).xa).1)).trans (block_cell (unhide Kr).xa 2))
            obtain ⟨i1, hi1, hy0, hy1, hy2⟩ := info_parts infoC
            have hbs : w.heap.size ≤ wr.heap.size := (unhide Kr).below.size
            go_wp2_with (first
              | (at_builtin; refine wpList_append_own _ rfl (.tmp 68) (.tmp 69) 24 rfl w.heap.size 38 i1 (.complex .f64 0 0) 1 16 Try.underlying24 hi1 hy0 hy1 hy2 rfl (by decide) _ _ _ rfl ((unhide hown).alloc _) ⟨wr.heap.size, 0, none⟩ 1 1 [.complex .f64 4613937818241073152 0] rfl rfl (unhide hnews) ?d2 ?d3 ?d4 ?d5 ?_))
            case d2 => intro u hu; simp at hu; subst hu; rfl
            case d3 => unfold maxLen; omega
            case d4 => omega
            case d5 => simp; omega
            intro v' w10 hown' hgrow _
            obtain ⟨gN, cN, rfl, hxa, hS⟩ := spoilt_of (unhide Kr) (unhide ap) (unhide hba) (unhide hxs) hown' hgrow
            have x2' := block_cell hxa 2
            have f2' := block_frozen hxa 2
            simp only [List.getElem?_toArray, List.getElem?_cons_zero, List.getElem?_cons_succ] at x2'
            have hS := hide hS
            clear hown' hgrow hnews hba hown Kr x2 hxa hxA2
            go_wp2_with fail
            generalize w10.setCell ⟨bA, 2, none⟩ (.slice (some ⟨gN, 0, none⟩) (i + 1 : Nat) cN) = w11 at *
            refine (unhide kG w11 (unhide o99 w11 (unhide hS).below)).mono ?_
            rintro e w12 ⟨gC, cC, rfl, hgC, ⟨RC, _⟩, hb12⟩
            have hbx := (Below.refl _ w12).alloc (Nat.le_refl _) (.cells #[.int .i64 Wd, .int .i64 Hd, .slice (some ⟨gC, 0, none⟩) i cC] 26)
            have S13 := hide (((unhide hS).on hb12).on hbx)
            have XC := hide (heap_alloc_new w12 (.cells #[.int .i64 Wd, .int .i64 Hd, .slice (some ⟨gC, 0, none⟩) i cC] 26))
            have RC := hide (row_below RC hbx (row_lt RC))
            have y0 := block_cell (unhide S13).xb 0
            have y1 := block_cell (unhide S13).xb 1
            have y2 := block_cell (unhide S13).xb 2
            have u0 := block_cell (unhide S13).xk 0
            have u1 := block_cell (unhide S13).xk 1
            have u2 := block_cell (unhide S13).xk 2
            simp only [List.getElem?_toArray, List.getElem?_cons_zero, List.getElem?_cons_succ] at y0 y1 y2 u0 u1 u2
            have hs13 : w12.heap.size + 1 ≤ (w12.alloc (.cells #[.int .i64 Wd, .int .i64 Hd, .slice (some ⟨gC, 0, none⟩) i cC] 26)).heap.size := by rw [World.size_alloc]; exact Nat.le_refl _
            have kS := hide (sameGood (x := Wd) (y := Hd) (ca := cB) (cb := cK) _ (unhide S13).rb (unhide S13).rk hM2)
            clear hb12 hbx hS kG x2' f2'
            go_wp2_with fail
            generalize w12.alloc (.cells #[.int .i64 Wd, .int .i64 Hd, .slice (some ⟨gC, 0, none⟩) i cC] 26) = w13 at *
            refine (unhide kS).mono ?_
            rintro e w14 ⟨rfl, hb14⟩
            have S14 := hide ((unhide S13).on hb14)
            have XC4 := (hb14.block _ (by omega)).trans (unhide XC)
            have RC4 := hide (row_below (unhide RC) hb14 (row_lt (unhide RC)))
            clear y0 y1 y2 u0 u1 u2 kS
            have t0 := block_cell XC4 0
            have t1 := block_cell XC4 1
            have t2 := block_cell XC4 2
            have u0 := block_cell (unhide S14).xk 0
            have u1 := block_cell (unhide S14).xk 1
            have u2 := block_cell (unhide S14).xk 2
            simp only [List.getElem?_toArray, List.getElem?_cons_zero, List.getElem?_cons_succ] at t0 t1 t2 u0 u1 u2
            have kS := hide (sameGood (x := Wd) (y := Hd) (ca := cC) (cb := cK) _ (unhide RC4) (unhide S14).rk hM2)
            clear hb14 S13 XC RC XC4
            go_wp2_with fail
            refine (unhide kS).mono ?_
            rintro e w15 ⟨rfl, hb15⟩
            have S15 := (unhide S14).on hb15
            have x2 := block_cell S15.xa 2
            simp only [List.getElem?_toArray, List.getElem?_cons_zero, List.getElem?_cons_succ] at x2
            have xl := S15.last
            have B15 := hide S15.below
            have o3 : FloatKind.f64.format.order 4613937818241073152 4613937818241073152 = some .eq := by decide +kernel
            have o0 : FloatKind.f64.format.order 0 0 = some .eq := by decide +kernel
            have hMi : ((i + 1 : Nat) : Int) - 1 = (i : Int) := by omega
            clear hb15 S14 S15 RC4 kS t0 t1 t2 u0 u1 u2
            go_wp2_with fail
            go_ret
            exact ⟨rfl, past_of (unhide hvh) (unhide B15)⟩
  · have hE' := err_back hE
    have kG := hide (fun (w' : World) (hw : Dirs w' a g o L) => gMakeBad (cap := cap) (by omega) hE hA w' hw)
    have kR := hide (fun (b : Option Addr) (cb g' o' : Nat) (w' : World) (hw : Dirs w' b g' o' L.reverse) => gMakeBad (cap := cb) (by rw [List.length_reverse]; omega) hE' hA' w' hw)
    rw [unhide hlr] at kR
    generalize makeErr L = er at *
    generalize makeErr L.reverse = er' at *
    have q1 : (er != 0) = true := by simp; exact hE
    have q3 : (er == 0) = false := by simp; exact hE
    have q4 : (er' == 0) = false := by simp; exact hE'
    clear hE hE' hA hA'
    go_enter Try.func5, Try.ntmps5
    go_wp2_with fail
    refine (hAl _).mono ?_
    rintro e w1 ⟨rfl, hp1⟩
    obtain ⟨w, hv, hb1⟩ := hp1.split
    have hvh := hide hv
    have H := hide (dirs_alike hv (unhide H))
    clear hp1 hv
    have hsw1 := hb1.size
    have D := hide (dirs_below (unhide H) hb1)
    have B := hide hb1
    clear hb1
    go_wp2_with fail
    refine (unhide kG w1 (unhide D)).mono ?_
    rintro e w2 ⟨rfl, hb2⟩
    have D_1 := hide (dirs_below (unhide D) hb2)
    have B_1 := hide (on (unhide B) hb2)
    clear D B
    clear hb2
    have hbx := (Below.refl _ w2).alloc (Nat.le_refl _) (.cells #[.int .i64 0, .int .i64 0, .slice none 0 0] 26)
    have XA := hide (heap_alloc_new w2 (.cells #[.int .i64 0, .int .i64 0, .slice none 0 0] 26))
    have hs_w3 : w2.heap.size + 1 ≤ (w2.alloc (.cells #[.int .i64 0, .int .i64 0, .slice none 0 0] 26)).heap.size := by rw [World.size_alloc]; exact Nat.le_refl _
    have D_2 := hide (dirs_below (unhide D_1) hbx)
    have B_2 := hide (on (unhide B_1) hbx)
    clear D_1 B_1
    clear hbx
    go_wp2_with fail
    generalize w2.alloc (.cells #[.int .i64 0, .int .i64 0, .slice none 0 0] 26) = w3 at *
    go_loopw [5, 6] (fun lv iv wr => ∃ (k : Nat) (m : Int) (v : Value), k ≤ L.length ∧ v = lv ∧ iv = .int .i64 m ∧ m = (L.length : Int) - 1 - k ∧ Hid (wr.ownsRow w3.heap.size 34 2 v k (flat2 (L.reverse.take k))) ∧ Hid (Below w3.heap.size w3 wr)) (fun _ iv _ => ((intOf iv) + 1).toNat)
    case atStart => exact ⟨0, (L.length : Int) - 1, _, Nat.zero_le _, rfl, rfl, by omega, by rw [List.take_zero]; exact World.ownsRow_nil _ _ _ _, Below.refl _ _⟩
    case round =>
      obtain ⟨k, m, v, hk, rfl, rfl, hm, hO, hBr⟩ := hrel
      by_cases hkN : k < L.length
      · obtain ⟨j, rfl⟩ : ∃ j : Nat, m = (j : Int) := ⟨m.toNat, by omega⟩
        have hjk : L.length - 1 - k = j := by omega
        have qj : (0 ≤ (j : Int)) = True := by simp
        obtain ⟨x, y, hd⟩ := unhide hat j (by omega)
        have hs := hide (unhide hst k hkN (x, y) (by rw [hjk]; exact hd))
        obtain ⟨e1, l1⟩ := (unhide D_2).at_ (by omega)
        have c1 := ((unhide hBr).cell (p := ⟨g, o + j * 2, none⟩) l1).trans ((unhide D_2).cell j _ hd).1
        have c2 := ((unhide hBr).cell (p := ⟨g, o + j * 2 + 1, none⟩) l1).trans ((unhide D_2).cell j _ hd).2
        dsimp only at c1 c2
        have hjN : j < L.length := by omega
        have hbs : w3.heap.size ≤ wr.heap.size := (unhide hBr).size
        have hwj : IntKind.i64.wrap ((j : Int) - 1) = (j : Int) - 1 := by rw [IntKind.wrap_i64]; omega
        rw [e1]
        have hmH := hide hm
        clear hd hjk hm
        go_wp2_with (first
          | (at_builtin; refine wpList_append_own _ rfl (.tmp 27) (.tmp 32) 22 rfl w3.heap.size 34 i0 (.agg #[.int .i64 0, .int .i64 0]) 2 16 Try.underlying22 hi0 hz0 hz1 hz2 rfl (by decide) _ _ _ rfl ((unhide hO).alloc _) ⟨wr.heap.size, 0, none⟩ 1 1 [.int .i64 x, .int .i64 y] rfl rfl (news_two _ _ _ _) ?c2 ?c3 ?c4 ?c5 ?_))
        case c2 => intro u hu; simp at hu; rcases hu with rfl | rfl <;> rfl
        case c3 => unfold maxLen; omega
        case c4 => omega
        case c5 => simp; omega
        intro v' w4 hown' hgrow _
        have hB4 : Hid (Below w3.heap.size w3 w4) := ((unhide hBr).alloc hbs _).grown hgrow (by simp; omega) (fun k hk => ((unhide hO).lt k hk).1)
        have hO4 : Hid (w4.ownsRow w3.heap.size 34 2 v' (k + 1) (flat2 (L.reverse.take (k + 1)))) := by
          rw [unhide hs, flat2_snoc]
          exact hown'
        clear hown' hgrow hO hBr hs c1 c2
        go_wp2_with fail
        go_roundw
        case rel => exact ⟨k + 1, (j : Int) - 1, _, by omega, rfl, rfl, by have := unhide hmH; omega, hO4, hB4⟩
        case measure => simp [intOf]
      · have e : k = L.length := by omega
        subst e
        obtain rfl : m = -1 := by omega
        have hO := unhide hO
        rw [unhide hrl] at hO
        have hO' : wr.ownsRow w3.heap.size 34 2 v L.reverse.length (flat2 L.reverse) := by rw [unhide hlr]; exact hO
        obtain ⟨b, cb, g', rfl, hD⟩ := dirs_owns hO'
        rw [unhide hlr]
        have hBr := unhide hBr
        have hs4 := hBr.size
        clear hO hO' hat hst hrl hm hkN hk
        have D_3 := hide (dirs_below (unhide D_2) hBr)
        have B_3 := hide (on (unhide B_2) hBr)
        have XA_3 := hide ((hBr.block _ (by omega)).trans (unhide XA))
        clear D_2 B_2 XA
        go_wp2_with fail
        refine (unhide kR b cb g' 0 wr hD).mono ?_
        rintro e w5 ⟨rfl, hb5⟩
        have D_4 := hide (dirs_below (unhide D_3) hb5)
        have B_4 := hide (on (unhide B_3) hb5)
        have XA_4 := hide ((hb5.block _ (by omega)).trans (unhide XA_3))
        clear D_3 B_3 XA_3
        clear hb5 hBr hD
        go_wp2_with fail
        go_ret
        exact ⟨rfl, past_of (unhide hvh) ((unhide B_4).alloc (unhide B_4).size _)⟩
end Go.Proofs.Ytfddchjonjklkaa
