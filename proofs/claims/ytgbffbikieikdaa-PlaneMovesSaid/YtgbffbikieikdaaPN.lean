/- The second statement's walk: a field moved round. -/
import Derived.Test.YtgbffbikieikdaaPM
import Derived.Deep.RegionHeld3
namespace Go.Proofs.Ytgbffbikieikdaa
open Go.RowKit Fl
attribute [local go_sem] store_complex

set_option maxHeartbeats 12800000 in
set_option maxRecDepth 100000 in
theorem movesWalk {N g o cap : Nat} {p : Nat → Int × Int} (hN : N ≤ 9223372036854775807) (u v : Int) (w : World) (a : Option Addr) (ha : 0 < N → a = some ⟨g, o, none⟩) (hp : Pairs w g o N p) (hs : Small32 N p) :
    Calls Try.prog 3 #[.slice a N cap, .int .i64 u, .int .i64 v] w fun e w' => e = .returned (.bool true) ∧ Below w.heap.size w w' := by
  obtain ⟨i0, hi0, hz0, hz1, hz2⟩ := info_parts infoC
  have hwh := hide (fun (w' : World) (hb : Below w.heap.size w w') =>
    wholesAny (cap := cap) hN w' a ha ⟨fun i hi => (hb.cell (hp.lt (by omega))).trans (hp.one i hi), fun i hi => (hb.cell (hp.lt (by omega))).trans (hp.two i hi), fun h => Nat.lt_of_lt_of_le (hp.lt h) hb.size⟩)
  have hIn := hide (fun n => ints_wx (n := n) hs)
  generalize hxs : wx N p = xs at hwh hIn
  generalize hvs : wv N p = vs at hIn
  clear hs hp ha hxs hvs
  go_enter Try.func3, Try.ntmps3
  go_wp2_with fail
  refine (aliveAny _).mono ?_
  rintro e w1 ⟨rfl, hb1⟩
  have hB1 := hide hb1
  have hW := hide (unhide hwh w1 hb1)
  clear hb1 hwh
  go_wp2_with fail
  refine (unhide hW).mono ?_
  rintro e w2 ⟨L, g2, hL, he, hg2, hR2, hb2⟩
  have hB2 : Hid (Below w.heap.size w w2) := below_on (unhide hB1) hb2
  obtain ⟨n, hnL⟩ : ∃ n, n = 2 ^ L := ⟨_, rfl⟩
  have hI := hide (unhide hIn (n * n))
  have hn32 : n ≤ 32 := by rw [hnL]; exact Nat.pow_le_pow_right (n := 2) (j := 5) (by decide) hL
  have hn1 : 1 ≤ n := by rw [hnL]; exact Nat.one_le_two_pow
  rw [← hnL] at hR2 he
  have hS : Hid (Side L n) := ⟨by omega, hnL⟩
  have hO : Ord n (2 ^ (12 - L)) := ⟨L, by omega, hnL, rfl⟩
  have hm1 : 1 ≤ n * n := Nat.mul_le_mul hn1 hn1
  have hm4 : n * n ≤ 1024 := Nat.le_trans (square_le hn32) (by decide)
  have hR2 : Row w2 g2 (n * n) (flat n (grid n xs)) := row_ext hR2 fun k _ => (flat_grid xs k).symm
  obtain ⟨q, hq⟩ : ∃ q, q = 1074 := ⟨_, rfl⟩
  have hF := hide (field_grid hnL (unhide hI) q 1095 hq rfl)
  obtain ⟨U, hU⟩ : ∃ U : Nat, (U : Int) = u % (n : Int) := ⟨(u % (n : Int)).toNat, Int.toNat_of_nonneg (Int.emod_nonneg _ (by omega))⟩
  obtain ⟨V, hV⟩ : ∃ V : Nat, (V : Int) = v % (n : Int) := ⟨(v % (n : Int)).toNat, Int.toNat_of_nonneg (Int.emod_nonneg _ (by omega))⟩
  have hUn : U < n := by have := Int.emod_lt_of_pos u (show (0 : Int) < n by omega); omega
  have hVn : V < n := by have := Int.emod_lt_of_pos v (show (0 : Int) < n by omega); omega
  have au : bits .and .i64 u ((n : Int) - 1) = (U : Int) := by rw [and_ord hO u, hU]
  have av : bits .and .i64 v ((n : Int) - 1) = (V : Int) := by rw [and_ord hO v, hV]
  have hok := hide (moved_ok hL hnL rfl hUn hVn (unhide hF))
  have fwd := hide (fun (g cap : Nat) (w : World) (h : Row w g (n * n) (flat n (grid n xs))) => planeForwardAny (g := g) (cap := cap) (unhide hS) (by decide) (by decide) (unhide hF) w h)
  have fwd2 := hide (fun (g cap : Nat) (w : World) (h : Row w g (n * n) (flat n (moved (grid n xs) n U V))) => planeForwardAny (g := g) (cap := cap) (unhide hS) (by decide) (by decide) (field_moved hnL (unhide hF)) w h)
  have ner := hide (fun (ga gb : Nat) (w : World) hA hB => nearAny (n := n) (ca := n * n) (cb := n * n) (ga := ga) (gb := gb) (unhide hok).far w hA hB (by omega))
  have rts := hide (fun (k : Int) (w : World) => refRoot_yes hO k w)
  have mst := hide (fun (y x : Nat) (hy : y < n) (hx : x < n) (k : Nat) (hk : k < n * n) => moving_step (f := grid n xs) (U := U) (V := V) hy hx hUn hVn hk)
  have muls := hide (unhide hok).mul
  have tall := hide (fun k (hk : k < n * n) => turning2_all (P := planeB L (grid n xs)) (Q := turnedB L n U V (grid n xs)) hk)
  have plt := hide (fun (j i : Nat) (hj : j < n) (hi : i < n) => place_lt hj hi)
  have hq3 : IntKind.i64.wrap ((n : Int) * (n : Int)) = ((n * n : Nat) : Int) := wrap_mul (by omega)
  have HnL := hide hnL
  have hg2 := hide hg2
  unfold gridV at fwd fwd2 ner he
  subst he
  clear hF hnL hq hW hB1 hS hIn hI hO hU hV hok
  generalize n * n = m at *
  have hR2 := hide hR2
  clear hb2
  go_wp2_with (first
    | (at_make; refine wpList_make_full _ rfl (.tmp 37) (.tmp 37) 24 rfl w.heap.size 28 i0 (.complex .f64 0 0) 1 Try.underlying24 hi0 hz0 hz1 .i64 .i64 m m m rfl rfl rfl rfl ?c1 ?c2 ?c3 ?_))
  case c1 => rw [hz2]; omega
  case c2 => unfold maxLen; omega
  case c3 => simp; have := (unhide hB2).size; omega
  intro w3 hown3 hg3
  have hT := row_made hown3 (fun _ => (0, 0)) (fun i hi => zeros_get m i hi) (fun _ _ => rfl)
  have hT : Row w3 (w2.heap.size + 1) m (flat n (moving (grid n xs) n U V 0 0)) := row_ext hT fun k _ => (moving_zero _ _ _ _ _).symm
  have hbe := grown_below hg3
  have hb2e := below_alloc w2 (.cells #[.int .i64 n, .slice (some ⟨g2, 0, none⟩) m m] 26)
  have bf := boxed_below (boxed_new w2 n g2 m m) hbe
  have hX := row_on (row_on (unhide hR2) hb2e) hbe
  have hB := below_on (below_on (unhide hB2) hb2e) hbe
  have hlt2 : g2 < w2.heap.size := row_lt (unhide hR2)
  have hBw : w.heap.size ≤ w2.heap.size := (unhide hB2).size
  have hne : Hid (w2.heap.size ≠ w2.heap.size + 1 ∧ g2 ≠ w2.heap.size + 1 ∧ w.heap.size ≤ w2.heap.size + 1) := ⟨by omega, by omega, by omega⟩
  clear hown3 hg3 hbe hb2e hlt2 hBw hR2 hB2 hg2
  generalize w2.heap.size + 1 = gM at hT hne ⊢
  generalize w2.heap.size = bF at bf hne ⊢
  have hT := hide hT
  have hX := hide hX
  have hB := hide hB
  have bf := hide bf
  go_wp2_with fail
  generalize hE : World.alloc _ _ = e3
  have hb : Below w3.heap.size w3 e3 := by rw [← hE]; exact below_alloc _ _
  have bg : Boxed e3 w3.heap.size n gM m m := by rw [← hE]; exact boxed_new _ _ _ _ _
  have hT3 := hide (row_on (unhide hT) hb)
  have hX3 := hide (row_on (unhide hX) hb)
  have hB3 := hide (below_on (unhide hB) hb)
  have bf3 := hide (boxed_below (unhide bf) hb)
  have hgl : Hid (w3.heap.size ≠ gM) := by
    have := row_lt (unhide hT)
    show _ ≠ _
    omega
  generalize w3.heap.size = bG at bg hgl ⊢
  have bg3 := hide bg
  clear hE hb hT hX hB bf bg
  have fct0 : Hid (∀ wr : World, e3.grownBy wr (some gM) → wr.cell? ⟨bF, 0, none⟩ = some (.int .i64 n) ∧ wr.cell? ⟨bG, 0, none⟩ = some (.int .i64 n)) := by
    intro wr h
    exact ⟨cell_grown h (unhide bf3).one (by simpa using (unhide hne).1), cell_grown h (unhide bg3).one (by simpa using unhide hgl)⟩
  have fct : Hid (∀ wr : World, e3.grownBy wr (some gM) → wr.cell? ⟨bF, 1, none⟩ = some (.slice (some ⟨g2, 0, none⟩) m m) ∧ wr.cell? ⟨bG, 1, none⟩ = some (.slice (some ⟨gM, 0, none⟩) m m) ∧ (∀ i, i < m → wr.cell? ⟨g2, i, none⟩ = some (cv (flat n (grid n xs) i)))) := by
    intro wr h
    exact ⟨cell_grown h (unhide bf3).two (by simpa using (unhide hne).1), cell_grown h (unhide bg3).two (by simpa using unhide hgl), fun i hi => cell_grown h (row_at (unhide hX3) hi) (by simpa using (unhide hne).2.1)⟩
  go_wp2_with fail
  go_loopw [10] (fun ix wr => ∃ y : Nat, y ≤ n ∧ ix = .int .i64 y ∧ Hid (Row wr gM m (flat n (moving (grid n xs) n U V y 0))) ∧ Hid (e3.grownBy wr (some gM))) (fun ix _ => n - (intOf ix).toNat)
  case atStart => exact ⟨0, Nat.zero_le _, rfl, hT3, grown_refl _ _⟩
  case round =>
    obtain ⟨y, hy, rfl, hRr, hgr⟩ := hrel
    by_cases hyn : y < n
    · have q1 : ((y : Int) < (n : Int)) = True := by simp; omega
      go_wp2_with fail
      go_loopw [11] (fun ix wr => ∃ x : Nat, x ≤ n ∧ ix = .int .i64 x ∧ Hid (Row wr gM m (flat n (moving (grid n xs) n U V y x))) ∧ Hid (e3.grownBy wr (some gM))) (fun ix _ => n - (intOf ix).toNat)
      case atStart => exact ⟨0, Nat.zero_le _, rfl, hRr, hgr⟩
      case round =>
        clear hRr hgr
        obtain ⟨x, hx, rfl, hRr, hgr⟩ := hrel
        by_cases hxn : x < n
        · have q2 : ((x : Int) < (n : Int)) = True := by simp; omega
          obtain ⟨a1, a2, a3⟩ := unhide fct _ (unhide hgr)
          have p1 := unhide plt y x hyn hxn
          have hr1 : ((y : Int) + (V : Int)) % (n : Int) = (((y + V) % n : Nat) : Int) := by rw [← Int.natCast_add]; rfl
          have hr2 : ((x : Int) + (U : Int)) % (n : Int) = (((x + U) % n : Nat) : Int) := by rw [← Int.natCast_add]; rfl
          have l1 : (y + V) % n < n := Nat.mod_lt _ (by omega)
          have l2 : (x + U) % n < n := Nat.mod_lt _ (by omega)
          have p2 := unhide plt _ _ l1 l2
          have c1 := a3 _ p1
          rw [flat_at _ hxn] at c1
          have c2 := row_at (unhide hRr) p2
          have f2 := row_frozen (unhide hRr) ((y + V) % n * n + (x + U) % n)
          have hRn : Hid (Row (wr.setCell ⟨gM, (y + V) % n * n + (x + U) % n, none⟩ (cv (grid n xs y x))) gM m (flat n (moving (grid n xs) n U V y (x + 1)))) :=
            row_ext (row_set (unhide hRr) _ (grid n xs y x)) fun k hk => unhide mst y x hyn hxn k hk
          have hgn : Hid (e3.grownBy (wr.setCell ⟨gM, (y + V) % n * n + (x + U) % n, none⟩ (cv (grid n xs y x))) (some gM)) := grown_trans (unhide hgr) (grown_set _ _ _ _)
          have m1 : IntKind.i64.wrap ((y : Int) * (n : Int)) = ((y * n : Nat) : Int) := wrap_mul (by omega)
          have m3 : IntKind.i64.wrap (((y * n : Nat) : Int) + (x : Int)) = ((y * n + x : Nat) : Int) := by rw [← Int.natCast_add]; exact wrap_small (by omega)
          generalize (y + V) % n = r1 at *
          generalize (x + U) % n = r2 at *
          have m2 : IntKind.i64.wrap ((r1 : Int) * (n : Int)) = ((r1 * n : Nat) : Int) := wrap_mul (by omega)
          have m4 : IntKind.i64.wrap (((r1 * n : Nat) : Int) + (r2 : Int)) = ((r1 * n + r2 : Nat) : Int) := by rw [← Int.natCast_add]; exact wrap_small (by omega)
          unfold cv at c1 c2 hRn hgn
          generalize (grid n xs y x).1 = k1 at *
          generalize (grid n xs y x).2 = k2 at *
          generalize (flat n (moving (grid n xs) n U V y x) (r1 * n + r2)).1 = k3 at c2
          generalize (flat n (moving (grid n xs) n U V y x) (r1 * n + r2)).2 = k4 at c2
          generalize y * n + x = here at *
          generalize r1 * n + r2 = there at *
          generalize y * n = yn at *
          generalize r1 * n = rn at *
          have q3 : (here : Int) < (m : Int) := by omega
          have q4 : (there : Int) < (m : Int) := by omega
          have hyV : y + V ≤ 64 := by omega
          clear hRr hgr a3 rts mst muls tall plt ner fwd fwd2 fct
          go_wp2_with fail
          go_big_region
          all_goals go_wp2_with fail
          all_goals exact ⟨⟨x + 1, hxn, by go_num, row_drew (unhide hRn), grown_drew' (unhide hgn)⟩, by simp [intOf]; omega⟩
        · have q2 : ((x : Int) < (n : Int)) = False := by simp; omega
          have e : x = n := by omega
          rw [e] at hRr
          have hRr : Hid (Row wr gM m (flat n (moving (grid n xs) n U V (y + 1) 0))) := row_ext (unhide hRr) fun k _ => moving_next (by omega)
          clear rts mst muls tall plt ner fwd fwd2 fct fct0
          go_wp2_with fail
          exact ⟨⟨y + 1, hyn, by go_num, hRr, hgr⟩, by simp [intOf]; omega⟩
    · have q1 : ((y : Int) < (n : Int)) = False := by simp; omega
      have e : y = n := by omega
      rw [e] at hRr
      have hG : Row wr gM m (flat n (moved (grid n xs) n U V)) := row_ext (unhide hRr) fun k _ => moving_all (by omega)
      obtain ⟨a1, a2, a3⟩ := unhide fct _ (unhide hgr)
      obtain ⟨a4, a5⟩ := unhide fct0 _ (unhide hgr)
      have hBr : Below w.heap.size w wr := below_grow (Nat.le_refl _) (unhide hne).2.2 (unhide hgr) (unhide hB3)
      have hXr : Row wr g2 m (flat n (grid n xs)) := row_grown (unhide hX3) (unhide hgr) (by simpa using (unhide hne).2.1)
      have lF : bF < wr.heap.size := Nat.lt_of_lt_of_le (unhide bf3).lt (unhide hgr).size
      have lG : bG < wr.heap.size := Nat.lt_of_lt_of_le (unhide bg3).lt (unhide hgr).size
      have bgr : Hid (Boxed wr bG n gM m m) := ⟨a5, a2, lG⟩
      have hC := hide (unhide fwd g2 m wr hXr)
      have hG := hide hG
      have hBr := hide hBr
      clear a3 hXr lF lG fct fct0 hRr hgr hB3 hX3 hT3 bf3 bg3 hne hgl fwd mst e hy
      go_wp2_with fail
      refine (unhide hC).mono ?_
      rintro e w4 ⟨gA, rfl, hgA, hRA, hb4⟩
      have hG4 := hide (row_on (unhide hG) hb4)
      have hB4 := hide (below_on (unhide hBr) hb4)
      have bg4 := boxed_below (unhide bgr) hb4
      have y1 : ∀ o, (w4.alloc o).cell? ⟨bG, 0, none⟩ = some (.int .i64 n) := fun o => ((below_alloc w4 o).cell bg4.lt).trans bg4.one
      have y2 : ∀ o, (w4.alloc o).cell? ⟨bG, 1, none⟩ = some (.slice (some ⟨gM, 0, none⟩) m m) := fun o => ((below_alloc w4 o).cell bg4.lt).trans bg4.two
      have hgw : Hid (w.heap.size ≤ gA) := Nat.le_trans (unhide hBr).size hgA
      have hRA := hide hRA
      have bg4 := hide bg4
      clear hG hBr bgr hb4 hgA hC a1 a2 a4 a5
      go_wp2_with fail
      generalize hE : World.alloc _ _ = e4
      have hb : Below w4.heap.size w4 e4 := by rw [← hE]; exact below_alloc _ _
      have ba : Boxed e4 w4.heap.size n gA m m := by rw [← hE]; exact boxed_new _ _ _ _ _
      have hB5 := hide (below_on (unhide hB4) hb)
      have hA5 := hide (row_on (unhide hRA) hb)
      have hC := hide (unhide fwd2 gM m e4 (row_on (unhide hG4) hb))
      have hbA : gA < w4.heap.size := row_lt (unhide hRA)
      generalize w4.heap.size = bA at ba hbA ⊢
      have hbA := hide hbA
      have ba5 := hide ba
      clear hE hb hG4 hB4 bg4 hRA y1 y2 fwd2 ba
      refine (unhide hC).mono ?_
      rintro e w5 ⟨gB, rfl, hgB, hRB, hb5⟩
      have hB6 := hide (below_on (unhide hB5) hb5)
      have hA6 := hide (row_on (unhide hA5) hb5)
      have ba6 := boxed_below (unhide ba5) hb5
      have y2 : ∀ o, (w5.alloc o).cell? ⟨bA, 1, none⟩ = some (.slice (some ⟨gA, 0, none⟩) m m) := fun o => ((below_alloc w5 o).cell ba6.lt).trans ba6.two
      have hRB := hide hRB
      have ba6 := hide ba6
      have hgAB : Hid (gA < gB) := Nat.lt_of_lt_of_le (row_lt (unhide hA5)) hgB
      clear hB5 hA5 ba5 hb5 hgB hC
      go_wp2_with fail
      generalize hE : World.alloc _ _ = e5
      have hb : Below w5.heap.size w5 e5 := by rw [← hE]; exact below_alloc _ _
      have bb : Boxed e5 w5.heap.size n gB m m := by rw [← hE]; exact boxed_new _ _ _ _ _
      have hB7 := hide (below_on (unhide hB6) hb)
      have hA7 := row_on (unhide hA6) hb
      have hRB7 := hide (row_on (unhide hRB) hb)
      have ba7 := hide (boxed_below (unhide ba6) hb)
      have hbB : Hid (w5.heap.size ≠ gA) := by
        have := row_lt (unhide hA6)
        show _ ≠ _
        omega
      generalize w5.heap.size = bB at bb hbB ⊢
      have bb7 := hide bb
      clear hE hb hB6 hA6 hRB ba6 y2 bb
      have hA7 : Hid (Row e5 gA m (flat n (turning2 (planeB L (grid n xs)) (turnedB L n U V (grid n xs)) 0 0))) := by
        rw [turning2_zero]
        exact hA7
      have fct : Hid (∀ wr : World, e5.grownBy wr (some gA) → (wr.cell? ⟨bA, 0, none⟩ = some (.int .i64 n) ∧ wr.cell? ⟨bA, 1, none⟩ = some (.slice (some ⟨gA, 0, none⟩) m m)) ∧ (wr.cell? ⟨bB, 0, none⟩ = some (.int .i64 n) ∧ wr.cell? ⟨bB, 1, none⟩ = some (.slice (some ⟨gB, 0, none⟩) m m)) ∧ Row wr gB m (flat n (planeB L (moved (grid n xs) n U V)))) := by
        intro wr h
        have e1 : bA ≠ gA := by have := unhide hbA; omega
        have e2 : gB ≠ gA := by have := unhide hgAB; omega
        exact ⟨⟨cell_grown h (unhide ba7).one (by simpa using e1), cell_grown h (unhide ba7).two (by simpa using e1)⟩, ⟨cell_grown h (unhide bb7).one (by simpa using unhide hbB), cell_grown h (unhide bb7).two (by simpa using unhide hbB)⟩, row_grown (unhide hRB7) h (by simpa using e2)⟩
      go_loopw [16] (fun ix wr => ∃ y : Nat, y ≤ n ∧ ix = .int .i64 y ∧ Hid (Row wr gA m (flat n (turning2 (planeB L (grid n xs)) (turnedB L n U V (grid n xs)) y 0))) ∧ Hid (e5.grownBy wr (some gA))) (fun ix _ => n - (intOf ix).toNat)
      case atStart => exact ⟨0, Nat.zero_le _, rfl, hA7, grown_refl _ _⟩
      case round =>
        obtain ⟨y, hy, rfl, hRr, hgr⟩ := hrel
        by_cases hyn : y < n
        · have q3 : ((y : Int) < (n : Int)) = True := by simp; omega
          go_wp2_with fail
          go_loopw [17] (fun ix wr => ∃ x : Nat, x ≤ n ∧ ix = .int .i64 x ∧ Hid (Row wr gA m (flat n (turning2 (planeB L (grid n xs)) (turnedB L n U V (grid n xs)) y x))) ∧ Hid (e5.grownBy wr (some gA))) (fun ix _ => n - (intOf ix).toNat)
          case atStart => exact ⟨0, Nat.zero_le _, rfl, hRr, hgr⟩
          case round =>
            clear hRr hgr
            obtain ⟨x, hx, rfl, hRr, hgr⟩ := hrel
            by_cases hxn : x < n
            · have q4 : ((x : Int) < (n : Int)) = True := by simp; omega
              obtain ⟨⟨_, a2⟩, _⟩ := unhide fct _ (unhide hgr)
              have p1 := unhide plt y x hyn hxn
              have c1 := row_at (unhide hRr) p1
              rw [flat_at _ hxn, turning2_here] at c1
              have f1 := row_frozen (unhide hRr) (y * n + x)
              have hRn : Hid (Row (wr.setCell ⟨gA, y * n + x, none⟩ (cv (turnedB L n U V (grid n xs) y x))) gA m (flat n (turning2 (planeB L (grid n xs)) (turnedB L n U V (grid n xs)) y (x + 1)))) :=
                row_ext (row_set (unhide hRr) _ (turnedB L n U V (grid n xs) y x)) fun k _ => turning2_step hxn k
              have hgn : Hid (e5.grownBy (wr.setCell ⟨gA, y * n + x, none⟩ (cv (turnedB L n U V (grid n xs) y x))) (some gA)) := grown_trans (unhide hgr) (grown_set _ _ _ _)
              have hM := hide (fun w => mul19 (unhide muls y hyn x hxn) w)
              have hxU : x * U ≤ 32 * 32 := Nat.mul_le_mul (by omega) (by omega)
              have hyV : y * V ≤ 32 * 32 := Nat.mul_le_mul (by omega) (by omega)
              have m1 : IntKind.i64.wrap ((x : Int) * (U : Int)) = ((x * U : Nat) : Int) := wrap_mul (by omega)
              have m2 : IntKind.i64.wrap ((y : Int) * (V : Int)) = ((y * V : Nat) : Int) := wrap_mul (by omega)
              have hRt := hide (fun w => unhide rts (((x * U : Nat) : Int) + ((y * V : Nat) : Int)) w)
              have hk : ((((x * U : Nat) : Int) + ((y * V : Nat) : Int)) % (n : Int)).toNat * 2 ^ (12 - L) = rootAt L n U V y x := by
                unfold rootAt
                rw [← Int.natCast_add, ← Int.natCast_emod, Int.toNat_natCast]
              rw [hk] at hRt
              have hJ := hide (fun w => conj16 (full (rootAt L n U V y x)).1 (full (rootAt L n U V y x)).2 w)
              unfold conjB at hM
              dsimp only at hM
              generalize (full (rootAt L n U V y x)).1 = t1 at hRt hJ hM
              generalize (full (rootAt L n U V y x)).2 = t2 at hRt hJ hM
              have m3 : IntKind.i64.wrap ((y : Int) * (n : Int)) = ((y * n : Nat) : Int) := wrap_mul (by omega)
              have m4 : IntKind.i64.wrap (((y * n : Nat) : Int) + (x : Int)) = ((y * n + x : Nat) : Int) := by rw [← Int.natCast_add]; exact wrap_small (by omega)
              unfold cv at c1 hRn hgn
              generalize (turnedB L n U V (grid n xs) y x).1 = r1 at hRn hgn hM
              generalize (turnedB L n U V (grid n xs) y x).2 = r2 at hRn hgn hM
              generalize (planeB L (grid n xs) y x).1 = k1 at c1 hM
              generalize (planeB L (grid n xs) y x).2 = k2 at c1 hM
              generalize negB t2 = t3 at hJ hM
              generalize y * n + x = here at *
              generalize y * n = yn at *
              generalize x * U = xU at *
              generalize y * V = yV at *
              have q5 : (here : Int) < (m : Int) := by omega
              have nA : ¬ gA = bA := by have := unhide hbA; omega
              have nB : ¬ bA = gA := by have := unhide hbA; omega
              clear hk hRr hgr muls plt ner fct rts tall au av
              go_wp2_with fail
              refine (unhide hRt _).mono ?_
              rintro e w' ⟨rfl, rfl⟩
              go_wp2_with fail
              go_region_with (first
                | (go_at_call 9; refine (unhide hJ _).mono ?_; rintro e w' ⟨rfl, rfl⟩)
                | (go_at_call 8; refine (unhide hM _).mono ?_; rintro e w' ⟨rfl, rfl⟩))
              all_goals go_wp2_with fail
              all_goals exact ⟨⟨x + 1, hxn, by go_num, row_drew (unhide hRn), grown_drew' (unhide hgn)⟩, by simp [intOf]; omega⟩
            · have q4 : ((x : Int) < (n : Int)) = False := by simp; omega
              have e : x = n := by omega
              rw [e] at hRr
              have hRr : Hid (Row wr gA m (flat n (turning2 (planeB L (grid n xs)) (turnedB L n U V (grid n xs)) (y + 1) 0))) := row_ext (unhide hRr) fun k _ => turning2_next (by omega)
              clear muls plt ner fct rts tall au av
              go_wp2_with fail
              exact ⟨⟨y + 1, hyn, by go_num, hRr, hgr⟩, by simp [intOf]; omega⟩
        · have q3 : ((y : Int) < (n : Int)) = False := by simp; omega
          have e : y = n := by omega
          rw [e] at hRr
          obtain ⟨⟨a1, a2⟩, ⟨a3, a4⟩, hRBr⟩ := unhide fct _ (unhide hgr)
          have hAr : Row wr gA m (flat n (turnedB L n U V (grid n xs))) := row_ext (unhide hRr) fun k hk => unhide tall k hk
          have hC := hide (unhide ner gA gB wr hAr hRBr)
          have hBr := hide (below_grow (Nat.le_refl _) (unhide hgw) (unhide hgr) (unhide hB7))
          clear hRr hgr fct ner tall muls plt rts au av hAr hRBr e
          go_wp2_with fail
          refine (unhide hC).mono ?_
          rintro e wz ⟨rfl, hbz⟩
          have hBz := hide (below_on (unhide hBr) hbz)
          clear hbz hBr hC
          go_wp2_with fail
          go_ret
          exact ⟨rfl, unhide hBz⟩
end Go.Proofs.Ytgbffbikieikdaa
