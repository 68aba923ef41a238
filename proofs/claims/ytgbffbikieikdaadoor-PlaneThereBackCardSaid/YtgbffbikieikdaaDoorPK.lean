/- The first statement's walk: there and back, the sum, rows and columns exchanged. -/
import Derived.Test.YtgbffbikieikdaaDoorPJ
import Derived.Test.YtgbffbikieikdaaDoorPH
import Derived.Deep.RegionHeld3
namespace Go.Proofs.YtgbffbikieikdaaDoor
open Go.RowKit Fl
attribute [local go_sem] store_complex

/-- A grid in a box of its own. -/
structure Boxed (w : World) (b n g m cap : Nat) : Prop where
  one : w.cell? ⟨b, 0, none⟩ = some (.int .i64 n)
  two : w.cell? ⟨b, 1, none⟩ = some (.slice (some ⟨g, 0, none⟩) m cap)
  lt : b < w.heap.size

theorem boxed_below {w w' : World} {b n g m cap : Nat} (h : Boxed w b n g m cap) (hb : Below w.heap.size w w') : Boxed w' b n g m cap :=
  ⟨(hb.cell h.lt).trans h.one, (hb.cell h.lt).trans h.two, Nat.lt_of_lt_of_le h.lt hb.size⟩
theorem boxed_new (w : World) (n g m cap : Nat) : Boxed (w.alloc (.cells #[.int .i64 n, .slice (some ⟨g, 0, none⟩) m cap] 26)) w.heap.size n g m cap :=
  ⟨by simp [go_sem], by simp [go_sem], by simp⟩
theorem below_alloc (w : World) (o : Obj) : Below w.heap.size w (w.alloc o) := (Below.refl _ _).alloc (Nat.le_refl _) _
theorem row_on {w w' : World} {g n : Nat} {f : Nat → Nat × Nat} (h : Row w g n f) (hb : Below w.heap.size w w') : Row w' g n f := row_below h hb (row_lt h)
theorem below_on {w0 w w' : World} (h : Below w0.heap.size w0 w) (hb : Below w.heap.size w w') : Below w0.heap.size w0 w' := h.trans (hb.mono h.size)

set_option maxHeartbeats 12800000 in
set_option maxRecDepth 100000 in
theorem thereWalk {N g o cap : Nat} {p : Nat → Int × Int} (hN : N ≤ 9223372036854775807) (w : World) (hD : Deb w) (a : Option Addr) (ha : 0 < N → a = some ⟨g, o, none⟩) (hp : Pairs w g o N p) (hs : Small32 N p) :
    Calls Tryd.prog 3 #[.slice a N cap] w fun e w' => e = .returned (.bool true) ∧ Below w.heap.size w w' := by
  have hD := hide hD
  have hwh := hide (fun (w' : World) (hb : Below w.heap.size w w') =>
    wholesAny (cap := cap) hN w' a ha ⟨fun i hi => (hb.cell (hp.lt (by omega))).trans (hp.one i hi), fun i hi => (hb.cell (hp.lt (by omega))).trans (hp.two i hi), fun h => Nat.lt_of_lt_of_le (hp.lt h) hb.size⟩)
  have hIn := hide (fun n => ints_wx (n := n) hs)
  generalize hxs : wx N p = xs at hwh hIn
  generalize hvs : wv N p = v at hIn
  clear hs hp ha hxs hvs
  go_enter Tryd.func3, Tryd.ntmps3
  go_wp2_with fail
  refine (aliveAny _).mono ?_
  rintro e w1 ⟨rfl, hb1⟩
  have hB1 := hide hb1
  have hW := hide (unhide hwh w1 hb1)
  clear hb1 hwh
  go_wp2_with fail
  refine (unhide hW).mono ?_
  rintro e w2 ⟨L, g2, hL, he, hg2, hR2, hb2⟩
  have hB2 : Hid (Below w.heap.size w w2) := below_on (unhide hB1) hb2
  obtain ⟨n, hnL⟩ : ∃ n, n = 2 ^ L := ⟨_, rfl⟩
  have hI := hide (unhide hIn (n * n))
  have hn32 : n ≤ 32 := by rw [hnL]; exact Nat.pow_le_pow_right (n := 2) (j := 5) (by decide) hL
  have hn1 : 1 ≤ n := by rw [hnL]; exact Nat.one_le_two_pow
  rw [← hnL] at hR2 he
  have hS : Hid (Side L n) := ⟨by omega, hnL⟩
  have hm1 : 1 ≤ n * n := Nat.mul_le_mul hn1 hn1
  have hm4 : n * n ≤ 4096 := Nat.le_trans (square_le hn32) (by decide)
  have hR2 : Row w2 g2 (n * n) (flat n (grid n xs)) := row_ext hR2 fun k _ => (flat_grid xs k).symm
  obtain ⟨q, hq⟩ : ∃ q, q = 1074 := ⟨_, rfl⟩
  have hF := hide (field_grid hnL (unhide hI) q 1095 hq rfl)
  obtain ⟨s1, s2, hbk⟩ := backed hL hnL (unhide hI)
  have hbk := hide hbk
  have hfst := hide (plane_first hL hnL (unhide hI))
  have hfar := hide (across_far hL hnL (unhide hI))
  have hsu := hide (sum_ic hm4 (unhide hI))
  have cpy := hide (fun (g : Nat) (cap : Nat) (f : Nat → Nat × Nat) (w : World) (h : Row w g (n * n) f) => copiedAny (n := n) (g := g) (m := n * n) (cap := cap) hm1 hm4 w h)
  have fwd := hide (fun (g cap : Nat) (w : World) (h : Row w g (n * n) (flat n (grid n xs))) => planeForwardAny (g := g) (cap := cap) (unhide hS) (by decide) (by decide) (unhide hF) w h)
  have fwd2 := hide (fun (g cap : Nat) (w : World) (h : Row w g (n * n) (flat n (fun j i => grid n xs i j))) => planeForwardAny (b := 1095) (F := fun j i => _) (g := g) (cap := cap) (unhide hS) (by decide) (by decide) ⟨fun j hj i hi => (unhide hF).cv i hi j hj, fun j hj i hi => (unhide hF).le i hi j hj⟩ w h)
  have bck : Hid (∀ (g cap : Nat) (w : World), Deb w → Row w g (n * n) (flat n (planeB L (grid n xs))) → Calls Tryd.prog 8 #[gridV n g (n * n) cap] w fun e w' =>
      ∃ g', e = .returned (.tuple #[gridV n g' (n * n) (n * n), .int .i64 0]) ∧ w.heap.size ≤ g' ∧ Row w' g' (n * n) (flat n s2) ∧ Below w.heap.size w w') := by
    intro g cap w hd h
    obtain ⟨Y, hY⟩ := (unhide hbk).fieldY
    obtain ⟨S, hS1⟩ := (unhide hbk).field1
    exact planeBackAny (unhide hS) (by omega) (by omega) (by omega) (by omega) hY hS1 (unhide hbk).one (unhide hbk).two w hd h
  have acr := hide (fun (g cap : Nat) (f : Nat → Nat → Nat × Nat) (w : World) (h : Row w g (n * n) (flat n f)) => acrossAny (g := g) (cap := cap) (unhide hS) w h)
  have ner := hide (fun (ga gb : Nat) (w : World) hA hB => nearAny (n := n) (ca := n * n) (cb := n * n) (ga := ga) (gb := gb) (unhide hfar) w hA hB hm4)
  have hcv := hide (unhide hbk).cv
  have hsame := hide (unhide hbk).same
  have HnL := hide hnL
  have hg2 := hide hg2
  unfold gridV at cpy fwd fwd2 bck acr ner he
  subst he
  clear hbk hF hfar hnL hq hW hB1 hS hIn hI
  generalize n * n = m at *
  have hR2 := hide hR2
  clear hb2
  go_wp2_with fail
  generalize hE : World.alloc _ _ = e2
  have hb : Below w2.heap.size w2 e2 := by rw [← hE]; exact below_alloc _ _
  have bf : Boxed e2 w2.heap.size n g2 m m := by rw [← hE]; exact boxed_new _ _ _ _ _
  have hX := row_on (unhide hR2) hb
  have hB := below_on (unhide hB2) hb
  have hC := hide (unhide cpy g2 m _ e2 hX)
  generalize w2.heap.size = bF at bf ⊢
  have hX := hide hX
  have hB := hide hB
  have bf := hide bf
  clear hE hb hR2 hB2 hg2
  refine (unhide hC).mono ?_
  rintro e w3 ⟨g3, cap3, rfl, hc3, hg3, hR3, hb3⟩
  have hC := hide (unhide fwd g3 cap3 w3 hR3)
  have hX3 := hide (row_on (unhide hX) hb3)
  have hB3 := hide (below_on (unhide hB) hb3)
  have bf3 := hide (boxed_below (unhide bf) hb3)
  clear hX hB bf hR3 hb3 hg3
  go_wp2_with fail
  refine (unhide hC).mono ?_
  rintro e w4 ⟨g4, rfl, hg4, hR4, hb4⟩
  have hX4 := hide (row_on (unhide hX3) hb4)
  have hB4 := hide (below_on (unhide hB3) hb4)
  have bf4 := hide (boxed_below (unhide bf3) hb4)
  have hR4 := hide hR4
  clear hX3 hB3 bf3 hb4 hg4 hC
  go_wp2_with fail
  generalize hE : World.alloc _ _ = e4
  have hb : Below w4.heap.size w4 e4 := by rw [← hE]; exact below_alloc _ _
  have by5 : Boxed e4 w4.heap.size n g4 m m := by rw [← hE]; exact boxed_new _ _ _ _ _
  have hX5 := hide (row_on (unhide hX4) hb)
  have hB5 := hide (below_on (unhide hB4) hb)
  have bf5 := hide (boxed_below (unhide bf4) hb)
  have hY5 := hide (row_on (unhide hR4) hb)
  have hC := hide (unhide cpy g4 m _ e4 (unhide hY5))
  generalize w4.heap.size = bY at by5 ⊢
  have by5 := hide by5
  clear hE hb hX4 hB4 bf4 hR4
  refine (unhide hC).mono ?_
  rintro e w5 ⟨g5, cap5, rfl, hc5, hg5, hR5, hb5⟩
  have hX6 := hide (row_on (unhide hX5) hb5)
  have hB6 := hide (below_on (unhide hB5) hb5)
  have bf6 := hide (boxed_below (unhide bf5) hb5)
  have by6 := hide (boxed_below (unhide by5) hb5)
  have hY6 := hide (row_on (unhide hY5) hb5)
  have hC := hide (unhide bck g5 cap5 w5 (deb_below (unhide hD) (unhide hB6) (deb_lt (unhide hD))) hR5)
  clear hX5 hB5 bf5 by5 hY5 hR5 hb5 hg5
  go_wp2_with fail
  refine (unhide hC).mono ?_
  rintro e w6 ⟨g6, rfl, hg6, hR6, hb6⟩
  have hX7 := hide (row_on (unhide hX6) hb6)
  have hB7 := hide (below_on (unhide hB6) hb6)
  have bf7 := hide (boxed_below (unhide bf6) hb6)
  have by7 := hide (boxed_below (unhide by6) hb6)
  have hY7 := hide (row_on (unhide hY6) hb6)
  have hR6 := hide hR6
  clear hX6 hB6 bf6 by6 hY6 hb6 hg6 hC
  go_wp2_with fail
  generalize hE : World.alloc _ _ = e6
  have hb : Below w6.heap.size w6 e6 := by rw [← hE]; exact below_alloc _ _
  have bz8 : Boxed e6 w6.heap.size n g6 m m := by rw [← hE]; exact boxed_new _ _ _ _ _
  have hX8 := row_on (unhide hX7) hb
  have hB8 := hide (below_on (unhide hB7) hb)
  have bf8 := boxed_below (unhide bf7) hb
  have by8 := boxed_below (unhide by7) hb
  have hY8 := row_on (unhide hY7) hb
  have hZ8 := row_on (unhide hR6) hb
  generalize w6.heap.size = bZ at bz8 ⊢
  clear hE hb hX7 hB7 bf7 by7 hY7 hR6
  obtain ⟨f1, f2, f3⟩ := bf8
  obtain ⟨y1, y2, y3⟩ := by8
  obtain ⟨z1, z2, z3⟩ := bz8
  have hW := hide (wholeAny (cap := m) (unhide hcv) hm4 e6.drew (row_drew hZ8))
  have hAl := hide (fun (w8 : World) (hb8 : Below e6.heap.size e6 w8) (g8 : Nat) (h8 : Row w8 g8 m (fun i => (plainB (roundB (flat n s2 i).1), plainB (roundB (flat n s2 i).2)))) =>
    alikeAny (ca := m) (cb := m) (f := fun i => (plainB (roundB (flat n s2 i).1), plainB (roundB (flat n s2 i).2))) (h := flat n (grid n xs)) (fun i hi => by rw [flat_grid]; exact unhide hsame i hi) w8 h8 (row_on hX8 hb8) hm4)
  have hfct : Hid (∀ w8 : World, Below e6.heap.size e6 w8 → w8.cell? ⟨bF, 0, none⟩ = some (.int .i64 n) ∧ w8.cell? ⟨bF, 1, none⟩ = some (.slice (some ⟨g2, 0, none⟩) m m) ∧ w8.cell? ⟨bY, 0, none⟩ = some (.int .i64 n) ∧ w8.cell? ⟨bY, 1, none⟩ = some (.slice (some ⟨g4, 0, none⟩) m m) ∧ w8.cell? ⟨bZ, 0, none⟩ = some (.int .i64 n) ∧ w8.cell? ⟨bZ, 1, none⟩ = some (.slice (some ⟨g6, 0, none⟩) m m)) :=
    fun w8 hb8 => ⟨(hb8.cell f3).trans f1, (hb8.cell f3).trans f2, (hb8.cell y3).trans y1, (hb8.cell y3).trans y2, (hb8.cell z3).trans z1, (hb8.cell z3).trans z2⟩
  have hX8 := hide hX8
  have hY8 := hide hY8
  have bf8 : Hid (Boxed e6 bF n g2 m m) := ⟨f1, f2, f3⟩
  have by8 : Hid (Boxed e6 bY n g4 m m) := ⟨y1, y2, y3⟩
  clear hZ8 hcv hsame f3 y3 z3 hC fwd bck
  go_cut [69] (fun v wx => v = .bool false ∧ Hid (Below e6.heap.size e6 wx))
  case first =>
    clear cpy fwd2 acr ner hsu hfst hX8 hY8 bf8 by8
    go_region_held3 (fun w8 => w8.cell? ⟨bF, 0, none⟩ = some (.int .i64 n) ∧ w8.cell? ⟨bF, 1, none⟩ = some (.slice (some ⟨g2, 0, none⟩) m m) ∧ w8.cell? ⟨bY, 0, none⟩ = some (.int .i64 n) ∧ w8.cell? ⟨bY, 1, none⟩ = some (.slice (some ⟨g4, 0, none⟩) m m) ∧ w8.cell? ⟨bZ, 0, none⟩ = some (.int .i64 n) ∧ w8.cell? ⟨bZ, 1, none⟩ = some (.slice (some ⟨g6, 0, none⟩) m m))
      (first | exact unhide hfct _ (unhide hb9) | exact unhide hfct _ (unhide hb8) | go_keep)
      (first
      | (go_at_call 10; refine (unhide hW).mono ?_; rintro e w8 ⟨g8, rfl, hg8, hR8, hb8⟩
         have hb8 : Below e6.heap.size e6 w8 := ⟨hb8.os, hb8.tape, hb8.output, hb8.size, hb8.block⟩
         have hA := hide (unhide hAl w8 hb8 g8 hR8)
         have hb8 := hide hb8
         clear hR8 hg8)
      | (go_at_call 9; refine (unhide hA).mono ?_; rintro e w9 ⟨rfl, _, hb9⟩
         have hb9 : Hid (Below e6.heap.size e6 w9) := below_on (unhide hb8) hb9))
    go_wp2_with fail
    go_meet
    case rel => exact ⟨rfl, hb9⟩
  case rest =>
    obtain ⟨rfl, hb9⟩ := hcut
    clear f1 f2 y1 y2 z1 z2 hW hAl hfct
    have hX9 := row_on (unhide hX8) (unhide hb9)
    have hY9 := hide (row_on (unhide hY8) (unhide hb9))
    have hB9 := hide (below_on (unhide hB8) (unhide hb9))
    have bf9 := boxed_below (unhide bf8) (unhide hb9)
    have by9 := hide (boxed_below (unhide by8) (unhide hb9))
    have f2 := bf9.two
    have cX : Hid (∀ i, i < m → wc.cell? ⟨g2, i, none⟩ = some (cv (xs i))) := fun i hi => by rw [row_at hX9 hi, flat_grid]
    have hX9 := hide hX9
    have bf9 := hide bf9
    clear hb9 hX8 hY8 hB8 bf8 by8
    go_wp2_with fail
    go_loopw [8, 9] (fun sv ix wr => ∃ i : Nat, i ≤ m ∧ ix = .int .i64 i ∧ sv = .complex .f64 (sumS xs i).1 (sumS xs i).2 ∧ wc = wr) (fun _ ix _ => m - (intOf ix).toNat)
    case atStart => exact ⟨0, Nat.zero_le _, rfl, rfl, rfl⟩
    case round =>
      obtain ⟨i, hi, rfl, rfl, rfl⟩ := hrel
      by_cases hin : i < m
      · have hq1 : ((i : Int) < (m : Int)) = True := by simp; omega
        have c1 := unhide cX i hin
        have hA := hide (refAddAny ((unhide hsu i hi).2 hin))
        have hS : Hid (sumS xs (i + 1) = addC (sumS xs i) (xs i)) := rfl
        unfold cv at c1
        generalize addC (sumS xs i) (xs i) = r at hA hS
        generalize xs i = x at c1 hA
        generalize sumS xs i = s at hA ⊢
        clear cpy fwd2 acr ner hsu hfst
        go_wp2_with (first | (go_at_call 11; refine (unhide hA _).mono ?_; rintro e w' ⟨rfl, rfl⟩))
        exact ⟨⟨i + 1, hin, by go_num, by rw [unhide hS], trivial⟩, by simp [intOf]; omega⟩
      · have hq1 : ((i : Int) < (m : Int)) = False := by simp; omega
        have hin' : i = m := by omega
        rw [hin']
        have oy1 := iv_same (unhide hfst).one (unhide hsu m (Nat.le_refl _)).1.one
        have oy2 := iv_same (unhide hfst).two (unhide hsu m (Nat.le_refl _)).1.two
        generalize (sumS xs m).1 = t1 at oy1 ⊢
        generalize (sumS xs m).2 = t2 at oy2 ⊢
        have hq2 : ((m : Int) < (m : Int)) = False := by simp
        have f1 := (unhide bf9).one
        have hC := hide (unhide cpy g2 m _ wc (unhide hX9))
        clear hfst hsu cX hin hin' hq1 hi
        go_wp2_with fail
        refine (unhide hC).mono ?_
        rintro e wa ⟨ga, capa, rfl, hca, hga, hRa, hba⟩
        have hBa := hide (below_on (unhide hB9) hba)
        have hYa := hide (row_on (unhide hY9) hba)
        have bya := hide (boxed_below (unhide by9) hba)
        have hC := hide (unhide acr ga capa (grid n xs) wa hRa)
        clear f1 f2 hX9 bf9 hB9 hY9 by9 hRa hba hga cpy
        go_wp2_with fail
        refine (unhide hC).mono ?_
        rintro e wb ⟨gb, rfl, hgb, hRb, hbb⟩
        have hBb := hide (below_on (unhide hBa) hbb)
        have hYb := hide (row_on (unhide hYa) hbb)
        have byb := hide (boxed_below (unhide bya) hbb)
        have hRb := hide hRb
        clear hBa hYa bya hbb hgb hC
        go_wp2_with fail
        generalize hE : World.alloc _ _ = ec
        have hb : Below wb.heap.size wb ec := by rw [← hE]; exact below_alloc _ _
        have hBc := hide (below_on (unhide hBb) hb)
        have hYc := hide (row_on (unhide hYb) hb)
        have byc := hide (boxed_below (unhide byb) hb)
        have hC := hide (unhide fwd2 gb m ec (row_on (unhide hRb) hb))
        generalize wb.heap.size = bT
        clear hE hb hBb hYb byb hRb fwd2
        refine (unhide hC).mono ?_
        rintro e wd ⟨gd, rfl, hgd, hRd, hbd⟩
        have hBd := hide (below_on (unhide hBc) hbd)
        have hYd := hide (row_on (unhide hYc) hbd)
        have byd := hide (boxed_below (unhide byc) hbd)
        have hRd := hide hRd
        clear hBc hYc byc hbd hgd hC
        have ya1 : ∀ o, (wd.alloc o).cell? ⟨bY, 0, none⟩ = some (.int .i64 n) := fun o => ((below_alloc wd o).cell (unhide byd).lt).trans (unhide byd).one
        have ya2 : ∀ o, (wd.alloc o).cell? ⟨bY, 1, none⟩ = some (.slice (some ⟨g4, 0, none⟩) m m) := fun o => ((below_alloc wd o).cell (unhide byd).lt).trans (unhide byd).two
        go_wp2_with fail
        generalize hE : World.alloc _ _ = ee
        have hb : Below wd.heap.size wd ee := by rw [← hE]; exact below_alloc _ _
        have ba : Boxed ee wd.heap.size n gd m m := by rw [← hE]; exact boxed_new _ _ _ _ _
        have hBe := hide (below_on (unhide hBd) hb)
        have hYe := hide (row_on (unhide hYd) hb)
        have bye := hide (boxed_below (unhide byd) hb)
        have hAe := hide (row_on (unhide hRd) hb)
        have hC := hide (unhide acr g4 m (planeB L (grid n xs)) ee (unhide hYe))
        generalize wd.heap.size = bA at ba ⊢
        have ba := hide ba
        clear hE hb hBd hYd byd hRd ya1 ya2 acr
        refine (unhide hC).mono ?_
        rintro e wf ⟨gf, rfl, hgf, hRf, hbf⟩
        have hBf := hide (below_on (unhide hBe) hbf)
        have hYf := hide (row_on (unhide hYe) hbf)
        have byf := hide (boxed_below (unhide bye) hbf)
        have hAf := hide (row_on (unhide hAe) hbf)
        have baf := hide (boxed_below (unhide ba) hbf)
        have hRf := hide hRf
        clear hBe hYe bye hAe ba hbf hgf hC
        have ya2 : ∀ o, (wf.alloc o).cell? ⟨bY, 1, none⟩ = some (.slice (some ⟨g4, 0, none⟩) m m) := fun o => ((below_alloc wf o).cell (unhide byf).lt).trans (unhide byf).two
        have aa1 : ∀ o, (wf.alloc o).cell? ⟨bA, 0, none⟩ = some (.int .i64 n) := fun o => ((below_alloc wf o).cell (unhide baf).lt).trans (unhide baf).one
        have aa2 : ∀ o, (wf.alloc o).cell? ⟨bA, 1, none⟩ = some (.slice (some ⟨gd, 0, none⟩) m m) := fun o => ((below_alloc wf o).cell (unhide baf).lt).trans (unhide baf).two
        have c0 : ∀ o, (wf.alloc o).cell? ⟨g4, 0, none⟩ = some (.complex .f64 (planeB L (grid n xs) 0 0).1 (planeB L (grid n xs) 0 0).2) := fun o => by
          rw [(below_alloc wf o).cell (p := ⟨g4, 0, none⟩) (row_lt (unhide hYf)), row_at (unhide hYf) (show 0 < m by omega)]
          have e : flat n (planeB L (grid n xs)) 0 = planeB L (grid n xs) 0 0 := by
            unfold flat
            rw [Nat.zero_div, Nat.zero_mod]
          rw [e]
          rfl
        generalize (planeB L (grid n xs) 0 0).1 = k1 at oy1 c0
        generalize (planeB L (grid n xs) 0 0).2 = k2 at oy2 c0
        have hm0 : (0 : Int) < (m : Int) := by omega
        go_wp2_with fail
        generalize hE : World.alloc _ _ = eg
        have hb : Below wf.heap.size wf eg := by rw [← hE]; exact below_alloc _ _
        have hC := hide (unhide ner gd gf eg (row_on (unhide hAf) hb) (row_on (unhide hRf) hb))
        have hBg := hide (below_on (unhide hBf) hb)
        clear hE hb ya2 aa1 aa2 c0 ner hBf hYf byf hAf baf hRf
        refine (unhide hC).mono ?_
        rintro e wh ⟨rfl, hbh⟩
        have hBh := hide (below_on (unhide hBg) hbh)
        clear hbh hBg hC
        go_wp2_with fail
        go_ret
        exact ⟨rfl, unhide hBh⟩
end Go.Proofs.YtgbffbikieikdaaDoor
