/- The landed Solve of small whole numbers: its first region. -/
import Derived.Test.YtgbkfmjkemkajaaM11
import Derived.Test.YtgbkfmjkemkajaaPVB
import Derived.Test.YtgbkfmjkemkajaaPM7
namespace Go.Proofs.Ytgbkfmjkemkajaa
open Go.RowKit Go.Shelf
attribute [local go_sem] Oper.semAt_some

/-- The box of s, and what it stands for. -/
structure SBox (w : World) (bs n : Nat) (L : List (Int × Int)) (gp cap : Nat) (gb : Nat → Nat) (z : Nat → Nat → Nat × Nat) : Prop where
  sino : SinoAt w n L gp gb z
  at_ : w.heap[bs]? = some (.cells #[.int .i64 n, .slice (some ⟨gp, 0, none⟩) L.length cap] 44 (0, 0))
theorem SBox.box {w : World} {bs n : Nat} {L : List (Int × Int)} {gp cap : Nat} {gb : Nat → Nat} {z : Nat → Nat → Nat × Nat} (h : SBox w bs n L gp cap gb z) : w.cell? ⟨bs, 0, none⟩ = some (.int .i64 n) ∧ w.cell? ⟨bs, 1, none⟩ = some (.slice (some ⟨gp, 0, none⟩) L.length cap) := ⟨cell_of_row w bs 0 _ _ (0, 0) h.at_, cell_of_row w bs 1 _ _ (0, 0) h.at_⟩
theorem SBox.below {w w' : World} {bs n : Nat} {L : List (Int × Int)} {gp cap : Nat} {gb : Nat → Nat} {z : Nat → Nat → Nat × Nat} (h : SBox w bs n L gp cap gb z) (hb : Below w.heap.size w w') : SBox w' bs n L gp cap gb z := ⟨h.sino.below hb, (hb.block _ (Array.getElem?_eq_some_iff.1 h.at_).1).trans h.at_⟩
theorem anyL_three {P : Program} {ops : Array Oper} {Q : Exit → Act → World → Prop} {md : Region.Mode} {S : Array Bool → World → Prop} {fuel : Nat} {listed : Array Bool} {a : Act} {w : World} {i j k : Nat} {o o' o'' : Oper} (hr : Region.ready md ops listed = [i, j, k]) (ho : ops[i]? = some o) (ho' : ops[j]? = some o') (ho'' : ops[k]? = some o'') (hc : Cl md ops listed)
    (h : StepL P md ops Q S fuel listed a w i o) (h' : StepL P md ops Q S fuel listed a w j o') (h'' : StepL P md ops Q S fuel listed a w k o'') : wpAnyL P md ops Q S (fuel + 1) listed a w :=
  ⟨fun h0 => (by rw [hr] at h0; cases h0), fun x hx => by
    have e := hx
    rw [hr, List.mem_cons, List.mem_cons, List.mem_singleton] at e
    rcases e with e | e | e
    · subst e; exact stepL_op ho hc hx h
    · subst e; exact stepL_op ho' hc hx h'
    · subst e; exact stepL_op ho'' hc hx h''⟩
def o4_0 : Oper := { dst := some 18, op := Op.fieldAddr 44 (Operand.tmp 1) 0, type := 0, pos := "peel.go:18", after := #[], guard := none }
def o4_1 : Oper := { dst := some 19, op := Op.load 3 (Operand.tmp 18), type := 3, pos := "peel.go:18", after := #[{ on := 0, ground := Ground.data }], guard := none }
def o4_2 : Oper := { dst := some 20, op := Op.load 44 (Operand.tmp 1), type := 44, pos := "peel.go:18", after := #[], guard := none }
def o4_3 : Oper := { dst := some 21, op := Op.call { callee := Callee.value (Operand.func 26), args := #[Operand.tmp 20], argTypes := #[44] }, type := 22, pos := "peel.go:18", after := #[{ on := 2, ground := Ground.data }], guard := none }
def o4_4 : Oper := { dst := some 22, op := Op.call { callee := Callee.value (Operand.func 15), args := #[Operand.tmp 19, Operand.tmp 21], argTypes := #[3, 22] }, type := 50, pos := "peel.go:18", after := #[{ on := 1, ground := Ground.data }, { on := 3, ground := Ground.data }, { on := 3, ground := Ground.chain }], guard := none }
def o4_5 : Oper := { dst := some 23, op := Op.load 44 (Operand.tmp 1), type := 44, pos := "peel.go:18", after := #[], guard := none }
def o4_6 : Oper := { dst := some 24, op := Op.call { callee := Callee.value (Operand.func 27), args := #[Operand.tmp 23], argTypes := #[44] }, type := 65, pos := "peel.go:18", after := #[{ on := 5, ground := Ground.data }, { on := 4, ground := Ground.chain }], guard := none }
def o4_7 : Oper := { dst := some 5, op := Op.alloc 50, type := 0, pos := "peel.go:18", after := #[], guard := none }
def o4_8 : Oper := { dst := some 6, op := Op.alloc 65, type := 0, pos := "peel.go:18", after := #[], guard := none }
def o4_9 : Oper := { dst := none, op := Op.store 50 (Operand.tmp 5) (Operand.tmp 22), type := 0, pos := "peel.go:18", after := #[{ on := 7, ground := Ground.data }, { on := 4, ground := Ground.data }, { on := 6, ground := Ground.chain }, { on := 0, ground := Ground.phase }, { on := 1, ground := Ground.phase }, { on := 2, ground := Ground.phase }, { on := 3, ground := Ground.phase }, { on := 4, ground := Ground.phase }, { on := 5, ground := Ground.textOnly Departure.lateStores }, { on := 6, ground := Ground.textOnly Departure.lateStoresUnsure }, { on := 7, ground := Ground.phase }, { on := 8, ground := Ground.phase }], guard := none }
def o4_10 : Oper := { dst := none, op := Op.store 65 (Operand.tmp 6) (Operand.tmp 24), type := 0, pos := "peel.go:18", after := #[{ on := 8, ground := Ground.data }, { on := 6, ground := Ground.data }, { on := 9, ground := Ground.chain }, { on := 0, ground := Ground.phase }, { on := 1, ground := Ground.phase }, { on := 2, ground := Ground.phase }, { on := 3, ground := Ground.phase }, { on := 4, ground := Ground.phase }, { on := 5, ground := Ground.phase }, { on := 6, ground := Ground.phase }, { on := 7, ground := Ground.phase }, { on := 8, ground := Ground.phase }, { on := 9, ground := Ground.phase }], guard := none }
def R4 : Array Oper := #[o4_0, o4_1, o4_2, o4_3, o4_4, o4_5, o4_6, o4_7, o4_8, o4_9, o4_10]

/-- The temporaries ahead of region 4, and behind it. -/
def solveTmps0 (n K gp cap bs : Nat) : Array Value := #[.agg #[.int .i64 n, .slice (some ⟨gp, 0, none⟩) K cap], .pointer (some ⟨bs, 0, none⟩), .pointer (some ⟨bs + 1, 0, none⟩), .pointer (some ⟨bs + 1 + 1, 0, none⟩), .int .i64 0, undef, undef, undef, undef, undef, undef, undef, .agg #[.int .i64 n, .slice (some ⟨gp, 0, none⟩) K cap], .int .i64 0, .int .i64 0, .bool false, undef, undef, undef, undef, undef, undef, undef, undef, undef, undef, undef, undef, undef, undef, undef, undef, undef, undef, undef, undef, undef, undef, undef, undef, undef, undef, undef, undef, undef, undef, undef, undef, undef, undef, undef, undef, undef, undef, undef, undef, undef, undef, undef, undef, undef, undef, undef, undef, undef, undef, undef]
def solveTmps (n K gp cap bs b5 b6 gd VB : Nat) (vr : Value) : Array Value := #[.agg #[.int .i64 n, .slice (some ⟨gp, 0, none⟩) K cap], .pointer (some ⟨bs, 0, none⟩), .pointer (some ⟨bs + 1, 0, none⟩), .pointer (some ⟨bs + 1 + 1, 0, none⟩), .int .i64 0, .pointer (some ⟨b5, 0, none⟩), .pointer (some ⟨b6, 0, none⟩), undef, undef, undef, undef, undef, .agg #[.int .i64 n, .slice (some ⟨gp, 0, none⟩) K cap], .int .i64 0, .int .i64 0, .bool false, undef, undef, .pointer (some ⟨bs, 0, none⟩), .int .i64 n, .agg #[.int .i64 n, .slice (some ⟨gp, 0, none⟩) K cap], .slice (some ⟨gd, 0, none⟩) K K, .pointer (some ⟨VB, 0, none⟩), .agg #[.int .i64 n, .slice (some ⟨gp, 0, none⟩) K cap], vr, undef, undef, undef, undef, undef, undef, undef, undef, undef, undef, undef, undef, undef, undef, undef, undef, undef, undef, undef, undef, undef, undef, undef, undef, undef, undef, undef, undef, undef, undef, undef, undef, undef, undef, undef, undef, undef, undef, undef, undef, undef, undef]

theorem Rs.slice {base : Nat} {w : World} {n : Nat} {L : List (Int × Int)} {v : Value} {k : Nat} {gr cr : Nat → Nat} {z : Nat → Nat → Nat × Nat} (h : Rs base w n L v k gr cr z) : ∃ a m c, v = .slice a m c := by
  rcases h.own.2 with ⟨e, _⟩ | ⟨g', c', cur, e, _⟩
  · exact ⟨_, _, _, e⟩
  · exact ⟨_, _, _, e⟩
theorem box_set {W : World} {bs b : Nat} {x y u v : Value} {t : TypeId} (h : W.heap[bs]? = some (.cells #[x, y] 44 (0, 0))) (hb : Bx W b u t) (ht : 44 ≠ t) : (W.setCell ⟨b, 0, none⟩ v).cell? ⟨bs, 0, none⟩ = some x ∧ (W.setCell ⟨b, 0, none⟩ v).cell? ⟨bs, 1, none⟩ = some y := by
  have := (Below.heap_setCell W ⟨b, 0, none⟩ v bs (ne_type h hb ht)).trans h
  exact ⟨cell_of_row _ bs 0 _ _ (0, 0) this, cell_of_row _ bs 1 _ _ (0, 0) this⟩
set_option maxRecDepth 100000 in
set_option maxHeartbeats 1600000 in
/-- The two stores. -/
theorem tail4 {n K gp cap bs b5 b6 gd VB : Nat} {vr : Value} {Q : Exit → Act → World → Prop} {l : Array Bool} {W : World} (hl : l = #[true, true, true, true, true, true, true, true, true, false, false]) (hc : Cl .any R4 l)
    (hs : W.heap[bs]? = some (.cells #[.int .i64 n, .slice (some ⟨gp, 0, none⟩) K cap] 44 (0, 0))) (x5 : Bx W b5 (.pointer none) 50) (x6 : Bx W b6 (.slice none 0 0) 65)
    (hv : ∃ a m c, vr = .slice a m c) (hQ : Q .normal { tmps := solveTmps n K gp cap bs b5 b6 gd VB vr, defers := [] } ((W.setCell ⟨b5, 0, none⟩ (.pointer (some ⟨VB, 0, none⟩))).setCell ⟨b6, 0, none⟩ vr)) :
    wpAnyL Try.prog .any R4 Q (SL (fun W => W.cell? ⟨bs, 0, none⟩ = some (.int .i64 n) ∧ W.cell? ⟨bs, 1, none⟩ = some (.slice (some ⟨gp, 0, none⟩) K cap)) (fun _ => True) (fun _ => True) 9 10) 2 l { tmps := solveTmps n K gp cap bs b5 b6 gd VB vr, defers := [] } W := by
  subst hl
  obtain ⟨av, mv, cv, rfl⟩ := hv
  replace hQ := hide hQ
  have n56 : b5 ≠ b6 := ne_type x5 x6 (by decide)
  have A1 := hide (box_set (v := .pointer (some ⟨VB, 0, none⟩)) hs x5 (by decide))
  have s1 := (Below.heap_setCell W ⟨b5, 0, none⟩ (.pointer (some ⟨VB, 0, none⟩)) bs (ne_type hs x5 (by decide))).trans hs
  have y6 : Bx (W.setCell ⟨b5, 0, none⟩ (.pointer (some ⟨VB, 0, none⟩))) b6 (.slice none 0 0) 65 := (Below.heap_setCell _ _ _ _ n56.symm).trans x6
  have A2 := hide (box_set (v := .slice av mv cv) s1 y6 (by decide))
  have c5 := box_cell x5
  have f5 := block_frozen x5 0
  have c6 := box_cell y6
  have f6 := block_frozen y6 0
  clear hs s1 x5 x6 y6 n56
  unfold solveTmps at hQ ⊢
  refine anyL_one (i := 9) (o := o4_9) (by kernel_rfl) rfl hc ?_
  intro K hK
  simp only [o4_9]
  go_simp
  refine hK.out _ _ ⟨unhide A1, fun _ => trivial, fun _ => trivial⟩ (fun hc hS => ?_)
  clear hK K hS c5 f5
  refine anyL_one (i := 10) (o := o4_10) (by kernel_rfl) rfl hc ?_
  intro K hK
  simp only [o4_10]
  go_simp
  refine hK.out _ _ ⟨unhide A2, fun _ => trivial, fun _ => trivial⟩ (fun hc hS => ?_)
  exact anyL_done (by kernel_rfl) (unhide hQ) _

set_option maxRecDepth 100000 in
set_option maxHeartbeats 6400000 in
theorem solveR4 {n : Nat} {L : List (Int × Int)} {gp cap bs : Nat} {gb : Nat → Nat} {z : Nat → Nat → Nat} (hn : 1 ≤ n) (h64 : n ≤ 64) (hL : L.length ≤ 64) (ho : ∀ d, d ∈ L → okD d.1 d.2 = true) (w w4 : World) (h : SBox w4 bs n L gp cap gb (fun k j => nb (z k j))) (hb : Below bs w w4)
    (x2 : w4.heap[bs + 1]? = some (.cells #[.int .i64 0, .slice none 0 0] 46 (0, 0))) (x3 : Bx w4 (bs + 2) (.int .i64 0) 25) :
    Code.wp Try.prog (Code.region 4 R4 true) (fun e a W => e = .normal ∧ ∃ b5 b6 gd V v m f vr gr cr, a = { tmps := solveTmps n L.length gp cap bs b5 b6 gd V.B vr, defers := [] } ∧ Hid (Mid bs w W n L gd b5 b6 V v m f vr gr cr z)) { tmps := solveTmps0 n L.length gp cap bs, defers := [] } w4 := by
  have hO := hide ho
  have Sn := hide h
  have Bn := hide hb
  have X2 := hide x2
  have X3 := hide x3
  clear ho h hb x2 x3
  refine wp_region_noPanic ?_
  refine wp_region_L (S := SL (fun W => W.cell? ⟨bs, 0, none⟩ = some (.int .i64 n) ∧ W.cell? ⟨bs, 1, none⟩ = some (.slice (some ⟨gp, 0, none⟩) L.length cap)) (fun _ => True) (fun _ => True) 9 10) mixed ⟨(unhide Sn).box, fun _ => trivial, fun _ => trivial⟩ (fun hc hS => ?_)
  have y0 := (Below.refl w4.heap.size w4).drew
  replace Sn := hide ((unhide Sn).below y0)
  replace Bn := hide ((unhide Bn).drew)
  replace X2 := hide ((y0.block _ (Array.getElem?_eq_some_iff.1 (unhide X2)).1).trans (unhide X2))
  replace X3 := hide (box_below (unhide X3) y0)
  clear y0
  generalize w4.drew = Wc at *
  unfold solveTmps0
  refine anyL_take (i := 0) (oi := o4_0) (v := .pointer (some ⟨bs, 0, none⟩)) (S0 := (fun _ => True)) rfl (by kernel_rfl) (by kernel_rfl) (by kernel_rfl) (fun _ _ _ h => h) (sl_set (by decide) (by decide)) (fun _ _ _ _ _ => trivial) hc hS (Or.inl ⟨by rfl, ?_⟩) (fun hc hS => ?_)
  · intro W hSw
    simp only [o4_0]
    go_simp
  simp only [o4_0, Act.put, List.setIfInBounds_toArray, List.set_cons_zero, List.set_cons_succ]
  refine anyL_take (i := 1) (oi := o4_1) (v := .int .i64 n) (S0 := (fun W => W.cell? ⟨bs, 0, none⟩ = some (.int .i64 n) ∧ W.cell? ⟨bs, 1, none⟩ = some (.slice (some ⟨gp, 0, none⟩) L.length cap))) rfl (by kernel_rfl) (by kernel_rfl) (by kernel_rfl) (fun _ _ _ h => h) (sl_set (by decide) (by decide)) sl_a hc hS (Or.inl ⟨by rfl, ?_⟩) (fun hc hS => ?_)
  · intro W hSw
    obtain ⟨hSw, hSw2⟩ := hSw
    simp only [o4_1]
    go_simp
  simp only [o4_1, Act.put, List.setIfInBounds_toArray, List.set_cons_zero, List.set_cons_succ]
  refine anyL_take (i := 2) (oi := o4_2) (v := .agg #[.int .i64 n, .slice (some ⟨gp, 0, none⟩) L.length cap]) (S0 := (fun W => W.cell? ⟨bs, 0, none⟩ = some (.int .i64 n) ∧ W.cell? ⟨bs, 1, none⟩ = some (.slice (some ⟨gp, 0, none⟩) L.length cap))) rfl (by kernel_rfl) (by kernel_rfl) (by kernel_rfl) (fun _ _ _ h => h) (sl_set (by decide) (by decide)) sl_a hc hS (Or.inl ⟨by rfl, ?_⟩) (fun hc hS => ?_)
  · intro W hSw
    obtain ⟨hSw, hSw2⟩ := hSw
    simp only [o4_2]
    go_simp
  simp only [o4_2, Act.put, List.setIfInBounds_toArray, List.set_cons_zero, List.set_cons_succ]
  refine anyL_take (i := 5) (oi := o4_5) (v := .agg #[.int .i64 n, .slice (some ⟨gp, 0, none⟩) L.length cap]) (S0 := (fun W => W.cell? ⟨bs, 0, none⟩ = some (.int .i64 n) ∧ W.cell? ⟨bs, 1, none⟩ = some (.slice (some ⟨gp, 0, none⟩) L.length cap))) rfl (by kernel_rfl) (by kernel_rfl) (by kernel_rfl) (fun _ _ _ h => h) (sl_set (by decide) (by decide)) sl_a hc hS (Or.inl ⟨by rfl, ?_⟩) (fun hc hS => ?_)
  · intro W hSw
    obtain ⟨hSw, hSw2⟩ := hSw
    simp only [o4_5]
    go_simp
  simp only [o4_5, Act.put, List.setIfInBounds_toArray, List.set_cons_zero, List.set_cons_succ]
  refine anyL_three (i := 3) (j := 7) (k := 8) (o := o4_3) (o' := o4_7) (o'' := o4_8) (by kernel_rfl) rfl rfl rfl hc ?_ ?_ ?_
  · intro K hK
    simp only [o4_3]
    go_simp
    refine (sinoDirs (cap := cap) hL Wc (unhide Sn).sino).mono ?_
    rintro e W_1 ⟨gd, rfl, _, hD, hT, hbN⟩
    have Dn := hide hD
    have Tn := hide hT
    clear hD hT
    replace Bn := hide ((unhide Bn).trans (hbN.mono (Nat.le_of_lt (Array.getElem?_eq_some_iff.1 (unhide Sn).at_).1)))
    replace Sn := hide ((unhide Sn).below hbN)
    replace X2 := hide ((hbN.block _ (Array.getElem?_eq_some_iff.1 (unhide X2)).1).trans (unhide X2))
    replace X3 := hide (box_below (unhide X3) hbN)
    clear hbN
    refine hK.out _ _ ⟨(unhide Sn).box, fun _ => trivial, fun _ => trivial⟩ (fun hc hS => ?_)
    clear hK K
    refine anyL_three (i := 4) (j := 7) (k := 8) (o := o4_4) (o' := o4_7) (o'' := o4_8) (by kernel_rfl) rfl rfl rfl hc ?_ ?_ ?_
    · intro K hK
      simp only [o4_4]
      go_simp
      refine (untouchedOk (cap := L.length) hn h64 hL (unhide hO) W_1 (unhide Dn)).mono ?_
      rintro e W_2 ⟨V, v, m, f, rfl, hP, hQ, hm, hbN⟩
      have Pn := hide (hP)
      have G4 := hide (Nat.le_of_lt (Array.getElem?_eq_some_iff.1 (unhide Sn).at_).1)
      have Qn := hide hQ
      clear hP hQ
      replace Bn := hide ((unhide Bn).trans (hbN.mono (Nat.le_of_lt (Array.getElem?_eq_some_iff.1 (unhide Sn).at_).1)))
      replace Sn := hide ((unhide Sn).below hbN)
      replace X2 := hide ((hbN.block _ (Array.getElem?_eq_some_iff.1 (unhide X2)).1).trans (unhide X2))
      replace X3 := hide (box_below (unhide X3) hbN)
      replace Tn := hide ((unhide Tn).below hbN)
      replace Dn := hide (dirs_below (unhide Dn) hbN)
      clear hbN
      refine hK.out _ _ ⟨(unhide Sn).box, fun _ => trivial, fun _ => trivial⟩ (fun hc hS => ?_)
      clear hK K
      refine anyL_three (i := 6) (j := 7) (k := 8) (o := o4_6) (o' := o4_7) (o'' := o4_8) (by kernel_rfl) rfl rfl rfl hc ?_ ?_ ?_
      · intro K hK
        simp only [o4_6]
        go_simp
        refine (restsOk (cap := cap) h64 (unhide hO) hL W_2 (unhide Sn).sino).mono ?_
        rintro e W_3 ⟨vr, gr, cr, rfl, hR, hbN⟩
        have Rn := hide (hR.less (Nat.le_of_lt (Array.getElem?_eq_some_iff.1 (unhide Sn).at_).1))
        clear hR
        replace Bn := hide ((unhide Bn).trans (hbN.mono (Nat.le_of_lt (Array.getElem?_eq_some_iff.1 (unhide Sn).at_).1)))
        replace Sn := hide ((unhide Sn).below hbN)
        replace X2 := hide ((hbN.block _ (Array.getElem?_eq_some_iff.1 (unhide X2)).1).trans (unhide X2))
        replace X3 := hide (box_below (unhide X3) hbN)
        replace Tn := hide ((unhide Tn).below hbN)
        replace Dn := hide (dirs_below (unhide Dn) hbN)
        replace Pn := hide ((unhide Pn).below hbN)
        clear hbN
        refine hK.out _ _ ⟨(unhide Sn).box, fun _ => trivial, fun _ => trivial⟩ (fun hc hS => ?_)
        clear hK K
        refine anyL_two (i := 7) (j := 8) (o := o4_7) (o' := o4_8) (by kernel_rfl) rfl rfl hc ?_ ?_
        · intro K hK
          simp only [o4_7]
          go_simp
          have hbN := (Below.refl _ W_3).alloc (Nat.le_refl _) (.cells #[.pointer none] 50)
          have X5 := hide (box_new W_3 (.pointer none) 50)
          have G5 := hide (Nat.le_of_lt (Array.getElem?_eq_some_iff.1 (unhide Sn).at_).1)
          replace Bn := hide ((unhide Bn).trans (hbN.mono (Nat.le_of_lt (Array.getElem?_eq_some_iff.1 (unhide Sn).at_).1)))
          replace Sn := hide ((unhide Sn).below hbN)
          replace X2 := hide ((hbN.block _ (Array.getElem?_eq_some_iff.1 (unhide X2)).1).trans (unhide X2))
          replace X3 := hide (box_below (unhide X3) hbN)
          replace Tn := hide ((unhide Tn).below hbN)
          replace Dn := hide (dirs_below (unhide Dn) hbN)
          replace Pn := hide ((unhide Pn).below hbN)
          replace Rn := hide ((unhide Rn).below hbN)
          generalize W_3.heap.size = b5 at *
          generalize W_3.alloc (.cells #[.pointer none] 50) = W_4 at *
          clear hbN
          refine hK.out _ _ ⟨(unhide Sn).box, fun _ => trivial, fun _ => trivial⟩ (fun hc hS => ?_)
          clear hK K
          refine anyL_one (i := 8) (o := o4_8) (by kernel_rfl) rfl hc ?_
          intro K hK
          simp only [o4_8]
          go_simp
          have hbN := (Below.refl _ W_4).alloc (Nat.le_refl _) (.cells #[.slice none 0 0] 65)
          have X6 := hide (box_new W_4 (.slice none 0 0) 65)
          have G6 := hide (Nat.le_of_lt (Array.getElem?_eq_some_iff.1 (unhide Sn).at_).1)
          replace Bn := hide ((unhide Bn).trans (hbN.mono (Nat.le_of_lt (Array.getElem?_eq_some_iff.1 (unhide Sn).at_).1)))
          replace Sn := hide ((unhide Sn).below hbN)
          replace X2 := hide ((hbN.block _ (Array.getElem?_eq_some_iff.1 (unhide X2)).1).trans (unhide X2))
          replace X3 := hide (box_below (unhide X3) hbN)
          replace Tn := hide ((unhide Tn).below hbN)
          replace Dn := hide (dirs_below (unhide Dn) hbN)
          replace Pn := hide ((unhide Pn).below hbN)
          replace Rn := hide ((unhide Rn).below hbN)
          replace X5 := hide (box_below (unhide X5) hbN)
          generalize W_4.heap.size = b6 at *
          generalize W_4.alloc (.cells #[.slice none 0 0] 65) = W_5 at *
          clear hbN
          refine hK.out _ _ ⟨(unhide Sn).box, fun _ => trivial, fun _ => trivial⟩ (fun hc hS => ?_)
          clear hK K
          have s9 := (unhide Sn).at_
          have M9 := hide (Mid.of s9 (unhide X2) (unhide X3) (unhide X5) (unhide X6) (unhide Rn) (unhide Pn) (unhide Qn) hm (unhide Tn) (fun _ hx => Nat.lt_of_lt_of_le hx (unhide G4)) (unhide G5) (unhide G6) (unhide Bn))
          exact tail4 (by kernel_rfl) hc s9 (unhide X5) (unhide X6) (unhide Rn).slice ⟨rfl, _, _, _, _, _, _, _, _, _, _, rfl, M9⟩
        · intro K hK
          simp only [o4_8]
          go_simp
          have hbN := (Below.refl _ W_3).alloc (Nat.le_refl _) (.cells #[.slice none 0 0] 65)
          have X6 := hide (box_new W_3 (.slice none 0 0) 65)
          have G6 := hide (Nat.le_of_lt (Array.getElem?_eq_some_iff.1 (unhide Sn).at_).1)
          replace Bn := hide ((unhide Bn).trans (hbN.mono (Nat.le_of_lt (Array.getElem?_eq_some_iff.1 (unhide Sn).at_).1)))
          replace Sn := hide ((unhide Sn).below hbN)
          replace X2 := hide ((hbN.block _ (Array.getElem?_eq_some_iff.1 (unhide X2)).1).trans (unhide X2))
          replace X3 := hide (box_below (unhide X3) hbN)
          replace Tn := hide ((unhide Tn).below hbN)
          replace Dn := hide (dirs_below (unhide Dn) hbN)
          replace Pn := hide ((unhide Pn).below hbN)
          replace Rn := hide ((unhide Rn).below hbN)
          generalize W_3.heap.size = b6 at *
          generalize W_3.alloc (.cells #[.slice none 0 0] 65) = W_4 at *
          clear hbN
          refine hK.out _ _ ⟨(unhide Sn).box, fun _ => trivial, fun _ => trivial⟩ (fun hc hS => ?_)
          clear hK K
          refine anyL_one (i := 7) (o := o4_7) (by kernel_rfl) rfl hc ?_
          intro K hK
          simp only [o4_7]
          go_simp
          have hbN := (Below.refl _ W_4).alloc (Nat.le_refl _) (.cells #[.pointer none] 50)
          have X5 := hide (box_new W_4 (.pointer none) 50)
          have G5 := hide (Nat.le_of_lt (Array.getElem?_eq_some_iff.1 (unhide Sn).at_).1)
          replace Bn := hide ((unhide Bn).trans (hbN.mono (Nat.le_of_lt (Array.getElem?_eq_some_iff.1 (unhide Sn).at_).1)))
          replace Sn := hide ((unhide Sn).below hbN)
          replace X2 := hide ((hbN.block _ (Array.getElem?_eq_some_iff.1 (unhide X2)).1).trans (unhide X2))
          replace X3 := hide (box_below (unhide X3) hbN)
          replace Tn := hide ((unhide Tn).below hbN)
          replace Dn := hide (dirs_below (unhide Dn) hbN)
          replace Pn := hide ((unhide Pn).below hbN)
          replace Rn := hide ((unhide Rn).below hbN)
          replace X6 := hide (box_below (unhide X6) hbN)
          generalize W_4.heap.size = b5 at *
          generalize W_4.alloc (.cells #[.pointer none] 50) = W_5 at *
          clear hbN
          refine hK.out _ _ ⟨(unhide Sn).box, fun _ => trivial, fun _ => trivial⟩ (fun hc hS => ?_)
          clear hK K
          have s9 := (unhide Sn).at_
          have M9 := hide (Mid.of s9 (unhide X2) (unhide X3) (unhide X5) (unhide X6) (unhide Rn) (unhide Pn) (unhide Qn) hm (unhide Tn) (fun _ hx => Nat.lt_of_lt_of_le hx (unhide G4)) (unhide G5) (unhide G6) (unhide Bn))
          exact tail4 (by kernel_rfl) hc s9 (unhide X5) (unhide X6) (unhide Rn).slice ⟨rfl, _, _, _, _, _, _, _, _, _, _, rfl, M9⟩
      · intro K hK
        simp only [o4_7]
        go_simp
        have hbN := (Below.refl _ W_2).alloc (Nat.le_refl _) (.cells #[.pointer none] 50)
        have X5 := hide (box_new W_2 (.pointer none) 50)
        have G5 := hide (Nat.le_of_lt (Array.getElem?_eq_some_iff.1 (unhide Sn).at_).1)
        replace Bn := hide ((unhide Bn).trans (hbN.mono (Nat.le_of_lt (Array.getElem?_eq_some_iff.1 (unhide Sn).at_).1)))
        replace Sn := hide ((unhide Sn).below hbN)
        replace X2 := hide ((hbN.block _ (Array.getElem?_eq_some_iff.1 (unhide X2)).1).trans (unhide X2))
        replace X3 := hide (box_below (unhide X3) hbN)
        replace Tn := hide ((unhide Tn).below hbN)
        replace Dn := hide (dirs_below (unhide Dn) hbN)
        replace Pn := hide ((unhide Pn).below hbN)
        generalize W_2.heap.size = b5 at *
        generalize W_2.alloc (.cells #[.pointer none] 50) = W_3 at *
        clear hbN
        refine hK.out _ _ ⟨(unhide Sn).box, fun _ => trivial, fun _ => trivial⟩ (fun hc hS => ?_)
        clear hK K
        refine anyL_two (i := 6) (j := 8) (o := o4_6) (o' := o4_8) (by kernel_rfl) rfl rfl hc ?_ ?_
        · intro K hK
          simp only [o4_6]
          go_simp
          refine (restsOk (cap := cap) h64 (unhide hO) hL W_3 (unhide Sn).sino).mono ?_
          rintro e W_4 ⟨vr, gr, cr, rfl, hR, hbN⟩
          have Rn := hide (hR.less (Nat.le_of_lt (Array.getElem?_eq_some_iff.1 (unhide Sn).at_).1))
          clear hR
          replace Bn := hide ((unhide Bn).trans (hbN.mono (Nat.le_of_lt (Array.getElem?_eq_some_iff.1 (unhide Sn).at_).1)))
          replace Sn := hide ((unhide Sn).below hbN)
          replace X2 := hide ((hbN.block _ (Array.getElem?_eq_some_iff.1 (unhide X2)).1).trans (unhide X2))
          replace X3 := hide (box_below (unhide X3) hbN)
          replace Tn := hide ((unhide Tn).below hbN)
          replace Dn := hide (dirs_below (unhide Dn) hbN)
          replace Pn := hide ((unhide Pn).below hbN)
          replace X5 := hide (box_below (unhide X5) hbN)
          clear hbN
          refine hK.out _ _ ⟨(unhide Sn).box, fun _ => trivial, fun _ => trivial⟩ (fun hc hS => ?_)
          clear hK K
          refine anyL_one (i := 8) (o := o4_8) (by kernel_rfl) rfl hc ?_
          intro K hK
          simp only [o4_8]
          go_simp
          have hbN := (Below.refl _ W_4).alloc (Nat.le_refl _) (.cells #[.slice none 0 0] 65)
          have X6 := hide (box_new W_4 (.slice none 0 0) 65)
          have G6 := hide (Nat.le_of_lt (Array.getElem?_eq_some_iff.1 (unhide Sn).at_).1)
          replace Bn := hide ((unhide Bn).trans (hbN.mono (Nat.le_of_lt (Array.getElem?_eq_some_iff.1 (unhide Sn).at_).1)))
          replace Sn := hide ((unhide Sn).below hbN)
          replace X2 := hide ((hbN.block _ (Array.getElem?_eq_some_iff.1 (unhide X2)).1).trans (unhide X2))
          replace X3 := hide (box_below (unhide X3) hbN)
          replace Tn := hide ((unhide Tn).below hbN)
          replace Dn := hide (dirs_below (unhide Dn) hbN)
          replace Pn := hide ((unhide Pn).below hbN)
          replace Rn := hide ((unhide Rn).below hbN)
          replace X5 := hide (box_below (unhide X5) hbN)
          generalize W_4.heap.size = b6 at *
          generalize W_4.alloc (.cells #[.slice none 0 0] 65) = W_5 at *
          clear hbN
          refine hK.out _ _ ⟨(unhide Sn).box, fun _ => trivial, fun _ => trivial⟩ (fun hc hS => ?_)
          clear hK K
          have s9 := (unhide Sn).at_
          have M9 := hide (Mid.of s9 (unhide X2) (unhide X3) (unhide X5) (unhide X6) (unhide Rn) (unhide Pn) (unhide Qn) hm (unhide Tn) (fun _ hx => Nat.lt_of_lt_of_le hx (unhide G4)) (unhide G5) (unhide G6) (unhide Bn))
          exact tail4 (by kernel_rfl) hc s9 (unhide X5) (unhide X6) (unhide Rn).slice ⟨rfl, _, _, _, _, _, _, _, _, _, _, rfl, M9⟩
        · intro K hK
          simp only [o4_8]
          go_simp
          have hbN := (Below.refl _ W_3).alloc (Nat.le_refl _) (.cells #[.slice none 0 0] 65)
          have X6 := hide (box_new W_3 (.slice none 0 0) 65)
          have G6 := hide (Nat.le_of_lt (Array.getElem?_eq_some_iff.1 (unhide Sn).at_).1)
          replace Bn := hide ((unhide Bn).trans (hbN.mono (Nat.le_of_lt (Array.getElem?_eq_some_iff.1 (unhide Sn).at_).1)))
          replace Sn := hide ((unhide Sn).below hbN)
          replace X2 := hide ((hbN.block _ (Array.getElem?_eq_some_iff.1 (unhide X2)).1).trans (unhide X2))
          replace X3 := hide (box_below (unhide X3) hbN)
          replace Tn := hide ((unhide Tn).below hbN)
          replace Dn := hide (dirs_below (unhide Dn) hbN)
          replace Pn := hide ((unhide Pn).below hbN)
          replace X5 := hide (box_below (unhide X5) hbN)
          generalize W_3.heap.size = b6 at *
          generalize W_3.alloc (.cells #[.slice none 0 0] 65) = W_4 at *
          clear hbN
          refine hK.out _ _ ⟨(unhide Sn).box, fun _ => trivial, fun _ => trivial⟩ (fun hc hS => ?_)
          clear hK K
          refine anyL_one (i := 6) (o := o4_6) (by kernel_rfl) rfl hc ?_
          intro K hK
          simp only [o4_6]
          go_simp
          refine (restsOk (cap := cap) h64 (unhide hO) hL W_4 (unhide Sn).sino).mono ?_
          rintro e W_5 ⟨vr, gr, cr, rfl, hR, hbN⟩
          have Rn := hide (hR.less (Nat.le_of_lt (Array.getElem?_eq_some_iff.1 (unhide Sn).at_).1))
          clear hR
          replace Bn := hide ((unhide Bn).trans (hbN.mono (Nat.le_of_lt (Array.getElem?_eq_some_iff.1 (unhide Sn).at_).1)))
          replace Sn := hide ((unhide Sn).below hbN)
          replace X2 := hide ((hbN.block _ (Array.getElem?_eq_some_iff.1 (unhide X2)).1).trans (unhide X2))
          replace X3 := hide (box_below (unhide X3) hbN)
          replace Tn := hide ((unhide Tn).below hbN)
          replace Dn := hide (dirs_below (unhide Dn) hbN)
          replace Pn := hide ((unhide Pn).below hbN)
          replace X5 := hide (box_below (unhide X5) hbN)
          replace X6 := hide (box_below (unhide X6) hbN)
          clear hbN
          refine hK.out _ _ ⟨(unhide Sn).box, fun _ => trivial, fun _ => trivial⟩ (fun hc hS => ?_)
          clear hK K
          have s9 := (unhide Sn).at_
          have M9 := hide (Mid.of s9 (unhide X2) (unhide X3) (unhide X5) (unhide X6) (unhide Rn) (unhide Pn) (unhide Qn) hm (unhide Tn) (fun _ hx => Nat.lt_of_lt_of_le hx (unhide G4)) (unhide G5) (unhide G6) (unhide Bn))
          exact tail4 (by kernel_rfl) hc s9 (unhide X5) (unhide X6) (unhide Rn).slice ⟨rfl, _, _, _, _, _, _, _, _, _, _, rfl, M9⟩
      · intro K hK
        simp only [o4_8]
        go_simp
        have hbN := (Below.refl _ W_2).alloc (Nat.le_refl _) (.cells #[.slice none 0 0] 65)
        have X6 := hide (box_new W_2 (.slice none 0 0) 65)
        have G6 := hide (Nat.le_of_lt (Array.getElem?_eq_some_iff.1 (unhide Sn).at_).1)
        replace Bn := hide ((unhide Bn).trans (hbN.mono (Nat.le_of_lt (Array.getElem?_eq_some_iff.1 (unhide Sn).at_).1)))
        replace Sn := hide ((unhide Sn).below hbN)
        replace X2 := hide ((hbN.block _ (Array.getElem?_eq_some_iff.1 (unhide X2)).1).trans (unhide X2))
        replace X3 := hide (box_below (unhide X3) hbN)
        replace Tn := hide ((unhide Tn).below hbN)
        replace Dn := hide (dirs_below (unhide Dn) hbN)
        replace Pn := hide ((unhide Pn).below hbN)
        generalize W_2.heap.size = b6 at *
        generalize W_2.alloc (.cells #[.slice none 0 0] 65) = W_3 at *
        clear hbN
        refine hK.out _ _ ⟨(unhide Sn).box, fun _ => trivial, fun _ => trivial⟩ (fun hc hS => ?_)
        clear hK K
        refine anyL_two (i := 6) (j := 7) (o := o4_6) (o' := o4_7) (by kernel_rfl) rfl rfl hc ?_ ?_
        · intro K hK
          simp only [o4_6]
          go_simp
          refine (restsOk (cap := cap) h64 (unhide hO) hL W_3 (unhide Sn).sino).mono ?_
          rintro e W_4 ⟨vr, gr, cr, rfl, hR, hbN⟩
          have Rn := hide (hR.less (Nat.le_of_lt (Array.getElem?_eq_some_iff.1 (unhide Sn).at_).1))
          clear hR
          replace Bn := hide ((unhide Bn).trans (hbN.mono (Nat.le_of_lt (Array.getElem?_eq_some_iff.1 (unhide Sn).at_).1)))
          replace Sn := hide ((unhide Sn).below hbN)
          replace X2 := hide ((hbN.block _ (Array.getElem?_eq_some_iff.1 (unhide X2)).1).trans (unhide X2))
          replace X3 := hide (box_below (unhide X3) hbN)
          replace Tn := hide ((unhide Tn).below hbN)
          replace Dn := hide (dirs_below (unhide Dn) hbN)
          replace Pn := hide ((unhide Pn).below hbN)
          replace X6 := hide (box_below (unhide X6) hbN)
          clear hbN
          refine hK.out _ _ ⟨(unhide Sn).box, fun _ => trivial, fun _ => trivial⟩ (fun hc hS => ?_)
          clear hK K
          refine anyL_one (i := 7) (o := o4_7) (by kernel_rfl) rfl hc ?_
          intro K hK
          simp only [o4_7]
          go_simp
          have hbN := (Below.refl _ W_4).alloc (Nat.le_refl _) (.cells #[.pointer none] 50)
          have X5 := hide (box_new W_4 (.pointer none) 50)
          have G5 := hide (Nat.le_of_lt (Array.getElem?_eq_some_iff.1 (unhide Sn).at_).1)
          replace Bn := hide ((unhide Bn).trans (hbN.mono (Nat.le_of_lt (Array.getElem?_eq_some_iff.1 (unhide Sn).at_).1)))
          replace Sn := hide ((unhide Sn).below hbN)
          replace X2 := hide ((hbN.block _ (Array.getElem?_eq_some_iff.1 (unhide X2)).1).trans (unhide X2))
          replace X3 := hide (box_below (unhide X3) hbN)
          replace Tn := hide ((unhide Tn).below hbN)
          replace Dn := hide (dirs_below (unhide Dn) hbN)
          replace Pn := hide ((unhide Pn).below hbN)
          replace Rn := hide ((unhide Rn).below hbN)
          replace X6 := hide (box_below (unhide X6) hbN)
          generalize W_4.heap.size = b5 at *
          generalize W_4.alloc (.cells #[.pointer none] 50) = W_5 at *
          clear hbN
          refine hK.out _ _ ⟨(unhide Sn).box, fun _ => trivial, fun _ => trivial⟩ (fun hc hS => ?_)
          clear hK K
          have s9 := (unhide Sn).at_
          have M9 := hide (Mid.of s9 (unhide X2) (unhide X3) (unhide X5) (unhide X6) (unhide Rn) (unhide Pn) (unhide Qn) hm (unhide Tn) (fun _ hx => Nat.lt_of_lt_of_le hx (unhide G4)) (unhide G5) (unhide G6) (unhide Bn))
          exact tail4 (by kernel_rfl) hc s9 (unhide X5) (unhide X6) (unhide Rn).slice ⟨rfl, _, _, _, _, _, _, _, _, _, _, rfl, M9⟩
        · intro K hK
          simp only [o4_7]
          go_simp
          have hbN := (Below.refl _ W_3).alloc (Nat.le_refl _) (.cells #[.pointer none] 50)
          have X5 := hide (box_new W_3 (.pointer none) 50)
          have G5 := hide (Nat.le_of_lt (Array.getElem?_eq_some_iff.1 (unhide Sn).at_).1)
          replace Bn := hide ((unhide Bn).trans (hbN.mono (Nat.le_of_lt (Array.getElem?_eq_some_iff.1 (unhide Sn).at_).1)))
          replace Sn := hide ((unhide Sn).below hbN)
          replace X2 := hide ((hbN.block _ (Array.getElem?_eq_some_iff.1 (unhide X2)).1).trans (unhide X2))
          replace X3 := hide (box_below (unhide X3) hbN)
          replace Tn := hide ((unhide Tn).below hbN)
          replace Dn := hide (dirs_below (unhide Dn) hbN)
          replace Pn := hide ((unhide Pn).below hbN)
          replace X6 := hide (box_below (unhide X6) hbN)
          generalize W_3.heap.size = b5 at *
          generalize W_3.alloc (.cells #[.pointer none] 50) = W_4 at *
          clear hbN
          refine hK.out _ _ ⟨(unhide Sn).box, fun _ => trivial, fun _ => trivial⟩ (fun hc hS => ?_)
          clear hK K
          refine anyL_one (i := 6) (o := o4_6) (by kernel_rfl) rfl hc ?_
          intro K hK
          simp only [o4_6]
          go_simp
          refine (restsOk (cap := cap) h64 (unhide hO) hL W_4 (unhide Sn).sino).mono ?_
          rintro e W_5 ⟨vr, gr, cr, rfl, hR, hbN⟩
          have Rn := hide (hR.less (Nat.le_of_lt (Array.getElem?_eq_some_iff.1 (unhide Sn).at_).1))
          clear hR
          replace Bn := hide ((unhide Bn).trans (hbN.mono (Nat.le_of_lt (Array.getElem?_eq_some_iff.1 (unhide Sn).at_).1)))
          replace Sn := hide ((unhide Sn).below hbN)
          replace X2 := hide ((hbN.block _ (Array.getElem?_eq_some_iff.1 (unhide X2)).1).trans (unhide X2))
          replace X3 := hide (box_below (unhide X3) hbN)
          replace Tn := hide ((unhide Tn).below hbN)
          replace Dn := hide (dirs_below (unhide Dn) hbN)
          replace Pn := hide ((unhide Pn).below hbN)
          replace X5 := hide (box_below (unhide X5) hbN)
          replace X6 := hide (box_below (unhide X6) hbN)
          clear hbN
          refine hK.out _ _ ⟨(unhide Sn).box, fun _ => trivial, fun _ => trivial⟩ (fun hc hS => ?_)
          clear hK K
          have s9 := (unhide Sn).at_
          have M9 := hide (Mid.of s9 (unhide X2) (unhide X3) (unhide X5) (unhide X6) (unhide Rn) (unhide Pn) (unhide Qn) hm (unhide Tn) (fun _ hx => Nat.lt_of_lt_of_le hx (unhide G4)) (unhide G5) (unhide G6) (unhide Bn))
          exact tail4 (by kernel_rfl) hc s9 (unhide X5) (unhide X6) (unhide Rn).slice ⟨rfl, _, _, _, _, _, _, _, _, _, _, rfl, M9⟩
    · intro K hK
      simp only [o4_7]
      go_simp
      have hbN := (Below.refl _ W_1).alloc (Nat.le_refl _) (.cells #[.pointer none] 50)
      have X5 := hide (box_new W_1 (.pointer none) 50)
      have G5 := hide (Nat.le_of_lt (Array.getElem?_eq_some_iff.1 (unhide Sn).at_).1)
      replace Bn := hide ((unhide Bn).trans (hbN.mono (Nat.le_of_lt (Array.getElem?_eq_some_iff.1 (unhide Sn).at_).1)))
      replace Sn := hide ((unhide Sn).below hbN)
      replace X2 := hide ((hbN.block _ (Array.getElem?_eq_some_iff.1 (unhide X2)).1).trans (unhide X2))
      replace X3 := hide (box_below (unhide X3) hbN)
      replace Tn := hide ((unhide Tn).below hbN)
      replace Dn := hide (dirs_below (unhide Dn) hbN)
      generalize W_1.heap.size = b5 at *
      generalize W_1.alloc (.cells #[.pointer none] 50) = W_2 at *
      clear hbN
      refine hK.out _ _ ⟨(unhide Sn).box, fun _ => trivial, fun _ => trivial⟩ (fun hc hS => ?_)
      clear hK K
      refine anyL_two (i := 4) (j := 8) (o := o4_4) (o' := o4_8) (by kernel_rfl) rfl rfl hc ?_ ?_
      · intro K hK
        simp only [o4_4]
        go_simp
        refine (untouchedOk (cap := L.length) hn h64 hL (unhide hO) W_2 (unhide Dn)).mono ?_
        rintro e W_3 ⟨V, v, m, f, rfl, hP, hQ, hm, hbN⟩
        have Pn := hide (hP)
        have G4 := hide (Nat.le_of_lt (Array.getElem?_eq_some_iff.1 (unhide Sn).at_).1)
        have Qn := hide hQ
        clear hP hQ
        replace Bn := hide ((unhide Bn).trans (hbN.mono (Nat.le_of_lt (Array.getElem?_eq_some_iff.1 (unhide Sn).at_).1)))
        replace Sn := hide ((unhide Sn).below hbN)
        replace X2 := hide ((hbN.block _ (Array.getElem?_eq_some_iff.1 (unhide X2)).1).trans (unhide X2))
        replace X3 := hide (box_below (unhide X3) hbN)
        replace Tn := hide ((unhide Tn).below hbN)
        replace Dn := hide (dirs_below (unhide Dn) hbN)
        replace X5 := hide (box_below (unhide X5) hbN)
        clear hbN
        refine hK.out _ _ ⟨(unhide Sn).box, fun _ => trivial, fun _ => trivial⟩ (fun hc hS => ?_)
        clear hK K
        refine anyL_two (i := 6) (j := 8) (o := o4_6) (o' := o4_8) (by kernel_rfl) rfl rfl hc ?_ ?_
        · intro K hK
          simp only [o4_6]
          go_simp
          refine (restsOk (cap := cap) h64 (unhide hO) hL W_3 (unhide Sn).sino).mono ?_
          rintro e W_4 ⟨vr, gr, cr, rfl, hR, hbN⟩
          have Rn := hide (hR.less (Nat.le_of_lt (Array.getElem?_eq_some_iff.1 (unhide Sn).at_).1))
          clear hR
          replace Bn := hide ((unhide Bn).trans (hbN.mono (Nat.le_of_lt (Array.getElem?_eq_some_iff.1 (unhide Sn).at_).1)))
          replace Sn := hide ((unhide Sn).below hbN)
          replace X2 := hide ((hbN.block _ (Array.getElem?_eq_some_iff.1 (unhide X2)).1).trans (unhide X2))
          replace X3 := hide (box_below (unhide X3) hbN)
          replace Tn := hide ((unhide Tn).below hbN)
          replace Dn := hide (dirs_below (unhide Dn) hbN)
          replace Pn := hide ((unhide Pn).below hbN)
          replace X5 := hide (box_below (unhide X5) hbN)
          clear hbN
          refine hK.out _ _ ⟨(unhide Sn).box, fun _ => trivial, fun _ => trivial⟩ (fun hc hS => ?_)
          clear hK K
          refine anyL_one (i := 8) (o := o4_8) (by kernel_rfl) rfl hc ?_
          intro K hK
          simp only [o4_8]
          go_simp
          have hbN := (Below.refl _ W_4).alloc (Nat.le_refl _) (.cells #[.slice none 0 0] 65)
          have X6 := hide (box_new W_4 (.slice none 0 0) 65)
          have G6 := hide (Nat.le_of_lt (Array.getElem?_eq_some_iff.1 (unhide Sn).at_).1)
          replace Bn := hide ((unhide Bn).trans (hbN.mono (Nat.le_of_lt (Array.getElem?_eq_some_iff.1 (unhide Sn).at_).1)))
          replace Sn := hide ((unhide Sn).below hbN)
          replace X2 := hide ((hbN.block _ (Array.getElem?_eq_some_iff.1 (unhide X2)).1).trans (unhide X2))
          replace X3 := hide (box_below (unhide X3) hbN)
          replace Tn := hide ((unhide Tn).below hbN)
          replace Dn := hide (dirs_below (unhide Dn) hbN)
          replace Pn := hide ((unhide Pn).below hbN)
          replace Rn := hide ((unhide Rn).below hbN)
          replace X5 := hide (box_below (unhide X5) hbN)
          generalize W_4.heap.size = b6 at *
          generalize W_4.alloc (.cells #[.slice none 0 0] 65) = W_5 at *
          clear hbN
          refine hK.out _ _ ⟨(unhide Sn).box, fun _ => trivial, fun _ => trivial⟩ (fun hc hS => ?_)
          clear hK K
          have s9 := (unhide Sn).at_
          have M9 := hide (Mid.of s9 (unhide X2) (unhide X3) (unhide X5) (unhide X6) (unhide Rn) (unhide Pn) (unhide Qn) hm (unhide Tn) (fun _ hx => Nat.lt_of_lt_of_le hx (unhide G4)) (unhide G5) (unhide G6) (unhide Bn))
          exact tail4 (by kernel_rfl) hc s9 (unhide X5) (unhide X6) (unhide Rn).slice ⟨rfl, _, _, _, _, _, _, _, _, _, _, rfl, M9⟩
        · intro K hK
          simp only [o4_8]
          go_simp
          have hbN := (Below.refl _ W_3).alloc (Nat.le_refl _) (.cells #[.slice none 0 0] 65)
          have X6 := hide (box_new W_3 (.slice none 0 0) 65)
          have G6 := hide (Nat.le_of_lt (Array.getElem?_eq_some_iff.1 (unhide Sn).at_).1)
          replace Bn := hide ((unhide Bn).trans (hbN.mono (Nat.le_of_lt (Array.getElem?_eq_some_iff.1 (unhide Sn).at_).1)))
          replace Sn := hide ((unhide Sn).below hbN)
          replace X2 := hide ((hbN.block _ (Array.getElem?_eq_some_iff.1 (unhide X2)).1).trans (unhide X2))
          replace X3 := hide (box_below (unhide X3) hbN)
          replace Tn := hide ((unhide Tn).below hbN)
          replace Dn := hide (dirs_below (unhide Dn) hbN)
          replace Pn := hide ((unhide Pn).below hbN)
          replace X5 := hide (box_below (unhide X5) hbN)
          generalize W_3.heap.size = b6 at *
          generalize W_3.alloc (.cells #[.slice none 0 0] 65) = W_4 at *
          clear hbN
          refine hK.out _ _ ⟨(unhide Sn).box, fun _ => trivial, fun _ => trivial⟩ (fun hc hS => ?_)
          clear hK K
          refine anyL_one (i := 6) (o := o4_6) (by kernel_rfl) rfl hc ?_
          intro K hK
          simp only [o4_6]
          go_simp
          refine (restsOk (cap := cap) h64 (unhide hO) hL W_4 (unhide Sn).sino).mono ?_
          rintro e W_5 ⟨vr, gr, cr, rfl, hR, hbN⟩
          have Rn := hide (hR.less (Nat.le_of_lt (Array.getElem?_eq_some_iff.1 (unhide Sn).at_).1))
          clear hR
          replace Bn := hide ((unhide Bn).trans (hbN.mono (Nat.le_of_lt (Array.getElem?_eq_some_iff.1 (unhide Sn).at_).1)))
          replace Sn := hide ((unhide Sn).below hbN)
          replace X2 := hide ((hbN.block _ (Array.getElem?_eq_some_iff.1 (unhide X2)).1).trans (unhide X2))
          replace X3 := hide (box_below (unhide X3) hbN)
          replace Tn := hide ((unhide Tn).below hbN)
          replace Dn := hide (dirs_below (unhide Dn) hbN)
          replace Pn := hide ((unhide Pn).below hbN)
          replace X5 := hide (box_below (unhide X5) hbN)
          replace X6 := hide (box_below (unhide X6) hbN)
          clear hbN
          refine hK.out _ _ ⟨(unhide Sn).box, fun _ => trivial, fun _ => trivial⟩ (fun hc hS => ?_)
          clear hK K
          have s9 := (unhide Sn).at_
          have M9 := hide (Mid.of s9 (unhide X2) (unhide X3) (unhide X5) (unhide X6) (unhide Rn) (unhide Pn) (unhide Qn) hm (unhide Tn) (fun _ hx => Nat.lt_of_lt_of_le hx (unhide G4)) (unhide G5) (unhide G6) (unhide Bn))
          exact tail4 (by kernel_rfl) hc s9 (unhide X5) (unhide X6) (unhide Rn).slice ⟨rfl, _, _, _, _, _, _, _, _, _, _, rfl, M9⟩
      · intro K hK
        simp only [o4_8]
        go_simp
        have hbN := (Below.refl _ W_2).alloc (Nat.le_refl _) (.cells #[.slice none 0 0] 65)
        have X6 := hide (box_new W_2 (.slice none 0 0) 65)
        have G6 := hide (Nat.le_of_lt (Array.getElem?_eq_some_iff.1 (unhide Sn).at_).1)
        replace Bn := hide ((unhide Bn).trans (hbN.mono (Nat.le_of_lt (Array.getElem?_eq_some_iff.1 (unhide Sn).at_).1)))
        replace Sn := hide ((unhide Sn).below hbN)
        replace X2 := hide ((hbN.block _ (Array.getElem?_eq_some_iff.1 (unhide X2)).1).trans (unhide X2))
        replace X3 := hide (box_below (unhide X3) hbN)
        replace Tn := hide ((unhide Tn).below hbN)
        replace Dn := hide (dirs_below (unhide Dn) hbN)
        replace X5 := hide (box_below (unhide X5) hbN)
        generalize W_2.heap.size = b6 at *
        generalize W_2.alloc (.cells #[.slice none 0 0] 65) = W_3 at *
        clear hbN
        refine hK.out _ _ ⟨(unhide Sn).box, fun _ => trivial, fun _ => trivial⟩ (fun hc hS => ?_)
        clear hK K
        refine anyL_one (i := 4) (o := o4_4) (by kernel_rfl) rfl hc ?_
        intro K hK
        simp only [o4_4]
        go_simp
        refine (untouchedOk (cap := L.length) hn h64 hL (unhide hO) W_3 (unhide Dn)).mono ?_
        rintro e W_4 ⟨V, v, m, f, rfl, hP, hQ, hm, hbN⟩
        have Pn := hide (hP)
        have G4 := hide (Nat.le_of_lt (Array.getElem?_eq_some_iff.1 (unhide Sn).at_).1)
        have Qn := hide hQ
        clear hP hQ
        replace Bn := hide ((unhide Bn).trans (hbN.mono (Nat.le_of_lt (Array.getElem?_eq_some_iff.1 (unhide Sn).at_).1)))
        replace Sn := hide ((unhide Sn).below hbN)
        replace X2 := hide ((hbN.block _ (Array.getElem?_eq_some_iff.1 (unhide X2)).1).trans (unhide X2))
        replace X3 := hide (box_below (unhide X3) hbN)
        replace Tn := hide ((unhide Tn).below hbN)
        replace Dn := hide (dirs_below (unhide Dn) hbN)
        replace X5 := hide (box_below (unhide X5) hbN)
        replace X6 := hide (box_below (unhide X6) hbN)
        clear hbN
        refine hK.out _ _ ⟨(unhide Sn).box, fun _ => trivial, fun _ => trivial⟩ (fun hc hS => ?_)
        clear hK K
        refine anyL_one (i := 6) (o := o4_6) (by kernel_rfl) rfl hc ?_
        intro K hK
        simp only [o4_6]
        go_simp
        refine (restsOk (cap := cap) h64 (unhide hO) hL W_4 (unhide Sn).sino).mono ?_
        rintro e W_5 ⟨vr, gr, cr, rfl, hR, hbN⟩
        have Rn := hide (hR.less (Nat.le_of_lt (Array.getElem?_eq_some_iff.1 (unhide Sn).at_).1))
        clear hR
        replace Bn := hide ((unhide Bn).trans (hbN.mono (Nat.le_of_lt (Array.getElem?_eq_some_iff.1 (unhide Sn).at_).1)))
        replace Sn := hide ((unhide Sn).below hbN)
        replace X2 := hide ((hbN.block _ (Array.getElem?_eq_some_iff.1 (unhide X2)).1).trans (unhide X2))
        replace X3 := hide (box_below (unhide X3) hbN)
        replace Tn := hide ((unhide Tn).below hbN)
        replace Dn := hide (dirs_below (unhide Dn) hbN)
        replace Pn := hide ((unhide Pn).below hbN)
        replace X5 := hide (box_below (unhide X5) hbN)
        replace X6 := hide (box_below (unhide X6) hbN)
        clear hbN
        refine hK.out _ _ ⟨(unhide Sn).box, fun _ => trivial, fun _ => trivial⟩ (fun hc hS => ?_)
        clear hK K
        have s9 := (unhide Sn).at_
        have M9 := hide (Mid.of s9 (unhide X2) (unhide X3) (unhide X5) (unhide X6) (unhide Rn) (unhide Pn) (unhide Qn) hm (unhide Tn) (fun _ hx => Nat.lt_of_lt_of_le hx (unhide G4)) (unhide G5) (unhide G6) (unhide Bn))
        exact tail4 (by kernel_rfl) hc s9 (unhide X5) (unhide X6) (unhide Rn).slice ⟨rfl, _, _, _, _, _, _, _, _, _, _, rfl, M9⟩
    · intro K hK
      simp only [o4_8]
      go_simp
      have hbN := (Below.refl _ W_1).alloc (Nat.le_refl _) (.cells #[.slice none 0 0] 65)
      have X6 := hide (box_new W_1 (.slice none 0 0) 65)
      have G6 := hide (Nat.le_of_lt (Array.getElem?_eq_some_iff.1 (unhide Sn).at_).1)
      replace Bn := hide ((unhide Bn).trans (hbN.mono (Nat.le_of_lt (Array.getElem?_eq_some_iff.1 (unhide Sn).at_).1)))
      replace Sn := hide ((unhide Sn).below hbN)
      replace X2 := hide ((hbN.block _ (Array.getElem?_eq_some_iff.1 (unhide X2)).1).trans (unhide X2))
      replace X3 := hide (box_below (unhide X3) hbN)
      replace Tn := hide ((unhide Tn).below hbN)
      replace Dn := hide (dirs_below (unhide Dn) hbN)
      generalize W_1.heap.size = b6 at *
      generalize W_1.alloc (.cells #[.slice none 0 0] 65) = W_2 at *
      clear hbN
      refine hK.out _ _ ⟨(unhide Sn).box, fun _ => trivial, fun _ => trivial⟩ (fun hc hS => ?_)
      clear hK K
      refine anyL_two (i := 4) (j := 7) (o := o4_4) (o' := o4_7) (by kernel_rfl) rfl rfl hc ?_ ?_
      · intro K hK
        simp only [o4_4]
        go_simp
        refine (untouchedOk (cap := L.length) hn h64 hL (unhide hO) W_2 (unhide Dn)).mono ?_
        rintro e W_3 ⟨V, v, m, f, rfl, hP, hQ, hm, hbN⟩
        have Pn := hide (hP)
        have G4 := hide (Nat.le_of_lt (Array.getElem?_eq_some_iff.1 (unhide Sn).at_).1)
        have Qn := hide hQ
        clear hP hQ
        replace Bn := hide ((unhide Bn).trans (hbN.mono (Nat.le_of_lt (Array.getElem?_eq_some_iff.1 (unhide Sn).at_).1)))
        replace Sn := hide ((unhide Sn).below hbN)
        replace X2 := hide ((hbN.block _ (Array.getElem?_eq_some_iff.1 (unhide X2)).1).trans (unhide X2))
        replace X3 := hide (box_below (unhide X3) hbN)
        replace Tn := hide ((unhide Tn).below hbN)
        replace Dn := hide (dirs_below (unhide Dn) hbN)
        replace X6 := hide (box_below (unhide X6) hbN)
        clear hbN
        refine hK.out _ _ ⟨(unhide Sn).box, fun _ => trivial, fun _ => trivial⟩ (fun hc hS => ?_)
        clear hK K
        refine anyL_two (i := 6) (j := 7) (o := o4_6) (o' := o4_7) (by kernel_rfl) rfl rfl hc ?_ ?_
        · intro K hK
          simp only [o4_6]
          go_simp
          refine (restsOk (cap := cap) h64 (unhide hO) hL W_3 (unhide Sn).sino).mono ?_
          rintro e W_4 ⟨vr, gr, cr, rfl, hR, hbN⟩
          have Rn := hide (hR.less (Nat.le_of_lt (Array.getElem?_eq_some_iff.1 (unhide Sn).at_).1))
          clear hR
          replace Bn := hide ((unhide Bn).trans (hbN.mono (Nat.le_of_lt (Array.getElem?_eq_some_iff.1 (unhide Sn).at_).1)))
          replace Sn := hide ((unhide Sn).below hbN)
          replace X2 := hide ((hbN.block _ (Array.getElem?_eq_some_iff.1 (unhide X2)).1).trans (unhide X2))
          replace X3 := hide (box_below (unhide X3) hbN)
          replace Tn := hide ((unhide Tn).below hbN)
          replace Dn := hide (dirs_below (unhide Dn) hbN)
          replace Pn := hide ((unhide Pn).below hbN)
          replace X6 := hide (box_below (unhide X6) hbN)
          clear hbN
          refine hK.out _ _ ⟨(unhide Sn).box, fun _ => trivial, fun _ => trivial⟩ (fun hc hS => ?_)
          clear hK K
          refine anyL_one (i := 7) (o := o4_7) (by kernel_rfl) rfl hc ?_
          intro K hK
          simp only [o4_7]
          go_simp
          have hbN := (Below.refl _ W_4).alloc (Nat.le_refl _) (.cells #[.pointer none] 50)
          have X5 := hide (box_new W_4 (.pointer none) 50)
          have G5 := hide (Nat.le_of_lt (Array.getElem?_eq_some_iff.1 (unhide Sn).at_).1)
          replace Bn := hide ((unhide Bn).trans (hbN.mono (Nat.le_of_lt (Array.getElem?_eq_some_iff.1 (unhide Sn).at_).1)))
          replace Sn := hide ((unhide Sn).below hbN)
          replace X2 := hide ((hbN.block _ (Array.getElem?_eq_some_iff.1 (unhide X2)).1).trans (unhide X2))
          replace X3 := hide (box_below (unhide X3) hbN)
          replace Tn := hide ((unhide Tn).below hbN)
          replace Dn := hide (dirs_below (unhide Dn) hbN)
          replace Pn := hide ((unhide Pn).below hbN)
          replace Rn := hide ((unhide Rn).below hbN)
          replace X6 := hide (box_below (unhide X6) hbN)
          generalize W_4.heap.size = b5 at *
          generalize W_4.alloc (.cells #[.pointer none] 50) = W_5 at *
          clear hbN
          refine hK.out _ _ ⟨(unhide Sn).box, fun _ => trivial, fun _ => trivial⟩ (fun hc hS => ?_)
          clear hK K
          have s9 := (unhide Sn).at_
          have M9 := hide (Mid.of s9 (unhide X2) (unhide X3) (unhide X5) (unhide X6) (unhide Rn) (unhide Pn) (unhide Qn) hm (unhide Tn) (fun _ hx => Nat.lt_of_lt_of_le hx (unhide G4)) (unhide G5) (unhide G6) (unhide Bn))
          exact tail4 (by kernel_rfl) hc s9 (unhide X5) (unhide X6) (unhide Rn).slice ⟨rfl, _, _, _, _, _, _, _, _, _, _, rfl, M9⟩
        · intro K hK
          simp only [o4_7]
          go_simp
          have hbN := (Below.refl _ W_3).alloc (Nat.le_refl _) (.cells #[.pointer none] 50)
          have X5 := hide (box_new W_3 (.pointer none) 50)
          have G5 := hide (Nat.le_of_lt (Array.getElem?_eq_some_iff.1 (unhide Sn).at_).1)
          replace Bn := hide ((unhide Bn).trans (hbN.mono (Nat.le_of_lt (Array.getElem?_eq_some_iff.1 (unhide Sn).at_).1)))
          replace Sn := hide ((unhide Sn).below hbN)
          replace X2 := hide ((hbN.block _ (Array.getElem?_eq_some_iff.1 (unhide X2)).1).trans (unhide X2))
          replace X3 := hide (box_below (unhide X3) hbN)
          replace Tn := hide ((unhide Tn).below hbN)
          replace Dn := hide (dirs_below (unhide Dn) hbN)
          replace Pn := hide ((unhide Pn).below hbN)
          replace X6 := hide (box_below (unhide X6) hbN)
          generalize W_3.heap.size = b5 at *
          generalize W_3.alloc (.cells #[.pointer none] 50) = W_4 at *
          clear hbN
          refine hK.out _ _ ⟨(unhide Sn).box, fun _ => trivial, fun _ => trivial⟩ (fun hc hS => ?_)
          clear hK K
          refine anyL_one (i := 6) (o := o4_6) (by kernel_rfl) rfl hc ?_
          intro K hK
          simp only [o4_6]
          go_simp
          refine (restsOk (cap := cap) h64 (unhide hO) hL W_4 (unhide Sn).sino).mono ?_
          rintro e W_5 ⟨vr, gr, cr, rfl, hR, hbN⟩
          have Rn := hide (hR.less (Nat.le_of_lt (Array.getElem?_eq_some_iff.1 (unhide Sn).at_).1))
          clear hR
          replace Bn := hide ((unhide Bn).trans (hbN.mono (Nat.le_of_lt (Array.getElem?_eq_some_iff.1 (unhide Sn).at_).1)))
          replace Sn := hide ((unhide Sn).below hbN)
          replace X2 := hide ((hbN.block _ (Array.getElem?_eq_some_iff.1 (unhide X2)).1).trans (unhide X2))
          replace X3 := hide (box_below (unhide X3) hbN)
          replace Tn := hide ((unhide Tn).below hbN)
          replace Dn := hide (dirs_below (unhide Dn) hbN)
          replace Pn := hide ((unhide Pn).below hbN)
          replace X5 := hide (box_below (unhide X5) hbN)
          replace X6 := hide (box_below (unhide X6) hbN)
          clear hbN
          refine hK.out _ _ ⟨(unhide Sn).box, fun _ => trivial, fun _ => trivial⟩ (fun hc hS => ?_)
          clear hK K
          have s9 := (unhide Sn).at_
          have M9 := hide (Mid.of s9 (unhide X2) (unhide X3) (unhide X5) (unhide X6) (unhide Rn) (unhide Pn) (unhide Qn) hm (unhide Tn) (fun _ hx => Nat.lt_of_lt_of_le hx (unhide G4)) (unhide G5) (unhide G6) (unhide Bn))
          exact tail4 (by kernel_rfl) hc s9 (unhide X5) (unhide X6) (unhide Rn).slice ⟨rfl, _, _, _, _, _, _, _, _, _, _, rfl, M9⟩
      · intro K hK
        simp only [o4_7]
        go_simp
        have hbN := (Below.refl _ W_2).alloc (Nat.le_refl _) (.cells #[.pointer none] 50)
        have X5 := hide (box_new W_2 (.pointer none) 50)
        have G5 := hide (Nat.le_of_lt (Array.getElem?_eq_some_iff.1 (unhide Sn).at_).1)
        replace Bn := hide ((unhide Bn).trans (hbN.mono (Nat.le_of_lt (Array.getElem?_eq_some_iff.1 (unhide Sn).at_).1)))
        replace Sn := hide ((unhide Sn).below hbN)
        replace X2 := hide ((hbN.block _ (Array.getElem?_eq_some_iff.1 (unhide X2)).1).trans (unhide X2))
        replace X3 := hide (box_below (unhide X3) hbN)
        replace Tn := hide ((unhide Tn).below hbN)
        replace Dn := hide (dirs_below (unhide Dn) hbN)
        replace X6 := hide (box_below (unhide X6) hbN)
        generalize W_2.heap.size = b5 at *
        generalize W_2.alloc (.cells #[.pointer none] 50) = W_3 at *
        clear hbN
        refine hK.out _ _ ⟨(unhide Sn).box, fun _ => trivial, fun _ => trivial⟩ (fun hc hS => ?_)
        clear hK K
        refine anyL_one (i := 4) (o := o4_4) (by kernel_rfl) rfl hc ?_
        intro K hK
        simp only [o4_4]
        go_simp
        refine (untouchedOk (cap := L.length) hn h64 hL (unhide hO) W_3 (unhide Dn)).mono ?_
        rintro e W_4 ⟨V, v, m, f, rfl, hP, hQ, hm, hbN⟩
        have Pn := hide (hP)
        have G4 := hide (Nat.le_of_lt (Array.getElem?_eq_some_iff.1 (unhide Sn).at_).1)
        have Qn := hide hQ
        clear hP hQ
        replace Bn := hide ((unhide Bn).trans (hbN.mono (Nat.le_of_lt (Array.getElem?_eq_some_iff.1 (unhide Sn).at_).1)))
        replace Sn := hide ((unhide Sn).below hbN)
        replace X2 := hide ((hbN.block _ (Array.getElem?_eq_some_iff.1 (unhide X2)).1).trans (unhide X2))
        replace X3 := hide (box_below (unhide X3) hbN)
        replace Tn := hide ((unhide Tn).below hbN)
        replace Dn := hide (dirs_below (unhide Dn) hbN)
        replace X5 := hide (box_below (unhide X5) hbN)
        replace X6 := hide (box_below (unhide X6) hbN)
        clear hbN
        refine hK.out _ _ ⟨(unhide Sn).box, fun _ => trivial, fun _ => trivial⟩ (fun hc hS => ?_)
        clear hK K
        refine anyL_one (i := 6) (o := o4_6) (by kernel_rfl) rfl hc ?_
        intro K hK
        simp only [o4_6]
        go_simp
        refine (restsOk (cap := cap) h64 (unhide hO) hL W_4 (unhide Sn).sino).mono ?_
        rintro e W_5 ⟨vr, gr, cr, rfl, hR, hbN⟩
        have Rn := hide (hR.less (Nat.le_of_lt (Array.getElem?_eq_some_iff.1 (unhide Sn).at_).1))
        clear hR
        replace Bn := hide ((unhide Bn).trans (hbN.mono (Nat.le_of_lt (Array.getElem?_eq_some_iff.1 (unhide Sn).at_).1)))
        replace Sn := hide ((unhide Sn).below hbN)
        replace X2 := hide ((hbN.block _ (Array.getElem?_eq_some_iff.1 (unhide X2)).1).trans (unhide X2))
        replace X3 := hide (box_below (unhide X3) hbN)
        replace Tn := hide ((unhide Tn).below hbN)
        replace Dn := hide (dirs_below (unhide Dn) hbN)
        replace Pn := hide ((unhide Pn).below hbN)
        replace X5 := hide (box_below (unhide X5) hbN)
        replace X6 := hide (box_below (unhide X6) hbN)
        clear hbN
        refine hK.out _ _ ⟨(unhide Sn).box, fun _ => trivial, fun _ => trivial⟩ (fun hc hS => ?_)
        clear hK K
        have s9 := (unhide Sn).at_
        have M9 := hide (Mid.of s9 (unhide X2) (unhide X3) (unhide X5) (unhide X6) (unhide Rn) (unhide Pn) (unhide Qn) hm (unhide Tn) (fun _ hx => Nat.lt_of_lt_of_le hx (unhide G4)) (unhide G5) (unhide G6) (unhide Bn))
        exact tail4 (by kernel_rfl) hc s9 (unhide X5) (unhide X6) (unhide Rn).slice ⟨rfl, _, _, _, _, _, _, _, _, _, _, rfl, M9⟩
  · intro K hK
    simp only [o4_7]
    go_simp
    have hbN := (Below.refl _ Wc).alloc (Nat.le_refl _) (.cells #[.pointer none] 50)
    have X5 := hide (box_new Wc (.pointer none) 50)
    have G5 := hide (Nat.le_of_lt (Array.getElem?_eq_some_iff.1 (unhide Sn).at_).1)
    replace Bn := hide ((unhide Bn).trans (hbN.mono (Nat.le_of_lt (Array.getElem?_eq_some_iff.1 (unhide Sn).at_).1)))
    replace Sn := hide ((unhide Sn).below hbN)
    replace X2 := hide ((hbN.block _ (Array.getElem?_eq_some_iff.1 (unhide X2)).1).trans (unhide X2))
    replace X3 := hide (box_below (unhide X3) hbN)
    generalize Wc.heap.size = b5 at *
    generalize Wc.alloc (.cells #[.pointer none] 50) = W_1 at *
    clear hbN
    refine hK.out _ _ ⟨(unhide Sn).box, fun _ => trivial, fun _ => trivial⟩ (fun hc hS => ?_)
    clear hK K
    refine anyL_two (i := 3) (j := 8) (o := o4_3) (o' := o4_8) (by kernel_rfl) rfl rfl hc ?_ ?_
    · intro K hK
      simp only [o4_3]
      go_simp
      refine (sinoDirs (cap := cap) hL W_1 (unhide Sn).sino).mono ?_
      rintro e W_2 ⟨gd, rfl, _, hD, hT, hbN⟩
      have Dn := hide hD
      have Tn := hide hT
      clear hD hT
      replace Bn := hide ((unhide Bn).trans (hbN.mono (Nat.le_of_lt (Array.getElem?_eq_some_iff.1 (unhide Sn).at_).1)))
      replace Sn := hide ((unhide Sn).below hbN)
      replace X2 := hide ((hbN.block _ (Array.getElem?_eq_some_iff.1 (unhide X2)).1).trans (unhide X2))
      replace X3 := hide (box_below (unhide X3) hbN)
      replace X5 := hide (box_below (unhide X5) hbN)
      clear hbN
      refine hK.out _ _ ⟨(unhide Sn).box, fun _ => trivial, fun _ => trivial⟩ (fun hc hS => ?_)
      clear hK K
      refine anyL_two (i := 4) (j := 8) (o := o4_4) (o' := o4_8) (by kernel_rfl) rfl rfl hc ?_ ?_
      · intro K hK
        simp only [o4_4]
        go_simp
        refine (untouchedOk (cap := L.length) hn h64 hL (unhide hO) W_2 (unhide Dn)).mono ?_
        rintro e W_3 ⟨V, v, m, f, rfl, hP, hQ, hm, hbN⟩
        have Pn := hide (hP)
        have G4 := hide (Nat.le_of_lt (Array.getElem?_eq_some_iff.1 (unhide Sn).at_).1)
        have Qn := hide hQ
        clear hP hQ
        replace Bn := hide ((unhide Bn).trans (hbN.mono (Nat.le_of_lt (Array.getElem?_eq_some_iff.1 (unhide Sn).at_).1)))
        replace Sn := hide ((unhide Sn).below hbN)
        replace X2 := hide ((hbN.block _ (Array.getElem?_eq_some_iff.1 (unhide X2)).1).trans (unhide X2))
        replace X3 := hide (box_below (unhide X3) hbN)
        replace Tn := hide ((unhide Tn).below hbN)
        replace Dn := hide (dirs_below (unhide Dn) hbN)
        replace X5 := hide (box_below (unhide X5) hbN)
        clear hbN
        refine hK.out _ _ ⟨(unhide Sn).box, fun _ => trivial, fun _ => trivial⟩ (fun hc hS => ?_)
        clear hK K
        refine anyL_two (i := 6) (j := 8) (o := o4_6) (o' := o4_8) (by kernel_rfl) rfl rfl hc ?_ ?_
        · intro K hK
          simp only [o4_6]
          go_simp
          refine (restsOk (cap := cap) h64 (unhide hO) hL W_3 (unhide Sn).sino).mono ?_
          rintro e W_4 ⟨vr, gr, cr, rfl, hR, hbN⟩
          have Rn := hide (hR.less (Nat.le_of_lt (Array.getElem?_eq_some_iff.1 (unhide Sn).at_).1))
          clear hR
          replace Bn := hide ((unhide Bn).trans (hbN.mono (Nat.le_of_lt (Array.getElem?_eq_some_iff.1 (unhide Sn).at_).1)))
          replace Sn := hide ((unhide Sn).below hbN)
          replace X2 := hide ((hbN.block _ (Array.getElem?_eq_some_iff.1 (unhide X2)).1).trans (unhide X2))
          replace X3 := hide (box_below (unhide X3) hbN)
          replace Tn := hide ((unhide Tn).below hbN)
          replace Dn := hide (dirs_below (unhide Dn) hbN)
          replace Pn := hide ((unhide Pn).below hbN)
          replace X5 := hide (box_below (unhide X5) hbN)
          clear hbN
          refine hK.out _ _ ⟨(unhide Sn).box, fun _ => trivial, fun _ => trivial⟩ (fun hc hS => ?_)
          clear hK K
          refine anyL_one (i := 8) (o := o4_8) (by kernel_rfl) rfl hc ?_
          intro K hK
          simp only [o4_8]
          go_simp
          have hbN := (Below.refl _ W_4).alloc (Nat.le_refl _) (.cells #[.slice none 0 0] 65)
          have X6 := hide (box_new W_4 (.slice none 0 0) 65)
          have G6 := hide (Nat.le_of_lt (Array.getElem?_eq_some_iff.1 (unhide Sn).at_).1)
          replace Bn := hide ((unhide Bn).trans (hbN.mono (Nat.le_of_lt (Array.getElem?_eq_some_iff.1 (unhide Sn).at_).1)))
          replace Sn := hide ((unhide Sn).below hbN)
          replace X2 := hide ((hbN.block _ (Array.getElem?_eq_some_iff.1 (unhide X2)).1).trans (unhide X2))
          replace X3 := hide (box_below (unhide X3) hbN)
          replace Tn := hide ((unhide Tn).below hbN)
          replace Dn := hide (dirs_below (unhide Dn) hbN)
          replace Pn := hide ((unhide Pn).below hbN)
          replace Rn := hide ((unhide Rn).below hbN)
          replace X5 := hide (box_below (unhide X5) hbN)
          generalize W_4.heap.size = b6 at *
          generalize W_4.alloc (.cells #[.slice none 0 0] 65) = W_5 at *
          clear hbN
          refine hK.out _ _ ⟨(unhide Sn).box, fun _ => trivial, fun _ => trivial⟩ (fun hc hS => ?_)
          clear hK K
          have s9 := (unhide Sn).at_
          have M9 := hide (Mid.of s9 (unhide X2) (unhide X3) (unhide X5) (unhide X6) (unhide Rn) (unhide Pn) (unhide Qn) hm (unhide Tn) (fun _ hx => Nat.lt_of_lt_of_le hx (unhide G4)) (unhide G5) (unhide G6) (unhide Bn))
          exact tail4 (by kernel_rfl) hc s9 (unhide X5) (unhide X6) (unhide Rn).slice ⟨rfl, _, _, _, _, _, _, _, _, _, _, rfl, M9⟩
        · intro K hK
          simp only [o4_8]
          go_simp
          have hbN := (Below.refl _ W_3).alloc (Nat.le_refl _) (.cells #[.slice none 0 0] 65)
          have X6 := hide (box_new W_3 (.slice none 0 0) 65)
          have G6 := hide (Nat.le_of_lt (Array.getElem?_eq_some_iff.1 (unhide Sn).at_).1)
          replace Bn := hide ((unhide Bn).trans (hbN.mono (Nat.le_of_lt (Array.getElem?_eq_some_iff.1 (unhide Sn).at_).1)))
          replace Sn := hide ((unhide Sn).below hbN)
          replace X2 := hide ((hbN.block _ (Array.getElem?_eq_some_iff.1 (unhide X2)).1).trans (unhide X2))
          replace X3 := hide (box_below (unhide X3) hbN)
          replace Tn := hide ((unhide Tn).below hbN)
          replace Dn := hide (dirs_below (unhide Dn) hbN)
          replace Pn := hide ((unhide Pn).below hbN)
          replace X5 := hide (box_below (unhide X5) hbN)
          generalize W_3.heap.size = b6 at *
          generalize W_3.alloc (.cells #[.slice none 0 0] 65) = W_4 at *
          clear hbN
          refine hK.out _ _ ⟨(unhide Sn).box, fun _ => trivial, fun _ => trivial⟩ (fun hc hS => ?_)
          clear hK K
          refine anyL_one (i := 6) (o := o4_6) (by kernel_rfl) rfl hc ?_
          intro K hK
          simp only [o4_6]
          go_simp
          refine (restsOk (cap := cap) h64 (unhide hO) hL W_4 (unhide Sn).sino).mono ?_
          rintro e W_5 ⟨vr, gr, cr, rfl, hR, hbN⟩
          have Rn := hide (hR.less (Nat.le_of_lt (Array.getElem?_eq_some_iff.1 (unhide Sn).at_).1))
          clear hR
          replace Bn := hide ((unhide Bn).trans (hbN.mono (Nat.le_of_lt (Array.getElem?_eq_some_iff.1 (unhide Sn).at_).1)))
          replace Sn := hide ((unhide Sn).below hbN)
          replace X2 := hide ((hbN.block _ (Array.getElem?_eq_some_iff.1 (unhide X2)).1).trans (unhide X2))
          replace X3 := hide (box_below (unhide X3) hbN)
          replace Tn := hide ((unhide Tn).below hbN)
          replace Dn := hide (dirs_below (unhide Dn) hbN)
          replace Pn := hide ((unhide Pn).below hbN)
          replace X5 := hide (box_below (unhide X5) hbN)
          replace X6 := hide (box_below (unhide X6) hbN)
          clear hbN
          refine hK.out _ _ ⟨(unhide Sn).box, fun _ => trivial, fun _ => trivial⟩ (fun hc hS => ?_)
          clear hK K
          have s9 := (unhide Sn).at_
          have M9 := hide (Mid.of s9 (unhide X2) (unhide X3) (unhide X5) (unhide X6) (unhide Rn) (unhide Pn) (unhide Qn) hm (unhide Tn) (fun _ hx => Nat.lt_of_lt_of_le hx (unhide G4)) (unhide G5) (unhide G6) (unhide Bn))
          exact tail4 (by kernel_rfl) hc s9 (unhide X5) (unhide X6) (unhide Rn).slice ⟨rfl, _, _, _, _, _, _, _, _, _, _, rfl, M9⟩
      · intro K hK
        simp only [o4_8]
        go_simp
        have hbN := (Below.refl _ W_2).alloc (Nat.le_refl _) (.cells #[.slice none 0 0] 65)
        have X6 := hide (box_new W_2 (.slice none 0 0) 65)
        have G6 := hide (Nat.le_of_lt (Array.getElem?_eq_some_iff.1 (unhide Sn).at_).1)
        replace Bn := hide ((unhide Bn).trans (hbN.mono (Nat.le_of_lt (Array.getElem?_eq_some_iff.1 (unhide Sn).at_).1)))
        replace Sn := hide ((unhide Sn).below hbN)
        replace X2 := hide ((hbN.block _ (Array.getElem?_eq_some_iff.1 (unhide X2)).1).trans (unhide X2))
        replace X3 := hide (box_below (unhide X3) hbN)
        replace Tn := hide ((unhide Tn).below hbN)
        replace Dn := hide (dirs_below (unhide Dn) hbN)
        replace X5 := hide (box_below (unhide X5) hbN)
        generalize W_2.heap.size = b6 at *
        generalize W_2.alloc (.cells #[.slice none 0 0] 65) = W_3 at *
        clear hbN
        refine hK.out _ _ ⟨(unhide Sn).box, fun _ => trivial, fun _ => trivial⟩ (fun hc hS => ?_)
        clear hK K
        refine anyL_one (i := 4) (o := o4_4) (by kernel_rfl) rfl hc ?_
        intro K hK
        simp only [o4_4]
        go_simp
        refine (untouchedOk (cap := L.length) hn h64 hL (unhide hO) W_3 (unhide Dn)).mono ?_
        rintro e W_4 ⟨V, v, m, f, rfl, hP, hQ, hm, hbN⟩
        have Pn := hide (hP)
        have G4 := hide (Nat.le_of_lt (Array.getElem?_eq_some_iff.1 (unhide Sn).at_).1)
        have Qn := hide hQ
        clear hP hQ
        replace Bn := hide ((unhide Bn).trans (hbN.mono (Nat.le_of_lt (Array.getElem?_eq_some_iff.1 (unhide Sn).at_).1)))
        replace Sn := hide ((unhide Sn).below hbN)
        replace X2 := hide ((hbN.block _ (Array.getElem?_eq_some_iff.1 (unhide X2)).1).trans (unhide X2))
        replace X3 := hide (box_below (unhide X3) hbN)
        replace Tn := hide ((unhide Tn).below hbN)
        replace Dn := hide (dirs_below (unhide Dn) hbN)
        replace X5 := hide (box_below (unhide X5) hbN)
        replace X6 := hide (box_below (unhide X6) hbN)
        clear hbN
        refine hK.out _ _ ⟨(unhide Sn).box, fun _ => trivial, fun _ => trivial⟩ (fun hc hS => ?_)
        clear hK K
        refine anyL_one (i := 6) (o := o4_6) (by kernel_rfl) rfl hc ?_
        intro K hK
        simp only [o4_6]
        go_simp
        refine (restsOk (cap := cap) h64 (unhide hO) hL W_4 (unhide Sn).sino).mono ?_
        rintro e W_5 ⟨vr, gr, cr, rfl, hR, hbN⟩
        have Rn := hide (hR.less (Nat.le_of_lt (Array.getElem?_eq_some_iff.1 (unhide Sn).at_).1))
        clear hR
        replace Bn := hide ((unhide Bn).trans (hbN.mono (Nat.le_of_lt (Array.getElem?_eq_some_iff.1 (unhide Sn).at_).1)))
        replace Sn := hide ((unhide Sn).below hbN)
        replace X2 := hide ((hbN.block _ (Array.getElem?_eq_some_iff.1 (unhide X2)).1).trans (unhide X2))
        replace X3 := hide (box_below (unhide X3) hbN)
        replace Tn := hide ((unhide Tn).below hbN)
        replace Dn := hide (dirs_below (unhide Dn) hbN)
        replace Pn := hide ((unhide Pn).below hbN)
        replace X5 := hide (box_below (unhide X5) hbN)
        replace X6 := hide (box_below (unhide X6) hbN)
        clear hbN
        refine hK.out _ _ ⟨(unhide Sn).box, fun _ => trivial, fun _ => trivial⟩ (fun hc hS => ?_)
        clear hK K
        have s9 := (unhide Sn).at_
        have M9 := hide (Mid.of s9 (unhide X2) (unhide X3) (unhide X5) (unhide X6) (unhide Rn) (unhide Pn) (unhide Qn) hm (unhide Tn) (fun _ hx => Nat.lt_of_lt_of_le hx (unhide G4)) (unhide G5) (unhide G6) (unhide Bn))
        exact tail4 (by kernel_rfl) hc s9 (unhide X5) (unhide X6) (unhide Rn).slice ⟨rfl, _, _, _, _, _, _, _, _, _, _, rfl, M9⟩
    · intro K hK
      simp only [o4_8]
      go_simp
      have hbN := (Below.refl _ W_1).alloc (Nat.le_refl _) (.cells #[.slice none 0 0] 65)
      have X6 := hide (box_new W_1 (.slice none 0 0) 65)
      have G6 := hide (Nat.le_of_lt (Array.getElem?_eq_some_iff.1 (unhide Sn).at_).1)
      replace Bn := hide ((unhide Bn).trans (hbN.mono (Nat.le_of_lt (Array.getElem?_eq_some_iff.1 (unhide Sn).at_).1)))
      replace Sn := hide ((unhide Sn).below hbN)
      replace X2 := hide ((hbN.block _ (Array.getElem?_eq_some_iff.1 (unhide X2)).1).trans (unhide X2))
      replace X3 := hide (box_below (unhide X3) hbN)
      replace X5 := hide (box_below (unhide X5) hbN)
      generalize W_1.heap.size = b6 at *
      generalize W_1.alloc (.cells #[.slice none 0 0] 65) = W_2 at *
      clear hbN
      refine hK.out _ _ ⟨(unhide Sn).box, fun _ => trivial, fun _ => trivial⟩ (fun hc hS => ?_)
      clear hK K
      refine anyL_one (i := 3) (o := o4_3) (by kernel_rfl) rfl hc ?_
      intro K hK
      simp only [o4_3]
      go_simp
      refine (sinoDirs (cap := cap) hL W_2 (unhide Sn).sino).mono ?_
      rintro e W_3 ⟨gd, rfl, _, hD, hT, hbN⟩
      have Dn := hide hD
      have Tn := hide hT
      clear hD hT
      replace Bn := hide ((unhide Bn).trans (hbN.mono (Nat.le_of_lt (Array.getElem?_eq_some_iff.1 (unhide Sn).at_).1)))
      replace Sn := hide ((unhide Sn).below hbN)
      replace X2 := hide ((hbN.block _ (Array.getElem?_eq_some_iff.1 (unhide X2)).1).trans (unhide X2))
      replace X3 := hide (box_below (unhide X3) hbN)
      replace X5 := hide (box_below (unhide X5) hbN)
      replace X6 := hide (box_below (unhide X6) hbN)
      clear hbN
      refine hK.out _ _ ⟨(unhide Sn).box, fun _ => trivial, fun _ => trivial⟩ (fun hc hS => ?_)
      clear hK K
      refine anyL_one (i := 4) (o := o4_4) (by kernel_rfl) rfl hc ?_
      intro K hK
      simp only [o4_4]
      go_simp
      refine (untouchedOk (cap := L.length) hn h64 hL (unhide hO) W_3 (unhide Dn)).mono ?_
      rintro e W_4 ⟨V, v, m, f, rfl, hP, hQ, hm, hbN⟩
      have Pn := hide (hP)
      have G4 := hide (Nat.le_of_lt (Array.getElem?_eq_some_iff.1 (unhide Sn).at_).1)
      have Qn := hide hQ
      clear hP hQ
      replace Bn := hide ((unhide Bn).trans (hbN.mono (Nat.le_of_lt (Array.getElem?_eq_some_iff.1 (unhide Sn).at_).1)))
      replace Sn := hide ((unhide Sn).below hbN)
      replace X2 := hide ((hbN.block _ (Array.getElem?_eq_some_iff.1 (unhide X2)).1).trans (unhide X2))
      replace X3 := hide (box_below (unhide X3) hbN)
      replace Tn := hide ((unhide Tn).below hbN)
      replace Dn := hide (dirs_below (unhide Dn) hbN)
      replace X5 := hide (box_below (unhide X5) hbN)
      replace X6 := hide (box_below (unhide X6) hbN)
      clear hbN
      refine hK.out _ _ ⟨(unhide Sn).box, fun _ => trivial, fun _ => trivial⟩ (fun hc hS => ?_)
      clear hK K
      refine anyL_one (i := 6) (o := o4_6) (by kernel_rfl) rfl hc ?_
      intro K hK
      simp only [o4_6]
      go_simp
      refine (restsOk (cap := cap) h64 (unhide hO) hL W_4 (unhide Sn).sino).mono ?_
      rintro e W_5 ⟨vr, gr, cr, rfl, hR, hbN⟩
      have Rn := hide (hR.less (Nat.le_of_lt (Array.getElem?_eq_some_iff.1 (unhide Sn).at_).1))
      clear hR
      replace Bn := hide ((unhide Bn).trans (hbN.mono (Nat.le_of_lt (Array.getElem?_eq_some_iff.1 (unhide Sn).at_).1)))
      replace Sn := hide ((unhide Sn).below hbN)
      replace X2 := hide ((hbN.block _ (Array.getElem?_eq_some_iff.1 (unhide X2)).1).trans (unhide X2))
      replace X3 := hide (box_below (unhide X3) hbN)
      replace Tn := hide ((unhide Tn).below hbN)
      replace Dn := hide (dirs_below (unhide Dn) hbN)
      replace Pn := hide ((unhide Pn).below hbN)
      replace X5 := hide (box_below (unhide X5) hbN)
      replace X6 := hide (box_below (unhide X6) hbN)
      clear hbN
      refine hK.out _ _ ⟨(unhide Sn).box, fun _ => trivial, fun _ => trivial⟩ (fun hc hS => ?_)
      clear hK K
      have s9 := (unhide Sn).at_
      have M9 := hide (Mid.of s9 (unhide X2) (unhide X3) (unhide X5) (unhide X6) (unhide Rn) (unhide Pn) (unhide Qn) hm (unhide Tn) (fun _ hx => Nat.lt_of_lt_of_le hx (unhide G4)) (unhide G5) (unhide G6) (unhide Bn))
      exact tail4 (by kernel_rfl) hc s9 (unhide X5) (unhide X6) (unhide Rn).slice ⟨rfl, _, _, _, _, _, _, _, _, _, _, rfl, M9⟩
  · intro K hK
    simp only [o4_8]
    go_simp
    have hbN := (Below.refl _ Wc).alloc (Nat.le_refl _) (.cells #[.slice none 0 0] 65)
    have X6 := hide (box_new Wc (.slice none 0 0) 65)
    have G6 := hide (Nat.le_of_lt (Array.getElem?_eq_some_iff.1 (unhide Sn).at_).1)
    replace Bn := hide ((unhide Bn).trans (hbN.mono (Nat.le_of_lt (Array.getElem?_eq_some_iff.1 (unhide Sn).at_).1)))
    replace Sn := hide ((unhide Sn).below hbN)
    replace X2 := hide ((hbN.block _ (Array.getElem?_eq_some_iff.1 (unhide X2)).1).trans (unhide X2))
    replace X3 := hide (box_below (unhide X3) hbN)
    generalize Wc.heap.size = b6 at *
    generalize Wc.alloc (.cells #[.slice none 0 0] 65) = W_1 at *
    clear hbN
    refine hK.out _ _ ⟨(unhide Sn).box, fun _ => trivial, fun _ => trivial⟩ (fun hc hS => ?_)
    clear hK K
    refine anyL_two (i := 3) (j := 7) (o := o4_3) (o' := o4_7) (by kernel_rfl) rfl rfl hc ?_ ?_
    · intro K hK
      simp only [o4_3]
      go_simp
      refine (sinoDirs (cap := cap) hL W_1 (unhide Sn).sino).mono ?_
      rintro e W_2 ⟨gd, rfl, _, hD, hT, hbN⟩
      have Dn := hide hD
      have Tn := hide hT
      clear hD hT
      replace Bn := hide ((unhide Bn).trans (hbN.mono (Nat.le_of_lt (Array.getElem?_eq_some_iff.1 (unhide Sn).at_).1)))
      replace Sn := hide ((unhide Sn).below hbN)
      replace X2 := hide ((hbN.block _ (Array.getElem?_eq_some_iff.1 (unhide X2)).1).trans (unhide X2))
      replace X3 := hide (box_below (unhide X3) hbN)
      replace X6 := hide (box_below (unhide X6) hbN)
      clear hbN
      refine hK.out _ _ ⟨(unhide Sn).box, fun _ => trivial, fun _ => trivial⟩ (fun hc hS => ?_)
      clear hK K
      refine anyL_two (i := 4) (j := 7) (o := o4_4) (o' := o4_7) (by kernel_rfl) rfl rfl hc ?_ ?_
      · intro K hK
        simp only [o4_4]
        go_simp
        refine (untouchedOk (cap := L.length) hn h64 hL (unhide hO) W_2 (unhide Dn)).mono ?_
        rintro e W_3 ⟨V, v, m, f, rfl, hP, hQ, hm, hbN⟩
        have Pn := hide (hP)
        have G4 := hide (Nat.le_of_lt (Array.getElem?_eq_some_iff.1 (unhide Sn).at_).1)
        have Qn := hide hQ
        clear hP hQ
        replace Bn := hide ((unhide Bn).trans (hbN.mono (Nat.le_of_lt (Array.getElem?_eq_some_iff.1 (unhide Sn).at_).1)))
        replace Sn := hide ((unhide Sn).below hbN)
        replace X2 := hide ((hbN.block _ (Array.getElem?_eq_some_iff.1 (unhide X2)).1).trans (unhide X2))
        replace X3 := hide (box_below (unhide X3) hbN)
        replace Tn := hide ((unhide Tn).below hbN)
        replace Dn := hide (dirs_below (unhide Dn) hbN)
        replace X6 := hide (box_below (unhide X6) hbN)
        clear hbN
        refine hK.out _ _ ⟨(unhide Sn).box, fun _ => trivial, fun _ => trivial⟩ (fun hc hS => ?_)
        clear hK K
        refine anyL_two (i := 6) (j := 7) (o := o4_6) (o' := o4_7) (by kernel_rfl) rfl rfl hc ?_ ?_
        · intro K hK
          simp only [o4_6]
          go_simp
          refine (restsOk (cap := cap) h64 (unhide hO) hL W_3 (unhide Sn).sino).mono ?_
          rintro e W_4 ⟨vr, gr, cr, rfl, hR, hbN⟩
          have Rn := hide (hR.less (Nat.le_of_lt (Array.getElem?_eq_some_iff.1 (unhide Sn).at_).1))
          clear hR
          replace Bn := hide ((unhide Bn).trans (hbN.mono (Nat.le_of_lt (Array.getElem?_eq_some_iff.1 (unhide Sn).at_).1)))
          replace Sn := hide ((unhide Sn).below hbN)
          replace X2 := hide ((hbN.block _ (Array.getElem?_eq_some_iff.1 (unhide X2)).1).trans (unhide X2))
          replace X3 := hide (box_below (unhide X3) hbN)
          replace Tn := hide ((unhide Tn).below hbN)
          replace Dn := hide (dirs_below (unhide Dn) hbN)
          replace Pn := hide ((unhide Pn).below hbN)
          replace X6 := hide (box_below (unhide X6) hbN)
          clear hbN
          refine hK.out _ _ ⟨(unhide Sn).box, fun _ => trivial, fun _ => trivial⟩ (fun hc hS => ?_)
          clear hK K
          refine anyL_one (i := 7) (o := o4_7) (by kernel_rfl) rfl hc ?_
          intro K hK
          simp only [o4_7]
          go_simp
          have hbN := (Below.refl _ W_4).alloc (Nat.le_refl _) (.cells #[.pointer none] 50)
          have X5 := hide (box_new W_4 (.pointer none) 50)
          have G5 := hide (Nat.le_of_lt (Array.getElem?_eq_some_iff.1 (unhide Sn).at_).1)
          replace Bn := hide ((unhide Bn).trans (hbN.mono (Nat.le_of_lt (Array.getElem?_eq_some_iff.1 (unhide Sn).at_).1)))
          replace Sn := hide ((unhide Sn).below hbN)
          replace X2 := hide ((hbN.block _ (Array.getElem?_eq_some_iff.1 (unhide X2)).1).trans (unhide X2))
          replace X3 := hide (box_below (unhide X3) hbN)
          replace Tn := hide ((unhide Tn).below hbN)
          replace Dn := hide (dirs_below (unhide Dn) hbN)
          replace Pn := hide ((unhide Pn).below hbN)
          replace Rn := hide ((unhide Rn).below hbN)
          replace X6 := hide (box_below (unhide X6) hbN)
          generalize W_4.heap.size = b5 at *
          generalize W_4.alloc (.cells #[.pointer none] 50) = W_5 at *
          clear hbN
          refine hK.out _ _ ⟨(unhide Sn).box, fun _ => trivial, fun _ => trivial⟩ (fun hc hS => ?_)
          clear hK K
          have s9 := (unhide Sn).at_
          have M9 := hide (Mid.of s9 (unhide X2) (unhide X3) (unhide X5) (unhide X6) (unhide Rn) (unhide Pn) (unhide Qn) hm (unhide Tn) (fun _ hx => Nat.lt_of_lt_of_le hx (unhide G4)) (unhide G5) (unhide G6) (unhide Bn))
          exact tail4 (by kernel_rfl) hc s9 (unhide X5) (unhide X6) (unhide Rn).slice ⟨rfl, _, _, _, _, _, _, _, _, _, _, rfl, M9⟩
        · intro K hK
          simp only [o4_7]
          go_simp
          have hbN := (Below.refl _ W_3).alloc (Nat.le_refl _) (.cells #[.pointer none] 50)
          have X5 := hide (box_new W_3 (.pointer none) 50)
          have G5 := hide (Nat.le_of_lt (Array.getElem?_eq_some_iff.1 (unhide Sn).at_).1)
          replace Bn := hide ((unhide Bn).trans (hbN.mono (Nat.le_of_lt (Array.getElem?_eq_some_iff.1 (unhide Sn).at_).1)))
          replace Sn := hide ((unhide Sn).below hbN)
          replace X2 := hide ((hbN.block _ (Array.getElem?_eq_some_iff.1 (unhide X2)).1).trans (unhide X2))
          replace X3 := hide (box_below (unhide X3) hbN)
          replace Tn := hide ((unhide Tn).below hbN)
          replace Dn := hide (dirs_below (unhide Dn) hbN)
          replace Pn := hide ((unhide Pn).below hbN)
          replace X6 := hide (box_below (unhide X6) hbN)
          generalize W_3.heap.size = b5 at *
          generalize W_3.alloc (.cells #[.pointer none] 50) = W_4 at *
          clear hbN
          refine hK.out _ _ ⟨(unhide Sn).box, fun _ => trivial, fun _ => trivial⟩ (fun hc hS => ?_)
          clear hK K
          refine anyL_one (i := 6) (o := o4_6) (by kernel_rfl) rfl hc ?_
          intro K hK
          simp only [o4_6]
          go_simp
          refine (restsOk (cap := cap) h64 (unhide hO) hL W_4 (unhide Sn).sino).mono ?_
          rintro e W_5 ⟨vr, gr, cr, rfl, hR, hbN⟩
          have Rn := hide (hR.less (Nat.le_of_lt (Array.getElem?_eq_some_iff.1 (unhide Sn).at_).1))
          clear hR
          replace Bn := hide ((unhide Bn).trans (hbN.mono (Nat.le_of_lt (Array.getElem?_eq_some_iff.1 (unhide Sn).at_).1)))
          replace Sn := hide ((unhide Sn).below hbN)
          replace X2 := hide ((hbN.block _ (Array.getElem?_eq_some_iff.1 (unhide X2)).1).trans (unhide X2))
          replace X3 := hide (box_below (unhide X3) hbN)
          replace Tn := hide ((unhide Tn).below hbN)
          replace Dn := hide (dirs_below (unhide Dn) hbN)
          replace Pn := hide ((unhide Pn).below hbN)
          replace X5 := hide (box_below (unhide X5) hbN)
          replace X6 := hide (box_below (unhide X6) hbN)
          clear hbN
          refine hK.out _ _ ⟨(unhide Sn).box, fun _ => trivial, fun _ => trivial⟩ (fun hc hS => ?_)
          clear hK K
          have s9 := (unhide Sn).at_
          have M9 := hide (Mid.of s9 (unhide X2) (unhide X3) (unhide X5) (unhide X6) (unhide Rn) (unhide Pn) (unhide Qn) hm (unhide Tn) (fun _ hx => Nat.lt_of_lt_of_le hx (unhide G4)) (unhide G5) (unhide G6) (unhide Bn))
          exact tail4 (by kernel_rfl) hc s9 (unhide X5) (unhide X6) (unhide Rn).slice ⟨rfl, _, _, _, _, _, _, _, _, _, _, rfl, M9⟩
      · intro K hK
        simp only [o4_7]
        go_simp
        have hbN := (Below.refl _ W_2).alloc (Nat.le_refl _) (.cells #[.pointer none] 50)
        have X5 := hide (box_new W_2 (.pointer none) 50)
        have G5 := hide (Nat.le_of_lt (Array.getElem?_eq_some_iff.1 (unhide Sn).at_).1)
        replace Bn := hide ((unhide Bn).trans (hbN.mono (Nat.le_of_lt (Array.getElem?_eq_some_iff.1 (unhide Sn).at_).1)))
        replace Sn := hide ((unhide Sn).below hbN)
        replace X2 := hide ((hbN.block _ (Array.getElem?_eq_some_iff.1 (unhide X2)).1).trans (unhide X2))
        replace X3 := hide (box_below (unhide X3) hbN)
        replace Tn := hide ((unhide Tn).below hbN)
        replace Dn := hide (dirs_below (unhide Dn) hbN)
        replace X6 := hide (box_below (unhide X6) hbN)
        generalize W_2.heap.size = b5 at *
        generalize W_2.alloc (.cells #[.pointer none] 50) = W_3 at *
        clear hbN
        refine hK.out _ _ ⟨(unhide Sn).box, fun _ => trivial, fun _ => trivial⟩ (fun hc hS => ?_)
        clear hK K
        refine anyL_one (i := 4) (o := o4_4) (by kernel_rfl) rfl hc ?_
        intro K hK
        simp only [o4_4]
        go_simp
        refine (untouchedOk (cap := L.length) hn h64 hL (unhide hO) W_3 (unhide Dn)).mono ?_
        rintro e W_4 ⟨V, v, m, f, rfl, hP, hQ, hm, hbN⟩
        have Pn := hide (hP)
        have G4 := hide (Nat.le_of_lt (Array.getElem?_eq_some_iff.1 (unhide Sn).at_).1)
        have Qn := hide hQ
        clear hP hQ
        replace Bn := hide ((unhide Bn).trans (hbN.mono (Nat.le_of_lt (Array.getElem?_eq_some_iff.1 (unhide Sn).at_).1)))
        replace Sn := hide ((unhide Sn).below hbN)
        replace X2 := hide ((hbN.block _ (Array.getElem?_eq_some_iff.1 (unhide X2)).1).trans (unhide X2))
        replace X3 := hide (box_below (unhide X3) hbN)
        replace Tn := hide ((unhide Tn).below hbN)
        replace Dn := hide (dirs_below (unhide Dn) hbN)
        replace X5 := hide (box_below (unhide X5) hbN)
        replace X6 := hide (box_below (unhide X6) hbN)
        clear hbN
        refine hK.out _ _ ⟨(unhide Sn).box, fun _ => trivial, fun _ => trivial⟩ (fun hc hS => ?_)
        clear hK K
        refine anyL_one (i := 6) (o := o4_6) (by kernel_rfl) rfl hc ?_
        intro K hK
        simp only [o4_6]
        go_simp
        refine (restsOk (cap := cap) h64 (unhide hO) hL W_4 (unhide Sn).sino).mono ?_
        rintro e W_5 ⟨vr, gr, cr, rfl, hR, hbN⟩
        have Rn := hide (hR.less (Nat.le_of_lt (Array.getElem?_eq_some_iff.1 (unhide Sn).at_).1))
        clear hR
        replace Bn := hide ((unhide Bn).trans (hbN.mono (Nat.le_of_lt (Array.getElem?_eq_some_iff.1 (unhide Sn).at_).1)))
        replace Sn := hide ((unhide Sn).below hbN)
        replace X2 := hide ((hbN.block _ (Array.getElem?_eq_some_iff.1 (unhide X2)).1).trans (unhide X2))
        replace X3 := hide (box_below (unhide X3) hbN)
        replace Tn := hide ((unhide Tn).below hbN)
        replace Dn := hide (dirs_below (unhide Dn) hbN)
        replace Pn := hide ((unhide Pn).below hbN)
        replace X5 := hide (box_below (unhide X5) hbN)
        replace X6 := hide (box_below (unhide X6) hbN)
        clear hbN
        refine hK.out _ _ ⟨(unhide Sn).box, fun _ => trivial, fun _ => trivial⟩ (fun hc hS => ?_)
        clear hK K
        have s9 := (unhide Sn).at_
        have M9 := hide (Mid.of s9 (unhide X2) (unhide X3) (unhide X5) (unhide X6) (unhide Rn) (unhide Pn) (unhide Qn) hm (unhide Tn) (fun _ hx => Nat.lt_of_lt_of_le hx (unhide G4)) (unhide G5) (unhide G6) (unhide Bn))
        exact tail4 (by kernel_rfl) hc s9 (unhide X5) (unhide X6) (unhide Rn).slice ⟨rfl, _, _, _, _, _, _, _, _, _, _, rfl, M9⟩
    · intro K hK
      simp only [o4_7]
      go_simp
      have hbN := (Below.refl _ W_1).alloc (Nat.le_refl _) (.cells #[.pointer none] 50)
      have X5 := hide (box_new W_1 (.pointer none) 50)
      have G5 := hide (Nat.le_of_lt (Array.getElem?_eq_some_iff.1 (unhide Sn).at_).1)
      replace Bn := hide ((unhide Bn).trans (hbN.mono (Nat.le_of_lt (Array.getElem?_eq_some_iff.1 (unhide Sn).at_).1)))
      replace Sn := hide ((unhide Sn).below hbN)
      replace X2 := hide ((hbN.block _ (Array.getElem?_eq_some_iff.1 (unhide X2)).1).trans (unhide X2))
      replace X3 := hide (box_below (unhide X3) hbN)
      replace X6 := hide (box_below (unhide X6) hbN)
      generalize W_1.heap.size = b5 at *
      generalize W_1.alloc (.cells #[.pointer none] 50) = W_2 at *
      clear hbN
      refine hK.out _ _ ⟨(unhide Sn).box, fun _ => trivial, fun _ => trivial⟩ (fun hc hS => ?_)
      clear hK K
      refine anyL_one (i := 3) (o := o4_3) (by kernel_rfl) rfl hc ?_
      intro K hK
      simp only [o4_3]
      go_simp
      refine (sinoDirs (cap := cap) hL W_2 (unhide Sn).sino).mono ?_
      rintro e W_3 ⟨gd, rfl, _, hD, hT, hbN⟩
      have Dn := hide hD
      have Tn := hide hT
      clear hD hT
      replace Bn := hide ((unhide Bn).trans (hbN.mono (Nat.le_of_lt (Array.getElem?_eq_some_iff.1 (unhide Sn).at_).1)))
      replace Sn := hide ((unhide Sn).below hbN)
      replace X2 := hide ((hbN.block _ (Array.getElem?_eq_some_iff.1 (unhide X2)).1).trans (unhide X2))
      replace X3 := hide (box_below (unhide X3) hbN)
      replace X5 := hide (box_below (unhide X5) hbN)
      replace X6 := hide (box_below (unhide X6) hbN)
      clear hbN
      refine hK.out _ _ ⟨(unhide Sn).box, fun _ => trivial, fun _ => trivial⟩ (fun hc hS => ?_)
      clear hK K
      refine anyL_one (i := 4) (o := o4_4) (by kernel_rfl) rfl hc ?_
      intro K hK
      simp only [o4_4]
      go_simp
      refine (untouchedOk (cap := L.length) hn h64 hL (unhide hO) W_3 (unhide Dn)).mono ?_
      rintro e W_4 ⟨V, v, m, f, rfl, hP, hQ, hm, hbN⟩
      have Pn := hide (hP)
      have G4 := hide (Nat.le_of_lt (Array.getElem?_eq_some_iff.1 (unhide Sn).at_).1)
      have Qn := hide hQ
      clear hP hQ
      replace Bn := hide ((unhide Bn).trans (hbN.mono (Nat.le_of_lt (Array.getElem?_eq_some_iff.1 (unhide Sn).at_).1)))
      replace Sn := hide ((unhide Sn).below hbN)
      replace X2 := hide ((hbN.block _ (Array.getElem?_eq_some_iff.1 (unhide X2)).1).trans (unhide X2))
      replace X3 := hide (box_below (unhide X3) hbN)
      replace Tn := hide ((unhide Tn).below hbN)
      replace Dn := hide (dirs_below (unhide Dn) hbN)
      replace X5 := hide (box_below (unhide X5) hbN)
      replace X6 := hide (box_below (unhide X6) hbN)
      clear hbN
      refine hK.out _ _ ⟨(unhide Sn).box, fun _ => trivial, fun _ => trivial⟩ (fun hc hS => ?_)
      clear hK K
      refine anyL_one (i := 6) (o := o4_6) (by kernel_rfl) rfl hc ?_
      intro K hK
      simp only [o4_6]
      go_simp
      refine (restsOk (cap := cap) h64 (unhide hO) hL W_4 (unhide Sn).sino).mono ?_
      rintro e W_5 ⟨vr, gr, cr, rfl, hR, hbN⟩
      have Rn := hide (hR.less (Nat.le_of_lt (Array.getElem?_eq_some_iff.1 (unhide Sn).at_).1))
      clear hR
      replace Bn := hide ((unhide Bn).trans (hbN.mono (Nat.le_of_lt (Array.getElem?_eq_some_iff.1 (unhide Sn).at_).1)))
      replace Sn := hide ((unhide Sn).below hbN)
      replace X2 := hide ((hbN.block _ (Array.getElem?_eq_some_iff.1 (unhide X2)).1).trans (unhide X2))
      replace X3 := hide (box_below (unhide X3) hbN)
      replace Tn := hide ((unhide Tn).below hbN)
      replace Dn := hide (dirs_below (unhide Dn) hbN)
      replace Pn := hide ((unhide Pn).below hbN)
      replace X5 := hide (box_below (unhide X5) hbN)
      replace X6 := hide (box_below (unhide X6) hbN)
      clear hbN
      refine hK.out _ _ ⟨(unhide Sn).box, fun _ => trivial, fun _ => trivial⟩ (fun hc hS => ?_)
      clear hK K
      have s9 := (unhide Sn).at_
      have M9 := hide (Mid.of s9 (unhide X2) (unhide X3) (unhide X5) (unhide X6) (unhide Rn) (unhide Pn) (unhide Qn) hm (unhide Tn) (fun _ hx => Nat.lt_of_lt_of_le hx (unhide G4)) (unhide G5) (unhide G6) (unhide Bn))
      exact tail4 (by kernel_rfl) hc s9 (unhide X5) (unhide X6) (unhide Rn).slice ⟨rfl, _, _, _, _, _, _, _, _, _, _, rfl, M9⟩
end Go.Proofs.Ytgbkfmjkemkajaa
