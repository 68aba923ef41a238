/- The landed Solve of small whole numbers. -/
import Derived.Test.YtgbkfmjkemkajabPVA
import Derived.Test.YtgbkfmjkemkajabPVD
namespace Go.Proofs.Ytgbkfmjkemkajab
open Go.RowKit Go.Shelf
attribute [local go_sem] Oper.semAt_some

section
variable {P : Program}
theorem load_one (w : World) (g : Nat) (ty : TypeId) (a : Value) (d : TypeDesc) (h0 : w.cell? ⟨g, 0, none⟩ = some a) (hu : P.underlying ty = some d) (hd : (match d with | .struct _ | .array _ _ => true | _ => false) = false) :
    (loadVar ty ⟨g, 0, none⟩).run P w = .ok a w := by
  have hagg : (isAgg ty).run P w = .ok false w := by
    unfold isAgg
    rw [Sem.run_bind, run_underlying hu w]
    cases d <;> simp_all
  simp [loadVar, Sem.run_bind, hagg, run_load, h0]
theorem results_two_one {fn : Func} {p q : Tmp} {ty ty' : TypeId} (h : fn.results = #[.cell p ty, .cell q ty']) (tmps : Array Value) (w : World) (g g' : Nat) (a b c : Value) (d d' : TypeDesc)
    (hp : tmps.getD p undef = .pointer (some ⟨g, 0, none⟩)) (hq : tmps.getD q undef = .pointer (some ⟨g', 0, none⟩)) (h0 : w.cell? ⟨g, 0, none⟩ = some a) (h1 : w.cell? ⟨g, 1, none⟩ = some b) (h2 : w.cell? ⟨g', 0, none⟩ = some c)
    (hu : P.underlying ty = some d) (hd : (match d with | .struct _ | .array _ _ => true | _ => false) = true) (hi : (P.info? ty).map (·.size) = some 2) (hu' : P.underlying ty' = some d') (hd' : (match d' with | .struct _ | .array _ _ => true | _ => false) = false) :
    (results fn tmps).run P w = .ok (.tuple #[.agg #[a, b], c]) w := by
  have hp' : tmps[p]?.getD undef = .pointer (some ⟨g, 0, none⟩) := by simpa using hp
  have hq' : tmps[q]?.getD undef = .pointer (some ⟨g', 0, none⟩) := by simpa using hq
  simp [results, h, hp', hq', asAddr, load_two w g ty a b d h0 h1 hu hd hi, load_one w g' ty' c d' h2 hu' hd']
end

theorem tmL_set (n K gp cap bs b5 b6 b7 gd gc M VB : Nat) (vr : Value) (k j c : Nat) : Array.foldl (fun tmps (t, a) => tmps.setIfInBounds t a) (tmL n K gp cap bs b5 b6 b7 gd gc M VB vr) ((#[33, 34] : Array Tmp).zip #[Value.agg #[.int .i64 k, .int .i64 j], Value.int .i64 c]) = tmR n K gp cap bs b5 b6 b7 gd gc M VB vr k j c := by simp [tmL, tmR]

set_option maxRecDepth 100000 in
set_option maxHeartbeats 6400000 in
theorem solveOk {n : Nat} {L : List (Int × Int)} {gp cap : Nat} {gb : Nat → Nat} {val : Nat → Nat} (hn : 1 ≤ n) (h64 : n ≤ 64) (hL : L.length ≤ 64) (ho : ∀ d, d ∈ L → okD d.1 d.2 = true) (hnd : L.Nodup) (hkz : (n : Int) ≤ sumP L ∨ (n : Int) ≤ sumQ L) (hK0 : 0 < L.length) (hsum : sumV val (fun _ => true) (n * n) ≤ 16) (w : World) (h : SinoAt w n L gp gb (fun k j => nb (restZ val n L (fun _ => true) k j))) :
    Calls Try.prog 7 #[.agg #[.int .i64 n, .slice (some ⟨gp, 0, none⟩) L.length cap]] w fun e w' => ∃ g' c, e = .returned (.tuple #[.agg #[.int .i64 n, .slice (some ⟨g', 0, none⟩) (n * n : Nat) c], .int .i64 0]) ∧ w.heap.size ≤ g' ∧ VRow w' 32 g' (n * n) (fun i => .complex .f64 (nb (val i)).1 (nb (val i)).2) ∧ Below w.heap.size w w' := by
  have hO := hide ho
  have y0 := ((Below.refl w.heap.size w).alloc (Nat.le_refl _) (.cells #[.int .i64 n, .slice (some ⟨gp, 0, none⟩) L.length cap] 38))
  have S0 : SBox (w.alloc (.cells #[.int .i64 n, .slice (some ⟨gp, 0, none⟩) L.length cap] 38)) w.heap.size n L gp cap gb (fun k j => nb (restZ val n L (fun _ => true) k j)) := ⟨h.below y0, heap_alloc_new w _⟩
  have y1 := (Below.refl _ (w.alloc (.cells #[.int .i64 n, .slice (some ⟨gp, 0, none⟩) L.length cap] 38))).alloc (Nat.le_refl _) (.cells #[.int .i64 0, .slice none 0 0] 40)
  have y2 := (Below.refl _ ((w.alloc (.cells #[.int .i64 n, .slice (some ⟨gp, 0, none⟩) L.length cap] 38)).alloc (.cells #[.int .i64 0, .slice none 0 0] 40))).alloc (Nat.le_refl _) (.cells #[.int .i64 0] 24)
  have Sn := hide ((S0.below y1).below y2)
  have Bn := hide ((y0.trans (y1.mono y0.size)).trans (y2.mono (Nat.le_trans y0.size y1.size)))
  have X2 : Hid ((((w.alloc (.cells #[.int .i64 n, .slice (some ⟨gp, 0, none⟩) L.length cap] 38)).alloc (.cells #[.int .i64 0, .slice none 0 0] 40)).alloc (.cells #[.int .i64 0] 24)).heap[w.heap.size + 1]? = some (.cells #[.int .i64 0, .slice none 0 0] 40 (0, 0))) := by
    have := heap_alloc_new (w.alloc (.cells #[.int .i64 n, .slice (some ⟨gp, 0, none⟩) L.length cap] 38)) (.cells #[.int .i64 0, .slice none 0 0] 40)
    rw [World.size_alloc] at this
    exact (Below.heap_alloc _ _ _ (by rw [World.size_alloc, World.size_alloc]; omega)).trans this
  have X3 : Hid (Bx (((w.alloc (.cells #[.int .i64 n, .slice (some ⟨gp, 0, none⟩) L.length cap] 38)).alloc (.cells #[.int .i64 0, .slice none 0 0] 40)).alloc (.cells #[.int .i64 0] 24)) (w.heap.size + 2) (.int .i64 0) 24) := by
    have := box_new ((w.alloc (.cells #[.int .i64 n, .slice (some ⟨gp, 0, none⟩) L.length cap] 38)).alloc (.cells #[.int .i64 0, .slice none 0 0] 40)) (.int .i64 0) 24
    rw [World.size_alloc, World.size_alloc] at this
    exact this
  clear h ho y0 S0 y1 y2
  refine (callsIn_wide (n := 6)).1 ?_
  refine callsIn_of_wp_marks Try.func7 rfl trivial ?_ rfl
  simp only [Try.ntmps7, List.size_toArray, List.length_cons, List.length_nil, Nat.reduceAdd, Nat.reduceSub, Array.replicate_succ, Array.replicate_zero, List.push_toArray, List.append_toArray, List.nil_append, List.cons_append]
  gi_wp2_with fail
  refine ⟨trivial, ?_⟩
  generalize ((w.alloc (.cells #[.int .i64 n, .slice (some ⟨gp, 0, none⟩) L.length cap] 38)).alloc (.cells #[.int .i64 0, .slice none 0 0] 40)).alloc (.cells #[.int .i64 0] 24) = w3 at *
  refine (callsIn_wide.2 (sinoCheckOk (cap := cap) hn h64 hL (unhide hO) hnd (z := restZ val n L (fun _ => true)) (fun k j => Nat.le_trans (restZ_le k j) hsum) w3 (unhide Sn).sino)).mono ?_
  rintro e w4 ⟨rfl, hbN⟩
  replace Sn := hide ((unhide Sn).below hbN)
  replace Bn := hide ((unhide Bn).trans (hbN.mono (unhide Bn).size))
  replace X2 := hide ((hbN.block _ (Array.getElem?_eq_some_iff.1 (unhide X2)).1).trans (unhide X2))
  replace X3 := hide (box_below (unhide X3) hbN)
  clear hbN w3
  gi_wp2_with fail
  refine (wpIn_wide (n := 6)).2 ?_
  change Code.wp Try.prog (Code.region 4 R4 true) _ _ _
  obtain ⟨bs, hbs⟩ : ∃ bs, w.heap.size = bs := ⟨_, rfl⟩
  rw [hbs] at Sn Bn X2 X3
  simp only [hbs]
  replace hbs := hide hbs
  refine Code.wp_mono ?_ (solveR4 hn h64 hL (unhide hO) w w4 (unhide Sn) (unhide Bn) (unhide X2) (unhide X3))
  clear Sn Bn X2 X3
  rintro e a W ⟨rfl, b5, b6, gd, V, v, m, f, vr, gr, cr, rfl, hMid⟩
  unfold solveTmps
  clear w4
  obtain ⟨M, hMM⟩ : ∃ M, n * n = M := ⟨_, rfl⟩
  have h4 : M ≤ 4096 := by rw [← hMM]; exact Nat.mul_le_mul h64 h64
  have c0 := (unhide hMid).nn
  have k1 := hide (newAny hn h64 hMM h4 W)
  gi_wp2_with fail
  refine ⟨trivial, ?_⟩
  refine (callsIn_wide.2 (unhide k1)).mono ?_
  rintro e W5 ⟨gc, rfl, hgc, hR5, hb5⟩
  -- what stands behind grid.New
  have M0 := unhide hMid
  obtain ⟨S0, hP0⟩ := M0.peel
  have hsz0 := M0.lt0
  have hb2 : bs + 2 < W.heap.size := M0.sf.lt (Or.inr (Or.inl rfl))
  have sf5 := M0.sf.below hb5
  have hP5 := hP0.below hb5
  obtain ⟨cd, hd0⟩ := M0.dT
  have hd5 := (hb5.block _ (Array.getElem?_eq_some_iff.1 hd0).1).trans hd0
  have B5 := M0.bel.trans (hb5.mono (by omega))
  have x5 := box_cell sf5.x5
  have l5 := box_lt sf5.x5
  obtain ⟨W6, hW6⟩ : ∃ W6, W5.alloc (.cells #[.int .i64 n, .slice (some ⟨gc, 0, none⟩) M M] 40) = W6 := ⟨_, rfl⟩
  have y6 : Below W5.heap.size W5 W6 := by rw [← hW6]; exact (Below.refl _ W5).alloc (Nat.le_refl _) _
  have g6 : W6.heap[W5.heap.size]? = some (.cells #[.int .i64 n, .slice (some ⟨gc, 0, none⟩) M M] 40 (0, 0)) := by rw [← hW6]; exact heap_alloc_new W5 _
  have hsz5 := hb5.size
  have hP6 := hP5.below y6
  have hd6 := (y6.block _ (Array.getElem?_eq_some_iff.1 hd5).1).trans hd5
  have B6 := B5.trans (y6.mono (by omega))
  have hgcl : gc < W5.heap.size := by
    obtain ⟨cur, h1, _⟩ := hR5
    exact (Array.getElem?_eq_some_iff.1 h1).1
  have r5 : VRow W5 32 gc M (fun i => .complex .f64 (nb (valC val (fun _ => true) i)).1 (nb (valC val (fun _ => true) i)).2) := by
    obtain ⟨cur, h1, h2, h3⟩ := hR5
    refine ⟨cur, h1, h2, fun i hi => ?_⟩
    have e : valC val (fun _ => true) i = 0 := if_pos rfl
    show cur[i]? = some (Value.complex .f64 (nb (valC val (fun _ => true) i)).1 (nb (valC val (fun _ => true) i)).2)
    rw [h3 i hi, e, nb_zero]
    rfl
  have hlr : ∀ i, i < L.length → gr i < W.heap.size := fun i hi => vrow_lt (M0.sf.rs.row i hi)
  have H6 : SH bs W6 n L b5 b6 W5.heap.size gc M V.B vr gr cr (restZ val n L (fun _ => true)) (valC val (fun _ => true)) :=
    ⟨sf5.below y6, g6, vrow_keep r5 (y6.block _ hgcl), fun i hi => by have := hlr i hi; omega, by have := M0.sf.lt (x := bs + 1) (Or.inl rfl); omega⟩
  have hown : ∀ x, shOwn bs L.length b5 b6 W5.heap.size gc vr gr x → (x < W6.heap.size ∧ ¬ inPeel L.length V v x) ∧ x ≠ gd ∧ bs ≤ x := fun x hx => by
    obtain ⟨cs, t, ht, ho1, ho2⟩ := H6.typed hx
    refine ⟨⟨H6.lt hx, hP6.notType ht ho1⟩, ne_type ht hd6 ho2, ?_⟩
    rcases hx with (e | e | e | e | e | ⟨i, hi, e⟩) | e | e
    · omega
    · omega
    · rw [e]; exact M0.ge5
    · rw [e]; exact M0.ge6
    · exact M0.sf.rs.geV x e
    · rw [e]; exact M0.sf.rs.geR i hi
    · omega
    · omega
  have hout := M0.out
  have hQ := M0.qok
  have hm := M0.hm
  have hsz6 := y6.size
  replace B6 := hide B6
  replace hP6 := hide hP6
  replace H6 := hide H6
  have H6s := H6
  replace hown := hide hown
  replace hout := hide hout
  replace hQ := hide hQ
  replace hW6 := hide hW6
  clear hMid k1 M0 hP0 hP5 sf5 hd0 hd5 hd6 B5 y6 g6 r5 hR5 hb5 hlr c0
  gi_wp2_with fail
  rw [unhide hW6]
  clear hW6 x5 l5
  generalize W5.heap.size = b7 at *
  refine wpIn_rangeSteps (n := n) (L := L) (a := some ⟨gd, 0, none⟩) (cap := L.length) (g := gd) (o := 0) (V := V) (v := v) (m := m) (f := f) (O := sO bs L.length b5 b6 b7 gc vr gr) (SJ bs w n L b5 b6 b7 gc M V.B vr gr cr val) hn h64 hL (unhide hO) rfl ?hres (unhide hP6) (unhide hQ) hm ?hOw ?hJ ?hJ0 ?hround ?hend
  case hres =>
    intro l W'
    simp [resolve, go_sem]
  case hOw =>
    rintro x (hx | hx)
    · exact ⟨by omega, unhide hout x hx⟩
    · exact (unhide hown x hx).1
  case hJ =>
    rintro b W7 W8 ⟨h1, h2⟩ ha
    exact ⟨h1.keep fun x hx => ha.block x (Or.inr hx), h2.trans (ha.below fun x hx => Or.inl hx)⟩
  case hJ0 => exact ⟨unhide H6, unhide B6⟩
  case hround =>
    intro r b k j W7 hrs hrp hl hPe hJ' hsz7 hk hj hc
    have key := solveRound (nn := 6 - 1 - 1) (S := rS L.length V v W6) (gp := gp) (cap := cap) (bs := bs) hn h64 hL (unhide hO) hMM hsum (fun x hx => ⟨Or.inl (unhide hown x hx).1, (unhide hown x hx).2⟩) (Or.inr (Or.inr rfl)) (by have := ((unhide hP6).dirs.at_ hK0).2; omega) (by omega) hrs hrp W7 hl hPe hJ' hk hj hc rfl
    rw [← tmL_set] at key
    exact key
  case hend =>
    rintro b W7 hF ⟨v7, m7, f7, hP7⟩ ⟨hH7, hB7⟩ hsz7 hdf
    have hall := fun i hi => final_katz hn hF (unhide hO) hnd hkz i hi
    have H7 : SH bs W7 n L b5 b6 b7 gc M V.B vr gr cr (fun _ _ => 0) val := hH7.ext (fun k j _ _ => (restZ_none hall k j).symm) (fun i hi => by unfold valC; rw [hall i (by omega)]; rfl)
    have kO := hide (openNone (go := V.blk 0) (M := M) (c := V.cO) h4 W7 (by
      have := hP7.mem.row 0 (live0 _)
      show VRow W7 4 (V.blk 0) M _
      rw [← hMM]
      exact vrow_ext this fun i hi => by show _ = Value.bool (b i); rw [hall i hi]))
    obtain ⟨gv, cv, e1, _, hrow⟩ := H7.sf.rs.head hK0
    have kR := hide (fun (W8 : World) (hb : Below W7.heap.size W7 W8) => restsNone (c := cv) (gr := gr) (cr := cr) (bn := fun i => binN n (dk L i)) hL (fun i hi => binN_le h64 (unhide hO _ (dk_mem hi))) W8 (vrow_keep hrow (hb.block _ (vrow_lt hrow))) (fun i hi => by
      have h1 := H7.sf.rs.row i hi
      have h2 := vrow_keep h1 (hb.block _ (vrow_lt h1))
      refine vrow_ext h2 fun x _ => ?_
      rw [nb_zero]))
    have x5 := box_cell H7.sf.x5
    have x6 := box_cell H7.sf.x6
    rw [e1] at x6
    have c4 := hP7.c4
    rw [hMM] at c4
    have l6 := box_lt H7.sf.x6
    replace hdf := hide hdf
    replace H7 := hide H7
    replace hB7 := hide hB7
    clear hH7 hP7 hF hall hrow e1 hown hout hQ H6 B6 hP6
    gi_wp2_with fail
    refine ⟨trivial, ?_⟩
    refine (callsIn_wide.2 (unhide kO)).mono ?_
    rintro e W8 ⟨rfl, hb8⟩
    have k8 := hide (unhide kR W8 hb8)
    replace H7 := hide ((unhide H7).below hb8)
    replace hB7 := hide ((unhide hB7).trans (hb8.mono (by omega)))
    replace hdf := hide ((hb8.block _ (by omega)).trans (unhide hdf))
    have z6 := (hb8.cell (p := ⟨b6, 0, none⟩) l6).trans x6
    have hsz8 := hb8.size
    clear hb8 kO kR x5 x6 l6 c4
    gi_wp2_with fail
    refine ⟨trivial, ?_⟩
    refine (callsIn_wide.2 (unhide k8)).mono ?_
    rintro e W9 ⟨rfl, hb9⟩
    have H9 := (unhide H7).below hb9
    replace hB7 := hide ((unhide hB7).trans (hb9.mono (by omega)))
    replace hdf := hide ((hb9.block _ (by omega)).trans (unhide hdf))
    have x70 : W9.cell? ⟨b7, 0, none⟩ = some (.int .i64 n) := cell_of_row W9 b7 0 _ _ (0, 0) H9.x7
    have x71 : W9.cell? ⟨b7, 1, none⟩ = some (.slice (some ⟨gc, 0, none⟩) M M) := cell_of_row W9 b7 1 _ _ (0, 0) H9.x7
    have x20 : W9.cell? ⟨bs + 1, 0, none⟩ = some (.int .i64 0) := cell_of_row W9 (bs + 1) 0 _ _ (0, 0) H9.sf.x2
    have x21 : W9.cell? ⟨bs + 1, 1, none⟩ = some (.slice none 0 0) := cell_of_row W9 (bs + 1) 1 _ _ (0, 0) H9.sf.x2
    have f20 := block_frozen H9.sf.x2 0
    have f21 := block_frozen H9.sf.x2 1
    obtain ⟨Wa, hWa⟩ : ∃ Wa, (W9.setCell ⟨bs + 1, 0, none⟩ (.int .i64 n)).setCell ⟨bs + 1, 1, none⟩ (.slice (some ⟨gc, 0, none⟩) M M) = Wa := ⟨_, rfl⟩
    have ota : ∀ x, x ≠ bs + 1 → Wa.heap[x]? = W9.heap[x]? := fun x hx => by rw [← hWa]; exact (Below.heap_setCell _ _ _ _ hx).trans (Below.heap_setCell _ _ _ _ hx)
    have ya : Wa.heap[bs + 1]? = some (.cells #[.int .i64 n, .slice (some ⟨gc, 0, none⟩) M M] 40 (0, 0)) := by
      rw [← hWa]
      exact heap_setCell_same _ (bs + 1) 1 _ _ _ (heap_setCell_same W9 (bs + 1) 0 _ _ _ H9.sf.x2)
    have yb : Bx Wa (bs + 1 + 1) (.int .i64 0) 24 := (ota _ (by omega)).trans H9.sf.x3
    have x3 := box_cell yb
    have f3 := block_frozen yb 0
    rw [← hWa] at x3 f3
    replace hWa := hide hWa
    replace ya := hide ya
    replace yb := hide yb
    have R9 := hide H9.row
    have hdl : W6.heap.size < W9.heap.size := by have := hb9.size; omega
    have nda : Hid (W6.heap.size ≠ bs + 1 ∧ W6.heap.size ≠ bs + 1 + 1) := by
      have h1 := (unhide H6s).sf.lt (x := bs + 1) (Or.inl rfl)
      have h2 := (unhide H6s).sf.lt (x := bs + 2) (Or.inr (Or.inl rfl))
      exact ⟨by omega, by omega⟩
    clear H9 H7 hb9 k8 z6
    gi_wp2
    rw [unhide hWa]
    have ub := heap_setCell_same Wa (bs + 1 + 1) 0 _ _ (.int .i64 0) (unhide yb)
    have otb : ∀ x, x ≠ bs + 1 → x ≠ bs + 1 + 1 → (Wa.setCell ⟨bs + 1 + 1, 0, none⟩ (.int .i64 0)).heap[x]? = W9.heap[x]? := fun x h1 h2 => (Below.heap_setCell _ _ _ _ h2).trans (ota x h1)
    have ua : (Wa.setCell ⟨bs + 1 + 1, 0, none⟩ (.int .i64 0)).heap[bs + 1]? = some (.cells #[.int .i64 n, .slice (some ⟨gc, 0, none⟩) M M] 40 (0, 0)) := (Below.heap_setCell _ _ _ _ (by show bs + 1 ≠ bs + 1 + 1; omega)).trans (unhide ya)
    obtain ⟨n1, n2⟩ := unhide nda
    have ud := (otb _ n1 n2).trans (unhide hdf)
    refine ⟨by simp, .inl ⟨_, _, rfl, run_takeDeferred ud, ?_⟩⟩
    have va := (World.putObj_heap_other (w := Wa.setCell ⟨bs + 1 + 1, 0, none⟩ (.int .i64 0)) (o := .deferred none) n1.symm).trans ua
    have vb := (World.putObj_heap_other (w := Wa.setCell ⟨bs + 1 + 1, 0, none⟩ (.int .i64 0)) (o := .deferred none) n2.symm).trans ub
    refine ⟨_, results_two_one (P := Try.prog) rfl _ _ (bs + 1) (bs + 1 + 1) (.int .i64 n) (.slice (some ⟨gc, 0, none⟩) M M) (.int .i64 0) _ _ rfl rfl (cell_of_row _ (bs + 1) 0 _ _ (0, 0) va) (cell_of_row _ (bs + 1) 1 _ _ (0, 0) va) (cell_of_row _ (bs + 1 + 1) 0 _ _ (0, 0) vb) Try.underlying40 rfl (by kernel_rfl) Try.underlying24 rfl, ?_⟩
    have B9 : Below bs w ((Wa.setCell ⟨bs + 1 + 1, 0, none⟩ (.int .i64 0)).putObj W6.heap.size (.deferred none)) := by
      have b1 : Below bs w Wa := by
        rw [← unhide hWa]
        exact ((unhide hB7).setCell (p := ⟨bs + 1, 0, none⟩) (by show bs ≤ bs + 1; omega) _).setCell (p := ⟨bs + 1, 1, none⟩) (by show bs ≤ bs + 1; omega) _
      have b2 := b1.setCell (p := ⟨bs + 1 + 1, 0, none⟩) (by show bs ≤ bs + 1 + 1; omega) (.int .i64 0)
      exact b2.trans ⟨rfl, rfl, rfl, by simp, fun x hx => World.putObj_heap_other (by omega)⟩
    refine ⟨gc, M, by rw [hMM], ?_, ?_, ?_⟩
    · rw [unhide hbs]; omega
    · rw [hMM]
      exact vrow_keep (unhide R9) ((World.putObj_heap_other (by omega)).trans (otb gc (by omega) (by omega)))
    · rw [unhide hbs]
      exact B9
end Go.Proofs.Ytgbkfmjkemkajab
