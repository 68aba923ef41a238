/- fit.Run: what it holds, and its first part. fit.Run. The law's fixed fact. -/
import Derived.Test.YtfnbcpeipoobkaaGreatM31
import Derived.Test.YtfnbcpeipoobkaaGreatM25
import Derived.Deep.LoopGhost
import Derived.Deep.DeepCutAuto
import Derived.Deep.RegionHeld3
namespace Go.Proofs.YtfnbcpeipoobkaaGreat
open Go.RowKit Go.Shelf Fl Ieee
attribute [local go_sem] store_complex

theorem RestAt.pj {w : World} {g s n N : Nat} {ps ps' : List PJ} {zr : Nat → Nat → Int × Int} (h : RestAt w g s n N N ps ps' zr) : PJAt w g ps' :=
  ⟨tab_lt h.tab, fun i hi => by
    rw [h.len] at hi
    exact ⟨tab_cell h.tab (j := 0) hi (by omega), tab_cell h.tab (j := 1) hi (by omega), tab_cell h.tab (j := 2) hi (by omega)⟩, fun i hi => h.row i (by rw [← h.len]; exact hi)⟩
abbrev nbs (ps : List PJ) (i : Nat) : Nat := (ps.getD i pj0).nb
theorem mxRow_ext {v v' : Nat → Int × Int} {m : Nat} : ∀ {n : Nat}, (∀ j, j < n → v j = v' j) → mxRow v m n = mxRow v' m n
  | 0, _ => rfl
  | n + 1, h => by
    show max (mxRow v m n) _ = max (mxRow v' m n) _
    rw [mxRow_ext fun j hj => h j (by omega), h n (by omega)]
theorem mxAll_nb {nb nb' : Nat → Nat} {zr : Nat → Nat → Int × Int} : ∀ {k : Nat}, (∀ i, i < k → nb i = nb' i) → mxAll nb zr k = mxAll nb' zr k
  | 0, _ => rfl
  | k + 1, h => by
    show mxRow (zr k) (mxAll nb zr k) (nb k) = mxRow (zr k) (mxAll nb' zr k) (nb' k)
    rw [mxAll_nb fun i hi => h i (by omega), h k (by omega)]
/-- What Run holds behind t rounds. -/
structure RunIn (w wr : World) (br bo base n gF cF p t m : Nat) (v : Value) (L : List Nat) (ps : List PJ) (zb : Nat → Nat → Int × Int) (z : Nat → Int × Int) : Prop where
  low : Below w.heap.size w wr
  size : base ≤ wr.heap.size
  res : wr.heap[br]? = some (.cells #[.int .i64 0, .slice none 0 0, .slice none 0 0] 43 (0, 0))
  out : wr.heap[bo]? = some (.cells #[.int .i64 n, .slice (some ⟨gF, 0, none⟩) (n * n : Nat) cF, v] 43 (0, 0))
  own : wr.ownsRow base 29 1 v m (L.map fun s => .float .f64 s)
  len : L.length = m
  row : ∃ f, Row wr gF (n * n) f ∧ ∀ k, k < n * n → DC (p * t) (f k) (fitZ p n ps zb z t k)
  szs : ∀ i, i < m → DV (p * i) (L.getD i 0) (mxAll (nbs ps) (fitR p n ps zb z i) ps.length)
theorem RunIn.keep {w wr w' : World} {br bo base n gF cF p t m : Nat} {v : Value} {L : List Nat} {ps : List PJ} {zb : Nat → Nat → Int × Int} {z : Nat → Int × Int} (h : RunIn w wr br bo base n gF cF p t m v L ps zb z) (hb : Below wr.heap.size wr w') : RunIn w w' br bo base n gF cF p t m v L ps zb z := by
  obtain ⟨f, h1, h2⟩ := h.row
  exact ⟨h.low.trans (hb.mono h.low.size), Nat.le_trans h.size hb.size, (hb.block _ (Array.getElem?_eq_some_iff.1 h.res).1).trans h.res, (hb.block _ (Array.getElem?_eq_some_iff.1 h.out).1).trans h.out, owns_below h.own hb, h.len, ⟨f, row_keep h1 (hb.block _ (row_lt h1)), h2⟩, h.szs⟩
/-- Where things lie. -/
structure Lie (w : World) (br bo gF base : Nat) : Prop where
  br1 : w.heap.size ≤ br
  bo1 : w.heap.size ≤ bo
  gF1 : w.heap.size ≤ gF
  ne1 : bo ≠ br
  ne2 : gF ≠ br
  ne3 : gF ≠ bo
  lt1 : br < base
  lt2 : bo < base
  lt3 : gF < base
theorem binsZ_up {p n t B rounds C : Nat} {ps : List PJ} {zb : Nat → Nat → Int × Int} {z : Nat → Int × Int} (hP : ∀ i, i < ps.length → PJok n (ps.getD i pj0) ∧ ∀ j, j < (ps.getD i pj0).nb → DC 0 ((ps.getD i pj0).b j) (zb i j)) (hF : FitBd p n rounds B C ps zb z) (ht : t ≤ rounds) (hs : p * t ≤ 1074) : BinsZ (p * t) n ps (fun i j => upZ (p * t) (zb i j)) B := fun i hi =>
  ⟨(hP i hi).1, fun j hj => ⟨by have := dc_up (p * t) ((hP i hi).2 j hj) (by omega); rwa [Nat.zero_add] at this, hF.bin t ht i hi j hj⟩⟩
theorem binsZ_rest {w : World} {g p n t B rounds C : Nat} {ps ps' : List PJ} {zb : Nat → Nat → Int × Int} {z : Nat → Int × Int} (hP : ∀ i, i < ps.length → PJok n (ps.getD i pj0)) (hF : FitBd p n rounds B C ps zb z) (ht : t ≤ rounds) (hT : RestAt w g (p * t) n ps.length ps.length ps ps' (fitR p n ps zb z t)) : BinsZ (p * t) n ps' (fitR p n ps zb z t) B := fun i hi => by
  rw [hT.len] at hi
  obtain ⟨e1, e2, e3, e4⟩ := hT.ok i hi
  obtain ⟨p1, p2, p3, p4⟩ := hP i hi
  refine ⟨⟨by rw [e1]; exact p1, by rw [e1, e2]; exact p2, by rw [e2, e3]; exact Nat.le_refl _, by rw [e3]; omega⟩, fun j hj => ?_⟩
  rw [e2] at hj
  exact ⟨e4 j hj, hF.rest t ht i hi j hj⟩
/-- The copy and the box, in whatever order they were made. -/
def CutRun (w wx : World) (br n p : Nat) (pv : Value) (ps : List PJ) (zb : Nat → Nat → Int × Int) (z : Nat → Int × Int) : Prop :=
  ∃ bo gF cF, pv = .pointer (some ⟨bo, 0, none⟩) ∧ n * n ≤ cF ∧ Lie w br bo gF wx.heap.size ∧ RunIn w wx br bo wx.heap.size n gF cF p 0 0 (.slice none 0 0) [] ps zb z
theorem three_heap {W : World} {s : Nat} {a b c : Value} {t : TypeId} (h : W.heap[s]? = some (.cells #[a, b, c] t (0, 0))) (x y u : Value) : (((W.setCell ⟨s, 0, none⟩ x).setCell ⟨s, 1, none⟩ y).setCell ⟨s, 2, none⟩ u).heap[s]? = some (.cells #[x, y, u] t (0, 0)) := by
  have h1 : (W.setCell ⟨s, 0, none⟩ x).heap[s]? = some (.cells #[x, b, c] t (0, 0)) := heap_setCell_same W s 0 _ _ _ h
  have h2 : ((W.setCell ⟨s, 0, none⟩ x).setCell ⟨s, 1, none⟩ y).heap[s]? = some (.cells #[x, y, c] t (0, 0)) := heap_setCell_same _ s 1 _ _ _ h1
  exact heap_setCell_same _ s 2 _ _ _ h2
theorem cut_run {w w1 wx : World} {br bo n p gF cF : Nat} {f0 : Nat → Nat × Nat} {ps : List PJ} {zb : Nat → Nat → Int × Int} {z : Nat → Int × Int} (hY : Below w.heap.size w w1) (hX : w1.heap[br]? = some (.cells #[.int .i64 0, .slice none 0 0, .slice none 0 0] 43 (0, 0))) (hbr : w.heap.size ≤ br) (hx : Below w1.heap.size w1 wx)
    (ho : wx.heap[bo]? = some (.cells #[.int .i64 n, .slice (some ⟨gF, 0, none⟩) (n * n : Nat) cF, .slice none 0 0] 43 (0, 0))) (hR : Row wx gF (n * n) f0) (h1 : w1.heap.size ≤ bo) (h2 : w1.heap.size ≤ gF) (hne : gF ≠ bo) (hc : n * n ≤ cF) (hz : ∀ k, k < n * n → DC 0 (f0 k) (z k)) : CutRun w wx br n p (.pointer (some ⟨bo, 0, none⟩)) ps zb z := by
  have hbl := (Array.getElem?_eq_some_iff.1 hX).1
  have hol := (Array.getElem?_eq_some_iff.1 ho).1
  have hgl := row_lt hR
  have hs := hY.size
  have hs2 := hx.size
  exact ⟨bo, gF, cF, rfl, hc, ⟨hbr, by omega, by omega, by omega, by omega, hne, by omega, hol, hgl⟩, ⟨hY.trans (hx.mono hs), Nat.le_refl _, (hx.block br hbl).trans hX, ho, World.ownsRow_nil _ _ _ _, rfl, ⟨f0, hR, fun k hk => by rw [Nat.mul_zero]; exact hz k hk⟩, fun i hi => by omega⟩⟩
theorem clone_new {V : World} {fn m : Nat} {f : Nat → Nat × Nat} {args : Array Value} (h : Hid (∀ W : World, Below V.heap.size V W → Calls (barP Tryz.prog) fn args W fun e w' => ∃ g' c', e = .returned (.slice (some ⟨g', 0, none⟩) m c') ∧ m ≤ c' ∧ W.heap.size ≤ g' ∧ Row w' g' m f ∧ Below W.heap.size W w')) :
    Calls (barP Tryz.prog) fn args (V.alloc (.cells #[.int .i64 0, .slice none 0 0, .slice none 0 0] 43)).drew fun e w' => ∃ g' c', e = .returned (.slice (some ⟨g', 0, none⟩) m c') ∧ m ≤ c' ∧ V.heap.size + 1 ≤ g' ∧ Hid (Row w' g' m f) ∧ Hid (w'.heap[V.heap.size]? = some (.cells #[.int .i64 0, .slice none 0 0, .slice none 0 0] 43 (0, 0))) ∧ Hid (Below V.heap.size V w') ∧
      w'.cell? ⟨V.heap.size, 0, none⟩ = some (.int .i64 0) ∧ w'.cell? ⟨V.heap.size, 1, none⟩ = some (.slice none 0 0) ∧ w'.cell? ⟨V.heap.size, 2, none⟩ = some (.slice none 0 0) ∧ w'.frozen? ⟨V.heap.size, 0, none⟩ = false ∧ w'.frozen? ⟨V.heap.size, 1, none⟩ = false ∧ w'.frozen? ⟨V.heap.size, 2, none⟩ = false := by
  have hb : Below V.heap.size V (V.alloc (.cells #[.int .i64 0, .slice none 0 0, .slice none 0 0] 43)).drew := ((Below.refl _ _).alloc (Nat.le_refl _) _).drew
  have s0 : (V.alloc (.cells #[.int .i64 0, .slice none 0 0, .slice none 0 0] 43)).drew.heap.size = V.heap.size + 1 := World.size_alloc _ _
  refine (unhide h _ hb).mono ?_
  rintro r w' ⟨gz, cz, e, h1, h2, h3, h4⟩
  have z : w'.heap[V.heap.size]? = some (.cells #[.int .i64 0, .slice none 0 0, .slice none 0 0] 43 (0, 0)) := by
    rw [h4.block _ (by omega)]
    exact heap_alloc_new V _
  exact ⟨gz, cz, e, h1, by omega, h3, z, hb.trans (h4.mono (by omega)), by simp [World.cell?, z], by simp [World.cell?, z], by simp [World.cell?, z], by simp [World.frozen?, z], by simp [World.frozen?, z], by simp [World.frozen?, z]⟩
theorem clone_held {V W : World} {fn m : Nat} {f : Nat → Nat × Nat} {args : Array Value} {A B : Prop} (h : Hid (∀ W : World, Below V.heap.size V W → Calls (barP Tryz.prog) fn args W fun e w' => ∃ g' c', e = .returned (.slice (some ⟨g', 0, none⟩) m c') ∧ m ≤ c' ∧ W.heap.size ≤ g' ∧ Row w' g' m f ∧ Below W.heap.size W w')) (hs : A ∧ B ∧ Hid (Below V.heap.size V W)) :
    Calls (barP Tryz.prog) fn args W fun e w' => ∃ g' c', e = .returned (.slice (some ⟨g', 0, none⟩) m c') ∧ m ≤ c' ∧ V.heap.size ≤ g' ∧ Hid (Row w' g' m f) ∧ Hid (Below V.heap.size V w') := by
  refine (unhide h W (unhide hs.2.2)).mono ?_
  rintro r w' ⟨gz, cz, e, h1, h2, h3, h4⟩
  exact ⟨gz, cz, e, h1, Nat.le_trans (unhide hs.2.2).size h2, h3, (unhide hs.2.2).trans (h4.mono (unhide hs.2.2).size)⟩
theorem clone_old {V : World} {fn m : Nat} {f : Nat → Nat × Nat} {args : Array Value} (h : Hid (∀ W : World, Below V.heap.size V W → Calls (barP Tryz.prog) fn args W fun e w' => ∃ g' c', e = .returned (.slice (some ⟨g', 0, none⟩) m c') ∧ m ≤ c' ∧ W.heap.size ≤ g' ∧ Row w' g' m f ∧ Below W.heap.size W w')) :
    Calls (barP Tryz.prog) fn args V.drew fun e w' => ∃ g' c', e = .returned (.slice (some ⟨g', 0, none⟩) m c') ∧ m ≤ c' ∧ V.heap.size ≤ g' ∧ Hid (Row w' g' m f) ∧ Hid (Below V.heap.size V w') := by
  refine (unhide h _ (Below.refl _ _).drew).mono ?_
  rintro r w' ⟨gz, cz, e, h1, h2, h3, h4⟩
  exact ⟨gz, cz, e, h1, h2, h3, (Below.refl _ _).drew.trans h4⟩
theorem RestAt.keepUp {w w' : World} {g s n N k : Nat} {ps ps' : List PJ} {zr : Nat → Nat → Int × Int} (h : RestAt w g s n N k ps ps' zr) (hb : ∀ b, g ≤ b → b < w.heap.size → w'.heap[b]? = w.heap[b]?) : RestAt w' g s n N k ps ps' zr :=
  ⟨h.len, tab_keep h.tab (hb g (Nat.le_refl _) (tab_lt h.tab)), fun i hi => row_keep (h.row i hi) (hb _ (Nat.le_of_lt (h.far i hi)) (row_lt (h.row i hi))), h.far, h.ok⟩
theorem own_ne {W : World} {base k : Nat} {e : TypeId} {size m : Nat} {v : Value} {xs : List Value} (h : W.ownsRow base e size v m xs) (hk : k < base) : some k ≠ v.ownBlock := fun e => by
  have := (h.lt k e.symm).1
  omega
/-- The new size is laid. -/
theorem RunIn.push {w w3 w4 : World} {br bo base n gF cF p t : Nat} {v v' : Value} {L : List Nat} {sz : Nat} {ps : List PJ} {zb : Nat → Nat → Int × Int} {z : Nat → Int × Int} (h : RunIn w w3 br bo base n gF cF p t t v L ps zb z) (hl : Lie w br bo gF base) (o : Obj)
    (hown : w4.ownsRow base 29 1 v' (t + 1) ((L.map fun s => .float .f64 s) ++ [.float .f64 sz])) (hgr : (w3.alloc o).grownBy w4 v.ownBlock) (hsz : DV (p * t) sz (mxAll (nbs ps) (fitR p n ps zb z t) ps.length)) :
    RunIn w (w4.setCell ⟨bo, 2, none⟩ v') br bo base n gF cF p t (t + 1) v' (L ++ [sz]) ps zb z := by
  have hw : Below w3.heap.size w3 (w3.alloc o) := (Below.refl _ _).alloc (Nat.le_refl _) _
  have hs3 := h.size
  have keep : ∀ b, b < base → w4.heap[b]? = w3.heap[b]? := fun b hb => (hgr.block b (Nat.lt_of_lt_of_le (by omega) hw.size) (own_ne h.own hb)).trans (hw.block b (by omega))
  have keep5 : ∀ b, b ≠ bo → (w4.setCell ⟨bo, 2, none⟩ v').heap[b]? = w4.heap[b]? := fun b hb => Below.heap_setCell _ _ _ _ hb
  have hws := h.low.size
  have lw : w.heap.size ≤ base := Nat.le_trans hl.br1 (Nat.le_of_lt hl.lt1)
  have hlow4 : Below w.heap.size w w4 := (h.low.trans (hw.mono hws)).grown hgr (Nat.le_trans hws hw.size) (fun q hq => Nat.le_trans lw (h.own.lt q hq).1)
  obtain ⟨f, f1, f2⟩ := h.row
  have out4 := (keep bo hl.lt2).trans h.out
  refine ⟨hlow4.setCell hl.bo1 _, ?_, ?_, heap_setCell_same _ bo 2 _ _ _ out4, ?_, by simp [h.len], ⟨f, row_keep f1 ((keep5 gF hl.ne3).trans (keep gF hl.lt3)), f2⟩, fun i hi => ?_⟩
  · rw [World.size_setCell]
    exact Nat.le_trans hs3 (Nat.le_trans hw.size hgr.size)
  · exact (keep5 br (Ne.symm hl.ne1)).trans ((keep br hl.lt1).trans h.res)
  · rw [List.map_append]
    exact ownsRow_setCell_below hown hl.lt2 _
  · by_cases e : i < t
    · have : (L ++ [sz]).getD i 0 = L.getD i 0 := by simp [List.getD_eq_getElem?_getD, List.getElem?_append_left (show i < L.length by rw [h.len]; exact e)]
      rw [this]
      exact h.szs i e
    · obtain rfl : i = t := by omega
      have : (L ++ [sz]).getD i 0 = sz := by rw [← h.len]; simp [List.getD_eq_getElem?_getD]
      rw [this]
      exact hsz
theorem fitZ_of {g p n t N : Nat} {W : World} {s : Nat} {ps ps' : List PJ} {zb : Nat → Nat → Int × Int} {z : Nat → Int × Int} (hN : ps.length = N) (hT : RestAt W g s n N N ps ps' (fitR p n ps zb z t)) (k : Nat) :
    addZ (upZ p (fitZ p n ps zb z t k)) (layZ (ixP n ps') (fitR p n ps zb z t) k ps'.length) = fitZ p n ps zb z (t + 1) k := by
  show _ = addZ (upZ p (fitZ p n ps zb z t k)) (layZ (ixP n ps) (fitR p n ps zb z t) k ps.length)
  rw [hT.len, hN]
  rw [layZ_ext (ix := ixP n ps') (ix' := ixP n ps) fun q hq => ?_]
  unfold ixP
  rw [(hT.ok q hq).1]
/-- A round is done. -/
theorem RunIn.adv {w w5 w6 : World} {br bo base n gF cF p t m : Nat} {v : Value} {L : List Nat} {ps : List PJ} {zb : Nat → Nat → Int × Int} {z : Nat → Int × Int} (h : RunIn w w5 br bo base n gF cF p t m v L ps zb z) (hl : Lie w br bo gF base) (hg : w5.grownBy w6 (some gF))
    {f : Nat → Nat × Nat} (hr : Row w6 gF (n * n) f) (hd : ∀ k, k < n * n → DC (p * t + p) (f k) (fitZ p n ps zb z (t + 1) k)) : RunIn w w6 br bo base n gF cF p (t + 1) m v L ps zb z := by
  have hs := h.size
  have l1 := hl.lt1
  have l2 := hl.lt2
  refine ⟨h.low.grown hg h.low.size (fun q hq => by cases hq; exact hl.gF1), Nat.le_trans hs hg.size, ?_, ?_, h.own.kept hg (.inr (fun e => own_ne h.own hl.lt3 e.symm)), h.len, ⟨f, hr, fun k hk => by rw [Nat.mul_add, Nat.mul_one]; exact hd k hk⟩, h.szs⟩
  · exact (hg.block br (by omega) (by intro e; cases e; exact hl.ne2 rfl)).trans h.res
  · exact (hg.block bo (by omega) (by intro e; cases e; exact hl.ne3 rfl)).trans h.out
/-- What Run hands back. -/
def RunPost (w : World) (n p rounds : Nat) (ps : List PJ) (zb : Nat → Nat → Int × Int) (z : Nat → Int × Int) (e : Ending) (w' : World) : Prop :=
  ∃ (t gF cF gS cS : Nat) (L : List Nat), t ≤ rounds ∧ e = .returned (.tuple #[.agg #[.int .i64 n, .slice (some ⟨gF, 0, none⟩) (n * n : Nat) cF, .slice (some ⟨gS, 0, none⟩) (t + 1 : Nat) cS], .int .i64 0]) ∧ n * n ≤ cF ∧ w.heap.size ≤ gF ∧
    (∃ f, Row w' gF (n * n) f ∧ ∀ k, k < n * n → DC (p * t) (f k) (fitZ p n ps zb z t k)) ∧ (t = rounds ∨ mxAll (nbs ps) (fitR p n ps zb z t) ps.length = 0) ∧ L.length = t + 1 ∧ (∀ i, i < t + 1 → DV (p * i) (L.getD i 0) (mxAll (nbs ps) (fitR p n ps zb z i) ps.length)) ∧ w'.ownsRow w.heap.size 29 1 (.slice (some ⟨gS, 0, none⟩) (t + 1 : Nat) cS) (t + 1) (L.map fun s => .float .f64 s) ∧ Below w.heap.size w w'
theorem RunIn.ret {w w5 : World} {br bo base n gF cF p t m rounds gS cS : Nat} {L : List Nat} {ps : List PJ} {zb : Nat → Nat → Int × Int} {z : Nat → Int × Int} (h : RunIn w w5 br bo base n gF cF p t m (.slice (some ⟨gS, 0, none⟩) m cS) L ps zb z) (hl : Lie w br bo gF base) (hm : m = t + 1) (ht : t ≤ rounds) (hend : t = rounds ∨ mxAll (nbs ps) (fitR p n ps zb z t) ps.length = 0) (hc : n * n ≤ cF) (x y u : Value) :
    RunPost w n p rounds ps zb z (.returned (.tuple #[.agg #[.int .i64 n, .slice (some ⟨gF, 0, none⟩) (n * n : Nat) cF, .slice (some ⟨gS, 0, none⟩) m cS], .int .i64 0])) (((w5.setCell ⟨br, 0, none⟩ x).setCell ⟨br, 1, none⟩ y).setCell ⟨br, 2, none⟩ u) := by
  subst hm
  obtain ⟨f, f1, f2⟩ := h.row
  have lw : w.heap.size ≤ base := Nat.le_trans hl.br1 (Nat.le_of_lt hl.lt1)
  have own1 := ownsRow_setCell_below (ownsRow_setCell_below (ownsRow_setCell_below h.own hl.lt1 x (a := ⟨br, 0, none⟩)) hl.lt1 y (a := ⟨br, 1, none⟩)) hl.lt1 u (a := ⟨br, 2, none⟩)
  exact ⟨t, gF, cF, gS, cS, L, ht, rfl, hc, hl.gF1, ⟨f, row_keep f1 (by rw [Below.heap_setCell _ _ _ _ hl.ne2, Below.heap_setCell _ _ _ _ hl.ne2, Below.heap_setCell _ _ _ _ hl.ne2]), f2⟩, hend, h.len, h.szs, ⟨own1.1, by
    rcases own1.2 with h' | ⟨g, cap, cur, a1, a2, a3⟩
    · exact .inl h'
    · exact .inr ⟨g, cap, cur, a1, Nat.le_trans lw a2, a3⟩⟩, ((h.low.setCell hl.br1 _).setCell hl.br1 _).setCell hl.br1 _⟩
end Go.Proofs.YtfnbcpeipoobkaaGreat

namespace Go.Proofs.YtfnbcpeipoobkaaGreat
open Go.RowKit Go.Shelf Fl Ieee
attribute [local go_sem] store_complex

theorem infoF : ((barP Tryz.prog).info? 29).map (fun i => (i.zero, i.size, i.bytes)) = some (some (.float .f64 0), 1, 8) := by kernel_rfl
set_option maxRecDepth 100000 in
set_option maxHeartbeats 6400000 in
theorem runOk {p n rounds gc cc gq cq B C : Nat} {ps : List PJ} {zb : Nat → Nat → Int × Int} {f0 : Nat → Nat × Nat} {z : Nat → Int × Int} (h1 : 1 ≤ n) (h2 : n ≤ 64) (hp : p ≤ 12) (hr : rounds ≤ 64) (hps : ps.length ≤ 64)
    (hP : ∀ i, i < ps.length → PJok n (ps.getD i pj0) ∧ ∀ j, j < (ps.getD i pj0).nb → DC 0 ((ps.getD i pj0).b j) (zb i j)) (hF : FitBd p n rounds B C ps zb z) (hB : 64 * B < 2 ^ 53) (hC : B + 4096 * C < 2 ^ 53) (hC2 : C + 64 * B < 2 ^ 53) (hcc : n * n ≤ cc) (w : World) (hA : PJAt w gq ps) (hR : Row w gc (n * n) f0) (hz : ∀ k, k < n * n → DC 0 (f0 k) (z k)) :
    Calls (barP Tryz.prog) 6 #[gridV n gc cc, .slice (some ⟨gq, 0, none⟩) ps.length cq, .int .i64 rounds, .int .i64 p] w (RunPost w n p rounds ps zb z) := by
  have hpr : p * rounds ≤ 12 * 64 := Nat.mul_le_mul hp hr
  have HF := hide hF
  have HP := hide hP
  have HA := hide hA
  have HR := hide hR
  have Hz := hide hz
  have hgcl := row_lt hR
  have kL := hide (fun (W : World) hA' => flookOk (s := 0) (gc := gc) (cc := cc) (gq := gq) (cq := cq) (zb := zb) (B := B) h1 h2 (by omega) hps (fun i hi => ⟨(hP i hi).1, fun j hj => ⟨(hP i hi).2 j hj, by have := hF.bin 0 (by omega) i hi j hj; rwa [Nat.mul_zero, upZ_zero] at this⟩⟩) hB W hA')
  have kC := hide (fun (W : World) hR' => cloneCx (gs := gc) (c := cc) (f := f0) (Nat.mul_le_mul h1 h1) (square_le h2) W hR')
  clear hF hP hA hR hz
  obtain ⟨N, hN⟩ : ∃ N, ps.length = N := ⟨_, rfl⟩
  rw [hN] at hps kL ⊢
  have hNh := hide hN
  clear hN
  have y0 := ((Below.refl w.heap.size w).alloc (Nat.le_refl _) (.cells #[.int .i64 n, .slice (some ⟨gc, 0, none⟩) (n * n : Nat) cc] 27)).alloc (by rw [World.size_alloc]; omega) (.cells #[.int .i64 0, .slice none 0 0, .slice none 0 0] 43)
  have x0 : ((w.alloc (.cells #[.int .i64 n, .slice (some ⟨gc, 0, none⟩) (n * n : Nat) cc] 27)).alloc (.cells #[.int .i64 0, .slice none 0 0, .slice none 0 0] 43)).heap[w.heap.size]? = _ := (Below.heap_alloc _ _ _ (by simp)).trans (World.alloc_heap_new w (.cells #[.int .i64 n, .slice (some ⟨gc, 0, none⟩) (n * n : Nat) cc] 27))
  have x1 := World.alloc_heap_new (w.alloc (.cells #[.int .i64 n, .slice (some ⟨gc, 0, none⟩) (n * n : Nat) cc] 27)) (.cells #[.int .i64 0, .slice none 0 0, .slice none 0 0] 43)
  rw [World.size_alloc] at x1
  have z0 : ((w.alloc (.cells #[.int .i64 n, .slice (some ⟨gc, 0, none⟩) (n * n : Nat) cc] 27)).alloc (.cells #[.int .i64 0, .slice none 0 0, .slice none 0 0] 43)).heap.size = w.heap.size + 2 := by simp
  have A0 := hide ((unhide HA).below y0)
  have Y0 := hide y0
  have X0 := hide x0
  have X1 := hide x1
  clear y0 x0 x1
  have q1 : ((rounds : Int) < 0) = False := by simp
  have q2 : ((64 : Int) < (rounds : Int)) = False := by simp; omega
  have q3 : ((p : Int) < 0) = False := by simp
  have q4 : ((30 : Int) < (p : Int)) = False := by simp; omega
  unfold gridV at *
  have hsq := square_le h2
  generalize hNN : n * n = NN at *
  go_enter Bar.func6, Bar.ntmps6
  go_wp2_with fail
  generalize (w.alloc (.cells #[.int .i64 n, .slice (some ⟨gc, 0, none⟩) (NN : Nat) cc] 27)).alloc (.cells #[.int .i64 0, .slice none 0 0, .slice none 0 0] 43) = w0 at *
  refine (unhide kL w0 (unhide A0)).mono ?_
  rintro e w1 ⟨rfl, hb1⟩
  have Y1 := hide ((unhide Y0).trans (hb1.mono (unhide Y0).size))
  have X2 := (hb1.block w.heap.size (by omega)).trans (unhide X0)
  have X3 := hide ((hb1.block (w.heap.size + 1) (by omega)).trans (unhide X1))
  have k0 := block_cell X2 0
  have k1 := block_cell X2 1
  simp only [List.getElem?_toArray, List.getElem?_cons_zero, List.getElem?_cons_succ] at k0 k1
  have z1 : w.heap.size + 2 ≤ w1.heap.size := by have := hb1.size; omega
  have KC := hide (fun (W : World) (hb : Below w1.heap.size w1 W) => unhide kC W (row_below (row_below (unhide HR) (unhide Y1) hgcl) hb (by omega)))
  have FC : Hid (∀ W : World, Below w1.heap.size w1 W → W.cell? ⟨w.heap.size, 0, none⟩ = some (.int .i64 n) ∧ W.cell? ⟨w.heap.size, 1, none⟩ = some (.slice (some ⟨gc, 0, none⟩) (NN : Nat) cc) ∧ Hid (Below w1.heap.size w1 W)) := fun W hb => ⟨(hb.cell (p := ⟨w.heap.size, 0, none⟩) (by show w.heap.size < _; omega)).trans k0, (hb.cell (p := ⟨w.heap.size, 1, none⟩) (by show w.heap.size < _; omega)).trans k1, hb⟩
  clear hb1 kL kC A0 Y0 X0 X1 X2
  go_wp2_with fail
  go_cut [11] (fun pv wx => Hid (CutRun w wx (w.heap.size + 1) n p pv ps zb z))
  case first =>
    go_region_held3 (fun W => W.cell? ⟨w.heap.size, 0, none⟩ = some (.int .i64 n) ∧ W.cell? ⟨w.heap.size, 1, none⟩ = some (.slice (some ⟨gc, 0, none⟩) (NN : Nat) cc) ∧ Hid (Below w1.heap.size w1 W))
      (first | exact unhide FC _ (unhide hv1) | exact unhide FC _ (unhide hv1).drew | exact unhide FC _ (Below.refl _ _).drew | exact unhide FC _ ((Below.refl _ _).alloc (Nat.le_refl _) _) | exact unhide FC _ ((Below.refl _ _).alloc (Nat.le_refl _) _).drew | exact unhide FC _ ((unhide hv1).alloc (unhide hv1).size _) | exact unhide FC _ ((((unhide hv1).setCell (Nat.le_refl _) _).setCell (Nat.le_refl _) _).setCell (Nat.le_refl _) _) | go_keep)
      (first
      | (go_at_call 13; with_reducible refine (clone_new KC).mono ?_; rintro e w2 ⟨gF, cF, rfl, hcF, hgF, hRF, hz2, hv1, j0, j1, j2, j3, j4, j5⟩)
      | (go_at_call 13; with_reducible refine (clone_held KC (by assumption)).mono ?_; rintro e w2 ⟨gF, cF, rfl, hcF, hgF, hRF, hv1⟩))
    all_goals go_wp2_with fail
    all_goals go_meet
    all_goals subst hNN
    · have hl2 := row_lt (unhide hRF)
      have bb := (Below.refl _ w2).alloc (Nat.le_refl _) (.cells #[.int .i64 n, .slice (some ⟨gF, 0, none⟩) (n * n : Nat) cF, .slice none 0 0] 43)
      exact cut_run (unhide Y1) (unhide X3) (by omega) ((unhide hv1).trans (bb.mono (unhide hv1).size)) (heap_alloc_new w2 _) (row_below (unhide hRF) bb hl2) (unhide hv1).size hgF (by omega) hcF (unhide Hz)
    · exact cut_run (unhide Y1) (unhide X3) (by omega) ((((unhide hv1).setCell (Nat.le_refl _) _).setCell (Nat.le_refl _) _).setCell (Nat.le_refl _) _) (three_heap (unhide hz2) _ _ _) (row_keep (unhide hRF) (by rw [Below.heap_setCell _ _ _ _ (by show gF ≠ w1.heap.size; omega), Below.heap_setCell _ _ _ _ (by show gF ≠ w1.heap.size; omega), Below.heap_setCell _ _ _ _ (by show gF ≠ w1.heap.size; omega)])) (Nat.le_refl _) (by omega) (by omega) hcF (unhide Hz)
  case rest =>
    obtain ⟨bo, gF, cF, rfl, hcF, hLie, hIn⟩ := unhide hcut
    have HI := hide hIn
    have HL := hide hLie
    generalize hbase : wc.heap.size = base at *
    clear hcut FC KC X3 k0 k1 Y1 HR Hz hIn hbase
    obtain ⟨l1, l2, l3, l4, l5, l6, l7, l8, l9⟩ := hLie
    generalize hbr : w.heap.size + 1 = br at *
    obtain ⟨i1, hi1, hz0, hz1, hz2⟩ := info_parts infoF
    go_wp2_with fail
    go_loopg [] rounds (fun k wr => ∃ (t : Nat) (L : List Nat) (v : Value), t + k = rounds ∧ Hid (RunIn w wr br bo base n gF cF p t t v L ps zb z))
    case atStart => exact ⟨0, [], _, Nat.zero_add _, HI⟩
    case round =>
      clear HI
      obtain ⟨t, L, v, htk, hI⟩ := hrel
      have hpt2 : p * t ≤ 12 * 64 := Nat.mul_le_mul hp (by omega)
      have hpt : p * t ≤ 1074 := by omega
      obtain ⟨f, hf1, hf2⟩ := (unhide hI).row
      have kR := restsOk (s := p * t) (gc := gF) (cc := cF) (gq := gq) (cq := cq) (B := B) (C := C) (f := f) (z := fitZ p n ps zb z t) h1 h2 hpt (by rw [unhide hNh]; exact hps) (binsZ_up (unhide HP) (unhide HF) (by omega) hpt) hC hcF wr ((unhide HA).below (unhide hI).low) hf1 (fun k hk => ⟨hf2 k hk, ((unhide HF).cell t (by omega) k hk).of_up⟩)
      have o := (unhide hI).out
      unfold gridV at kR
      rw [unhide hNh, hNN] at kR
      rw [hNN] at o
      have kR := hide kR
      have k0 := block_cell o 0
      have k1 := block_cell o 1
      simp only [List.getElem?_toArray, List.getElem?_cons_zero, List.getElem?_cons_succ] at k0 k1
      have hrb := (unhide hI).size
      clear hf1 hf2 o
      go_wp2_with fail
      refine (unhide kR).mono ?_
      rintro e w2 ⟨g, ps', rfl, hT, hg, hb2⟩
      have I2 := hide ((unhide hI).keep hb2)
      have T2 := hide hT
      have hnb' : ∀ i, i < N → (ps'.getD i pj0).nb = (ps.getD i pj0).nb := fun i hi => (hT.ok i hi).2.1
      have kG := hide (greatOk (s := p * t) (gq := g) (cq := N) (N := N) (ps := ps') (zr := fitR p n ps zb z t) hpt hT.len hps (fun i hi => by
        rw [hnb' i hi]
        obtain ⟨_, _, p3, p4⟩ := (unhide HP i (by rw [unhide hNh]; exact hi)).1
        omega) (fun i hi j hj => (hT.ok i hi).2.2.2 j (by rw [← hnb' i hi]; exact hj)) w2 hT.pj)
      have hmx : mxAll (fun i => (ps'.getD i pj0).nb) (fitR p n ps zb z t) N = mxAll (nbs ps) (fitR p n ps zb z t) N := mxAll_nb hnb'
      rw [hmx] at kG
      have hs2 := hb2.size
      have kq : Hid (∀ k, v.ownBlock = some k → k < g) := fun k hk => Nat.lt_of_lt_of_le ((unhide hI).own.lt k hk).2 hg
      clear k0 k1 hb2 hT hnb' hmx kR hI
      go_wp2_with fail
      refine (unhide kG).mono ?_
      rintro e w3 ⟨⟨sz, rfl, hsz⟩, hb3⟩
      have I3 := hide ((unhide I2).keep hb3)
      have T3 := hide ((unhide T2).keep hb3)
      have hs3 := hb3.size
      have o := (unhide I3).out
      have k2 := block_cell o 2
      simp only [List.getElem?_toArray, List.getElem?_cons_zero, List.getElem?_cons_succ] at k2
      have Hsz := hide hsz
      have hnews : Hid (∀ j u, [Value.float .f64 sz][j]? = some u → (w3.alloc (.cells #[.float .f64 sz] 29)).cell? ((⟨w3.heap.size, 0, none⟩ : Addr).add j) = some u) := fun j u hu => by
        have hj : j = 0 := by
          have := (List.getElem?_eq_some_iff.1 hu).1
          simp at this
          exact this
        subst hj
        rw [addr_add, block_cell (World.alloc_heap_new w3 (.cells #[.float .f64 sz] 29)) 0]
        simpa using hu
      have hone : Hid (∀ u ∈ [Value.float .f64 sz], u.oneCell' = true) := fun u hu => by
        rw [List.mem_singleton.1 hu]
        rfl
      clear hb3 I2 T2 kG hsz o
      obtain ⟨m, hm⟩ : ∃ m, m = t + 1 := ⟨_, rfl⟩
      go_wp2_with (first
        | (at_builtin; refine wpList_append_own _ rfl (.tmp 50) (.tmp 52) 41 rfl base 29 i1 (.float .f64 0) 1 8 Bar.underlying41 hi1 hz0 hz1 hz2 rfl (by decide) _ t (L.map fun s => .float .f64 s) rfl ((unhide I3).own.alloc _) ⟨w3.heap.size, 0, none⟩ 1 1 [.float .f64 sz] rfl rfl (unhide hnews) (unhide hone) ?c3 ?c4 ?c5 ?_))
      case c3 => unfold maxLen; omega
      case c4 => omega
      case c5 => rw [World.size_alloc]; omega
      intro v' w4 hown hgr _
      obtain ⟨gS, cS, rfl⟩ := ownsRow_succ hown
      have hT3l := tab_lt (unhide T3).tab
      have sz4 : (w3.alloc (.cells #[.float .f64 sz] 29)).heap.size = w3.heap.size + 1 := World.size_alloc _ _
      have I5 := hide ((unhide I3).push (unhide HL) _ hown hgr (by rw [unhide hNh]; exact unhide Hsz))
      have T5 := hide ((unhide T3).keepUp (w' := w4.setCell ⟨bo, 2, none⟩ (.slice (some ⟨gS, 0, none⟩) (t + 1) cS)) fun b hgb hb => (Below.heap_setCell _ _ _ _ (by show b ≠ bo; omega)).trans ((hgr.block b (by omega) (fun e => by have := unhide kq b e.symm; omega)).trans (Below.heap_alloc _ _ _ hb)))
      have keep : ∀ b, b < base → w4.heap[b]? = w3.heap[b]? := fun b hb => (hgr.block b (by omega) (own_ne (unhide I3).own hb)).trans (Below.heap_alloc _ _ _ (by omega))
      have o4 := (keep bo l8).trans (unhide I3).out
      have r4 := (keep br l7).trans (unhide I3).res
      have u0 := block_cell o4 0
      have u1 := block_cell o4 1
      have u2 := block_cell o4 2
      have u3 := block_frozen o4 2
      have v0 := block_cell r4 0
      have v1 := block_cell r4 1
      have v2 := block_cell r4 2
      have v3 := block_frozen r4 0
      have v4 := block_frozen r4 1
      have v5 := block_frozen r4 2
      simp only [List.getElem?_toArray, List.getElem?_cons_zero, List.getElem?_cons_succ] at u0 u1 u2 v0 v1 v2
      rw [hNN] at u1
      clear hown hgr keep k2 hnews hone I3 T3 o4 r4 kq
      have l4' : br ≠ bo := fun e => l4 e.symm
      have ho : FloatKind.f64.format.order sz 0 = some (compare ((mxAll (nbs ps) (fitR p n ps zb z t) N : Nat) : Int) 0) := dv_order (unhide Hsz) (dv_zero hpt)
      rw [← hm] at I5 T5 ⊢
      have hmh := hide hm
      clear hm
      by_cases cM : mxAll (nbs ps) (fitR p n ps zb z t) N = 0
      · have q5 : FloatKind.f64.format.order sz 0 = some .eq := by rw [ho, cM]; rfl
        clear ho
        go_wp2_with fail
        refine bodyPost_ret (results_three_tmp (P := (barP Tryz.prog)) rfl _ _ br (.int .i64 n) (.slice (some ⟨gF, 0, none⟩) NN cF) (.slice (some ⟨gS, 0, none⟩) m cS) (.int .i64 0) _ rfl rfl (block_cell (three_heap (unhide I5).res _ _ _) 0) (block_cell (three_heap (unhide I5).res _ _ _) 1) (block_cell (three_heap (unhide I5).res _ _ _) 2) Bar.underlying43 rfl (by kernel_rfl)) rfl ?_
        subst hNN
        exact (unhide I5).ret (unhide HL) (unhide hmh) (by omega) (by rw [unhide hNh]; exact .inr cM) hcF _ _ _
      · have q5 : FloatKind.f64.format.order sz 0 = some .gt := by
          rw [ho, Int.compare_eq_gt.2 (by omega)]
        by_cases ct : rounds < m
        · have q6 : ((rounds : Int) < (m : Int)) = True := by simp; omega
          clear ho
          go_wp2_with fail
          refine bodyPost_ret (results_three_tmp (P := (barP Tryz.prog)) rfl _ _ br (.int .i64 n) (.slice (some ⟨gF, 0, none⟩) NN cF) (.slice (some ⟨gS, 0, none⟩) m cS) (.int .i64 0) _ rfl rfl (block_cell (three_heap (unhide I5).res _ _ _) 0) (block_cell (three_heap (unhide I5).res _ _ _) 1) (block_cell (three_heap (unhide I5).res _ _ _) 2) Bar.underlying43 rfl (by kernel_rfl)) rfl ?_
          subst hNN
          exact (unhide I5).ret (unhide HL) (unhide hmh) (by omega) (.inl (by have := unhide hmh; omega)) hcF _ _ _
        · have q6 : ((rounds : Int) < (m : Int)) = False := by simp; omega
          clear ho
          obtain ⟨f, hf1, hf2⟩ := (unhide I5).row
          have kA := advanceOk (s := p * t) (p := p) (gc := gF) (cc := cF) (gq := g) (cq := N) (B := B) (C := C) (ps := ps') (zb := fitR p n ps zb z t) (f := f) (z := fun k => upZ p (fitZ p n ps zb z t k)) h1 h2 hp (by omega) (by rw [(unhide T5).len]; exact hps) (binsZ_rest (fun i hi => (unhide HP i hi).1) (unhide HF) (by omega) (by rw [unhide hNh]; exact unhide T5)) hB hC2 _ (unhide T5).pj hf1 (fun k hk => ⟨dc_up p (hf2 k hk) (by omega), (unhide HF).cell t (by omega) k hk⟩)
          unfold gridV at kA
          have hl5 := (unhide T5).len
          simp only [fitZ_of (unhide hNh) (unhide T5)] at kA
          rw [hl5, hNN] at kA
          have kA := hide kA
          clear hf1 hf2 hl5
          go_wp2_with fail
          refine (unhide kA).mono ?_
          rintro e w6 ⟨⟨u, rfl⟩, ⟨f6, hr6, hd6⟩, hg6⟩
          have I6 : Hid (RunIn w w6 br bo base n gF cF p (t + 1) m (.slice (some ⟨gS, 0, none⟩) m cS) (L ++ [sz]) ps zb z) := (unhide I5).adv (unhide HL) hg6 (by rw [hNN]; exact hr6) (by rw [hNN]; exact hd6)
          clear kA hr6 hd6 hg6 I5 T5
          go_wp2_with fail
          have hm2 := unhide hmh
          go_roundg (gk - 1)
          case measure => omega
          case rel => exact ⟨t + 1, _, _, by omega, by rw [hm2] at I6; exact I6⟩
end Go.Proofs.YtfnbcpeipoobkaaGreat

namespace Go.Proofs.YtfnbcpeipoobkaaGreat
open Go.RowKit Go.Shelf Fl Ieee
attribute [local go_sem] store_complex

def aPJ (b1 : Nat) : List PJ := [⟨(1, 0), b1, 1, 1, fun _ => (4620693217682128896, 0)⟩]
def aB : Nat → Nat → Int × Int := fun _ _ => (8, 0)
def aZ : Nat → Int × Int := fun _ => (0, 0)
theorem aZ0 (b1 : Nat) : fitZ 1 1 (aPJ b1) aB aZ 0 0 = (0, 0) := rfl
theorem aZ1 (b1 : Nat) : fitZ 1 1 (aPJ b1) aB aZ 1 0 = (8, 0) := rfl
theorem aZ2 (b1 : Nat) : fitZ 1 1 (aPJ b1) aB aZ 2 0 = (24, 0) := rfl
theorem aR0 (b1 : Nat) : fitR 1 1 (aPJ b1) aB aZ 0 0 0 = (8, 0) := rfl
theorem aR1 (b1 : Nat) : fitR 1 1 (aPJ b1) aB aZ 1 0 0 = (8, 0) := rfl
theorem aR2 (b1 : Nat) : fitR 1 1 (aPJ b1) aB aZ 2 0 0 = (8, 0) := rfl
theorem aMx (b1 : Nat) {t : Nat} (ht : t ≤ 2) : mxAll (nbs (aPJ b1)) (fitR 1 1 (aPJ b1) aB aZ t) (aPJ b1).length = 8 := by
  match t, ht with
  | 0, _ => rfl
  | 1, _ => rfl
  | 2, _ => rfl
theorem a_one {i : Nat} (b1 : Nat) (h : i < (aPJ b1).length) : i = 0 := by
  have : i < 1 := h
  omega
theorem aFit (b1 : Nat) : FitBd 1 1 2 48 48 (aPJ b1) aB aZ := by
  refine ⟨fun t ht k hk => ?_, fun t ht i hi j hj => ?_, fun t ht i hi j hj => ?_⟩
  · obtain rfl : k = 0 := by omega
    match t, ht with
    | 0, _ => rw [aZ0]; exact ⟨by decide, by decide⟩
    | 1, _ => rw [aZ1]; exact ⟨by decide, by decide⟩
    | 2, _ => rw [aZ2]; exact ⟨by decide, by decide⟩
  · match t, ht with
    | 0, _ => exact ⟨by show ((8 : Int) * 2 ^ (1 * 0)).natAbs ≤ 48; decide, by show ((0 : Int) * 2 ^ (1 * 0)).natAbs ≤ 48; decide⟩
    | 1, _ => exact ⟨by show ((8 : Int) * 2 ^ (1 * 1)).natAbs ≤ 48; decide, by show ((0 : Int) * 2 ^ (1 * 1)).natAbs ≤ 48; decide⟩
    | 2, _ => exact ⟨by show ((8 : Int) * 2 ^ (1 * 2)).natAbs ≤ 48; decide, by show ((0 : Int) * 2 ^ (1 * 2)).natAbs ≤ 48; decide⟩
  · obtain rfl := a_one b1 hi
    obtain rfl : j = 0 := by
      have : j < 1 := hj
      omega
    match t, ht with
    | 0, _ => rw [aR0]; exact ⟨by decide, by decide⟩
    | 1, _ => rw [aR1]; exact ⟨by decide, by decide⟩
    | 2, _ => rw [aR2]; exact ⟨by decide, by decide⟩
theorem dv8 : DV 0 4620693217682128896 8 := dv_iv (iv_of 8 (by decide) (by decide +kernel))
theorem dv2 : DV 0 4611686018427387904 2 := dv_iv (iv_of 2 (by decide) (by decide +kernel))
theorem dv6 : DV 0 4618441417868443648 6 := dv_iv (iv_of 6 (by decide) (by decide +kernel))
theorem dv_same {s a b : Nat} {x : Int} (ha : DV s a x) (hb : DV s b x) : FloatKind.f64.format.order a b = some .eq := by
  have : FloatKind.f64.format.order a b = some (compare x x) := dv_order ha hb
  rw [this, Int.compare_eq_eq.2 rfl]
set_option maxRecDepth 100000 in
set_option maxHeartbeats 3200000 in
theorem falive (w : World) : Calls (barP Tryz.prog) 4 #[] w fun e w' => e = .returned (.bool true) ∧ Below w.heap.size w w' := by
  have y1 := (Below.refl w.heap.size w).alloc (Nat.le_refl _) (.cells #[.complex .f64 0 0] 28)
  have x1 := World.alloc_heap_new w (.cells #[.complex .f64 0 0] 28)
  have s1 : (w.alloc (.cells #[.complex .f64 0 0] 28)).heap.size = w.heap.size + 1 := World.size_alloc _ _
  obtain ⟨w1, hw1⟩ : ∃ w1, w.alloc (.cells #[.complex .f64 0 0] 28) = w1 := ⟨_, rfl⟩
  rw [hw1] at y1 x1 s1
  have y2 := (Below.refl w1.heap.size w1).alloc (Nat.le_refl _) (.cells #[.complex .f64 4620693217682128896 0] 28)
  have x2 := World.alloc_heap_new w1 (.cells #[.complex .f64 4620693217682128896 0] 28)
  have s2 : (w1.alloc (.cells #[.complex .f64 4620693217682128896 0] 28)).heap.size = w.heap.size + 2 := by rw [World.size_alloc, s1]
  obtain ⟨w2, hw2⟩ : ∃ w2, w1.alloc (.cells #[.complex .f64 4620693217682128896 0] 28) = w2 := ⟨_, rfl⟩
  rw [hw2] at y2 x2 s2
  rw [s1] at x2 y2
  have y3 := (Below.refl w2.heap.size w2).alloc (Nat.le_refl _) (.cells #[.int .i64 1, .int .i64 0, .slice (some ⟨w.heap.size + 1, 0, none⟩) 1 1] 40)
  have x3 := World.alloc_heap_new w2 (.cells #[.int .i64 1, .int .i64 0, .slice (some ⟨w.heap.size + 1, 0, none⟩) 1 1] 40)
  have s3 : (w2.alloc (.cells #[.int .i64 1, .int .i64 0, .slice (some ⟨w.heap.size + 1, 0, none⟩) 1 1] 40)).heap.size = w.heap.size + 3 := by rw [World.size_alloc, s2]
  obtain ⟨w3, hw3⟩ : ∃ w3, w2.alloc (.cells #[.int .i64 1, .int .i64 0, .slice (some ⟨w.heap.size + 1, 0, none⟩) 1 1] 40) = w3 := ⟨_, rfl⟩
  rw [hw3] at y3 x3 s3
  rw [s2] at x3 y3
  have hB : Below w.heap.size w w3 := (y1.trans (y2.mono (by omega))).trans (y3.mono (by omega))
  have g2 : w3.heap[w.heap.size + 1]? = _ := (y3.block _ (by omega)).trans x2
  have g1 : w3.heap[w.heap.size]? = _ := (y3.block _ (by omega)).trans ((y2.block _ (by omega)).trans x1)
  have hA : PJAt w3 (w.heap.size + 2) (aPJ (w.heap.size + 1)) := ⟨by omega, fun i hi => by
    obtain rfl := a_one _ hi
    exact ⟨block_cell x3 0, block_cell x3 1, block_cell x3 2⟩, fun i hi => by
    obtain rfl := a_one _ hi
    exact ⟨_, g2, by show (1 : Nat) ≤ 1; decide, fun j hj => by
      obtain rfl : j = 0 := by have : j < 1 := hj; omega
      rfl⟩⟩
  have hR : Row w3 w.heap.size (1 * 1) (fun _ => (0, 0)) := ⟨_, g1, by decide, fun j hj => by
    obtain rfl : j = 0 := by omega
    rfl⟩
  have kR := runOk (p := 1) (n := 1) (rounds := 2) (gc := w.heap.size) (cc := 1) (gq := w.heap.size + 2) (cq := 1) (B := 48) (C := 48) (ps := aPJ (w.heap.size + 1)) (zb := aB) (f0 := fun _ => (0, 0)) (z := aZ) (by decide) (by decide) (by decide) (by decide) (by show (1 : Nat) ≤ 64; decide) (fun i hi => by
    obtain rfl := a_one _ hi
    exact ⟨⟨by show okD 1 0 = true; decide +kernel, by show binsS ((1 : Nat) : Int) (1, 0) = (((1 : Nat) : Int), 0); decide, by show (1 : Nat) ≤ 1; decide, by show (1 : Nat) ≤ 4096; decide⟩, fun j hj => ⟨dv8, dv_zero (by decide), by show (4620693217682128896 : Nat) < 18446744073709551616; decide, by show (0 : Nat) < 18446744073709551616; decide⟩⟩) (aFit _) (by decide) (by decide) (by decide) (by decide) w3 hA hR (fun k hk => dc_zero (by decide))
  have kR : Hid (Calls (barP Tryz.prog) 6 #[.agg #[.int .i64 1, .slice (some ⟨w.heap.size, 0, none⟩) 1 1], .slice (some ⟨w.heap.size + 2, 0, none⟩) 1 1, .int .i64 2, .int .i64 1] w3 (RunPost w3 1 1 2 (aPJ (w.heap.size + 1)) aB aZ)) := kR
  have HB := hide hB
  clear hA hR x1 x2 x3 y1 y2 y3 g1 g2 hB
  go_enter Bar.func4, Bar.ntmps4
  go_wp2_with fail
  refine (unhide kR).mono ?_
  rintro e w4 ⟨t, gF, cF, gS, cS, L, ht, rfl, hcF, hgF, ⟨f, hf1, hf2⟩, hend, hL, hS, hown, hb4⟩
  obtain rfl : t = 2 := by
    rcases hend with h | h
    · exact h
    · rw [aMx _ ht] at h
      omega
  have d0 := hS 0 (by decide)
  have d2 := hS 2 (by decide)
  rw [aMx _ (by decide)] at d0 d2
  have dF := hf2 0 (by decide)
  rw [aZ2] at dF
  have o0 : FloatKind.f64.format.order (L.getD 0 0) 4620693217682128896 = some .eq := dv_same d0 dv8
  have o2 : FloatKind.f64.format.order (L.getD 2 0) 4611686018427387904 = some .eq := dv_same d2 (dv_up 2 dv2 (by decide))
  have o3 : FloatKind.f64.format.order (f 0).1 4618441417868443648 = some .eq := dv_same dF.one (dv_up 2 dv6 (by decide))
  have o4 : FloatKind.f64.format.order (f 0).2 0 = some .eq := dv_same dF.two (dv_zero (by decide))
  have y5 := (Below.refl w4.heap.size w4).alloc (Nat.le_refl _) (.cells #[.int .i64 1, .slice (some ⟨gF, 0, none⟩) 1 cF, .slice (some ⟨gS, 0, none⟩) 3 cS] 43)
  have c1 := (y5.cell (p := ⟨gF, 0, none⟩) (row_lt hf1)).trans (row_at hf1 (i := 0) (by decide))
  have hlt := hown.lt gS rfl
  have oc := hown.cells (g := gS) rfl
  have c2 := oc 0 (.float .f64 (L.getD 0 0)) (by
    match L, hL with
    | [_, _, _], _ => rfl)
  have c3 := oc 2 (.float .f64 (L.getD 2 0)) (by
    match L, hL with
    | [_, _, _], _ => rfl)
  rw [addr_add] at c2 c3
  have c2 := (y5.cell (p := ⟨gS, 0, none⟩) hlt.2).trans c2
  have c3 := (y5.cell (p := ⟨gS, 2, none⟩) hlt.2).trans c3
  have HB2 := hide ((unhide HB).trans ((hb4.trans (y5.mono hb4.size)).mono (unhide HB).size))
  clear hb4 y5 oc hown d0 d2 dF hf1 hf2 hS hL hend
  generalize L.getD 0 0 = e0 at *
  generalize L.getD 2 0 = e2 at *
  generalize f 0 = fz at *
  obtain ⟨fz1, fz2⟩ := fz
  unfold cv at c1
  dsimp only at *
  go_wp2_with fail
  go_ret
  exact ⟨rfl, unhide HB2⟩
end Go.Proofs.YtfnbcpeipoobkaaGreat
