/- What the landed Solve holds in memory. -/
import Derived.Test.YtgbkfmjkemkajaaM10
import Derived.Test.YtgbkfmjkemkajaaPV4
import Derived.Test.YtgbkfmjkemkajaaM11
import Derived.Test.YtgbkfmjkemkajaaPM5
namespace Go.Proofs.Ytgbkfmjkemkajaa
open Go.RowKit

def Bx (w : World) (b : Nat) (v : Value) (t : TypeId) : Prop := w.heap[b]? = some (.cells #[v] t (0, 0))
theorem box_new (w : World) (v : Value) (t : TypeId) : Bx (w.alloc (.cells #[v] t)) w.heap.size v t := heap_alloc_new w _
theorem box_below {w w' : World} {b : Nat} {v : Value} {t : TypeId} (h : Bx w b v t) (hb : Below w.heap.size w w') : Bx w' b v t := (hb.block _ (Array.getElem?_eq_some_iff.1 h).1).trans h
theorem box_cell {w : World} {b : Nat} {v : Value} {t : TypeId} (h : Bx w b v t) : w.cell? ⟨b, 0, none⟩ = some v := cell_of_row w b 0 _ _ (0, 0) h
theorem box_lt {w : World} {b : Nat} {v : Value} {t : TypeId} (h : Bx w b v t) : b < w.heap.size := (Array.getElem?_eq_some_iff.1 h).1
theorem ne_type {W : World} {x y : Nat} {cs cs' : Array Value} {t t' : TypeId} {z z' : Nat × Nat} (h : W.heap[x]? = some (.cells cs t z)) (h' : W.heap[y]? = some (.cells cs' t' z')) (ht : t ≠ t') : x ≠ y := by
  rintro rfl
  rw [h] at h'
  injection h' with h'
  injection h' with _ h' _
  exact ht h'

theorem Rs.less {base base' : Nat} {w : World} {n : Nat} {L : List (Int × Int)} {v : Value} {k : Nat} {gr cr : Nat → Nat} {z : Nat → Nat → Nat × Nat} (h : Rs base w n L v k gr cr z) (hb : base' ≤ base) : Rs base' w n L v k gr cr z :=
  ⟨h.own, h.row, h.inj, h.ne, fun i hi => Nat.le_trans hb (h.geR i hi), fun q hq => Nat.le_trans hb (h.geV q hq)⟩
theorem Rs.keep {base : Nat} {w w' : World} {n : Nat} {L : List (Int × Int)} {v : Value} {k : Nat} {gr cr : Nat → Nat} {z : Nat → Nat → Nat × Nat} (h : Rs base w n L v k gr cr z) (hv : ∀ q, v.ownBlock = some q → w'.heap[q]? = w.heap[q]?) (hr : ∀ i, i < k → w'.heap[gr i]? = w.heap[gr i]?) : Rs base w' n L v k gr cr z :=
  ⟨own_keep h.own hv, fun i hi => vrow_keep (h.row i hi) (hr i hi), h.inj, h.ne, h.geR, h.geV⟩
theorem Rs.typeR {base : Nat} {w : World} {n : Nat} {L : List (Int × Int)} {v : Value} {k : Nat} {gr cr : Nat → Nat} {z : Nat → Nat → Nat × Nat} (h : Rs base w n L v k gr cr z) {i : Nat} (hi : i < k) : ∃ cs, w.heap[gr i]? = some (.cells cs 38 (0, 0)) := by
  obtain ⟨cs, h1, _⟩ := h.row i hi
  exact ⟨cs, h1⟩
theorem Rs.typeV {base : Nat} {w : World} {n : Nat} {L : List (Int × Int)} {v : Value} {k : Nat} {gr cr : Nat → Nat} {z : Nat → Nat → Nat × Nat} (h : Rs base w n L v k gr cr z) {q : Nat} (hq : v.ownBlock = some q) : ∃ cs, w.heap[q]? = some (.cells cs 39 (0, 0)) := by
  rcases h.own.2 with ⟨e, _⟩ | ⟨g', c', cur, e, _, hh, _⟩
  · rw [e] at hq; cases hq
  · rw [e] at hq
    have e : g' = q := by simpa [Value.ownBlock] using hq
    subst e
    exact ⟨cur, hh⟩
/-- The header of the rests, as a row. -/
theorem Rs.head {base : Nat} {w : World} {n : Nat} {L : List (Int × Int)} {v : Value} {k : Nat} {gr cr : Nat → Nat} {z : Nat → Nat → Nat × Nat} (h : Rs base w n L v k gr cr z) (hk : 0 < k) : ∃ gv c, v = .slice (some ⟨gv, 0, none⟩) k c ∧ v.ownBlock = some gv ∧ VRow w 39 gv k (rsX n L gr cr) := by
  rcases h.own.2 with ⟨_, e⟩ | ⟨g', c', cur, e, _, hh, hn, hc, hs, ht⟩
  · omega
  · refine ⟨g', c', e, by rw [e]; rfl, cur, hh, by omega, fun i hi => ?_⟩
    have h3 := xsF_at (rsX n L gr cr) hi
    rw [← ht, List.getElem?_take, if_pos (by omega)] at h3
    simpa using h3

/-- The types of the blocks that Solve holds. -/
def outT (t : TypeId) : Prop := ¬ peelType t ∧ t ≠ 35
theorem outT_grid : outT 46 := by unfold outT peelType; decide
theorem outT_errno : outT 25 := by unfold outT peelType; decide
theorem outT_ptr : outT 50 := by unfold outT peelType; decide
theorem outT_lists : outT 65 := by unfold outT peelType; decide
theorem outT_list : outT 39 := by unfold outT peelType; decide
theorem outT_cx : outT 38 := by unfold outT peelType; decide

/-- The results' boxes, the boxes of left and rests, the rests. -/
structure SF (base : Nat) (W : World) (n : Nat) (L : List (Int × Int)) (b5 b6 VB : Nat) (vr : Value) (gr cr : Nat → Nat) (z : Nat → Nat → Nat) : Prop where
  x2 : W.heap[base + 1]? = some (.cells #[.int .i64 0, .slice none 0 0] 46 (0, 0))
  x3 : Bx W (base + 2) (.int .i64 0) 25
  x5 : Bx W b5 (.pointer (some ⟨VB, 0, none⟩)) 50
  x6 : Bx W b6 vr 65
  rs : Rs base W n L vr L.length gr cr (fun k j => nb (z k j))
def sfOwn (base K b5 b6 : Nat) (vr : Value) (gr : Nat → Nat) (x : Nat) : Prop := x = base + 1 ∨ x = base + 2 ∨ x = b5 ∨ x = b6 ∨ vr.ownBlock = some x ∨ ∃ i, i < K ∧ x = gr i
/-- With the grid that is filled. -/
structure SH (base : Nat) (W : World) (n : Nat) (L : List (Int × Int)) (b5 b6 b7 gc M VB : Nat) (vr : Value) (gr cr : Nat → Nat) (z : Nat → Nat → Nat) (cf : Nat → Nat) : Prop where
  sf : SF base W n L b5 b6 VB vr gr cr z
  x7 : W.heap[b7]? = some (.cells #[.int .i64 n, .slice (some ⟨gc, 0, none⟩) M M] 46 (0, 0))
  row : VRow W 38 gc M (fun i => .complex .f64 (nb (cf i)).1 (nb (cf i)).2)
  ap : ∀ i, i < L.length → gr i ≠ gc
  a7 : b7 ≠ base + 1
def shOwn (base K b5 b6 b7 gc : Nat) (vr : Value) (gr : Nat → Nat) (x : Nat) : Prop := sfOwn base K b5 b6 vr gr x ∨ x = b7 ∨ x = gc

section
variable {base : Nat} {W W' : World} {n : Nat} {L : List (Int × Int)} {b5 b6 b7 gc M VB : Nat} {vr : Value} {gr cr : Nat → Nat} {z z' : Nat → Nat → Nat} {cf cf' : Nat → Nat}

theorem SF.keep (h : SF base W n L b5 b6 VB vr gr cr z) (hk : ∀ x, sfOwn base L.length b5 b6 vr gr x → W'.heap[x]? = W.heap[x]?) : SF base W' n L b5 b6 VB vr gr cr z :=
  ⟨(hk _ (Or.inl rfl)).trans h.x2, (hk _ (Or.inr (Or.inl rfl))).trans h.x3, (hk _ (Or.inr (Or.inr (Or.inl rfl)))).trans h.x5, (hk _ (Or.inr (Or.inr (Or.inr (Or.inl rfl))))).trans h.x6,
    h.rs.keep (fun q hq => hk q (Or.inr (Or.inr (Or.inr (Or.inr (Or.inl hq)))))) (fun i hi => hk _ (Or.inr (Or.inr (Or.inr (Or.inr (Or.inr ⟨i, hi, rfl⟩))))))⟩
theorem SF.typed (h : SF base W n L b5 b6 VB vr gr cr z) {x : Nat} (hx : sfOwn base L.length b5 b6 vr gr x) : ∃ cs t, W.heap[x]? = some (.cells cs t (0, 0)) ∧ outT t := by
  rcases hx with e | e | e | e | e | ⟨i, hi, e⟩
  · exact ⟨_, _, e ▸ h.x2, outT_grid⟩
  · exact ⟨_, _, e ▸ h.x3, outT_errno⟩
  · exact ⟨_, _, e ▸ h.x5, outT_ptr⟩
  · exact ⟨_, _, e ▸ h.x6, outT_lists⟩
  · obtain ⟨cs, h1⟩ := h.rs.typeV e
    exact ⟨_, _, h1, outT_list⟩
  · obtain ⟨cs, h1⟩ := h.rs.typeR hi
    exact ⟨_, _, e ▸ h1, outT_cx⟩
theorem SF.lt (h : SF base W n L b5 b6 VB vr gr cr z) {x : Nat} (hx : sfOwn base L.length b5 b6 vr gr x) : x < W.heap.size := by
  obtain ⟨_, _, h1, _⟩ := h.typed hx
  exact (Array.getElem?_eq_some_iff.1 h1).1
theorem SF.below (h : SF base W n L b5 b6 VB vr gr cr z) (hb : Below W.heap.size W W') : SF base W' n L b5 b6 VB vr gr cr z := h.keep fun _ hx => hb.block _ (h.lt hx)
/-- A rest set anew. -/
theorem SF.rest (h : SF base W n L b5 b6 VB vr gr cr z) {k j v : Nat} (hk : k < L.length) : SF base (W.setCell ⟨gr k, j, none⟩ (.complex .f64 (nb v).1 (nb v).2)) n L b5 b6 VB vr gr cr (fun k' j' => if k' = k ∧ j' = j then v else z k' j') := by
  obtain ⟨cs, ht⟩ := h.rs.typeR hk
  have nt : ∀ {x : Nat} {cs' : Array Value} {t : TypeId}, W.heap[x]? = some (.cells cs' t (0, 0)) → t ≠ 38 → (W.setCell ⟨gr k, j, none⟩ (.complex .f64 (nb v).1 (nb v).2)).heap[x]? = W.heap[x]? := fun hx hn => Below.heap_setCell _ _ _ _ (ne_type hx ht hn)
  refine ⟨(nt h.x2 (by decide)).trans h.x2, (nt h.x3 (by decide)).trans h.x3, (nt h.x5 (by decide)).trans h.x5, (nt h.x6 (by decide)).trans h.x6, ?_⟩
  refine ⟨own_keep h.rs.own fun q hq => ?_, fun i hi => ?_, h.rs.inj, h.rs.ne, h.rs.geR, h.rs.geV⟩
  · obtain ⟨cs', h1⟩ := h.rs.typeV hq
    exact nt h1 (by decide)
  · by_cases e : i = k
    · subst e
      refine vrow_ext (vrow_set (h.rs.row i hi) j _) fun x hx => ?_
      by_cases e2 : x = j
      · rw [if_pos ⟨rfl, e2⟩, if_pos e2]
      · rw [if_neg (fun h => e2 h.2), if_neg e2]
    · have hne : gr i ≠ gr k := fun e2 => e (h.rs.inj i k hi hk e2)
      refine vrow_ext (vrow_keep (h.rs.row i hi) (Below.heap_setCell _ _ _ _ hne)) fun x hx => ?_
      rw [if_neg (fun h => e h.1)]
theorem SF.ext (h : SF base W n L b5 b6 VB vr gr cr z) (he : ∀ k j, k < L.length → j < binN n (dk L k) → z' k j = z k j) : SF base W n L b5 b6 VB vr gr cr z' :=
  ⟨h.x2, h.x3, h.x5, h.x6, h.rs.own, fun i hi => vrow_ext (h.rs.row i hi) fun x hx => by rw [he i x hi hx], h.rs.inj, h.rs.ne, h.rs.geR, h.rs.geV⟩

theorem SH.keep (h : SH base W n L b5 b6 b7 gc M VB vr gr cr z cf) (hk : ∀ x, shOwn base L.length b5 b6 b7 gc vr gr x → W'.heap[x]? = W.heap[x]?) : SH base W' n L b5 b6 b7 gc M VB vr gr cr z cf :=
  ⟨h.sf.keep fun x hx => hk x (Or.inl hx), (hk _ (Or.inr (Or.inl rfl))).trans h.x7, vrow_keep h.row (hk _ (Or.inr (Or.inr rfl))), h.ap, h.a7⟩
theorem SH.typed (h : SH base W n L b5 b6 b7 gc M VB vr gr cr z cf) {x : Nat} (hx : shOwn base L.length b5 b6 b7 gc vr gr x) : ∃ cs t, W.heap[x]? = some (.cells cs t (0, 0)) ∧ outT t := by
  rcases hx with e | e | e
  · exact h.sf.typed e
  · exact ⟨_, _, e ▸ h.x7, outT_grid⟩
  · obtain ⟨cs, h1, _⟩ := h.row
    exact ⟨_, _, e ▸ h1, outT_cx⟩
theorem SH.lt (h : SH base W n L b5 b6 b7 gc M VB vr gr cr z cf) {x : Nat} (hx : shOwn base L.length b5 b6 b7 gc vr gr x) : x < W.heap.size := by
  obtain ⟨_, _, h1, _⟩ := h.typed hx
  exact (Array.getElem?_eq_some_iff.1 h1).1
theorem SH.below (h : SH base W n L b5 b6 b7 gc M VB vr gr cr z cf) (hb : Below W.heap.size W W') : SH base W' n L b5 b6 b7 gc M VB vr gr cr z cf := h.keep fun _ hx => hb.block _ (h.lt hx)
theorem SH.rest (h : SH base W n L b5 b6 b7 gc M VB vr gr cr z cf) {k j v : Nat} (hk : k < L.length) : SH base (W.setCell ⟨gr k, j, none⟩ (.complex .f64 (nb v).1 (nb v).2)) n L b5 b6 b7 gc M VB vr gr cr (fun k' j' => if k' = k ∧ j' = j then v else z k' j') cf := by
  obtain ⟨cs, ht⟩ := h.sf.rs.typeR hk
  exact ⟨h.sf.rest hk, (Below.heap_setCell _ _ _ _ (ne_type h.x7 ht (by decide))).trans h.x7, vrow_keep h.row (Below.heap_setCell _ _ _ _ (fun e => h.ap k hk e.symm)), h.ap, h.a7⟩
/-- A cell of the grid set. -/
theorem SH.put (h : SH base W n L b5 b6 b7 gc M VB vr gr cr z cf) (c v : Nat) : SH base (W.setCell ⟨gc, c, none⟩ (.complex .f64 (nb v).1 (nb v).2)) n L b5 b6 b7 gc M VB vr gr cr z (fun i => if i = c then v else cf i) := by
  obtain ⟨cs, ht, _⟩ := h.row
  have nt : ∀ {x : Nat} {cs' : Array Value} {t : TypeId}, W.heap[x]? = some (.cells cs' t (0, 0)) → t ≠ 38 → (W.setCell ⟨gc, c, none⟩ (.complex .f64 (nb v).1 (nb v).2)).heap[x]? = W.heap[x]? := fun hx hn => Below.heap_setCell _ _ _ _ (ne_type hx ht hn)
  refine ⟨h.sf.keep fun x hx => ?_, (nt h.x7 (by decide)).trans h.x7, vrow_ext (vrow_set h.row c _) fun x _ => ?_, h.ap, h.a7⟩
  · rcases hx with e | e | e | e | e | ⟨i, hi, e⟩
    · exact nt (e ▸ h.sf.x2) (by decide)
    · exact nt (e ▸ h.sf.x3) (by decide)
    · exact nt (e ▸ h.sf.x5) (by decide)
    · exact nt (e ▸ h.sf.x6) (by decide)
    · obtain ⟨cs', h1⟩ := h.sf.rs.typeV e
      exact nt h1 (by decide)
    · exact Below.heap_setCell _ _ _ _ (by rw [e]; exact h.ap i hi)
  · skip
    by_cases e : x = c
    · rw [if_pos e, if_pos e]
    · rw [if_neg e, if_neg e]
theorem SH.ext (h : SH base W n L b5 b6 b7 gc M VB vr gr cr z cf) (he : ∀ k j, k < L.length → j < binN n (dk L k) → z' k j = z k j) (hf : ∀ i, i < M → cf' i = cf i) : SH base W n L b5 b6 b7 gc M VB vr gr cr z' cf' :=
  ⟨h.sf.ext he, h.x7, vrow_ext h.row fun x hx => by rw [hf x hx], h.ap, h.a7⟩
end

/-- What stands behind the first region. -/
structure Mid (base : Nat) (w W : World) (n : Nat) (L : List (Int × Int)) (gd b5 b6 : Nat) (V : PV) (v : Value) (m : Nat) (f : Nat → Nat × Nat) (vr : Value) (gr cr : Nat → Nat) (z : Nat → Nat → Nat) : Prop where
  nn : W.cell? ⟨base, 0, none⟩ = some (.int .i64 n)
  lt0 : base < W.heap.size
  sf : SF base W n L b5 b6 V.B vr gr cr z
  peel : ∃ S, Peel S W n L (some ⟨gd, 0, none⟩) L.length gd 0 V (fun _ => true) (fun _ _ => true) v m f
  qok : QOk n L (fun _ _ => true) f m (fun _ => False)
  hm : m ≤ 64 * 2017
  dT : DirT W gd
  out : ∀ x, x < base → ¬ inPeel L.length V v x
  ge5 : base ≤ b5
  ge6 : base ≤ b6
  bel : Below base w W
theorem Mid.of {base : Nat} {w W : World} {n : Nat} {L : List (Int × Int)} {gd b5 b6 : Nat} {V : PV} {v : Value} {m : Nat} {f : Nat → Nat × Nat} {vr : Value} {gr cr : Nat → Nat} {z : Nat → Nat → Nat} {S : Nat → Prop} {sv : Value} (hs : W.heap[base]? = some (.cells #[.int .i64 n, sv] 44 (0, 0)))
    (x2 : W.heap[base + 1]? = some (.cells #[.int .i64 0, .slice none 0 0] 46 (0, 0))) (x3 : Bx W (base + 2) (.int .i64 0) 25) (x5 : Bx W b5 (.pointer none) 50) (x6 : Bx W b6 (.slice none 0 0) 65)
    (rs : Rs base W n L vr L.length gr cr (fun k j => nb (z k j))) (hP : Peel S W n L (some ⟨gd, 0, none⟩) L.length gd 0 V (fun _ => true) (fun _ _ => true) v m f) (hQ : QOk n L (fun _ _ => true) f m (fun _ => False)) (hm : m ≤ 64 * 2017) (dT : DirT W gd) (hSb : ∀ x, x < base → S x) (g5 : base ≤ b5) (g6 : base ≤ b6) (hb : Below base w W) :
    Mid base w ((W.setCell ⟨b5, 0, none⟩ (.pointer (some ⟨V.B, 0, none⟩))).setCell ⟨b6, 0, none⟩ vr) n L gd b5 b6 V v m f vr gr cr z := by
  have n56 : b5 ≠ b6 := ne_type x5 x6 (by decide)
  have kp : ∀ x, x ≠ b5 → x ≠ b6 → ((W.setCell ⟨b5, 0, none⟩ (.pointer (some ⟨V.B, 0, none⟩))).setCell ⟨b6, 0, none⟩ vr).heap[x]? = W.heap[x]? := fun x h5 h6 => (Below.heap_setCell _ _ _ _ h6).trans (Below.heap_setCell _ _ _ _ h5)
  have kt : ∀ {x : Nat} {cs' : Array Value} {t : TypeId}, W.heap[x]? = some (.cells cs' t (0, 0)) → t ≠ 50 → t ≠ 65 → ((W.setCell ⟨b5, 0, none⟩ (.pointer (some ⟨V.B, 0, none⟩))).setCell ⟨b6, 0, none⟩ vr).heap[x]? = W.heap[x]? := fun hx h5 h6 => kp _ (ne_type hx x5 h5) (ne_type hx x6 h6)
  have y5 : Bx (W.setCell ⟨b5, 0, none⟩ (.pointer (some ⟨V.B, 0, none⟩))) b5 (.pointer (some ⟨V.B, 0, none⟩)) 50 := heap_setCell_same W b5 0 _ _ _ x5
  have y6 : Bx (W.setCell ⟨b5, 0, none⟩ (.pointer (some ⟨V.B, 0, none⟩))) b6 (.slice none 0 0) 65 := (Below.heap_setCell _ _ _ _ n56.symm).trans x6
  have z6 : Bx ((W.setCell ⟨b5, 0, none⟩ (.pointer (some ⟨V.B, 0, none⟩))).setCell ⟨b6, 0, none⟩ vr) b6 vr 65 := heap_setCell_same _ b6 0 _ _ _ y6
  obtain ⟨cd, hd⟩ := dT
  refine ⟨?_, ?_, ⟨(kt x2 (by decide) (by decide)).trans x2, (kt x3 (by decide) (by decide)).trans x3, (Below.heap_setCell _ _ _ _ n56).trans y5, z6, rs.keep (fun q hq => ?_) (fun i hi => ?_)⟩, ⟨_, hP.canon.body ⟨⟨rfl, rfl, rfl, by rw [World.size_setCell, World.size_setCell]; exact Nat.le_refl _, fun x hx => ?_⟩, fun _ => kt hd (by decide) (by decide)⟩⟩, hQ, hm, ⟨cd, (kt hd (by decide) (by decide)).trans hd⟩, fun x hx => hP.notIn (hSb x hx), g5, g6, (hb.setCell (p := ⟨b5, 0, none⟩) g5 _).setCell (p := ⟨b6, 0, none⟩) g6 _⟩
  · exact cell_of_row _ base 0 _ _ (0, 0) ((kt hs (by decide) (by decide)).trans hs)
  · rw [World.size_setCell, World.size_setCell]
    exact (Array.getElem?_eq_some_iff.1 hs).1
  · obtain ⟨cs, h1⟩ := rs.typeV hq
    exact kt h1 (by decide) (by decide)
  · obtain ⟨cs, h1⟩ := rs.typeR hi
    exact kt h1 (by decide) (by decide)
  · have hin : inPeel L.length V v x := Classical.byContradiction fun hn => hx.2 ⟨hx.1, hn⟩
    exact kp x (fun e => hP.notType (e ▸ x5) outT_ptr.1 hin) (fun e => hP.notType (e ▸ x6) outT_lists.1 hin)
end Go.Proofs.Ytgbkfmjkemkajaa
