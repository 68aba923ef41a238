/- Small whole numbers' bits, added and taken off exactly and without a signed nought; one step of a ghost's making between two widths; what the landed step keeps in memory. -/
import Derived.Test.YtfddchjonjklkaaGX
import Derived.Test.YtfddchjonjklkaaY3
namespace Go.Proofs.Ytfddchjonjklkaa
open Go.RowKit Fl

def fb (z : Int) : Nat × Nat := (floatOfInt .f64 z, 0)

set_option maxRecDepth 100000 in
theorem add_none_tab : ∀ k : Fin 2049, floatBits .add .f64 (floatOfInt .f64 ((k.1 : Int) - 1024)) (floatOfInt .f64 (1024 - (k.1 : Int))) = some 0 := by decide +kernel
set_option maxRecDepth 100000 in
theorem sub_none_tab : ∀ k : Fin 2049, floatBits .sub .f64 (floatOfInt .f64 ((k.1 : Int) - 1024)) (floatOfInt .f64 ((k.1 : Int) - 1024)) = some 0 := by decide +kernel

theorem ic_fb (z : Int) (h : z.natAbs < 2 ^ 53) : IC (fb z) (z, 0) := ⟨iv_ofInt z h, iv_zero⟩

theorem fb_add {a b : Int} (ha : a.natAbs ≤ 1024) (hb : b.natAbs ≤ 1024) : AddTo (fb a) (fb b) (fb (a + b)) := by
  obtain ⟨r, h, i, l1, l2⟩ := ic_add (ic_fb a (by omega)) (ic_fb b (by omega)) (by dsimp only; omega) (by dsimp only; decide)
  refine ⟨?_, show floatBits .add .f64 0 0 = some 0 by decide +kernel⟩
  rw [h.one]
  congr 1
  refine iv_bits l1 i.one (fun e => ?_) (by show (a + b).natAbs < 2 ^ 53; omega)
  have e' : a + b = 0 := e
  have t := add_none_tab ⟨(a + 1024).toNat, by omega⟩
  dsimp only at t
  rw [show (((a + 1024).toNat : Nat) : Int) - 1024 = a by omega, show 1024 - (((a + 1024).toNat : Nat) : Int) = b by omega] at t
  have q := h.one
  rw [show (fb a).1 = floatOfInt .f64 a from rfl, show (fb b).1 = floatOfInt .f64 b from rfl, t] at q
  exact (Option.some.inj q).symm

theorem fb_sub {a b : Int} (ha : a.natAbs ≤ 1024) (hb : b.natAbs ≤ 1024) : SubTo (fb a) (fb b) (fb (a - b)) := by
  obtain ⟨r, h, i, l1, l2⟩ := ic_sub (ic_fb a (by omega)) (ic_fb b (by omega)) (by dsimp only; omega) (by dsimp only; decide)
  refine ⟨?_, show floatBits .sub .f64 0 0 = some 0 by decide +kernel⟩
  rw [h.one]
  congr 1
  refine iv_bits l1 i.one (fun e => ?_) (by show (a - b).natAbs < 2 ^ 53; omega)
  have e' : a - b = 0 := e
  have t := sub_none_tab ⟨(a + 1024).toNat, by omega⟩
  dsimp only at t
  rw [show (((a + 1024).toNat : Nat) : Int) - 1024 = a by omega] at t
  have q := h.one
  rw [show (fb a).1 = floatOfInt .f64 a from rfl, show (fb b).1 = floatOfInt .f64 b from rfl, show b = a by omega, t] at q
  exact (Option.some.inj q).symm

/-- The second field behind k cells of the first, which is of another width. -/
def tw (w w1 k : Nat) (G : Nat → Nat → Int) (d : Int × Int) (j : Nat) : Int := gstep (msk w k G) d (j % w1) (j / w1)

theorem tw_succ {w w1 kx ky : Nat} {G : Nat → Nat → Int} {d : Int × Int} (hk : kx < w) (ha : kx + gax d < w1) (hb : kx + gbx d < w1) (j : Nat) :
    tw w w1 (ky * w + kx + 1) G d j = tw w w1 (ky * w + kx) G d j + (if j = ky * w1 + (kx + gax d) then G kx ky else 0) - (if j = (ky + gby d) * w1 + (kx + gbx d) then G kx ky else 0) := by
  unfold tw
  rw [gstep_msk hk]
  simp only [at_place ha, at_place hb]

theorem tw_none (w w1 : Nat) (G : Nat → Nat → Int) (d : Int × Int) (j : Nat) : tw w w1 0 G d j = 0 := msk_none _ _ _ _ _

theorem tw_all {w h w1 : Nat} {G : Nat → Nat → Int} {d : Int × Int} (hG : ∀ x y, G x y ≠ 0 → x < w ∧ y < h) (j : Nat) : tw w w1 (h * w) G d j = gstep G d (j % w1) (j / w1) := by
  unfold tw
  rw [msk_all hG]

theorem row_fb_set {W : World} {g n : Nat} {Z : Nat → Int} (h : Row W g n (fun j => fb (Z j))) (k : Nat) (z : Int) : Row (W.setCell ⟨g, k, none⟩ (cv (fb z))) g n (fun j => fb (if j = k then z else Z j)) := by
  refine row_ext (row_set h k (fb z)) fun j _ => ?_
  unfold upd
  by_cases e : j = k
  · rw [if_pos e, if_pos e]
  · rw [if_neg e, if_neg e]

/-- What the step keeps: the ghost that came in, the boxes, the ghost that is made. -/
structure DInv (w : World) (g gt M0 c W0 H0 W1 H1 M1 : Nat) (P Q : Int) (Z0 Z1 : Nat → Int) (W : World) : Prop where
  src : Row W g M0 (fun j => fb (Z0 j))
  dst : Row W gt M1 (fun j => fb (Z1 j))
  cap : CapOk W gt M1 M1
  bh : W.heap[w.heap.size]? = some (.cells #[.int .i64 W0, .int .i64 H0, .slice (some ⟨g, 0, none⟩) M0 c] 26 (0, 0))
  bd : W.heap[w.heap.size + 1]? = some (.cells #[.int .i64 P, .int .i64 Q] 34 (0, 0))
  br : W.heap[w.heap.size + 2]? = some (.cells #[.int .i64 0, .int .i64 0, .slice none 0 0] 26 (0, 0))
  bo : W.heap[w.heap.size + 3]? = some (.cells #[.int .i64 W1, .int .i64 H1, .slice (some ⟨gt, 0, none⟩) M1 M1] 26 (0, 0))
  below : Below w.heap.size w W

theorem DInv.drew {w W : World} {g gt M0 c W0 H0 W1 H1 M1 : Nat} {P Q : Int} {Z0 Z1 : Nat → Int} (h : DInv w g gt M0 c W0 H0 W1 H1 M1 P Q Z0 Z1 W) : DInv w g gt M0 c W0 H0 W1 H1 M1 P Q Z0 Z1 W.drew :=
  ⟨h.src, h.dst, h.cap, h.bh, h.bd, h.br, h.bo, h.below.drew⟩

theorem DInv.set {w W : World} {g gt M0 c W0 H0 W1 H1 M1 : Nat} {P Q : Int} {Z0 Z1 : Nat → Int} (h : DInv w g gt M0 c W0 H0 W1 H1 M1 P Q Z0 Z1 W) (h1 : g < w.heap.size) (h2 : w.heap.size + 3 < gt) (k : Nat) (z : Int) :
    DInv w g gt M0 c W0 H0 W1 H1 M1 P Q Z0 (fun j => if j = k then z else Z1 j) (W.setCell ⟨gt, k, none⟩ (cv (fb z))) :=
  ⟨row_keep h.src (Below.heap_setCell _ _ _ _ (by show g ≠ gt; omega)), row_fb_set h.dst k z, cap_set h.cap k _,
    (Below.heap_setCell _ _ _ _ (by show w.heap.size ≠ gt; omega)).trans h.bh, (Below.heap_setCell _ _ _ _ (by show w.heap.size + 1 ≠ gt; omega)).trans h.bd,
    (Below.heap_setCell _ _ _ _ (by show w.heap.size + 2 ≠ gt; omega)).trans h.br, (Below.heap_setCell _ _ _ _ (by show w.heap.size + 3 ≠ gt; omega)).trans h.bo,
    h.below.setCell (by show w.heap.size ≤ gt; omega) _⟩

theorem DInv.ext {w W : World} {g gt M0 c W0 H0 W1 H1 M1 : Nat} {P Q : Int} {Z0 Z1 Z2 : Nat → Int} (h : DInv w g gt M0 c W0 H0 W1 H1 M1 P Q Z0 Z1 W) (he : ∀ j, j < M1 → Z1 j = Z2 j) : DInv w g gt M0 c W0 H0 W1 H1 M1 P Q Z0 Z2 W :=
  ⟨h.src, row_ext h.dst fun j hj => by rw [he j hj], h.cap, h.bh, h.bd, h.br, h.bo, h.below⟩

/-- The two stores of a cell come to one more cell. -/
theorem tw_two {w w1 kx ky A B : Nat} {G : Nat → Nat → Int} {d : Int × Int} (hk : kx < w) (ha : kx + gax d < w1) (hb : kx + gbx d < w1) (hA : A = ky * w1 + (kx + gax d)) (hB : B = (ky + gby d) * w1 + (kx + gbx d)) (Z : Nat → Int) (hZ : Z = tw w w1 (ky * w + kx) G d) (j : Nat) :
    (if j = B then (if B = A then Z A + G kx ky else Z B) - G kx ky else if j = A then Z A + G kx ky else Z j) = tw w w1 (ky * w + kx + 1) G d j := by
  rw [tw_succ hk ha hb, ← hA, ← hB, ← hZ]
  by_cases e1 : j = B
  · subst e1
    rw [if_pos rfl, if_pos rfl]
    by_cases e2 : j = A
    · subst e2
      rw [if_pos rfl, if_pos rfl]
    · rw [if_neg e2, if_neg e2]
      omega
  · rw [if_neg e1, if_neg e1]
    by_cases e2 : j = A
    · subst e2
      rw [if_pos rfl, if_pos rfl]
      omega
    · rw [if_neg e2, if_neg e2]
      omega

theorem tw_le {w w1 : Nat} {G : Nat → Nat → Int} (hG : ∀ x y, (G x y).natAbs ≤ 256) (k : Nat) (d : Int × Int) (j : Nat) : (tw w w1 k G d j).natAbs ≤ 512 := gstep_le hG _ _ _ _ _
end Go.Proofs.Ytfddchjonjklkaa
