/- One step of a ghost's making, cell by cell: pure, and in memory. -/
import Derived.Test.YtfddchjonjklkaaGM
namespace Go.Proofs.Ytfddchjonjklkaa
open Go.RowKit Fl

/-- What there is of G among the first k cells of rows of w. -/
def msk (w k : Nat) (G : Nat → Nat → Int) (x y : Nat) : Int := if x < w ∧ y * w + x < k then G x y else 0

theorem msk_succ {w kx ky : Nat} (hk : kx < w) (G : Nat → Nat → Int) (x y : Nat) : msk w (ky * w + kx + 1) G x y = msk w (ky * w + kx) G x y + if x = kx ∧ y = ky then G kx ky else 0 := by
  unfold msk
  by_cases e : x = kx ∧ y = ky
  · obtain ⟨rfl, rfl⟩ := e
    rw [if_pos ⟨hk, by omega⟩, if_neg (by omega), if_pos ⟨rfl, rfl⟩]
    omega
  · rw [if_neg e, Int.add_zero]
    by_cases c : x < w
    · have hne : y * w + x ≠ ky * w + kx := by
        intro h
        have d1 := place_div (n := w) (y := y) c
        have d2 := place_div (n := w) (y := ky) hk
        rw [h] at d1
        exact e ⟨d1.2.symm.trans d2.2, d1.1.symm.trans d2.1⟩
      by_cases d : y * w + x < ky * w + kx
      · rw [if_pos ⟨c, by omega⟩, if_pos ⟨c, d⟩]
      · rw [if_neg (by omega), if_neg (by omega)]
    · rw [if_neg (by omega), if_neg (by omega)]

theorem sh_msk {w kx ky : Nat} (hk : kx < w) (G : Nat → Nat → Int) (a b x y : Nat) : sh a b (msk w (ky * w + kx + 1) G) x y = sh a b (msk w (ky * w + kx) G) x y + if x = kx + a ∧ y = ky + b then G kx ky else 0 := by
  unfold sh
  by_cases c : a ≤ x ∧ b ≤ y
  · rw [if_pos c, if_pos c, msk_succ hk]
    by_cases e : x - a = kx ∧ y - b = ky
    · rw [if_pos e, if_pos (by omega)]
    · rw [if_neg e, if_neg (by omega)]
  · rw [if_neg c, if_neg c, if_neg (by omega)]
    rfl

theorem gstep_msk {w kx ky : Nat} (hk : kx < w) (G : Nat → Nat → Int) (d : Int × Int) (x y : Nat) :
    gstep (msk w (ky * w + kx + 1) G) d x y = gstep (msk w (ky * w + kx) G) d x y + (if x = kx + gax d ∧ y = ky then G kx ky else 0) - (if x = kx + gbx d ∧ y = ky + gby d then G kx ky else 0) := by
  unfold gstep
  rw [sh_msk hk, sh_msk hk, Nat.add_zero]
  omega

theorem msk_none (w : Nat) (G : Nat → Nat → Int) (d : Int × Int) (x y : Nat) : gstep (msk w 0 G) d x y = 0 := by
  have h : ∀ x y, msk w 0 G x y = 0 := fun x y => by unfold msk; rw [if_neg (by omega)]
  unfold gstep sh
  rw [h, h]
  split <;> split <;> rfl

theorem msk_all {w h : Nat} {G : Nat → Nat → Int} (hG : ∀ x y, G x y ≠ 0 → x < w ∧ y < h) : msk w (h * w) G = G := by
  funext x y
  unfold msk
  by_cases c : G x y = 0
  · rw [c]
    split <;> rfl
  · obtain ⟨h1, h2⟩ := hG x y c
    have : (y + 1) * w ≤ h * w := Nat.mul_le_mul_right _ h2
    rw [Nat.add_mul] at this
    rw [if_pos ⟨h1, by omega⟩]

theorem sh_le {G : Nat → Nat → Int} {m : Nat} (hG : ∀ x y, (G x y).natAbs ≤ m) (a b x y : Nat) : (sh a b G x y).natAbs ≤ m := by
  unfold sh
  split
  · exact hG _ _
  · exact Nat.zero_le _

theorem gstep_le {G : Nat → Nat → Int} {m : Nat} (hG : ∀ x y, (G x y).natAbs ≤ m) (w k : Nat) (d : Int × Int) (x y : Nat) : (gstep (msk w k G) d x y).natAbs ≤ 2 * m := by
  have h : ∀ x y, (msk w k G x y).natAbs ≤ m := fun x y => by
    unfold msk
    split
    · exact hG _ _
    · exact Nat.zero_le _
  have h1 := sh_le h (gax d) 0 x y
  have h2 := sh_le h (gbx d) (gby d) x y
  unfold gstep
  omega

/-- The second field behind k cells of the first, place by place. -/
def tz (w k : Nat) (G : Nat → Nat → Int) (d : Int × Int) (j : Nat) : Int := gstep (msk w k G) d (j % w) (j / w)

theorem at_place {w x y j : Nat} (hx : x < w) : (j % w = x ∧ j / w = y) ↔ j = y * w + x := by
  constructor
  · rintro ⟨rfl, rfl⟩
    have := Nat.div_add_mod j w
    rw [Nat.mul_comm] at this
    exact this.symm
  · rintro rfl
    have := place_div (n := w) (y := y) hx
    exact ⟨this.2, this.1⟩

theorem tz_succ {w kx ky : Nat} {G : Nat → Nat → Int} {d : Int × Int} (hk : kx < w) (ha : kx + gax d < w) (hb : kx + gbx d < w) (j : Nat) :
    tz w (ky * w + kx + 1) G d j = tz w (ky * w + kx) G d j + (if j = ky * w + (kx + gax d) then G kx ky else 0) - (if j = (ky + gby d) * w + (kx + gbx d) then G kx ky else 0) := by
  unfold tz
  rw [gstep_msk hk]
  simp only [at_place ha, at_place hb]

theorem tz_skip {w kx ky : Nat} {G : Nat → Nat → Int} {d : Int × Int} (hk : kx < w) (h0 : G kx ky = 0) (j : Nat) : tz w (ky * w + kx + 1) G d j = tz w (ky * w + kx) G d j := by
  unfold tz
  rw [gstep_msk hk, h0]
  simp

/-- A slice's whole block: its capacity. -/
def CapOk (W : World) (g n c : Nat) : Prop := ∃ cur : Array Value, W.heap[g]? = some (.cells cur 38 (0, 0)) ∧ cur.size = c ∧ n ≤ c ∧ c ≤ maxLen
theorem cap_keep {W W' : World} {g n c : Nat} (h : CapOk W g n c) (hb : W'.heap[g]? = W.heap[g]?) : CapOk W' g n c := by
  obtain ⟨cur, h1, h2⟩ := h
  exact ⟨cur, hb.trans h1, h2⟩
theorem cap_set {W : World} {g n c : Nat} (h : CapOk W g n c) (k : Nat) (u : Value) : CapOk (W.setCell ⟨g, k, none⟩ u) g n c := by
  obtain ⟨cur, h1, h2, h3⟩ := h
  exact ⟨cur.setIfInBounds k u, heap_setCell_same W g k cur _ _ h1, by simpa using h2, h3⟩
theorem cap_made {W : World} {B g n c : Nat} {xs : List Value} (h : W.ownsRow B 38 1 (.slice (some ⟨g, 0, none⟩) n c) n xs) : CapOk W g n c := by
  rcases h.2 with ⟨h', _⟩ | ⟨g', cap, cur, h', _, hg, h1, h2, hcs, _⟩
  · simp at h'
  · simp only [Value.slice.injEq, Option.some.injEq, Addr.mk.injEq, and_true, true_and] at h'
    obtain ⟨rfl, rfl⟩ := h'
    exact ⟨cur, hg, by omega, h1, h2⟩

/-- A row of whole numbers without second parts, its block no longer than it. -/
def GRow (W : World) (g M : Nat) (Z : Nat → Int) : Prop := (∃ f, Row W g M f ∧ ∀ j, j < M → IC (f j) (Z j, 0) ∧ (f j).1 < 18446744073709551616 ∧ (f j).2 < 18446744073709551616) ∧ CapOk W g M M

theorem grow_keep {W W' : World} {g M : Nat} {Z : Nat → Int} (h : GRow W g M Z) (hb : W'.heap[g]? = W.heap[g]?) : GRow W' g M Z := by
  obtain ⟨⟨f, h1, h2⟩, h3⟩ := h
  exact ⟨⟨f, row_keep h1 hb, h2⟩, cap_keep h3 hb⟩
theorem grow_lt {W : World} {g M : Nat} {Z : Nat → Int} (h : GRow W g M Z) : g < W.heap.size := by
  obtain ⟨⟨f, h1, _⟩, _⟩ := h
  exact row_lt h1
theorem grow_below {W W' : World} {g M B : Nat} {Z : Nat → Int} (h : GRow W g M Z) (hb : Below B W W') (hg : g < B) : GRow W' g M Z := grow_keep h (hb.block g hg)
theorem grow_ext {W : World} {g M : Nat} {Z Z' : Nat → Int} (h : GRow W g M Z) (he : ∀ j, j < M → Z j = Z' j) : GRow W g M Z' := by
  obtain ⟨⟨f, h1, h2⟩, h3⟩ := h
  exact ⟨⟨f, h1, fun j hj => by rw [← he j hj]; exact h2 j hj⟩, h3⟩
theorem grow_set {W : World} {g M : Nat} {Z : Nat → Int} (h : GRow W g M Z) (k : Nat) (r : Nat × Nat) (z : Int) (hr : IC r (z, 0)) (h1 : r.1 < 18446744073709551616) (h2 : r.2 < 18446744073709551616) : GRow (W.setCell ⟨g, k, none⟩ (cv r)) g M (fun j => if j = k then z else Z j) := by
  obtain ⟨⟨f, q1, q2⟩, q3⟩ := h
  refine ⟨⟨_, row_set q1 k r, fun j hj => ?_⟩, cap_set q3 k _⟩
  unfold upd
  dsimp only
  by_cases e : j = k
  · rw [if_pos e, if_pos e]
    exact ⟨hr, h1, h2⟩
  · rw [if_neg e, if_neg e]
    exact q2 j hj
theorem grow_zero {W : World} {g M : Nat} (h : Row W g M (fun _ => (0, 0))) (hc : CapOk W g M M) : GRow W g M (fun _ => 0) := ⟨⟨_, h, fun _ _ => ⟨ic_zero, by decide, by decide⟩⟩, hc⟩

theorem block_cell {w : World} {b : Nat} {cs : Array Value} {t : TypeId} (h : w.heap[b]? = some (.cells cs t (0, 0))) (i : Nat) : w.cell? ⟨b, i, none⟩ = cs[i]? := by simp [World.cell?, h]
theorem block_frozen {w : World} {b : Nat} {cs : Array Value} {t : TypeId} (h : w.heap[b]? = some (.cells cs t (0, 0))) (i : Nat) : w.frozen? ⟨b, i, none⟩ = false := by simp [World.frozen?, h]

/-- What the making of a ghost keeps within a step. -/
structure MInv (w0 : World) (gl gt bd M : Nat) (P Q : Int) (Zl Zt : Nat → Int) (W : World) : Prop where
  l : GRow W gl M Zl
  t : GRow W gt M Zt
  box : W.heap[bd]? = some (.cells #[.int .i64 P, .int .i64 Q] 34 (0, 0))
  below : Below w0.heap.size w0 W

theorem MInv.set {w0 W : World} {gl gt bd M : Nat} {P Q : Int} {Zl Zt : Nat → Int} (h : MInv w0 gl gt bd M P Q Zl Zt W) (h1 : gl ≠ gt) (h2 : bd ≠ gt) (h3 : w0.heap.size ≤ gt) (k : Nat) (r : Nat × Nat) (z : Int) (hr : IC r (z, 0)) (l1 : r.1 < 18446744073709551616) (l2 : r.2 < 18446744073709551616) :
    MInv w0 gl gt bd M P Q Zl (fun j => if j = k then z else Zt j) (W.setCell ⟨gt, k, none⟩ (cv r)) :=
  ⟨grow_keep h.l (Below.heap_setCell _ _ _ _ h1), grow_set h.t k r z hr l1 l2, (Below.heap_setCell _ _ _ _ h2).trans h.box, h.below.setCell h3 _⟩

theorem MInv.ext {w0 W : World} {gl gt bd M : Nat} {P Q : Int} {Zl Zt Zt' : Nat → Int} (h : MInv w0 gl gt bd M P Q Zl Zt W) (he : ∀ j, j < M → Zt j = Zt' j) : MInv w0 gl gt bd M P Q Zl Zt' W := ⟨h.l, grow_ext h.t he, h.box, h.below⟩
end Go.Proofs.Ytfddchjonjklkaa
