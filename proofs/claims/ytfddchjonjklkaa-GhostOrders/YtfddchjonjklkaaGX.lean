/- The ghost of directions: the document's own Make. -/
import Derived.Test.YtfddchjonjklkaaGK
namespace Go.Proofs.Ytfddchjonjklkaa
open Go.RowKit Fl
attribute [local go_sem] store_complex

/-- The first error of a ghost's making; its measures; its cells as bits. -/
def makeErr (L : List (Int × Int)) : Int := if 8 < L.length then 2 else if twiceS L ≠ 0 then twiceS L else if 64 < sumP L + 1 ∨ 64 < sumQ L + 1 then 4 else 0
def gW (L : List (Int × Int)) : Nat := (sumP L + 1).toNat
def gH (L : List (Int × Int)) : Nat := (sumQ L + 1).toNat
def ghB (L : List (Int × Int)) (w j : Nat) : Nat × Nat := (floatOfInt .f64 (gh L (j % w) (j / w)), 0)

structure Right (L : List (Int × Int)) : Prop where
  len : L.length ≤ 8
  twice : twiceS L = 0
  ok : ∀ d, d ∈ L → okD d.1 d.2 = true
  w : sumP L + 1 = (gW L : Int)
  h : sumQ L + 1 = (gH L : Int)
  w1 : 1 ≤ gW L
  h1 : 1 ≤ gH L
  w64 : gW L ≤ 64
  h64 : gH L ≤ 64

theorem right_of {L : List (Int × Int)} (h : makeErr L = 0) : Right L := by
  unfold makeErr at h
  by_cases c1 : 8 < L.length
  · rw [if_pos c1] at h; cases h
  · rw [if_neg c1] at h
    by_cases c2 : twiceS L ≠ 0
    · rw [if_pos c2] at h; exact absurd h c2
    · rw [if_neg c2] at h
      by_cases c3 : 64 < sumP L + 1 ∨ 64 < sumQ L + 1
      · rw [if_pos c3] at h; cases h
      · have ht : twiceS L = 0 := by omega
        obtain ⟨g1, _, _⟩ := twice_good ht
        have := sum_small g1
        exact ⟨by omega, ht, g1, by unfold gW; omega, by unfold gH; omega, by unfold gW; omega, by unfold gH; omega, by unfold gW; omega, by unfold gH; omega⟩

theorem take_step {L : List (Int × Int)} {i : Nat} {d : Int × Int} (hd : L[i]? = some d) : L.take (i + 1) = L.take i ++ [d] := by
  have hi := (List.getElem?_eq_some_iff.1 hd).1
  rw [List.take_succ_eq_append_getElem hi, (List.getElem?_eq_some_iff.1 hd).2]

theorem sum_part {L : List (Int × Int)} (h : ∀ d, d ∈ L → okD d.1 d.2 = true) (k : Nat) : sumP (L.take k) ≤ sumP L ∧ sumQ (L.take k) ≤ sumQ L := by
  induction L generalizing k with
  | nil => simp
  | cons d L ih =>
    cases k with
    | zero =>
      have := sum_small h
      exact ⟨this.1, this.2.2.1⟩
    | succ k =>
      have i1 := ih (fun e he => h e (List.mem_cons_of_mem _ he)) k
      show d.1.natAbs + sumP (L.take k) ≤ d.1.natAbs + sumP L ∧ d.2 + sumQ (L.take k) ≤ d.2 + sumQ L
      omega

/-- What lies at a place of the first i directions' ghost, whose copies lie within the measures. -/
theorem room {L : List (Int × Int)} (R : Right L) {i : Nat} {d : Int × Int} (hd : L[i]? = some d) {x y : Nat} (h : gh (L.take i) x y ≠ 0) :
    x + gax d < gW L ∧ x + gbx d < gW L ∧ y + gby d < gH L := by
  have hq : ∀ e, e ∈ L.take i → 0 ≤ e.2 := fun e he => (okD_bounds (R.ok e (List.mem_of_mem_take he))).2.1
  have s := gh_supp (L.take i) hq x y h
  have p := sum_part R.ok (i + 1)
  rw [take_step hd, sumP_snoc, sumQ_snoc] at p
  have b := okD_bounds (R.ok d (List.mem_of_getElem? hd))
  have := R.w
  have := R.h
  unfold gax gbx gby
  omega

theorem gh_le8 {L : List (Int × Int)} (R : Right L) (i x y : Nat) : (gh (L.take i) x y).natAbs ≤ 256 := by
  have h := gh_le (L.take i) x y
  have hl : (L.take i).length ≤ 8 := by rw [List.length_take]; have := R.len; omega
  have : 2 ^ (L.take i).length ≤ 2 ^ 8 := Nat.pow_le_pow_right (by decide) hl
  omega

theorem gh_none (w j : Nat) (hw : 1 ≤ w) : gh [] (j % w) (j / w) = if j = 0 then 1 else 0 := by
  show gone (j % w) (j / w) = _
  unfold gone
  simp only [at_place (show 0 < w by omega), Nat.zero_mul, Nat.add_zero]

theorem tz_all {L : List (Int × Int)} (R : Right L) {i : Nat} {d : Int × Int} (hd : L[i]? = some d) (j : Nat) : tz (gW L) (gH L * gW L) (gh (L.take i)) d j = gh (L.take (i + 1)) (j % gW L) (j / gW L) := by
  unfold tz
  rw [take_step hd, gh_snoc, msk_all]
  intro x y h
  have := room R hd h
  omega

theorem one_ic : IC (4607182418800017408, 0) (1, 0) := ⟨iv_of 1 (by decide) (by decide +kernel), iv_zero⟩

/-- The index of a place, without going round. -/
structure At (W x y k : Nat) (M : Int) : Prop where
  e1 : (y : Int) * (W : Int) = M
  w1 : IntKind.i64.wrap M = M
  e2 : M + (x : Int) = (k : Int)
  w2 : IntKind.i64.wrap (k : Int) = k

theorem at_ok {W x y : Nat} (hW : W ≤ 64) (hy : y ≤ 200) (hx : x ≤ 200) : ∃ M, At W x y (y * W + x) M := by
  have h1 : y * W ≤ 200 * 64 := Nat.mul_le_mul hy hW
  refine ⟨_, rfl, ?_, ?_, ?_⟩
  · rw [← Int.natCast_mul, IntKind.wrap_i64]; omega
  · rw [← Int.natCast_mul, Int.natCast_add]
  · rw [IntKind.wrap_i64]; omega

/-- What the two stores of a cell that isn't nought want and give. -/
structure Two (W : World) (w0 : World) (gl gt bd M A B k : Nat) (P Q : Int) (Zl Zt : Nat → Int) (v pA r1 pB r2 : Nat × Nat) : Prop where
  cv_ : W.cell? ⟨gl, k, none⟩ = some (cv v)
  ne : (FloatKind.f64.format.order v.1 0 == some .eq) = false
  cA : W.cell? ⟨gt, A, none⟩ = some (cv pA)
  fA : W.frozen? ⟨gt, A, none⟩ = false
  add : AddTo pA v r1
  cB : (W.setCell ⟨gt, A, none⟩ (cv r1)).cell? ⟨gt, B, none⟩ = some (cv pB)
  fB : (W.setCell ⟨gt, A, none⟩ (cv r1)).frozen? ⟨gt, B, none⟩ = false
  sub : SubTo pB v r2
  inv : MInv w0 gl gt bd M P Q Zl Zt ((W.setCell ⟨gt, A, none⟩ (cv r1)).setCell ⟨gt, B, none⟩ (cv r2))

theorem two_of {W w0 : World} {gl gt bd M Wd x y : Nat} {P Q : Int} {G : Nat → Nat → Int} (hG : ∀ x y, (G x y).natAbs ≤ 256) (hx : x < Wd) (hk : y * Wd + x < M)
    (I : MInv w0 gl gt bd M P Q (fun j => G (j % Wd) (j / Wd)) (tz Wd (y * Wd + x) G (P, Q)) W) (h1 : gl ≠ gt) (h2 : bd ≠ gt) (h3 : w0.heap.size ≤ gt) (hv : G x y ≠ 0)
    (ha : x + gax (P, Q) < Wd) (hb : x + gbx (P, Q) < Wd) (hA : y * Wd + (x + gax (P, Q)) < M) (hB : (y + gby (P, Q)) * Wd + (x + gbx (P, Q)) < M) :
    ∃ v pA r1 pB r2, Two W w0 gl gt bd M (y * Wd + (x + gax (P, Q))) ((y + gby (P, Q)) * Wd + (x + gbx (P, Q))) (y * Wd + x) P Q (fun j => G (j % Wd) (j / Wd)) (tz Wd (y * Wd + (x + 1)) G (P, Q)) v pA r1 pB r2 := by
  have hpl := place_div (n := Wd) (y := y) hx
  obtain ⟨⟨fl, Rl, Il⟩, _⟩ := I.l
  obtain ⟨⟨ft, Rt, It⟩, _⟩ := I.t
  have ic1 := (Il _ hk).1
  dsimp only at ic1
  rw [hpl.2, hpl.1] at ic1
  have ic2 := (It _ hA).1
  have hg := hG x y
  have hs := tz_succ (w := Wd) (ky := y) (G := G) (d := (P, Q)) hx ha hb
  generalize y * Wd + (x + gax (P, Q)) = A at *
  generalize (y + gby (P, Q)) * Wd + (x + gbx (P, Q)) = B at *
  have b1 : ∀ j, (tz Wd (y * Wd + x) G (P, Q) j).natAbs ≤ 512 := fun j => gstep_le hG _ _ _ _ _
  have bA := b1 A
  have bB := b1 B
  obtain ⟨r1, ha1, hi1, l1, l2⟩ := ic_add ic2 ic1 (by dsimp only; omega) (by dsimp only; decide)
  have J := I.set h1 h2 h3 A r1 (tz Wd (y * Wd + x) G (P, Q) A + G x y) hi1 l1 l2
  obtain ⟨⟨fu, Ru, Iu⟩, _⟩ := J.t
  have ic3 := (Iu _ hB).1
  dsimp only at ic3
  have bB' : (if B = A then tz Wd (y * Wd + x) G (P, Q) A + G x y else tz Wd (y * Wd + x) G (P, Q) B).natAbs ≤ 1024 := by
    split <;> omega
  obtain ⟨r2, hs2, hi2, l3, l4⟩ := ic_sub ic3 ic1 (by dsimp only; omega) (by dsimp only; decide)
  have K := J.set h1 h2 h3 B r2 _ hi2 l3 l4
  refine ⟨fl (y * Wd + x), ft A, r1, fu B, r2, row_at Rl hk, ?_, row_at Rt hA, row_frozen Rt A, ha1, row_at Ru hB, row_frozen Ru B, hs2, K.ext fun j _ => ?_⟩
  · rw [order_zero ic1.one, decide_eq_false hv]
  · rw [← Nat.add_assoc, hs]
    dsimp only
    by_cases e1 : j = B
    · rw [if_pos e1, if_pos e1, e1]
      by_cases e2 : B = A
      · rw [if_pos e2, if_pos e2, e2]
      · rw [if_neg e2, if_neg e2]
        omega
    · rw [if_neg e1, if_neg e1]
      by_cases e2 : j = A
      · rw [if_pos e2, if_pos e2, e2]
        omega
      · rw [if_neg e2, if_neg e2]
        omega
/-- A row whose first k numbers are plain already. -/
def PRow (W : World) (g M : Nat) (Z : Nat → Int) (k : Nat) : Prop :=
  (∃ f, Row W g M f ∧ (∀ j, j < M → IC (f j) (Z j, 0) ∧ (f j).1 < 18446744073709551616 ∧ (f j).2 < 18446744073709551616) ∧ ∀ j, j < k → j < M → f j = (floatOfInt .f64 (Z j), 0)) ∧ CapOk W g M M

theorem prow_start {W : World} {g M : Nat} {Z : Nat → Int} (h : GRow W g M Z) : PRow W g M Z 0 := by
  obtain ⟨⟨f, h1, h2⟩, h3⟩ := h
  exact ⟨⟨f, h1, h2, fun j hj => by omega⟩, h3⟩

theorem plain_bits {b : Nat} {n : Int} (hb : b < 18446744073709551616) (h : IV b n) (hn : n.natAbs < 2 ^ 53) : plainB b = floatOfInt .f64 n :=
  iv_bits (plain_lt hb) (iv_plain h) (fun e => by subst e; exact plain_zero h) hn

theorem prow_step {W : World} {g M : Nat} {Z : Nat → Int} {k : Nat} (h : PRow W g M Z k) (hk : k < M) (hZ : ∀ j, (Z j).natAbs ≤ 256) :
    ∃ p : Nat × Nat, W.cell? ⟨g, k, none⟩ = some (cv p) ∧ W.frozen? ⟨g, k, none⟩ = false ∧ PRow (W.setCell ⟨g, k, none⟩ (cv (plainB p.1, plainB p.2))) g M Z (k + 1) := by
  obtain ⟨⟨f, h1, h2, h3⟩, h4⟩ := h
  obtain ⟨i1, l1, l2⟩ := h2 k hk
  refine ⟨f k, row_at h1 hk, row_frozen h1 k, ⟨_, row_set h1 k _, fun j hj => ?_, fun j hj hjM => ?_⟩, cap_set h4 k _⟩
  · unfold upd
    by_cases e : j = k
    · rw [if_pos e, e]
      exact ⟨⟨iv_plain i1.one, iv_plain i1.two⟩, plain_lt l1, plain_lt l2⟩
    · rw [if_neg e]
      exact h2 j hj
  · unfold upd
    by_cases e : j = k
    · rw [if_pos e, e, plain_bits l1 i1.one (by have := hZ k; dsimp only; omega), plain_zero i1.two]
    · rw [if_neg e]
      exact h3 j (by omega) hjM

theorem prow_end {W : World} {g W' : Nat} {L : List (Int × Int)} {M : Nat} (h : PRow W g M (fun j => gh L (j % W') (j / W')) M) : Row W g M (ghB L W') ∧ CapOk W g M M := by
  obtain ⟨⟨f, h1, h2, h3⟩, h4⟩ := h
  exact ⟨row_ext h1 fun j hj => h3 j hj hj, h4⟩

/-- The answer laid. -/
theorem lay3 {w W : World} {gl M : Nat} {f : Nat → Nat × Nat} {a b c x y z : Value} {t : TypeId} (h : W.heap[w.heap.size]? = some (.cells #[x, y, z] t (0, 0))) (hb : Below w.heap.size w W) (hR : Row W gl M f ∧ CapOk W gl M M) (hg : w.heap.size < gl) :
    (((W.setCell ⟨w.heap.size, 0, none⟩ a).setCell ⟨w.heap.size, 1, none⟩ b).setCell ⟨w.heap.size, 2, none⟩ c).cell? ⟨w.heap.size, 0, none⟩ = some a ∧
    (((W.setCell ⟨w.heap.size, 0, none⟩ a).setCell ⟨w.heap.size, 1, none⟩ b).setCell ⟨w.heap.size, 2, none⟩ c).cell? ⟨w.heap.size, 1, none⟩ = some b ∧
    (((W.setCell ⟨w.heap.size, 0, none⟩ a).setCell ⟨w.heap.size, 1, none⟩ b).setCell ⟨w.heap.size, 2, none⟩ c).cell? ⟨w.heap.size, 2, none⟩ = some c ∧
    (Row (((W.setCell ⟨w.heap.size, 0, none⟩ a).setCell ⟨w.heap.size, 1, none⟩ b).setCell ⟨w.heap.size, 2, none⟩ c) gl M f ∧ CapOk (((W.setCell ⟨w.heap.size, 0, none⟩ a).setCell ⟨w.heap.size, 1, none⟩ b).setCell ⟨w.heap.size, 2, none⟩ c) gl M M) ∧
    Below w.heap.size w (((W.setCell ⟨w.heap.size, 0, none⟩ a).setCell ⟨w.heap.size, 1, none⟩ b).setCell ⟨w.heap.size, 2, none⟩ c) := by
  have e1 := heap_setCell_same W w.heap.size 0 _ _ a h
  have e2 := heap_setCell_same _ w.heap.size 1 _ _ b e1
  have e3 := heap_setCell_same _ w.heap.size 2 _ _ c e2
  refine ⟨?_, ?_, ?_, ?_, ?_⟩
  · rw [block_cell e3]; rfl
  · rw [block_cell e3]; rfl
  · rw [block_cell e3]; rfl
  · have e : (((W.setCell ⟨w.heap.size, 0, none⟩ a).setCell ⟨w.heap.size, 1, none⟩ b).setCell ⟨w.heap.size, 2, none⟩ c).heap[gl]? = W.heap[gl]? := by
      rw [Below.heap_setCell _ _ _ _ (by show gl ≠ w.heap.size; omega), Below.heap_setCell _ _ _ _ (by show gl ≠ w.heap.size; omega), Below.heap_setCell _ _ _ _ (by show gl ≠ w.heap.size; omega)]
    exact ⟨row_keep hR.1 e, cap_keep hR.2 e⟩
  · exact ((hb.setCell (p := ⟨w.heap.size, 0, none⟩) (Nat.le_refl _) a).setCell (p := ⟨w.heap.size, 1, none⟩) (Nat.le_refl _) b).setCell (p := ⟨w.heap.size, 2, none⟩) (Nat.le_refl _) c
/-- An empty answer laid: what the walk wants, and what is there behind. -/
theorem lay0 {w W : World} {t : TypeId} (h : W.heap[w.heap.size]? = some (.cells #[.int .i64 0, .int .i64 0, .slice none 0 0] t (0, 0))) (hb : Below w.heap.size w W) :
    W.cell? ⟨w.heap.size, 0, none⟩ = some (.int .i64 0) ∧ W.cell? ⟨w.heap.size, 1, none⟩ = some (.int .i64 0) ∧ W.cell? ⟨w.heap.size, 2, none⟩ = some (.slice none 0 0) ∧
    W.frozen? ⟨w.heap.size, 0, none⟩ = false ∧ W.frozen? ⟨w.heap.size, 1, none⟩ = false ∧ W.frozen? ⟨w.heap.size, 2, none⟩ = false ∧
    (((W.setCell ⟨w.heap.size, 0, none⟩ (.int .i64 0)).setCell ⟨w.heap.size, 1, none⟩ (.int .i64 0)).setCell ⟨w.heap.size, 2, none⟩ (.slice none 0 0)).cell? ⟨w.heap.size, 0, none⟩ = some (.int .i64 0) ∧
    (((W.setCell ⟨w.heap.size, 0, none⟩ (.int .i64 0)).setCell ⟨w.heap.size, 1, none⟩ (.int .i64 0)).setCell ⟨w.heap.size, 2, none⟩ (.slice none 0 0)).cell? ⟨w.heap.size, 1, none⟩ = some (.int .i64 0) ∧
    (((W.setCell ⟨w.heap.size, 0, none⟩ (.int .i64 0)).setCell ⟨w.heap.size, 1, none⟩ (.int .i64 0)).setCell ⟨w.heap.size, 2, none⟩ (.slice none 0 0)).cell? ⟨w.heap.size, 2, none⟩ = some (.slice none 0 0) ∧
    Below w.heap.size w (((W.setCell ⟨w.heap.size, 0, none⟩ (.int .i64 0)).setCell ⟨w.heap.size, 1, none⟩ (.int .i64 0)).setCell ⟨w.heap.size, 2, none⟩ (.slice none 0 0)) := by
  have e1 := heap_setCell_same W w.heap.size 0 _ _ (.int .i64 0) h
  have e2 := heap_setCell_same _ w.heap.size 1 _ _ (.int .i64 0) e1
  have e3 := heap_setCell_same _ w.heap.size 2 _ _ (.slice none 0 0) e2
  refine ⟨?_, ?_, ?_, block_frozen h 0, block_frozen h 1, block_frozen h 2, ?_, ?_, ?_, ?_⟩
  · rw [block_cell h]; rfl
  · rw [block_cell h]; rfl
  · rw [block_cell h]; rfl
  · rw [block_cell e3]; rfl
  · rw [block_cell e3]; rfl
  · rw [block_cell e3]; rfl
  · exact ((hb.setCell (p := ⟨w.heap.size, 0, none⟩) (Nat.le_refl _) _).setCell (p := ⟨w.heap.size, 1, none⟩) (Nat.le_refl _) _).setCell (p := ⟨w.heap.size, 2, none⟩) (Nat.le_refl _) _
end Go.Proofs.Ytfddchjonjklkaa
