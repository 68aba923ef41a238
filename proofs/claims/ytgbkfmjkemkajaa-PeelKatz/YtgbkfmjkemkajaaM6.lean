/- How many open cells a line has, and how many lines have just one. Pure. The board in memory: rows of cells apart from each other; the line of a cell. -/
import Derived.Test.YtgbkfmjkemkajaaM3
import Derived.Test.YtgbkfmjkemkajaaM1
import Derived.Test.YtgbkfmjkemkajaaPO0
import Derived.Deep.RegionHeld3
namespace Go.Proofs.Ytgbkfmjkemkajaa

theorem cnt_step (b : Nat → Bool) (k : Nat) : cntB b (k + 1) = cntB b k + if b k = true then 1 else 0 := rfl

/-- Two alike but at one place. -/
theorem cnt_change {f f' : Nat → Bool} {c k : Nat} (hc : c < k) (h : ∀ i, i < k → i ≠ c → f' i = f i) : cntB f' k + (if f c = true then 1 else 0) = cntB f k + (if f' c = true then 1 else 0) := by
  induction k with
  | zero => omega
  | succ k ih =>
    rw [cnt_step, cnt_step]
    by_cases e : c = k
    · subst e
      rw [cnt_same (b := f') (b' := f) (fun i hi => h i (by omega) (by omega))]
      omega
    · have i1 := ih (by omega) fun i hi => h i (by omega)
      rw [h k (by omega) (by omega)]
      omega

theorem cnt_some {p : Nat → Bool} {i k : Nat} (hi : i < k) (h : p i = true) : 1 ≤ cntB p k := by
  induction k with
  | zero => omega
  | succ k ih =>
    rw [cnt_step]
    by_cases e : i = k
    · subst e
      rw [if_pos h]
      omega
    · have := ih (by omega)
      omega

theorem cnt_has {p : Nat → Bool} {k : Nat} (h : 1 ≤ cntB p k) : ∃ i, i < k ∧ p i = true := by
  induction k with
  | zero => exact absurd h (by show ¬ 1 ≤ 0; omega)
  | succ k ih =>
    rw [cnt_step] at h
    by_cases e : p k = true
    · exact ⟨k, by omega, e⟩
    · rw [if_neg e] at h
      obtain ⟨i, hi, hp⟩ := ih h
      exact ⟨i, by omega, hp⟩

/-- The places but one. -/
theorem cnt_less {p : Nat → Bool} {c k : Nat} (hc : c < k) (h : p c = true) : cntB (fun i => if i = c then false else p i) k + 1 = cntB p k := by
  have := cnt_change (f := p) (f' := fun i => if i = c then false else p i) hc fun i _ hne => if_neg hne
  rw [if_pos h, if_neg (by simp)] at this
  omega

theorem cnt_more {p : Nat → Bool} {i k : Nat} (hi : i < k) (h : p i = true) (h1 : cntB p k ≠ 1) : ∃ j, j < k ∧ p j = true ∧ j ≠ i := by
  have a := cnt_some hi h
  have b := cnt_less hi h
  obtain ⟨j, hj, hp⟩ := cnt_has (p := fun j => if j = i then false else p j) (k := k) (by omega)
  by_cases e : j = i
  · rw [if_pos e] at hp
    cases hp
  · rw [if_neg e] at hp
    exact ⟨j, hj, hp, e⟩

theorem cnt_only {p : Nat → Bool} {i k : Nat} (hi : i < k) (h : p i = true) (h1 : cntB p k = 1) {j : Nat} (hj : j < k) (hp : p j = true) : j = i := by
  by_cases e : j = i
  · exact e
  · have b := cnt_less hi h
    have := cnt_some (p := fun j => if j = i then false else p j) hj (by rw [if_neg e]; exact hp)
    omega

/-- The line of a cell. -/
def lnI (n : Nat) (d : Int × Int) (i : Nat) : Int := lnO n d i + startS n d
/-- Open, and of that line. -/
def onB (n : Nat) (d : Int × Int) (b : Nat → Bool) (j : Int) : Nat → Bool := fun i => b i && decide (lnI n d i = j)
/-- How many open cells a line has. -/
def cntL (n : Nat) (d : Int × Int) (b : Nat → Bool) (j : Int) : Nat := cntB (onB n d b j) (n * n)
/-- How many lines, of the first B, have just one. -/
def rdy (n : Nat) (d : Int × Int) (b : Nat → Bool) (B : Nat) : Nat := cntB (fun j => decide (cntL n d b (j : Int) = 1)) B

theorem onB_true {n : Nat} {d : Int × Int} {b : Nat → Bool} {j : Int} {i : Nat} : onB n d b j i = true ↔ b i = true ∧ lnI n d i = j := by
  unfold onB
  simp

theorem cntL_le (n : Nat) (d : Int × Int) (b : Nat → Bool) (j : Int) : cntL n d b j ≤ n * n := cnt_le _ _

/-- A cell closed. -/
def shutB (b : Nat → Bool) (c : Nat) : Nat → Bool := fun i => if i = c then false else b i

theorem cntL_shut {n : Nat} {d : Int × Int} {b : Nat → Bool} {c : Nat} (hc : c < n * n) (h : b c = true) (j : Int) : cntL n d (shutB b c) j + (if lnI n d c = j then 1 else 0) = cntL n d b j := by
  by_cases e : lnI n d c = j
  · rw [if_pos e]
    have := cnt_less (p := onB n d b j) hc (onB_true.2 ⟨h, e⟩)
    unfold cntL
    rw [← this]
    congr 1
    refine cnt_same fun i _ => ?_
    unfold onB shutB
    by_cases ec : i = c
    · rw [if_pos ec, if_pos ec]
      rfl
    · rw [if_neg ec, if_neg ec]
  · rw [if_neg e, Nat.add_zero]
    refine cnt_same fun i _ => ?_
    unfold onB shutB
    by_cases ec : i = c
    · subst ec
      rw [if_pos rfl]
      simp [e]
    · rw [if_neg ec]

theorem rdy_shut {n : Nat} {d : Int × Int} {b : Nat → Bool} {c B k : Nat} (hc : c < n * n) (h : b c = true) (hk : lnI n d c = (k : Int)) (hB : k < B) :
    rdy n d (shutB b c) B + (if cntL n d b k = 1 then 1 else 0) = rdy n d b B + (if cntL n d b k = 2 then 1 else 0) := by
  have h1 := cnt_change (f := fun j : Nat => decide (cntL n d b (j : Int) = 1)) (f' := fun j : Nat => decide (cntL n d (shutB b c) (j : Int) = 1)) hB fun j _ hne => by
    have := cntL_shut (d := d) hc h (j : Int)
    rw [if_neg (by omega)] at this
    rw [← this, Nat.add_zero]
  have h2 := cntL_shut (d := d) hc h (k : Int)
  rw [if_pos hk] at h2
  simp only [decide_eq_true_eq] at h1
  unfold rdy
  rw [h1]
  congr 1
  by_cases e : cntL n d b (k : Int) = 2
  · rw [if_pos e, if_pos (by omega)]
  · rw [if_neg e, if_neg (by omega)]

/-- Where no line has just one. -/
theorem stab_of {n : Nat} {L : List (Int × Int)} {b : Nat → Bool} (h : ∀ d, d ∈ L → ∀ i, i < n * n → cntL n d b (lnI n d i) ≠ 1) : StabB n L (fun i => b i = true) := by
  intro d hd i hi hb
  obtain ⟨j, hj, hp, hne⟩ := cnt_more hi (onB_true.2 ⟨hb, rfl⟩) (h d hd i hi)
  obtain ⟨h1, h2⟩ := onB_true.1 hp
  exact ⟨j, hj, h1, hne, by unfold lnI at h2; omega⟩

/-- Where a line has just one it may be closed. -/
theorem holds_shut {n : Nat} {L : List (Int × Int)} {b : Nat → Bool} (h : Holds n L b) {d : Int × Int} (hd : d ∈ L) {c : Nat} (hc : c < n * n) (hb : b c = true) (h1 : cntL n d b (lnI n d c) = 1) : Holds n L (shutB b c) :=
  holds_close h hd fun j hj hbj hl => cnt_only hc (onB_true.2 ⟨hb, rfl⟩) h1 hj (onB_true.2 ⟨hbj, by unfold lnI; omega⟩)

/-- How many bins, as a number. -/
def binN (n : Nat) (d : Int × Int) : Nat := (n - 1) * (d.1.natAbs + d.2.toNat) + 1

theorem binN_eq {n : Nat} {d : Int × Int} (hn : 1 ≤ n) (h64 : n ≤ 64) (ho : okD d.1 d.2 = true) : binsS n d = (((binN n d : Nat) : Int), 0) := by
  obtain ⟨b1, b2, b3⟩ := okD_bounds ho
  unfold binsS binN
  rw [if_neg (by omega), if_pos ho]
  have e1 : ((n - 1 : Nat) : Int) = (n : Int) - 1 := by omega
  have e2 : ((d.2.toNat : Nat) : Int) = d.2 := by omega
  push_cast
  rw [e1, e2]

theorem line_bounds {n : Nat} {d : Int × Int} (hn : 1 ≤ n) (h64 : n ≤ 64) (ho : okD d.1 d.2 = true) {i : Nat} (hi : i < n * n) : ∃ k : Nat, k < binN n d ∧ lnI n d i = (k : Int) := by
  obtain ⟨b1, b2, b3⟩ := okD_bounds ho
  have hx : i % n < n := Nat.mod_lt _ (by omega)
  have hy : i / n < n := (Nat.div_lt_iff_lt_mul (by omega)).2 hi
  suffices hs : 0 ≤ lnI n d i ∧ lnI n d i < ((n : Int) - 1) * (d.1.natAbs + d.2) + 1 by
    have e := congrArg Prod.fst (binN_eq hn h64 ho)
    unfold binsS at e
    rw [if_neg (by omega), if_pos ho] at e
    dsimp only at e
    exact ⟨(lnI n d i).toNat, by omega, by omega⟩
  unfold lnI lnO startS
  generalize i % n = x at *
  generalize i / n = y at *
  obtain ⟨P, Q⟩ := d
  dsimp only at *
  have q1 := Int.mul_nonneg b2 (Int.natCast_nonneg x)
  have q2 : Q * (x : Int) ≤ Q * ((n : Int) - 1) := Int.mul_le_mul_of_nonneg_left (by omega) b2
  by_cases hP : P < 0
  · rw [if_pos hP]
    have q3 : 0 ≤ (-P) * (y : Int) := Int.mul_nonneg (by omega) (by omega)
    have q4 : (-P) * (y : Int) ≤ (-P) * ((n : Int) - 1) := Int.mul_le_mul_of_nonneg_left (by omega) (by omega)
    have e : ((P.natAbs : Nat) : Int) = -P := by omega
    rw [e, Int.mul_add, Int.mul_comm ((n : Int) - 1) (-P), Int.mul_comm ((n : Int) - 1) Q]
    rw [Int.neg_mul] at q3 q4
    omega
  · rw [if_neg hP]
    have q3 : 0 ≤ P * (y : Int) := Int.mul_nonneg (by omega) (by omega)
    have q4 : P * (y : Int) ≤ P * ((n : Int) - 1) := Int.mul_le_mul_of_nonneg_left (by omega) (by omega)
    have e : ((P.natAbs : Nat) : Int) = P := by omega
    rw [e, Int.mul_add, Int.mul_comm ((n : Int) - 1) P, Int.mul_comm ((n : Int) - 1) Q]
    omega

theorem binN_le {n : Nat} {d : Int × Int} (h64 : n ≤ 64) (ho : okD d.1 d.2 = true) : binN n d ≤ 2017 := by
  obtain ⟨b1, b2, b3⟩ := okD_bounds ho
  unfold binN
  have : (n - 1) * (d.1.natAbs + d.2.toNat) ≤ 63 * 32 := Nat.mul_le_mul (by omega) (by omega)
  omega
end Go.Proofs.Ytgbkfmjkemkajaa

namespace Go.Proofs.Ytgbkfmjkemkajaa
open Go.RowKit

def VRow (w : World) (t : TypeId) (g n : Nat) (f : Nat → Value) : Prop := ∃ cur : Array Value, w.heap[g]? = some (.cells cur t (0, 0)) ∧ n ≤ cur.size ∧ ∀ i, i < n → cur[i]? = some (f i)

theorem vrow_at {w : World} {t : TypeId} {g n : Nat} {f : Nat → Value} (h : VRow w t g n f) {i : Nat} (hi : i < n) : w.cell? ⟨g, i, none⟩ = some (f i) := by
  obtain ⟨cur, h1, h2, h3⟩ := h
  simp [World.cell?, h1, h3 i hi]

theorem vrow_lt {w : World} {t : TypeId} {g n : Nat} {f : Nat → Value} (h : VRow w t g n f) : g < w.heap.size := by
  obtain ⟨cur, h1, _⟩ := h
  exact (Array.getElem?_eq_some_iff.1 h1).1

theorem vrow_keep {w w' : World} {t : TypeId} {g n : Nat} {f : Nat → Value} (h : VRow w t g n f) (hb : w'.heap[g]? = w.heap[g]?) : VRow w' t g n f := by
  obtain ⟨cur, h1, h2, h3⟩ := h
  exact ⟨cur, by rw [hb]; exact h1, h2, h3⟩

theorem vrow_set {w : World} {t : TypeId} {g n : Nat} {f : Nat → Value} (h : VRow w t g n f) (k : Nat) (v : Value) : VRow (w.setCell ⟨g, k, none⟩ v) t g n (fun i => if i = k then v else f i) := by
  obtain ⟨cur, h1, h2, h3⟩ := h
  refine ⟨cur.setIfInBounds k v, heap_setCell_same w g k cur _ _ h1, by simpa using h2, fun i hi => ?_⟩
  dsimp only
  by_cases c : i = k
  · subst c
    rw [if_pos rfl, Array.getElem?_setIfInBounds_self_of_lt (by omega)]
  · rw [if_neg c, Array.getElem?_setIfInBounds_ne (by omega)]
    exact h3 i hi

/-- Rows that lie apart, all above a mark. -/
structure Mem (w : World) (base : Nat) (live : Nat → Prop) (blk : Nat → Nat) (ty : Nat → TypeId) (len : Nat → Nat) (F : Nat → Nat → Value) : Prop where
  row : ∀ r, live r → VRow w (ty r) (blk r) (len r) (F r)
  above : ∀ r, live r → base ≤ blk r
  apart : ∀ r s, live r → live s → blk r = blk s → r = s

theorem mem_below {w w' : World} {base : Nat} {live : Nat → Prop} {blk : Nat → Nat} {ty : Nat → TypeId} {len : Nat → Nat} {F : Nat → Nat → Value} (h : Mem w base live blk ty len F) (hb : Below w.heap.size w w') : Mem w' base live blk ty len F :=
  ⟨fun r hr => vrow_keep (h.row r hr) (hb.block _ (vrow_lt (h.row r hr))), h.above, h.apart⟩

theorem mem_ext {w : World} {base : Nat} {live : Nat → Prop} {blk : Nat → Nat} {ty : Nat → TypeId} {len : Nat → Nat} {F F' : Nat → Nat → Value} (h : Mem w base live blk ty len F) (he : ∀ r, live r → ∀ i, i < len r → F r i = F' r i) : Mem w base live blk ty len F' := by
  refine ⟨fun r hr => ?_, h.above, h.apart⟩
  obtain ⟨cur, h1, h2, h3⟩ := h.row r hr
  exact ⟨cur, h1, h2, fun i hi => by rw [← he r hr i hi]; exact h3 i hi⟩

theorem mem_set {w : World} {base : Nat} {live : Nat → Prop} {blk : Nat → Nat} {ty : Nat → TypeId} {len : Nat → Nat} {F : Nat → Nat → Value} (h : Mem w base live blk ty len F) {r : Nat} (hr : live r) (k : Nat) (v : Value) :
    Mem (w.setCell ⟨blk r, k, none⟩ v) base live blk ty len (fun s i => if s = r ∧ i = k then v else F s i) := by
  refine ⟨fun s hs => ?_, h.above, h.apart⟩
  by_cases e : s = r
  · subst e
    obtain ⟨cur, h1, h2, h3⟩ := vrow_set (h.row s hs) k v
    refine ⟨cur, h1, h2, fun i hi => ?_⟩
    rw [h3 i hi]
    dsimp only
    by_cases c : i = k
    · rw [if_pos c, if_pos ⟨rfl, c⟩]
    · rw [if_neg c, if_neg (fun x => c x.2)]
  · have hne : blk s ≠ blk r := fun x => e (h.apart s r hs hr x)
    obtain ⟨cur, h1, h2, h3⟩ := vrow_keep (w' := w.setCell ⟨blk r, k, none⟩ v) (h.row s hs) (Below.heap_setCell _ _ _ _ hne)
    refine ⟨cur, h1, h2, fun i hi => ?_⟩
    rw [h3 i hi]
    dsimp only
    rw [if_neg (fun x => e x.1)]

/-- Small products do not wrap. -/
theorem cell_small {x : Nat} {n : Nat} {q : Int} (hx : x < n) (h64 : n ≤ 64) (h1 : q.natAbs ≤ 16) : -1008 ≤ q * (x : Int) ∧ q * (x : Int) ≤ 1008 := by
  have := cell_prod (x := (x : Int)) (n := (n : Int)) (Q := q) (by omega) (by omega) (by omega) h1
  omega

set_option maxRecDepth 100000 in
set_option maxHeartbeats 3200000 in
theorem boardLine {p n : Nat} {L : List (Int × Int)} {a : Option Addr} {cap g o k i : Nat} {d : Int × Int} (hn : 1 ≤ n) (h64 : n ≤ 64) (hL : L.length ≤ 64) (hi : i < n * n) (hd : L[k]? = some d) (ho : okD d.1 d.2 = true) (w : World)
    (c0 : w.cell? ⟨p, 0, none⟩ = some (.int .i64 n)) (c5 : w.cell? ⟨p, 5, none⟩ = some (.slice a L.length cap)) (hD : Dirs w a g o L) (hp : p < w.heap.size) :
    Calls Try.prog 47 #[.pointer (some ⟨p, 0, none⟩), .int .i64 k, .int .i64 i] w fun e w' => e = .returned (.int .i64 (lnI n d i)) ∧ Below w.heap.size w w' := by
  obtain ⟨P, Q⟩ := d
  have hk := (List.getElem?_eq_some_iff.1 hd).1
  obtain ⟨rfl, hg⟩ := hD.at_ (by omega)
  obtain ⟨c1, c2⟩ := hD.cell k _ hd
  obtain ⟨b1, b2, b3⟩ := okD_bounds ho
  dsimp only at b1 b2 b3 c1 c2
  have ks := hide (fun (W : World) => startAny (n := (n : Int)) (P := P) (Q := Q) (by omega) (by omega) b1 W)
  obtain ⟨x, hxe⟩ : ∃ x, i % n = x := ⟨_, rfl⟩
  obtain ⟨y, hye⟩ : ∃ y, i / n = y := ⟨_, rfl⟩
  have hx : x < n := by rw [← hxe]; exact Nat.mod_lt _ (by omega)
  have hy : y < n := by rw [← hye]; exact (Nat.div_lt_iff_lt_mul (by omega)).2 hi
  have m1 := cell_small (q := Q) hx h64 (by omega)
  have m2 := cell_small (q := P) hy h64 b1
  have hs := start_small (P := P) (Q := Q) (n := (n : Int)) (by omega) (by omega) b1
  have e1 : (i : Int) % (n : Int) = (x : Int) := by rw [← hxe]; rfl
  have e4 : ((i : Int)).tmod (n : Int) = (x : Int) := by rw [Int.tmod_eq_emod_of_nonneg (by omega)]; exact e1
  have e4 := hide e4
  have e3 : (i : Int) / (n : Int) = (y : Int) := by rw [← hye]; rfl
  have e2 : IntKind.i64.wrap ((i : Int) / (n : Int)) = (y : Int) := by rw [e3, IntKind.wrap_i64]; omega
  unfold lnI lnO
  dsimp only
  rw [hxe, hye]
  have n1 : IntKind.i64.wrap (Q * (x : Int)) = Q * (x : Int) := by rw [IntKind.wrap_i64]; omega
  have n2 : IntKind.i64.wrap (P * (y : Int)) = P * (y : Int) := by rw [IntKind.wrap_i64]; omega
  have z0 : ((n : Int) == 0) = false := by simp; omega
  have z1 : ¬ (n : Int) = 0 := by omega
  have z2 : (n = 0) = False := by simp; omega
  have qk : ((k : Int) < (L.length : Int)) = True := by simp; omega
  generalize startS (n : Int) (P, Q) = st at *
  generalize hX : Q * (x : Int) = X at *
  generalize hY : P * (y : Int) = Y at *
  have n3 : IntKind.i64.wrap (X - Y) = X - Y := by rw [IntKind.wrap_i64]; omega
  have n4 : IntKind.i64.wrap (X - Y + st) = X - Y + st := by rw [IntKind.wrap_i64]; omega
  have y1 := hide (heap_alloc_new w (.cells #[.int .i64 P, .int .i64 Q] 35))
  have y2 := hide ((Below.refl w.heap.size w).alloc (Nat.le_refl _) (.cells #[.int .i64 P, .int .i64 Q] 35))
  have y3 : (w.alloc (.cells #[.int .i64 P, .int .i64 Q] 35)).heap.size = w.heap.size + 1 := by rw [World.size_alloc]
  clear m1 m2 hs ho hd hD hL hxe hye e3
  have e4 := unhide e4
  go_enter Try.func47, Try.ntmps47
  go_wp2_with fail
  clear c1 c2 c5
  generalize w.alloc (.cells #[.int .i64 P, .int .i64 Q] 35) = w1 at *
  have x1 : w1.cell? ⟨w.heap.size, 0, none⟩ = some (.int .i64 P) := cell_of_row w1 w.heap.size 0 _ _ (0, 0) (unhide y1)
  have x2 : w1.cell? ⟨w.heap.size, 1, none⟩ = some (.int .i64 Q) := cell_of_row w1 w.heap.size 1 _ _ (0, 0) (unhide y1)
  have x3 : w1.cell? ⟨p, 0, none⟩ = some (.int .i64 n) := ((unhide y2).cell (p := ⟨p, 0, none⟩) hp).trans c0
  have fct : Hid (∀ w8 : World, Below w1.heap.size w1 w8 → w8.cell? ⟨w.heap.size, 0, none⟩ = some (.int .i64 P) ∧ w8.cell? ⟨w.heap.size, 1, none⟩ = some (.int .i64 Q) ∧ w8.cell? ⟨p, 0, none⟩ = some (.int .i64 n)) :=
    fun w8 h => ⟨(h.cell (p := ⟨w.heap.size, 0, none⟩) (by show w.heap.size < _; omega)).trans x1, (h.cell (p := ⟨w.heap.size, 1, none⟩) (by show w.heap.size < _; omega)).trans x2, (h.cell (p := ⟨p, 0, none⟩) (by show p < _; omega)).trans x3⟩
  clear y1 y3 c0
  go_region_held3 (fun w8 => w8.cell? ⟨w.heap.size, 0, none⟩ = some (.int .i64 P) ∧ w8.cell? ⟨w.heap.size, 1, none⟩ = some (.int .i64 Q) ∧ w8.cell? ⟨p, 0, none⟩ = some (.int .i64 n))
    (first | exact unhide fct _ (unhide hv1) | go_keep)
    (first
    | (go_at_call 75; with_reducible refine (unhide ks _).mono ?_; rintro e v1 ⟨rfl, hx1⟩
       have hv1 : Hid (Below w1.heap.size w1 v1) := ⟨hx1.os, hx1.tape, hx1.output, hx1.size, hx1.block⟩
       clear hx1))
  go_wp2_with fail
  go_ret
  exact ⟨rfl, (unhide y2).trans ((unhide hv1).mono (unhide y2).size)⟩
end Go.Proofs.Ytgbkfmjkemkajaa
