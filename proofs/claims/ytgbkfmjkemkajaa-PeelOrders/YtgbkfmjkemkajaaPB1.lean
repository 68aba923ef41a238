/- The board in memory: rows of cells apart from each other; the line of a cell. -/
import Derived.Test.YtgbkfmjkemkajaaPB0
import Derived.Test.YtgbkfmjkemkajaaPO0
import Derived.Deep.RegionHeld3
namespace Go.Proofs.Ytgbkfmjkemkajaa
open Go.RowKit

def VRow (w : World) (t : TypeId) (g n : Nat) (f : Nat → Value) : Prop := ∃ cur : Array Value, w.heap[g]? = some (.cells cur t (0, 0)) ∧ n ≤ cur.size ∧ ∀ i, i < n → cur[i]? = some (f i)

theorem vrow_at {w : World} {t : TypeId} {g n : Nat} {f : Nat → Value} (h : VRow w t g n f) {i : Nat} (hi : i < n) : w.cell? ⟨g, i, none⟩ = some (f i) := by
  obtain ⟨cur, h1, h2, h3⟩ := h
  simp [World.cell?, h1, h3 i hi]

theorem vrow_lt {w : World} {t : TypeId} {g n : Nat} {f : Nat → Value} (h : VRow w t g n f) : g < w.heap.size := by
  obtain ⟨cur, h1, _⟩ := h
  exact (Array.getElem?_eq_some_iff.1 h1).1

theorem vrow_keep {w w' : World} {t : TypeId} {g n : Nat} {f : Nat → Value} (h : VRow w t g n f) (hb : w'.heap[g]? = w.heap[g]?) : VRow w' t g n f := by
  obtain ⟨cur, h1, h2, h3⟩ := h
  exact ⟨cur, by rw [hb]; exact h1, h2, h3⟩

theorem vrow_set {w : World} {t : TypeId} {g n : Nat} {f : Nat → Value} (h : VRow w t g n f) (k : Nat) (v : Value) : VRow (w.setCell ⟨g, k, none⟩ v) t g n (fun i => if i = k then v else f i) := by
  obtain ⟨cur, h1, h2, h3⟩ := h
  refine ⟨cur.setIfInBounds k v, heap_setCell_same w g k cur _ _ h1, by simpa using h2, fun i hi => ?_⟩
  dsimp only
  by_cases c : i = k
  · subst c
    rw [if_pos rfl, Array.getElem?_setIfInBounds_self_of_lt (by omega)]
  · rw [if_neg c, Array.getElem?_setIfInBounds_ne (by omega)]
    exact h3 i hi

/-- Rows that lie apart, all above a mark. -/
structure Mem (w : World) (base : Nat) (live : Nat → Prop) (blk : Nat → Nat) (ty : Nat → TypeId) (len : Nat → Nat) (F : Nat → Nat → Value) : Prop where
  row : ∀ r, live r → VRow w (ty r) (blk r) (len r) (F r)
  above : ∀ r, live r → base ≤ blk r
  apart : ∀ r s, live r → live s → blk r = blk s → r = s

theorem mem_below {w w' : World} {base : Nat} {live : Nat → Prop} {blk : Nat → Nat} {ty : Nat → TypeId} {len : Nat → Nat} {F : Nat → Nat → Value} (h : Mem w base live blk ty len F) (hb : Below w.heap.size w w') : Mem w' base live blk ty len F :=
  ⟨fun r hr => vrow_keep (h.row r hr) (hb.block _ (vrow_lt (h.row r hr))), h.above, h.apart⟩

theorem mem_ext {w : World} {base : Nat} {live : Nat → Prop} {blk : Nat → Nat} {ty : Nat → TypeId} {len : Nat → Nat} {F F' : Nat → Nat → Value} (h : Mem w base live blk ty len F) (he : ∀ r, live r → ∀ i, i < len r → F r i = F' r i) : Mem w base live blk ty len F' := by
  refine ⟨fun r hr => ?_, h.above, h.apart⟩
  obtain ⟨cur, h1, h2, h3⟩ := h.row r hr
  exact ⟨cur, h1, h2, fun i hi => by rw [← he r hr i hi]; exact h3 i hi⟩

theorem mem_set {w : World} {base : Nat} {live : Nat → Prop} {blk : Nat → Nat} {ty : Nat → TypeId} {len : Nat → Nat} {F : Nat → Nat → Value} (h : Mem w base live blk ty len F) {r : Nat} (hr : live r) (k : Nat) (v : Value) :
    Mem (w.setCell ⟨blk r, k, none⟩ v) base live blk ty len (fun s i => if s = r ∧ i = k then v else F s i) := by
  refine ⟨fun s hs => ?_, h.above, h.apart⟩
  by_cases e : s = r
  · subst e
    obtain ⟨cur, h1, h2, h3⟩ := vrow_set (h.row s hs) k v
    refine ⟨cur, h1, h2, fun i hi => ?_⟩
    rw [h3 i hi]
    dsimp only
    by_cases c : i = k
    · rw [if_pos c, if_pos ⟨rfl, c⟩]
    · rw [if_neg c, if_neg (fun x => c x.2)]
  · have hne : blk s ≠ blk r := fun x => e (h.apart s r hs hr x)
    obtain ⟨cur, h1, h2, h3⟩ := vrow_keep (w' := w.setCell ⟨blk r, k, none⟩ v) (h.row s hs) (Below.heap_setCell _ _ _ _ hne)
    refine ⟨cur, h1, h2, fun i hi => ?_⟩
    rw [h3 i hi]
    dsimp only
    rw [if_neg (fun x => e x.1)]

/-- Small products do not wrap. -/
theorem cell_small {x : Nat} {n : Nat} {q : Int} (hx : x < n) (h64 : n ≤ 64) (h1 : q.natAbs ≤ 16) : -1008 ≤ q * (x : Int) ∧ q * (x : Int) ≤ 1008 := by
  have := cell_prod (x := (x : Int)) (n := (n : Int)) (Q := q) (by omega) (by omega) (by omega) h1
  omega

set_option maxRecDepth 100000 in
set_option maxHeartbeats 3200000 in
theorem boardLine {p n : Nat} {L : List (Int × Int)} {a : Option Addr} {cap g o k i : Nat} {d : Int × Int} (hn : 1 ≤ n) (h64 : n ≤ 64) (hL : L.length ≤ 64) (hi : i < n * n) (hd : L[k]? = some d) (ho : okD d.1 d.2 = true) (w : World)
    (c0 : w.cell? ⟨p, 0, none⟩ = some (.int .i64 n)) (c5 : w.cell? ⟨p, 5, none⟩ = some (.slice a L.length cap)) (hD : Dirs w a g o L) (hp : p < w.heap.size) :
    Calls Try.prog 47 #[.pointer (some ⟨p, 0, none⟩), .int .i64 k, .int .i64 i] w fun e w' => e = .returned (.int .i64 (lnI n d i)) ∧ Below w.heap.size w w' := by
  obtain ⟨P, Q⟩ := d
  have hk := (List.getElem?_eq_some_iff.1 hd).1
  obtain ⟨rfl, hg⟩ := hD.at_ (by omega)
  obtain ⟨c1, c2⟩ := hD.cell k _ hd
  obtain ⟨b1, b2, b3⟩ := okD_bounds ho
  dsimp only at b1 b2 b3 c1 c2
  have ks := hide (fun (W : World) => startAny (n := (n : Int)) (P := P) (Q := Q) (by omega) (by omega) b1 W)
  obtain ⟨x, hxe⟩ : ∃ x, i % n = x := ⟨_, rfl⟩
  obtain ⟨y, hye⟩ : ∃ y, i / n = y := ⟨_, rfl⟩
  have hx : x < n := by rw [← hxe]; exact Nat.mod_lt _ (by omega)
  have hy : y < n := by rw [← hye]; exact (Nat.div_lt_iff_lt_mul (by omega)).2 hi
  have m1 := cell_small (q := Q) hx h64 (by omega)
  have m2 := cell_small (q := P) hy h64 b1
  have hs := start_small (P := P) (Q := Q) (n := (n : Int)) (by omega) (by omega) b1
  have e1 : (i : Int) % (n : Int) = (x : Int) := by rw [← hxe]; rfl
  have e4 : ((i : Int)).tmod (n : Int) = (x : Int) := by rw [Int.tmod_eq_emod_of_nonneg (by omega)]; exact e1
  have e4 := hide e4
  have e3 : (i : Int) / (n : Int) = (y : Int) := by rw [← hye]; rfl
  have e2 : IntKind.i64.wrap ((i : Int) / (n : Int)) = (y : Int) := by rw [e3, IntKind.wrap_i64]; omega
  unfold lnI lnO
  dsimp only
  rw [hxe, hye]
  have n1 : IntKind.i64.wrap (Q * (x : Int)) = Q * (x : Int) := by rw [IntKind.wrap_i64]; omega
  have n2 : IntKind.i64.wrap (P * (y : Int)) = P * (y : Int) := by rw [IntKind.wrap_i64]; omega
  have z0 : ((n : Int) == 0) = false := by simp; omega
  have z1 : ¬ (n : Int) = 0 := by omega
  have z2 : (n = 0) = False := by simp; omega
  have qk : ((k : Int) < (L.length : Int)) = True := by simp; omega
  generalize startS (n : Int) (P, Q) = st at *
  generalize hX : Q * (x : Int) = X at *
  generalize hY : P * (y : Int) = Y at *
  have n3 : IntKind.i64.wrap (X - Y) = X - Y := by rw [IntKind.wrap_i64]; omega
  have n4 : IntKind.i64.wrap (X - Y + st) = X - Y + st := by rw [IntKind.wrap_i64]; omega
  have y1 := hide (heap_alloc_new w (.cells #[.int .i64 P, .int .i64 Q] 35))
  have y2 := hide ((Below.refl w.heap.size w).alloc (Nat.le_refl _) (.cells #[.int .i64 P, .int .i64 Q] 35))
  have y3 : (w.alloc (.cells #[.int .i64 P, .int .i64 Q] 35)).heap.size = w.heap.size + 1 := by rw [World.size_alloc]
  clear m1 m2 hs ho hd hD hL hxe hye e3
  have e4 := unhide e4
  go_enter Try.func47, Try.ntmps47
  go_wp2_with fail
  clear c1 c2 c5
  generalize w.alloc (.cells #[.int .i64 P, .int .i64 Q] 35) = w1 at *
  have x1 : w1.cell? ⟨w.heap.size, 0, none⟩ = some (.int .i64 P) := cell_of_row w1 w.heap.size 0 _ _ (0, 0) (unhide y1)
  have x2 : w1.cell? ⟨w.heap.size, 1, none⟩ = some (.int .i64 Q) := cell_of_row w1 w.heap.size 1 _ _ (0, 0) (unhide y1)
  have x3 : w1.cell? ⟨p, 0, none⟩ = some (.int .i64 n) := ((unhide y2).cell (p := ⟨p, 0, none⟩) hp).trans c0
  have fct : Hid (∀ w8 : World, Below w1.heap.size w1 w8 → w8.cell? ⟨w.heap.size, 0, none⟩ = some (.int .i64 P) ∧ w8.cell? ⟨w.heap.size, 1, none⟩ = some (.int .i64 Q) ∧ w8.cell? ⟨p, 0, none⟩ = some (.int .i64 n)) :=
    fun w8 h => ⟨(h.cell (p := ⟨w.heap.size, 0, none⟩) (by show w.heap.size < _; omega)).trans x1, (h.cell (p := ⟨w.heap.size, 1, none⟩) (by show w.heap.size < _; omega)).trans x2, (h.cell (p := ⟨p, 0, none⟩) (by show p < _; omega)).trans x3⟩
  clear y1 y3 c0
  go_region_held3 (fun w8 => w8.cell? ⟨w.heap.size, 0, none⟩ = some (.int .i64 P) ∧ w8.cell? ⟨w.heap.size, 1, none⟩ = some (.int .i64 Q) ∧ w8.cell? ⟨p, 0, none⟩ = some (.int .i64 n))
    (first | exact unhide fct _ (unhide hv1) | go_keep)
    (first
    | (go_at_call 75; with_reducible refine (unhide ks _).mono ?_; rintro e v1 ⟨rfl, hx1⟩
       have hv1 : Hid (Below w1.heap.size w1 v1) := ⟨hx1.os, hx1.tape, hx1.output, hx1.size, hx1.block⟩
       clear hx1))
  go_wp2_with fail
  go_ret
  exact ⟨rfl, (unhide y2).trans ((unhide hv1).mono (unhide y2).size)⟩
end Go.Proofs.Ytgbkfmjkemkajaa
