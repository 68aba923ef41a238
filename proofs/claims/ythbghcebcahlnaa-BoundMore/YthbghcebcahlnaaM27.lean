/- A row of complex numbers in memory; sums, products, conjugates, plain parts. Whole numbers: what cx.Whole tells; a sound grid. The landed look: the errors that are told ahead of all sweeps. The landed Run: what is wrong; no projections. -/
import Derived.Test.YthbghcebcahlnaaM24
import Derived.Test.YthbghcebcahlnaaM26
import Derived.Laws.BitsAllLaws
import Derived.Test.YthbghcebcahlnaaM21
import Derived.Test.YthbghcebcahlnaaM22
import Derived.Test.YthbghcebcahlnaaM25
namespace Go.Proofs.Ythbghcebcahlnaa
open Go.RowKit

theorem bits32 (b : Nat) (w : World) : (callFunc 93 #[.float .f64 b]).run (barP Try.prog) w = .ok (.value (.int .u64 b)) w := by
  rw [run_callFunc_extern (e := Extern.MathFloatBits.float64bits) Bar.func93 (by kernel_rfl) (by kernel_rfl) (by kernel_rfl) (by kernel_rfl)]
  rfl

theorem from31 (n : Int) (w : World) : (callFunc 94 #[.int .u64 n]).run (barP Try.prog) w = .ok (.value (.float .f64 n.toNat)) w := by
  rw [run_callFunc_extern (e := Extern.MathFloatBits.float64frombits) Bar.func94 (by kernel_rfl) (by kernel_rfl) (by kernel_rfl) (by kernel_rfl)]
  rfl

def cv (a : Nat × Nat) : Value := .complex .f64 a.1 a.2

/-- Block g is a row of n complex numbers, f i at place i. -/
def Row (w : World) (g n : Nat) (f : Nat → Nat × Nat) : Prop := ∃ cur, w.heap[g]? = some (.cells cur 39 (0, 0)) ∧ n ≤ cur.size ∧ ∀ i, i < n → cur[i]? = some (cv (f i))

theorem row_at {w : World} {g n : Nat} {f : Nat → Nat × Nat} (h : Row w g n f) {i : Nat} (hi : i < n) : w.cell? ⟨g, i, none⟩ = some (cv (f i)) := by
  obtain ⟨cur, h1, h2, h3⟩ := h
  rw [cell_of_row w g i cur _ (0, 0) h1]
  exact h3 i hi

theorem row_frozen {w : World} {g n : Nat} {f : Nat → Nat × Nat} (h : Row w g n f) (i : Nat) : w.frozen? ⟨g, i, none⟩ = false := by
  obtain ⟨cur, h1, h2, h3⟩ := h
  exact frozen_of_row w g i cur _ h1

theorem row_lt {w : World} {g n : Nat} {f : Nat → Nat × Nat} (h : Row w g n f) : g < w.heap.size := by
  obtain ⟨cur, h1, h2, h3⟩ := h
  exact (Array.getElem?_eq_some_iff.1 h1).1

theorem row_ext {w : World} {g n : Nat} {f f' : Nat → Nat × Nat} (h : Row w g n f) (he : ∀ i, i < n → f i = f' i) : Row w g n f' := by
  obtain ⟨cur, h1, h2, h3⟩ := h
  exact ⟨cur, h1, h2, fun i hi => by rw [← he i hi]; exact h3 i hi⟩

theorem row_keep {w w' : World} {g n : Nat} {f : Nat → Nat × Nat} (h : Row w g n f) (hb : w'.heap[g]? = w.heap[g]?) : Row w' g n f := by
  obtain ⟨cur, h1, h2, h3⟩ := h
  exact ⟨cur, by rw [hb]; exact h1, h2, h3⟩

theorem row_grown {w w' : World} {g n : Nat} {f : Nat → Nat × Nat} {r : Option Nat} (h : Row w g n f) (hg : w.grownBy w' r) (hr : some g ≠ r) : Row w' g n f := row_keep h (hg.block g (row_lt h) hr)
theorem row_below {w w' : World} {g n B : Nat} {f : Nat → Nat × Nat} (h : Row w g n f) (hg : Below B w w') (hr : g < B) : Row w' g n f := row_keep h (hg.block g hr)

def upd (f : Nat → Nat × Nat) (k : Nat) (v : Nat × Nat) : Nat → Nat × Nat := fun i => if i = k then v else f i

theorem row_set {w : World} {g n : Nat} {f : Nat → Nat × Nat} (h : Row w g n f) (k : Nat) (v : Nat × Nat) : Row (w.setCell ⟨g, k, none⟩ (cv v)) g n (upd f k v) := by
  obtain ⟨cur, h1, h2, h3⟩ := h
  refine ⟨cur.setIfInBounds k (cv v), heap_setCell_same w g k cur _ _ h1, by simpa using h2, fun i hi => ?_⟩
  unfold upd
  by_cases c : i = k
  · subst c
    rw [if_pos rfl, Array.getElem?_setIfInBounds_self_of_lt (by omega)]
  · rw [if_neg c, Array.getElem?_setIfInBounds_ne (by omega)]
    exact h3 i hi

theorem row_made {w w' : World} {g n : Nat} {z : Value} {xs : List Value} (h : w'.ownsRow w.heap.size 39 1 (.slice (some ⟨g, 0, none⟩) n n) n xs) (f : Nat → Nat × Nat) (hx : ∀ i, i < n → xs[i]? = some z) (hz : ∀ i, i < n → z = cv (f i)) : Row w' g n f := by
  rcases h.2 with ⟨h', _⟩ | ⟨g', cap, cur, h', _, hg, _, _, hcs, htake⟩
  · simp at h'
  · simp only [Value.slice.injEq, Option.some.injEq, Addr.mk.injEq, and_true, true_and] at h'
    obtain ⟨rfl, rfl⟩ := h'
    refine ⟨cur, hg, by omega, fun i hi => ?_⟩
    have h3 := hx i hi
    rw [← htake, List.getElem?_take, if_pos (by omega), hz i hi] at h3
    simpa using h3

theorem grown_refl (w : World) (r : Option Nat) : w.grownBy w r := ⟨rfl, rfl, rfl, Nat.le_refl _, fun _ _ _ => rfl⟩
theorem grown_trans {a b c : World} {r : Option Nat} (h : a.grownBy b r) (k : b.grownBy c r) : a.grownBy c r :=
  ⟨k.os.trans h.os, k.tape.trans h.tape, k.output.trans h.output, Nat.le_trans h.size k.size, fun i hi hr => (k.block i (Nat.lt_of_lt_of_le hi h.size) hr).trans (h.block i hi hr)⟩
theorem grown_set (w : World) (g k : Nat) (u : Value) : w.grownBy (w.setCell ⟨g, k, none⟩ u) (some g) :=
  ⟨rfl, rfl, rfl, by simp [World.setCell], fun i _ hr => Below.heap_setCell _ _ _ _ (fun e => hr (by rw [e]))⟩
theorem grown_below' {w w' : World} {g B : Nat} (h : w.grownBy w' (some g)) (hg : B ≤ g) (hB : B ≤ w.heap.size) : Below B w w' := (Below.refl _ _).grown h hB (fun k hk => by cases hk; exact hg)
theorem below_grown {w w' : World} {r : Option Nat} (h : Below w.heap.size w w') : w.grownBy w' r := ⟨h.os, h.tape, h.output, h.size, fun k hk _ => h.block k hk⟩

theorem store_complex {P : Program} {w : World} {a : Addr} {m : Mode} (k : FloatKind) (x y : Nat) : (store a (.complex k x y) m).run P w = stored P w a (.complex k x y) m := run_store P w a _ m rfl
theorem row_drew {w : World} {g n : Nat} {f : Nat → Nat × Nat} (h : Row w g n f) : Row w.drew g n f := h
theorem grown_below {w w' : World} (h : w.grownBy w' none) : Below w.heap.size w w' := (Below.refl _ _).grown h (Nat.le_refl _) (fun k hk => by cases hk)
theorem infoC : ((barP Try.prog).info? 39).map (fun i => (i.zero, i.size, i.bytes)) = some (some (.complex .f64 0 0), 1, 16) := by kernel_rfl
theorem zeros_get (n i : Nat) (hi : i < n) : (madeCells #[Value.complex .f64 0 0] n).toList[i]? = some (.complex .f64 0 0) := by
  rw [toList_madeCells_one, List.getElem?_replicate, if_pos (by omega)]

end Go.Proofs.Ythbghcebcahlnaa

namespace Go.Proofs.Ythbghcebcahlnaa
open Go.RowKit

theorem arch31 (b : Nat) (s : Bool) (m : Nat) (p : Int) (h : FloatKind.f64.decode b = .number s m p) (w : World) :
    (callFunc 95 #[.float .f64 b]).run (barP Try.prog) w = .ok (.value (.float .f64 (FloatKind.f64.encode ((FloatKind.f64.decode b).integral .zero)))) w := by
  rw [run_callFunc_extern (e := Extern.MathFloor.toIntegral "math.archTrunc" .zero) Bar.func95 (by kernel_rfl) (by kernel_rfl) (by kernel_rfl) (by kernel_rfl)]
  have key : (Extern.MathFloor.toIntegral "math.archTrunc" .zero #[.float .f64 b]).run (barP Try.prog) w = .ok (.float .f64 (FloatKind.f64.encode ((FloatKind.f64.decode b).integral .zero))) w := by
    unfold Extern.MathFloor.toIntegral
    unfold Extern.MathFloor.toIntegral.match_2
    rw [dif_pos (by rfl)]
    dsimp only [Extern.MathFloor.toIntegral._sparseCasesOn_2, Extern.MathFloor.toIntegral._sparseCasesOn_3, Array.getLit, List.getElem_toArray, List.getElem_cons_zero]
    rw [h]
    rfl
  rw [key]
  rfl

theorem andNot63 (b : Nat) (hb : b < 18446744073709551616) : (bits .andNot .u64 (b : Int) 9223372036854775808).toNat = b % 9223372036854775808 := by
  rw [u64_andNot (b : Int) 9223372036854775808 (by omega) (by omega) (by omega) (by omega), Int.toNat_natCast, Int.toNat_natCast]
  exact Nat.and_two_pow_sub_one_eq_mod b 63

set_option maxHeartbeats 400000 in
theorem abs_any (b : Nat) (w : World) (hb : b < 18446744073709551616) :
    Calls (barP Try.prog) 91 #[.float .f64 b] w fun e w' => e = .returned (.float .f64 (b % 9223372036854775808)) ∧ w' = w := by
  have k1 := bits32
  have k2 := from31
  go_enter Bar.func91, Bar.ntmps91
  go_wp2
  go_ret
  exact ⟨by rw [andNot63 b hb]; rfl, rfl⟩

set_option maxHeartbeats 400000 in
theorem trunc_any (b : Nat) (s : Bool) (m : Nat) (p : Int) (h : FloatKind.f64.decode b = .number s m p) (w : World) :
    Calls (barP Try.prog) 92 #[.float .f64 b] w fun e w' => e = .returned (.float .f64 (FloatKind.f64.encode ((FloatKind.f64.decode b).integral .zero))) ∧ w' = w := by
  have k := arch31 b s m p h
  clear h
  go_enter Bar.func92, Bar.ntmps92
  go_wp2
  go_ret
  exact ⟨rfl, rfl⟩

set_option maxHeartbeats 400000 in
theorem signbit_any (b : Nat) (hb : b = 0) (w : World) :
    Calls (barP Try.prog) 90 #[.float .f64 b] w fun e w' => e = .returned (.bool false) ∧ w' = w := by
  subst hb
  have k1 := bits32
  go_enter Bar.func90, Bar.ntmps90
  go_wp2
  go_ret
  exact ⟨rfl, rfl⟩

theorem gt0 {b : Nat} {n : Int} (hv : Fl.IV b n) (h : n ≠ 0) : (FloatKind.f64.format.order b 0 == some .eq) = false := by
  rw [show FloatKind.f64.format.order b 0 = _ from Fl.iv_order hv Fl.iv_zero, beq_eq_false_iff_ne]
  intro c
  exact h (Int.compare_eq_eq.1 (Option.some.inj c))

theorem eq0 {b : Nat} (hv : Fl.IV b 0) : (FloatKind.f64.format.order b 0 == some .eq) = true := by
  rw [show FloatKind.f64.format.order b 0 = _ from Fl.iv_order hv Fl.iv_zero]
  rfl

set_option maxHeartbeats 400000 in
theorem wholePart_any (b : Nat) (n most : Int) (w : World) (hb : b < 18446744073709551616) (hv : Fl.IV b n) (h0 : n = 0 → b = 0) (hn : n.natAbs ≤ most) (hm : most ≤ 9007199254740991) :
    Calls (barP Try.prog) 87 #[.float .f64 b, .int .i64 most] w fun e w' => e = .returned (.bool true) ∧ w' = w := by
  have ha := Fl.iv_abs hv
  have hlt : (FloatKind.f64.format.order (b % 9223372036854775808) 4890909195324358656 == some .lt) = true := by
    rw [show FloatKind.f64.format.order (b % 9223372036854775808) 4890909195324358656 = _ from Fl.iv_order ha Fl.iv_bound63,
      show compare (n.natAbs : Int) 9223372036854775808 = .lt from Int.compare_eq_lt.2 (by omega)]
    rfl
  have hs : n.natAbs < 2 ^ 53 := by omega
  have ht := Fl.iv_trunc ha (by rw [Int.natAbs_natCast]; exact hs)
  have hi := Fl.iv_toInt ha
  obtain ⟨q, hq, s, m, k, hd, _⟩ := ha
  have hne : (FloatKind.f64.format.order (FloatKind.f64.encode ((FloatKind.f64.decode (b % 9223372036854775808)).integral .zero)) (b % 9223372036854775808) != some .eq) = false := by
    rw [show FloatKind.f64.format.order _ (b % 9223372036854775808) = _ from Fl.iv_order ht (Fl.iv_abs hv)]
    simp
  have hc : floatToIntVal .f64 (b % 9223372036854775808) .i64 = some (n.natAbs : Int) := by
    unfold floatToIntVal
    rw [hi]
    dsimp only
    rw [if_pos ⟨by show -9223372036854775808 ≤ _; omega, by show _ ≤ 9223372036854775807; omega⟩]
  have hcv := fun (w : World) => run_convert_float_int (P := (barP Try.prog)) w 38 2 .f64 .i64 (b % 9223372036854775808) n.natAbs (by kernel_rfl) (by kernel_rfl) hc
  have hd' : FloatKind.f64.decode (b % 9223372036854775808) = .number s m (-1074 + (k : Int)) := hd
  have htr := trunc_any _ _ _ _ hd'
  clear hd hd' hc hi ht hs hq
  generalize FloatKind.f64.encode ((FloatKind.f64.decode (b % 9223372036854775808)).integral .zero) = T at *
  have hab := fun w => abs_any b w hb
  generalize b % 9223372036854775808 = B at *
  by_cases hz : n = 0
  · have hsb := fun w => signbit_any b (h0 hz) w
    have ho : (FloatKind.f64.format.order b 0 == some .eq) = true := by
      rw [h0 hz]; rfl
    have hA := hide hab
    have hT := hide htr
    have hS := hide hsb
    clear hab htr hsb hz h0
    go_enter Bar.func87, Bar.ntmps87
    go_wp2_with (first | (go_at_call 90; refine (unhide hS _).mono ?_; rintro e w' ⟨rfl, rfl⟩) | (go_at_call 91; refine (unhide hA _).mono ?_; rintro e w' ⟨rfl, rfl⟩) | (go_at_call 92; refine (unhide hT _).mono ?_; rintro e w' ⟨rfl, rfl⟩))
    go_ret
    exact ⟨rfl, rfl⟩
  · have ho := gt0 hv hz
    have hA := hide hab
    have hT := hide htr
    clear hab htr hz h0
    go_enter Bar.func87, Bar.ntmps87
    go_wp2_with (first | (go_at_call 91; refine (unhide hA _).mono ?_; rintro e w' ⟨rfl, rfl⟩) | (go_at_call 92; refine (unhide hT _).mono ?_; rintro e w' ⟨rfl, rfl⟩))
    go_ret
    exact ⟨rfl, rfl⟩

set_option maxHeartbeats 400000 in
theorem whole_any (a b : Nat) (n k most : Int) (w : World) (ha : a < 18446744073709551616) (hv : Fl.IV a n) (h0 : n = 0 → a = 0) (hn : n.natAbs ≤ most)
    (hb : b < 18446744073709551616) (hv' : Fl.IV b k) (h0' : k = 0 → b = 0) (hn' : k.natAbs ≤ most) (hm : most ≤ 9007199254740991) :
    Calls (barP Try.prog) 70 #[.complex .f64 a b, .int .i64 most] w fun e w' => e = .returned (.bool true) ∧ w' = w := by
  have h1 := hide fun w => wholePart_any a n most w ha hv h0 hn hm
  have h2 := hide fun w => wholePart_any b k most w hb hv' h0' hn' hm
  clear hv hv' h0 h0' hn hn' ha hb hm
  go_enter Bar.func70, Bar.ntmps70
  go_wp2_with fail
  refine (unhide h1 _).mono ?_
  rintro e w' ⟨rfl, rfl⟩
  go_wp2_with fail
  refine (unhide h2 _).mono ?_
  rintro e w' ⟨rfl, rfl⟩
  go_wp2_with fail
  go_ret
  exact ⟨rfl, rfl⟩

set_option maxHeartbeats 400000 in
theorem valueAny {b : Nat × Nat} {z : Int × Int} {m : Nat} (h : Cell b z m) (hm : m ≤ 1048576) (w : World) :
    Calls (barP Try.prog) 39 #[cv b] w fun e w' => e = .returned (.bool true) ∧ w' = w := by
  have k := hide fun w => whole_any b.1 b.2 z.1 z.2 1048576 w h.lt1 h.ic.one h.z1 (by have := h.le1; omega) h.lt2 h.ic.two h.z2 (by have := h.le2; omega) (by decide)
  unfold cv
  clear h hm
  go_enter Bar.func39, Bar.ntmps39
  go_wp2_with fail
  refine (unhide k _).mono ?_
  rintro e w' ⟨rfl, rfl⟩
  go_wp2_with fail
  go_ret
  exact ⟨rfl, rfl⟩
end Go.Proofs.Ythbghcebcahlnaa

namespace Go.Proofs.Ythbghcebcahlnaa
open Go.RowKit Go.Shelf

set_option maxRecDepth 100000 in
set_option maxHeartbeats 1600000 in
theorem areSumsOk {gs m c : Nat} {z : Nat → Nat × Nat} (hm : m ≤ 2017) (hz : ∀ j, j < m → ∀ W : World, Calls (barP Try.prog) 69 #[.complex .f64 (z j).1 (z j).2] W fun e W' => e = .returned (.bool false) ∧ Below W.heap.size W W') (w : World) (h : VRow w 39 gs m (fun j => .complex .f64 (z j).1 (z j).2)) :
    Calls (barP Try.prog) 35 #[.slice (some ⟨gs, 0, none⟩) m c] w fun e w' => e = .returned (.bool true) ∧ Below w.heap.size w w' := by
  have k1 : Hid (Calls (barP Try.prog) 86 #[.slice (some ⟨gs, 0, none⟩) m c, .func (.func 69) #[] #[]] w fun e w' => e = .returned (.int .i64 (-1)) ∧ Below w.heap.size w w') := by
    show Calls _ _ _ _ _
    have H := hide h
    have hp := hide hz
    clear h hz
    go_enter Bar.func86, Bar.ntmps86
    go_wp2_with fail
    go_loopw [8] (fun kv wr => ∃ k : Nat, k ≤ m ∧ kv = .int .i64 k ∧ Hid (Below w.heap.size w wr)) (fun kv _ => m - (intOf kv).toNat)
    case atStart => exact ⟨0, Nat.zero_le _, rfl, Below.refl _ _⟩
    case round =>
      obtain ⟨k, hk, rfl, hB⟩ := hrel
      by_cases hkm : k < m
      · have q1 : ((k : Int) < (m : Int)) = True := by simp; omega
        have c1 := vrow_at (vrow_keep (unhide H) ((unhide hB).block _ (vrow_lt (unhide H)))) hkm
        have k1 := hide (unhide hp k hkm wr)
        have hs := (unhide hB).size
        generalize z k = fk at *
        obtain ⟨f1, f2⟩ := fk
        dsimp only at *
        go_wp2_with fail
        refine (unhide k1).mono ?_
        rintro e w1 ⟨rfl, hb1⟩
        have B1 := hide ((unhide hB).trans (hb1.mono hs))
        clear hb1 k1 hB c1
        go_wp2_with fail
        exact ⟨⟨k + 1, by omega, by go_num, B1⟩, by simp [intOf]; omega⟩
      · have e : k = m := by omega
        subst e
        have q1 : ((k : Int) < (k : Int)) = False := by simp
        go_wp2_with fail
        go_ret
        exact ⟨rfl, unhide hB⟩
  have k2 : Hid (Calls (barP Try.prog) 68 #[.slice (some ⟨gs, 0, none⟩) m c, .func (.func 69) #[] #[]] w fun e w' => e = .returned (.bool false) ∧ Below w.heap.size w w') := by
    show Calls _ _ _ _ _
    clear h hz
    go_enter Bar.func68, Bar.ntmps68
    go_wp2_with fail
    refine (unhide k1).mono ?_
    rintro e w1 ⟨rfl, hb1⟩
    have B1 := hide hb1
    clear hb1
    go_wp2_with fail
    go_ret
    exact ⟨rfl, unhide B1⟩
  clear k1 h hz
  go_enter Bar.func35, Bar.ntmps35
  go_wp2_with fail
  refine (unhide k2).mono ?_
  rintro e w1 ⟨rfl, hb1⟩
  have B1 := hide hb1
  clear hb1
  go_wp2_with fail
  go_ret
  exact ⟨rfl, unhide B1⟩

def levs (n : Int) (A B : List Int) : Bool := levS (n.toNat * n.toNat) A && levS (n.toNat * n.toNat) B

section
variable {n : Nat} {u v : Value} {A B : List Int}
theorem lev_call (h16 : n ≤ 16) {w0 : World} (hu : Ints w0 u A) (hv : Ints w0 v B) :
    Calls (barP Try.prog) 33 #[.int .i64 ((n * n : Nat) : Int), .slice (some ⟨w0.heap.size, 0, none⟩) 2 2] (w0.alloc (.cells #[u, v] 35)) fun e w' => e = .returned (.bool (levS (n * n) A && levS (n * n) B)) ∧ w' = w0.alloc (.cells #[u, v] 35) := by
  have y := (Below.refl w0.heap.size w0).alloc (Nat.le_refl _) (.cells #[u, v] 35)
  have hM : n * n ≤ 4096 := Nat.le_trans (Nat.mul_le_mul h16 h16) (by decide)
  have r := heap_alloc_new w0 (.cells #[u, v] 35)
  exact areLevelsOk hM _ (ints_below hu y) (ints_below hv y) (cell_of_row _ w0.heap.size 0 _ _ (0, 0) r) (cell_of_row _ w0.heap.size 1 _ _ (0, 0) r)
end

set_option maxRecDepth 100000 in
set_option maxHeartbeats 3200000 in
theorem lookBad {n : Int} {u v pv : Value} {A B : List Int} (h : (n < 1 ∨ 16 < n) ∨ levs n A B = false) (w : World) (hu : Ints w u A) (hv : Ints w v B) :
    Calls (barP Try.prog) 18 #[.int .i64 n, pv, u, v] w fun e w' => e = .returned (.int .i64 1) ∧ Below w.heap.size w w' := by
  by_cases hs : n < 1 ∨ 16 < n
  · have ks := hide (fun w => isSmallNo hs w)
    clear h hs hu hv
    go_enter Bar.func18, Bar.ntmps18
    go_wp2_with fail
    refine (unhide ks _).mono ?_
    rintro e w1 ⟨rfl, rfl⟩
    clear ks
    go_wp2_with fail
    go_ret
    exact ⟨rfl, Below.refl _ _⟩
  · obtain ⟨N, rfl⟩ : ∃ N : Nat, n = N := ⟨n.toNat, by omega⟩
    have hl : levs (N : Int) A B = false := h.resolve_left hs
    unfold levs at hl
    rw [Int.toNat_natCast] at hl
    have ks := hide (fun w => isSmallYes (n := (N : Int)) (by omega) (by omega) w)
    have kl := lev_call (n := N) (by omega) hu hv
    rw [hl] at kl
    have kl := hide kl
    have m1 : wrap64 ((N : Int) * (N : Int)) = ((N * N : Nat) : Int) := by
      have : N * N ≤ 16 * 16 := Nat.mul_le_mul (by omega) (by omega)
      rw [← Int.natCast_mul]
      exact IntWalk.wrap64_in _ ⟨by omega, by omega⟩
    have y := hide ((Below.refl w.heap.size w).alloc (Nat.le_refl _) (.cells #[u, v] 35))
    generalize N * N = M at *
    obtain ⟨a1, cap1, g1, o1, rfl, _⟩ := hu
    obtain ⟨a2, cap2, g2, o2, rfl, _⟩ := hv
    clear h hs hl
    go_enter Bar.func18, Bar.ntmps18
    go_wp2_with fail
    refine (unhide ks _).mono ?_
    rintro e w1 ⟨rfl, rfl⟩
    clear ks
    go_wp2_with fail
    refine (unhide kl).mono ?_
    rintro e w2 ⟨rfl, rfl⟩
    clear kl
    go_wp2_with fail
    go_ret
    exact ⟨rfl, unhide y⟩
set_option maxRecDepth 100000 in
set_option maxHeartbeats 3200000 in
theorem lookNil {n : Int} {u v : Value} {A B : List Int} (h1 : 1 ≤ n) (h2 : n ≤ 16) (hl : levs n A B = true) (w : World) (hu : Ints w u A) (hv : Ints w v B) :
    Calls (barP Try.prog) 18 #[.int .i64 n, .slice none 0 0, u, v] w fun e w' => e = .returned (.int .i64 0) ∧ Below w.heap.size w w' := by
  obtain ⟨N, rfl⟩ : ∃ N : Nat, n = N := ⟨n.toNat, by omega⟩
  unfold levs at hl
  rw [Int.toNat_natCast] at hl
  have ks := hide (fun w => isSmallYes (n := (N : Int)) (by omega) (by omega) w)
  have kl := lev_call (n := N) (by omega) hu hv
  rw [hl] at kl
  have kl := hide kl
  have m1 : wrap64 ((N : Int) * (N : Int)) = ((N * N : Nat) : Int) := by
    have : N * N ≤ 16 * 16 := Nat.mul_le_mul (by omega) (by omega)
    rw [← Int.natCast_mul]
    exact IntWalk.wrap64_in _ ⟨by omega, by omega⟩
  have y := hide ((Below.refl w.heap.size w).alloc (Nat.le_refl _) (.cells #[u, v] 35))
  generalize N * N = M at *
  obtain ⟨a1, cap1, g1, o1, rfl, _⟩ := hu
  obtain ⟨a2, cap2, g2, o2, rfl, _⟩ := hv
  clear hl
  go_enter Bar.func18, Bar.ntmps18
  go_wp2_with fail
  refine (unhide ks _).mono ?_
  rintro e w1 ⟨rfl, rfl⟩
  clear ks
  go_wp2_with fail
  refine (unhide kl).mono ?_
  rintro e w2 ⟨rfl, rfl⟩
  clear kl
  go_wp2_with fail
  generalize w1.alloc (.cells #[.slice a1 A.length cap1, .slice a2 B.length cap2] 35) = w2 at *
  go_loopw [31] (fun kv wr => kv = .int .i64 0 ∧ w2 = wr) (fun _ _ => 0)
  case atStart => exact ⟨rfl, rfl⟩
  case round =>
    obtain ⟨rfl, rfl⟩ := hrel
    go_wp2_with fail
    go_ret
    exact ⟨rfl, unhide y⟩

set_option maxRecDepth 100000 in
set_option maxHeartbeats 3200000 in
theorem lookGood {n gq cq : Nat} {ps : List PD} {u v : Value} {A B : List Int} (h1 : 1 ≤ n) (h2 : n ≤ 16) (hl : levs n A B = true) (hps : ps.length ≤ 64) (hd : ∀ i, i < ps.length → Dir64 (ps.getD i p0).d ∧ binsS n (ps.getD i p0).d = (((ps.getD i p0).nb : Int), 0) ∧ (ps.getD i p0).nb ≤ 2017)
    (hz : ∀ i j, i < ps.length → j < (ps.getD i p0).nb → ∀ W : World, Calls (barP Try.prog) 69 #[.complex .f64 ((ps.getD i p0).z j).1 ((ps.getD i p0).z j).2] W fun e W' => e = .returned (.bool false) ∧ Below W.heap.size W W') (w : World) (hu : Ints w u A) (hv : Ints w v B) (hp : ProjsAt w gq ps) :
    Calls (barP Try.prog) 18 #[.int .i64 n, .slice (some ⟨gq, 0, none⟩) ps.length cq, u, v] w fun e w' => e = .returned (.int .i64 0) ∧ Below w.heap.size w w' := by
  unfold levs at hl
  rw [Int.toNat_natCast] at hl
  have ks := hide (fun w => isSmallYes (n := (n : Int)) (by omega) (by omega) w)
  have kl := lev_call (n := n) (by omega) hu hv
  rw [hl] at kl
  have kl := hide kl
  have m1 : wrap64 ((n : Int) * (n : Int)) = ((n * n : Nat) : Int) := by
    have : n * n ≤ 16 * 16 := Nat.mul_le_mul (by omega) (by omega)
    rw [← Int.natCast_mul]
    exact IntWalk.wrap64_in _ ⟨by omega, by omega⟩
  have y := hide ((Below.refl w.heap.size w).alloc (Nat.le_refl _) (.cells #[u, v] 35))
  have hd := hide hd
  have hz := hide hz
  have hp := hide hp
  have q0 : ((64 : Int) < (ps.length : Int)) = False := by simp; omega
  generalize n * n = M at *
  obtain ⟨a1, cap1, g1, o1, rfl, _⟩ := hu
  obtain ⟨a2, cap2, g2, o2, rfl, _⟩ := hv
  clear hl
  go_enter Bar.func18, Bar.ntmps18
  go_wp2_with fail
  refine (unhide ks _).mono ?_
  rintro e w1 ⟨rfl, rfl⟩
  clear ks
  go_wp2_with fail
  refine (unhide kl).mono ?_
  rintro e w2 ⟨rfl, rfl⟩
  clear kl
  go_wp2_with fail
  generalize w1.alloc (.cells #[.slice a1 A.length cap1, .slice a2 B.length cap2] 35) = w2 at *
  go_loopw [31] (fun kv wr => ∃ i : Nat, i ≤ ps.length ∧ kv = .int .i64 i ∧ Hid (Below w1.heap.size w1 wr)) (fun kv _ => ps.length - (intOf kv).toNat)
  case atStart => exact ⟨0, Nat.zero_le _, rfl, y⟩
  case round =>
    clear y
    obtain ⟨i, hi, rfl, hB⟩ := hrel
    by_cases c : i < ps.length
    · have q1 : ((i : Int) < (ps.length : Int)) = True := by simp; omega
      have A2 := (unhide hp).below (unhide hB)
      obtain ⟨c1, c2, c3⟩ := A2.cells i c
      obtain ⟨h64, hbn, hnb⟩ := unhide hd i c
      have hb1 := A2.bins i c
      have hzz := fun j => unhide hz i j c
      generalize ps.getD i p0 = p at *
      obtain ⟨⟨d1, d2⟩, gb, cb, nb, z, iz⟩ := p
      dsimp only at *
      have y1 := (Below.refl wr.heap.size wr).alloc (Nat.le_refl _) (.cells #[.int .i64 d1, .int .i64 d2, .slice (some ⟨gb, 0, none⟩) nb cb] 49)
      have r1 := heap_alloc_new wr (.cells #[.int .i64 d1, .int .i64 d2, .slice (some ⟨gb, 0, none⟩) nb cb] 49)
      have x3 := hide (cell_of_row _ wr.heap.size 2 _ _ (0, 0) r1)
      have hl1 : wr.heap.size < (wr.alloc (.cells #[.int .i64 d1, .int .i64 d2, .slice (some ⟨gb, 0, none⟩) nb cb] 49)).heap.size := by rw [World.size_alloc]; omega
      have kB := hide (dirBins (n := (n : Int)) h64 (wr.alloc (.cells #[.int .i64 d1, .int .i64 d2, .slice (some ⟨gb, 0, none⟩) nb cb] 49)))
      rw [hbn] at kB
      unfold dirV at kB
      dsimp only at kB
      have V1 := hide (vrow_keep hb1 (y1.block _ (vrow_lt hb1)))
      have kz := hide (fun (W : World) (h : VRow W 39 gb nb (fun j => .complex .f64 (z j).1 (z j).2)) => areSumsOk (c := cb) hnb hzz W h)
      have B1 := hide ((unhide hB).trans (y1.mono (unhide hB).size))
      clear A2 hb1 hzz y1 r1 hB hbn
      go_wp2_with fail
      clear c1 c2 c3
      generalize wr.alloc (.cells #[.int .i64 d1, .int .i64 d2, .slice (some ⟨gb, 0, none⟩) nb cb] 49) = w3 at *
      generalize wr.heap.size = pd at *
      refine (unhide kB).mono ?_
      rintro e w4 ⟨rfl, hb4⟩
      have z3 := (hb4.cell (p := ⟨pd, 2, none⟩) hl1).trans (unhide x3)
      simp only [List.getElem?_toArray, List.getElem?_cons_zero, List.getElem?_cons_succ] at z3
      have kz4 := hide (unhide kz w4 (vrow_keep (unhide V1) (hb4.block _ (vrow_lt (unhide V1)))))
      have B4 := hide ((unhide B1).trans (hb4.mono (unhide B1).size))
      clear kB kz V1 x3 B1 hb4
      go_wp2_with fail
      refine (unhide kz4).mono ?_
      rintro e w5 ⟨rfl, hb5⟩
      have B5 := hide ((unhide B4).trans (hb5.mono (unhide B4).size))
      clear kz4 hb5 B4
      go_wp2_with fail
      exact ⟨⟨i + 1, by omega, by go_num, B5⟩, by simp [intOf]; omega⟩
    · have q1 : ((i : Int) < (ps.length : Int)) = False := by simp; omega
      go_wp2_with fail
      go_ret
      exact ⟨rfl, unhide hB⟩
end Go.Proofs.Ythbghcebcahlnaa

namespace Go.Proofs.Ythbghcebcahlnaa
open Go.RowKit Go.Shelf

set_option maxHeartbeats 800000 in
theorem linesNil {n : Int} (w : World) : Calls (barP Try.prog) 21 #[.int .i64 n, .slice none 0 0] w fun e w' => e = .returned (.slice none 0 0) ∧ w' = w := by
  go_enter Bar.func21, Bar.ntmps21
  go_wp2_with fail
  go_loopw [5, 17] (fun v kv wr => v = .slice none 0 0 ∧ kv = .int .i64 0 ∧ w = wr) (fun _ _ _ => 0)
  case atStart => exact ⟨rfl, rfl, rfl⟩
  case round =>
    obtain ⟨rfl, rfl, rfl⟩ := hrel
    go_wp2_with fail
    go_ret
    exact ⟨rfl, rfl⟩

set_option maxHeartbeats 800000 in
theorem sweepNil {u v : Value} (w : World) : Calls (barP Try.prog) 36 #[.slice none 0 0, u, v] w fun e w' => e = .returned (.tuple #[.bool false, .int .i64 0]) ∧ w' = w := by
  go_enter Bar.func36, Bar.ntmps36
  go_wp2_with fail
  go_loopw [8, 15] (fun cv kv wr => cv = .bool false ∧ kv = .int .i64 0 ∧ w = wr) (fun _ _ _ => 0)
  case atStart => exact ⟨rfl, rfl, rfl⟩
  case round =>
    obtain ⟨rfl, rfl, rfl⟩ := hrel
    go_wp2_with fail
    go_ret2
    exact ⟨rfl, rfl⟩

set_option maxRecDepth 100000 in
set_option maxHeartbeats 3200000 in
theorem settleNil {gl cl gh ch M : Nat} {lo hi : Nat → Int} (hM : M ≤ 4096) (hc : ∀ i, i < M → lo i ≤ hi i) (w : World) (hl : IRow w gl M lo) (hh : IRow w gh M hi) :
    Calls (barP Try.prog) 20 #[.slice none 0 0, .slice (some ⟨gl, 0, none⟩) M cl, .slice (some ⟨gh, 0, none⟩) M ch] w fun e w' => e = .returned (.int .i64 0) ∧ Below w.heap.size w w' := by
  have t1 := hide (fun i (h : i < M) => vrow_at hl h)
  have t2 := hide (fun i (h : i < M) => vrow_at hh h)
  have hc := hide hc
  clear hl hh
  go_enter Bar.func20, Bar.ntmps20
  go_wp2_with fail
  go_loopw [12] (fun kv wr => ∃ k : Nat, k ≤ M ∧ kv = .int .i64 k ∧ Hid (wr.heap = w.heap) ∧ Hid (Below w.heap.size w wr)) (fun kv _ => M - (intOf kv).toNat)
  case atStart => exact ⟨0, Nat.zero_le _, rfl, rfl, Below.refl _ _⟩
  case round =>
    obtain ⟨k, hk, rfl, hw, hB⟩ := hrel
    by_cases c : k < M
    · have q1 : ((k : Int) < (M : Int)) = True := by simp; omega
      have k1 := (heapCell (unhide hw) _).trans (unhide t1 k c)
      have k2 := (heapCell (unhide hw) _).trans (unhide t2 k c)
      have d := unhide hc k c
      have q2 : (hi k < lo k) = False := by simp; omega
      generalize hi k = y at *
      generalize lo k = x at *
      clear d
      go_wp2_with fail
      go_quiet (fail)
      go_wp2_with fail
      have hb := unhide hB
      exact ⟨⟨k + 1, by omega, by go_num, unhide hw, ⟨hb.os, hb.tape, hb.output, hb.size, hb.block⟩⟩, by simp [intOf]; omega⟩
    · have q1 : ((k : Int) < (M : Int)) = False := by simp; omega
      clear hw t1 t2
      go_wp2_with fail
      go_loopw [25] (fun tv wx => tv = .int .i64 0 ∧ wr = wx) (fun _ _ => 0)
      case atStart => exact ⟨rfl, rfl⟩
      case round =>
        obtain ⟨rfl, rfl⟩ := hrel
        go_wp2_with fail
        refine (sweepNil _).mono ?_
        rintro e w2 ⟨rfl, rfl⟩
        go_wp2_with fail
        go_ret
        exact ⟨rfl, unhide hB⟩

set_option maxRecDepth 100000 in
set_option maxHeartbeats 1600000 in
theorem runBad {n : Int} {u v pv : Value} {A B : List Int} (h : (n < 1 ∨ 16 < n) ∨ levs n A B = false) (w : World) (hu : Ints w u A) (hv : Ints w v B) :
    Calls (barP Try.prog) 9 #[.int .i64 n, pv, u, v] w fun e w' => e = .returned (.tuple #[.slice none 0 0, .slice none 0 0, .int .i64 1]) ∧ Below w.heap.size w w' := by
  have kl := hide (lookBad (pv := pv) h w hu hv)
  clear h hu hv
  go_enter Bar.func9, Bar.ntmps9
  go_wp2_with fail
  refine (unhide kl).mono ?_
  rintro e w1 ⟨rfl, hb⟩
  have B1 := hide hb
  clear kl hb
  go_wp2_with fail
  go_ret3
  exact ⟨rfl, unhide B1⟩

theorem levs_len {n : Int} {A B : List Int} (h : levs n A B = true) : A.length = n.toNat * n.toNat ∧ B.length = n.toNat * n.toNat := by
  unfold levs levS at h
  simp only [Bool.and_eq_true, decide_eq_true_eq] at h
  exact ⟨h.1.1, h.2.1⟩
theorem sq_small {n : Int} (h1 : 1 ≤ n) (h2 : n ≤ 16) : 1 ≤ n.toNat * n.toNat ∧ n.toNat * n.toNat ≤ 256 :=
  ⟨Nat.mul_le_mul (show 1 ≤ n.toNat by omega) (show 1 ≤ n.toNat by omega), Nat.mul_le_mul (show n.toNat ≤ 16 by omega) (show n.toNat ≤ 16 by omega)⟩

theorem own_less {w : World} {base base' : Nat} {e : TypeId} {size n : Nat} {v : Value} {xs : List Value} (h : w.ownsRow base' e size v n xs) (hb : base ≤ base') : w.ownsRow base e size v n xs := by
  refine ⟨h.1, ?_⟩
  rcases h.2 with hn | ⟨g, cap, cur, rfl, hg, rest⟩
  · exact .inl hn
  · exact .inr ⟨g, cap, cur, rfl, Nat.le_trans hb hg, rest⟩

/-- New bounds. -/
def NewB (w w' : World) (x y : Value) (A B : List Int) : Prop := ∃ gl cl gh ch, x = .slice (some ⟨gl, 0, none⟩) A.length cl ∧ y = .slice (some ⟨gh, 0, none⟩) B.length ch ∧ w.heap.size ≤ gl ∧ w.heap.size ≤ gh ∧ gl ≠ gh ∧
  w'.ownsRow w.heap.size 3 1 x A.length (intsV A) ∧ w'.ownsRow w.heap.size 3 1 y B.length (intsV B)

set_option maxRecDepth 100000 in
set_option maxHeartbeats 3200000 in
theorem runNil {n : Int} {u v : Value} {A B : List Int} (h1 : 1 ≤ n) (h2 : n ≤ 16) (hl : levs n A B = true) (hc : ∀ i, i < A.length → A.getD i 0 ≤ B.getD i 0) (w : World) (hu : Ints w u A) (hv : Ints w v B) :
    Calls (barP Try.prog) 9 #[.int .i64 n, .slice none 0 0, u, v] w fun e w' => ∃ x y, e = .returned (.tuple #[x, y, .int .i64 0]) ∧ NewB w w' x y A B ∧ Below w.heap.size w w' := by
  have kl := hide (lookNil h1 h2 hl w hu hv)
  obtain ⟨lA, lB⟩ := levs_len hl
  obtain ⟨m1, m2⟩ := sq_small h1 h2
  have hu := hide hu
  have hv := hide hv
  have hc := hide hc
  have e12 : Hid (A.length = B.length) := by show _ = _; omega
  have mA1 : 1 ≤ A.length := by omega
  have mA2 : A.length ≤ 4096 := by omega
  have mB1 : 1 ≤ B.length := by omega
  have mB2 : B.length ≤ 4096 := by omega
  clear hl lA lB m1 m2
  go_enter Bar.func9, Bar.ntmps9
  go_wp2_with fail
  refine (unhide kl).mono ?_
  rintro e w1 ⟨rfl, hb1⟩
  have B1 := hide hb1
  obtain ⟨a1, cap1, g1, o1, rfl, i1⟩ := ints_below (unhide hu) hb1
  have k2 := hide (cloneInts (cap := cap1) mA1 mA2 w1 i1)
  clear hb1 i1 kl
  go_wp2_with fail
  refine (unhide k2).mono ?_
  rintro e w2 ⟨gl, cl, rfl, hgl, r2, own2, hb2⟩
  have B2 := hide ((unhide B1).trans (hb2.mono (unhide B1).size))
  obtain ⟨a2, cap2, g2, o2, rfl, i2⟩ := ints_below (unhide hv) (unhide B2)
  have k3 := hide (cloneInts (cap := cap2) mB1 mB2 w2 i2)
  have R2 := hide r2
  have O2 := hide own2
  have hs1 : w.heap.size ≤ w1.heap.size := (unhide B1).size
  have hs2 : w1.heap.size ≤ w2.heap.size := hb2.size
  have gl2 : gl < w2.heap.size := vrow_lt r2
  clear hb2 i2 k2 r2 own2 B1
  go_wp2_with fail
  refine (unhide k3).mono ?_
  rintro e w3 ⟨gh, ch, rfl, hgh, r3, own3, hb3⟩
  have B3 := hide ((unhide B2).trans (hb3.mono (by omega)))
  have R2 := hide (vrow_keep (unhide R2) (hb3.block _ gl2))
  have O2 := hide (own_stay (unhide O2) (fun b hb => hb3.block b ((unhide O2).lt b hb).2))
  have R3 := hide r3
  have O3 := hide own3
  have hs3 : w2.heap.size ≤ w3.heap.size := hb3.size
  clear hb3 k3 r3 own3 B2
  go_wp2_with fail
  refine (linesNil _).mono ?_
  rintro e w4 ⟨rfl, rfl⟩
  have R3' := unhide R3
  rw [← unhide e12] at R3'
  have k4 := hide (settleNil (cl := cl) (ch := ch) mA2 (unhide hc) w4 (unhide R2) R3')
  rw [← unhide e12]
  go_wp2_with fail
  refine (unhide k4).mono ?_
  rintro e w5 ⟨rfl, hb5⟩
  have B5 := hide ((unhide B3).trans (hb5.mono (unhide B3).size))
  have O2 := hide (own_stay (unhide O2) (fun b hb => hb5.block b ((unhide O2).lt b hb).2))
  have O3 := hide (own_stay (unhide O3) (fun b hb => hb5.block b ((unhide O3).lt b hb).2))
  clear hb5 k4 R2 R3 R3' B3
  go_wp2_with fail
  go_ret3
  refine ⟨_, _, rfl, ⟨gl, cl, gh, ch, rfl, by rw [← unhide e12]; rfl, by omega, by omega, by omega, ?_, ?_⟩, unhide B5⟩
  · exact own_less (unhide O2) hs1
  · have h := own_less (base := w.heap.size) (unhide O3) (by omega)
    rw [← unhide e12] at h ⊢
    exact h
end Go.Proofs.Ythbghcebcahlnaa
