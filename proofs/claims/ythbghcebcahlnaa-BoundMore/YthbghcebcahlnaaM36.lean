/- The statement's own within. BoundSound: its levels, its bounds. bound.Wide: its lists are new. BoundSound: behind ray.All. -/
import Derived.Test.YthbghcebcahlnaaM20
import Derived.Test.YthbghcebcahlnaaM35
import Derived.Test.YthbghcebcahlnaaM22
namespace Go.Proofs.Ythbghcebcahlnaa
open Go.RowKit

set_option maxHeartbeats 3200000 in
theorem withinYes {A B C D : List Int} {u v x y : Value} (hA : A.length ≤ 9223372036854775807) (e1 : B.length = A.length) (e2 : C.length = A.length) (e3 : D.length = A.length) (hw : ∀ i, i < A.length → C.getD i 0 ≤ A.getD i 0 ∧ B.getD i 0 ≤ D.getD i 0) (w : World) (h1 : Ints w u A) (h2 : Ints w v B) (h3 : Ints w x C) (h4 : Ints w y D) :
    Calls (barP Try.prog) 10 #[u, v, x, y] w fun e w' => e = .returned (.bool true) ∧ Below w.heap.size w w' := by
  obtain ⟨a1, c1, g1, o1, rfl, h1⟩ := h1
  obtain ⟨a2, c2, g2, o2, rfl, h2⟩ := h2
  obtain ⟨a3, c3, g3, o3, rfl, h3⟩ := h3
  obtain ⟨a4, c4, g4, o4, rfl, h4⟩ := h4
  have s1 := hide h1.at_
  have s2 := hide h2.at_
  have s3 := hide h3.at_
  have s4 := hide h4.at_
  have t1 := hide (fun i (hi : i < A.length) => h1.get hi)
  have t2 := hide (fun i (hi : i < B.length) => h2.get hi)
  have t3 := hide (fun i (hi : i < C.length) => h3.get hi)
  have t4 := hide (fun i (hi : i < D.length) => h4.get hi)
  have HW := hide hw
  rw [e1] at s2 t2 ⊢
  rw [e2] at s3 t3 ⊢
  rw [e3] at s4 t4 ⊢
  clear h1 h2 h3 h4 hw e1 e2 e3
  generalize A.length = N at *
  go_enter Bar.func10, Bar.ntmps10
  go_wp2_with fail
  go_loopw [9] (fun iv wr => ∃ i : Nat, i ≤ N ∧ iv = .int .i64 i ∧ Hid (wr.heap = w.heap) ∧ Hid (Below w.heap.size w wr)) (fun iv _ => N - (intOf iv).toNat)
  case atStart => exact ⟨0, Nat.zero_le _, rfl, rfl, Below.refl _ _⟩
  case round =>
    obtain ⟨i, hi, rfl, hh, hB⟩ := hrel
    by_cases c : i < N
    · have q1 : ((i : Int) < (N : Int)) = True := by simp; omega
      have k1 := (heapCell (unhide hh) _).trans (unhide t1 i c)
      have k2 := (heapCell (unhide hh) _).trans (unhide t2 i c)
      have k3 := (heapCell (unhide hh) _).trans (unhide t3 i c)
      have k4 := (heapCell (unhide hh) _).trans (unhide t4 i c)
      obtain ⟨w1, w2⟩ := unhide HW i c
      rw [(unhide s1 (by omega)).1, (unhide s2 (by omega)).1, (unhide s3 (by omega)).1, (unhide s4 (by omega)).1]
      generalize A.getD i 0 = x1 at *
      generalize B.getD i 0 = x2 at *
      generalize C.getD i 0 = x3 at *
      generalize D.getD i 0 = x4 at *
      have q2 : (x1 < x3) = False := by simp; omega
      have q3 : (x4 < x2) = False := by simp; omega
      go_wp2_with fail
      go_quiet (fail)
      go_wp2_with fail
      have hb := unhide hB
      exact ⟨⟨i + 1, c, by go_num, unhide hh, ⟨hb.os, hb.tape, hb.output, hb.size, hb.block⟩⟩, by simp [intOf]; omega⟩
    · have q1 : ((i : Int) < (N : Int)) = False := by simp; omega
      go_wp2_with fail
      go_ret
      exact ⟨rfl, unhide hB⟩
end Go.Proofs.Ythbghcebcahlnaa

namespace Go.Proofs.Ythbghcebcahlnaa
open Go.RowKit Go.Shelf

/-- The levels as numbers. -/
def zL (L : List Int) (i : Nat) : Int × Int := (if i < L.length then L.getD i 0 else 0, 0)
def Byte8 (L : List Int) : Prop := ∀ i, i < L.length → 0 ≤ L.getD i 0 ∧ L.getD i 0 ≤ 255
theorem float255 : ((List.range 256).all fun k => decide (floatOfInt .f64 (k : Int) < 18446744073709551616)) = true := by decide +kernel
theorem zL_bounds {L : List Int} (h : Byte8 L) (i : Nat) : 0 ≤ (zL L i).1 ∧ (zL L i).1 ≤ 255 := by
  unfold zL
  dsimp only
  split
  · exact h i (by assumption)
  · omega
theorem cellB {L : List Int} (h : Byte8 L) (i : Nat) : Cell (lvlB L i) (zL L i) 255 := by
  have hb := zL_bounds h i
  unfold lvlB zL at *
  by_cases c : i < L.length
  · rw [if_pos c, if_pos c] at *
    obtain ⟨k, hk⟩ : ∃ k : Nat, L.getD i 0 = (k : Int) := ⟨(L.getD i 0).toNat, by omega⟩
    rw [hk] at hb ⊢
    have hlt := of_decide_eq_true (List.all_eq_true.1 float255 k (List.mem_range.2 (by omega)))
    refine ⟨⟨iv_of _ (by show ((k : Nat) : Int).natAbs < 2 ^ 53; omega) rfl, Fl.iv_zero⟩, hlt, (by decide : 0 < 18446744073709551616), fun e => ?_, fun _ => rfl, by show ((k : Nat) : Int).natAbs ≤ 255; omega, (by decide : (0 : Int).natAbs ≤ 255)⟩
    have e : ((k : Nat) : Int) = 0 := e
    show floatOfInt .f64 (k : Int) = 0
    rw [e]
    decide +kernel
  · rw [if_neg c, if_neg c] at *
    exact cell_zero 255
theorem levelsB {L : List Int} (h : Byte8 L) (M : Nat) : Levels M (zL L) := fun k _ => ⟨(zL_bounds h k).1, (zL_bounds h k).2, rfl⟩
/-- The bounds that the law lays, as far as it has come. -/
def loS (L S : List Int) (i k : Nat) : Int := if k < i ∧ 2 * k + 1 < S.length then max 0 ((zL L k).1 - S.getD (2 * k) 0) else 0
def hiS (L S : List Int) (i k : Nat) : Int := if k < i ∧ 2 * k + 1 < S.length then min 255 ((zL L k).1 + S.getD (2 * k + 1) 0) else 255
theorem loS_upd {L S : List Int} {i : Nat} (h : 2 * i + 1 < S.length) : updI (loS L S i) i (max 0 ((zL L i).1 - S.getD (2 * i) 0)) = loS L S (i + 1) := by
  funext k
  unfold updI loS
  by_cases e : k = i
  · subst e
    rw [if_pos rfl, if_pos ⟨by omega, h⟩]
  · rw [if_neg e]
    by_cases c : k < i ∧ 2 * k + 1 < S.length
    · rw [if_pos c, if_pos ⟨by omega, c.2⟩]
    · rw [if_neg c, if_neg (by omega)]
theorem hiS_upd {L S : List Int} {i : Nat} (h : 2 * i + 1 < S.length) : updI (hiS L S i) i (min 255 ((zL L i).1 + S.getD (2 * i + 1) 0)) = hiS L S (i + 1) := by
  funext k
  unfold updI hiS
  by_cases e : k = i
  · subst e
    rw [if_pos rfl, if_pos ⟨by omega, h⟩]
  · rw [if_neg e]
    by_cases c : k < i ∧ 2 * k + 1 < S.length
    · rw [if_pos c, if_pos ⟨by omega, c.2⟩]
    · rw [if_neg c, if_neg (by omega)]
theorem loS_skip {L S : List Int} {i : Nat} (h : ¬ 2 * i + 1 < S.length) : loS L S (i + 1) = loS L S i := by
  funext k
  unfold loS
  by_cases c : k < i ∧ 2 * k + 1 < S.length
  · rw [if_pos c, if_pos ⟨by omega, c.2⟩]
  · rw [if_neg c, if_neg (by omega)]
theorem hiS_skip {L S : List Int} {i : Nat} (h : ¬ 2 * i + 1 < S.length) : hiS L S (i + 1) = hiS L S i := by
  funext k
  unfold hiS
  by_cases c : k < i ∧ 2 * k + 1 < S.length
  · rw [if_pos c, if_pos ⟨by omega, c.2⟩]
  · rw [if_neg c, if_neg (by omega)]
theorem bounds_abt {L S : List Int} (hL : Byte8 L) (hS : Byte8 S) (M i : Nat) : Abt M (fun k => (zL L k).1) (loS L S i) (hiS L S i) := fun k _ => by
  have hb := zL_bounds hL k
  dsimp only
  unfold loS hiS
  split
  · rename_i c
    have h1 := hS (2 * k) (by omega)
    have h2 := hS (2 * k + 1) (by omega)
    omega
  · omega
/-- A function's first values. -/
def tab (M : Nat) (f : Nat → Int) : List Int := (List.range M).map f
theorem tab_len (M : Nat) (f : Nat → Int) : (tab M f).length = M := by simp [tab]
theorem tab_get {M : Nat} {f : Nat → Int} {i : Nat} (h : i < M) : (tab M f).getD i 0 = f i := by
  simp [tab, h]
theorem ints_row {w : World} {g M cap : Nat} {f : Nat → Int} (h : IRow w g M f) : Ints w (.slice (some ⟨g, 0, none⟩) M cap) (tab M f) := by
  refine ⟨_, cap, g, 0, by rw [tab_len], ⟨fun _ => ⟨rfl, vrow_lt h⟩, fun i c hi => ?_⟩⟩
  have hl := (List.getElem?_eq_some_iff.1 hi).1
  rw [tab_len] at hl
  have : c = f i := by
    simp [tab, hl] at hi
    exact hi.symm
  rw [this, Nat.zero_add]
  exact vrow_at h hl
theorem levs_tab {n : Nat} {f g : Nat → Int} (hf : ∀ i, i < n * n → 0 ≤ f i ∧ f i ≤ 255) (hg : ∀ i, i < n * n → 0 ≤ g i ∧ g i ≤ 255) : levs n (tab (n * n) f) (tab (n * n) g) = true := by
  have key : ∀ h : Nat → Int, (∀ i, i < n * n → 0 ≤ h i ∧ h i ≤ 255) → levS (n * n) (tab (n * n) h) = true := fun h hh => by
    unfold levS lvOk
    rw [tab_len, decide_eq_true rfl, Bool.true_and]
    refine List.all_eq_true.2 fun k hk => ?_
    have hk := List.mem_range.1 hk
    rw [tab_get hk]
    have := hh k hk
    unfold noLv
    rw [decide_eq_false (by omega), decide_eq_false (by omega)]
    rfl
  unfold levs
  rw [Int.toNat_natCast, key f hf, key g hg]
  rfl
end Go.Proofs.Ythbghcebcahlnaa

namespace Go.Proofs.Ythbghcebcahlnaa
open Go.RowKit

set_option maxRecDepth 100000 in
set_option maxHeartbeats 3200000 in
theorem wideFresh (N : Nat) (w : World) (h1 : 1 ≤ N) (h2 : N ≤ 16) : Calls (barP Try.prog) 8 #[.int .i64 N] w fun e w' =>
    ∃ g h, e = .returned (.tuple #[.slice (some ⟨g, 0, none⟩) (N * N) (N * N), .slice (some ⟨h, 0, none⟩) (N * N) (N * N), .int .i64 0]) ∧ Ends w w' (N * N) g h (.int .i64 255) ∧ w.heap.size ≤ g ∧ w.heap.size ≤ h := by
  have ks := hide (fun w => isSmallYes (n := (N : Int)) (by omega) (by omega) w)
  obtain ⟨M, hM⟩ : ∃ M, N * N = M := ⟨_, rfl⟩
  have hM2 : M ≤ 256 := by rw [← hM]; exact Nat.mul_le_mul (show N ≤ 16 by omega) (show N ≤ 16 by omega)
  have hM1 : 1 ≤ M := by rw [← hM]; exact Nat.mul_le_mul h1 h1
  have m1 : IntKind.i64.wrap ((N : Int) * (N : Int)) = (M : Int) := by rw [← Int.natCast_mul, hM, IntKind.wrap_i64]; omega
  rw [hM]
  have hmk := run_make_row' (P := (barP Try.prog)) 35 3 (.int .i64 0) 8 Bar.underlying35 infoInt rfl .i64 .i64 M (by omega) (by omega)
  clear hM
  go_enter Bar.func8, Bar.ntmps8
  go_wp2_with fail
  refine (unhide ks _).mono ?_
  rintro e w1 ⟨rfl, rfl⟩
  clear ks
  go_wp2_with fail
  go_region_with (go_at_call 17; refine (repeatInts (x := 255) (M := M) hM1 (by omega) _ (by simp [go_sem]) (by first | (simp; done) | (simp; omega))).mono ?_; rintro e w3 ⟨gq, rfl, hgq, hrow, hb3⟩)
  all_goals go_wp2_with fail
  all_goals go_ret3
  · exact ⟨_, _, rfl, wide_a hgq hrow hb3, Nat.le_refl _, Nat.le_trans (by show w1.heap.size ≤ ((w1.alloc _).alloc _).heap.size; rw [World.size_alloc, World.size_alloc]; omega) hgq⟩
  · exact ⟨_, _, rfl, wide_b hgq hrow hb3, Nat.le_succ _, Nat.le_trans (by show w1.heap.size ≤ ((w1.alloc _).alloc _).heap.size; rw [World.size_alloc, World.size_alloc]; omega) hgq⟩
  · have hq : w1.heap.size ≤ ((w1.alloc (.cells #[.int .i64 255] 3)).drew).heap.size := by show w1.heap.size ≤ (w1.alloc _).heap.size; rw [World.size_alloc]; omega
    exact ⟨_, _, rfl, wide_c hrow hb3, Nat.le_trans hq hb3.size, Nat.le_trans hq hgq⟩
end Go.Proofs.Ythbghcebcahlnaa

namespace Go.Proofs.Ythbghcebcahlnaa
open Go.RowKit Go.Shelf

def body3 (fn : Func) : Code := fn.body.getD .skip
def ops3 (fn : Func) : Array Oper := cops (cfst (csnd (csnd (csnd (body3 fn)))))
def rest3 (fn : Func) : Code := csnd (csnd (csnd (csnd (body3 fn))))
theorem tab_succ (i : Nat) (f : Nat → Int) : intsV (tab i f) ++ [.int .i64 (f i)] = intsV (tab (i + 1) f) := by
  unfold intsV tab
  rw [List.range_succ, List.map_append, List.map_append]
  rfl
theorem ints_own {w : World} {B : Nat} {v : Value} {L : List Int} (h : w.ownsRow B 3 1 v L.length (intsV L)) : Ints w v L := by
  rcases h.2 with ⟨rfl, h0⟩ | ⟨g, cap, cur, rfl, hb, hg, hnc, hcm, hcs, htake⟩
  · refine ⟨none, 0, 0, 0, ?_, ⟨fun hl => by omega, fun i c hi => ?_⟩⟩
    · rw [h0]
    · have := (List.getElem?_eq_some_iff.1 hi).1
      omega
  · have hlt := (Array.getElem?_eq_some_iff.1 hg).1
    refine ⟨_, cap, g, 0, rfl, ⟨fun _ => ⟨rfl, hlt⟩, fun i c hi => ?_⟩⟩
    have hil := (List.getElem?_eq_some_iff.1 hi).1
    have e : (intsV L)[i]? = some (.int .i64 c) := by unfold intsV; rw [List.getElem?_map, hi]; rfl
    rw [← htake, List.getElem?_take, if_pos (by omega)] at e
    rw [Nat.zero_add]
    simp [World.cell?, hg]
    simpa using e
/-- What the law has in hand behind All. -/
structure Hand (w : World) (n gg gb sb gq : Nat) (ps : List PD) (L S : List Int) (sa : Option Addr) (gs os : Nat) : Prop where
  g0 : w.heap[gb]? = some (.cells #[.int .i64 n, .slice (some ⟨gg, 0, none⟩) (n * n : Nat) (n * n : Nat)] 27)
  s0 : w.heap[sb]? = some (.cells #[.int .i64 n, .slice (some ⟨gq, 0, none⟩) ps.length ps.length] 31)
  row : Row w gg (n * n) (lvlB L)
  slack : Bytes w sa gs os S
  asked : Asked n ps (fun k => (zL L k).1) gq w
set_option maxRecDepth 100000 in
set_option maxHeartbeats 8000000 in
theorem rest3Ok {n gg gb sb gq gs os sc : Nat} {ps : List PD} {L S : List Int} {sa : Option Addr} {x0 x1 x3 x4 x5 x6 x10 x11 x12 x13 x14 x15 x16 x17 x18 x19 x20 x21 x22 x23 x24 x25 x26 x27 x28 x29 x30 x31 x32 x33 x34 x35 x36 x37 x38 x39 x40 x41 x42 x43 x44 x45 x46 x47 x48 x49 x50 x51 x52 x53 x54 x55 x56 x57 x58 x59 x60 x61 x62 x63 x64 x65 x66 x67 x68 x69 x70 x71 x72 x73 x74 x75 x76 x77 x78 x79 x80 x81 x82 x83 x84 x85 x86 x87 x88 x89 x90 x91 x92 x93 x94 x95 x96 x97 x98 x99 x100 x101 x102 x103 x104 x105 x106 x107 x108 x109 x110 x111 x112 x113 x114 x115 x116 x117 x118 x119 x120 x121 x122 x123 x124 x125 x126 x127 x128 x129 x130 x131 x132 x133 x134 x135 x136 x137 x138 x139 x140 x141 : Value} (w : World) (h1 : 1 ≤ n) (h2 : n ≤ 8) (hL : Byte8 L) (hS : Byte8 S) (hSl : S.length ≤ 9223372036854775807) (h : Hand w n gg gb sb gq ps L S sa gs os) :
    Code.wp (barP Try.prog) (rest3 Try.f3) (fun e a w' => e = .ret ∧ a.defers = [] ∧ a.tmps[6]?.getD undef = .bool true ∧ Below w.heap.size w w') ⟨#[x0, x1, .slice sa S.length sc, x3, x4, x5, x6, .pointer (some ⟨gb, 0, none⟩), .pointer (some ⟨sb, 0, none⟩), .int .i64 0, x10, x11, x12, x13, x14, x15, x16, x17, x18, x19, x20, x21, x22, x23, x24, x25, x26, x27, x28, x29, x30, x31, x32, x33, x34, x35, x36, x37, x38, x39, x40, x41, x42, x43, x44, x45, x46, x47, x48, x49, x50, x51, x52, x53, x54, x55, x56, x57, x58, x59, x60, x61, x62, x63, x64, x65, x66, x67, x68, x69, x70, x71, x72, x73, x74, x75, x76, x77, x78, x79, x80, x81, x82, x83, x84, x85, x86, x87, x88, x89, x90, x91, x92, x93, x94, x95, x96, x97, x98, x99, x100, x101, x102, x103, x104, x105, x106, x107, x108, x109, x110, x111, x112, x113, x114, x115, x116, x117, x118, x119, x120, x121, x122, x123, x124, x125, x126, x127, x128, x129, x130, x131, x132, x133, x134, x135, x136, x137, x138, x139, x140, x141], []⟩ w := by
  have hsq : n * n ≤ 64 := Nat.mul_le_mul h2 h2
  have hsq1 : 1 ≤ n * n := Nat.mul_le_mul h1 h1
  have c0 : w.cell? ⟨gb, 0, none⟩ = some (.int .i64 n) := by simp [World.cell?, h.g0]
  have c1 : w.cell? ⟨gb, 1, none⟩ = some (.slice (some ⟨gg, 0, none⟩) (n * n : Nat) (n * n : Nat)) := by simp [World.cell?, h.g0]
  have kW := hide (wideFresh n w h1 (by omega))
  have H := hide h
  clear h
  obtain ⟨M, hM⟩ : ∃ M, n * n = M := ⟨_, rfl⟩
  rw [hM] at hsq hsq1 c1 kW
  have hMh := hide hM
  clear hM
  simp only [rest3, body3, csnd, Try.f3, Option.getD_some]
  go_wp2_with fail
  refine (unhide kW).mono ?_
  rintro e w1 ⟨gl, gh, rfl, ⟨r1, r2, hne, hb1⟩, hgl, hgh⟩
  have d0 := (hb1.cell (p := ⟨gb, 0, none⟩) (Array.getElem?_eq_some_iff.1 (unhide H).g0).1).trans c0
  have d1 := (hb1.cell (p := ⟨gb, 1, none⟩) (Array.getElem?_eq_some_iff.1 (unhide H).g0).1).trans c1
  have R1 : Hid (IRow w1 gl M (loS L S 0)) := vrow_ext r1 fun i _ => by unfold loS; rw [if_neg (by omega)]
  have R2 : Hid (IRow w1 gh M (hiS L S 0)) := vrow_ext r2 fun i _ => by unfold hiS; rw [if_neg (by omega)]
  have hb1 := hide hb1
  clear r1 r2 kW
  go_wp2_with fail
  obtain ⟨i0, hi0, hz0, hz1, hz2⟩ := info_parts infoInt
  have gl1 : gl < w1.heap.size := vrow_lt (unhide R1)
  have gh1 : gh < w1.heap.size := vrow_lt (unhide R2)
  go_loopw [13, 14] (fun av iv wr => ∃ i : Nat, i ≤ M ∧ iv = .int .i64 i ∧ Hid (wr.ownsRow w1.heap.size 3 1 av i (intsV (tab i fun k => (zL L k).1))) ∧ Hid (IRow wr gl M (loS L S i)) ∧ Hid (IRow wr gh M (hiS L S i)) ∧ Hid (Off gl gh w1 wr)) (fun _ iv _ => M - (intOf iv).toNat)
  case atStart => exact ⟨0, Nat.zero_le _, rfl, World.ownsRow_nil _ _ _ _, R1, R2, Off.refl _ _ _⟩
  case round =>
    clear R1 R2
    obtain ⟨i, hi, rfl, hO, hl, hh, hF⟩ := hrel
    have ltb := (Array.getElem?_eq_some_iff.1 (unhide H).g0).1
    have lts := (Array.getElem?_eq_some_iff.1 (unhide H).s0).1
    have ltg := row_lt (unhide H).row
    have sz1 := (unhide hb1).size
    have e0 := ((unhide hF).cell (p := ⟨gb, 0, none⟩) (by show gb < _; omega) (by show gb ≠ _; omega) (by show gb ≠ _; omega)).trans d0
    have e1 := ((unhide hF).cell (p := ⟨gb, 1, none⟩) (by show gb < _; omega) (by show gb ≠ _; omega) (by show gb ≠ _; omega)).trans d1
    by_cases c : i < M
    · have q1 : ((i : Int) < (M : Int)) = True := by simp; omega
      have k1 := (((unhide hF).cell (p := ⟨gg, i, none⟩) (by show gg < _; omega) (by show gg ≠ _; omega) (by show gg ≠ _; omega)).trans ((unhide hb1).cell (p := ⟨gg, i, none⟩) ltg)).trans (row_at (unhide H).row (by rw [unhide hMh]; exact c))
      have hcl := cellB hL i
      have hcv := conv_iv hcl.ic.one (by have := zL_bounds hL i; omega)
      unfold cv at k1
      have zb := zL_bounds hL i
      obtain ⟨z, hz⟩ : ∃ z, (zL L i).1 = z := ⟨_, rfl⟩
      rw [hz] at hcv zb
      generalize (lvlB L i).1 = b1 at k1 hcv
      generalize (lvlB L i).2 = b2 at k1
      have y5 := (Below.refl wr.heap.size wr).alloc (Nat.le_refl _) (.cells #[.int .i64 z] 3)
      have own5 := own_stay (unhide hO) (fun b hb => y5.block b ((unhide hO).lt b hb).2)
      have F5 := hide ((unhide hF).trans (Off.below y5))
      have hs5 : w1.heap.size ≤ wr.heap.size := (unhide hF).size
      have hsz5 : (wr.alloc (.cells #[.int .i64 z] 3)).heap.size = wr.heap.size + 1 := World.size_alloc _ _
      have L5 := hide (vrow_keep (unhide hl) (y5.block _ (vrow_lt (unhide hl))))
      have H5 := hide (vrow_keep (unhide hh) (y5.block _ (vrow_lt (unhide hh))))
      clear hO hF y5 hl hh hcl
      go_wp2_with (first
        | (at_builtin; refine wpList_append_own _ rfl (.tmp 70) (.tmp 72) 35 rfl w1.heap.size 3 i0 (.int .i64 0) 1 8 Bar.underlying35 hi0 hz0 hz1 hz2 rfl (by decide) _ _ _ rfl own5 ⟨wr.heap.size, 0, none⟩ 1 1 [.int .i64 z] rfl rfl (one_new _ _ _) ?c2 ?c3 ?c4 ?c5 ?_))
      case c2 => intro u hu; simp at hu; subst hu; rfl
      case c3 => unfold maxLen; omega
      case c4 => omega
      case c5 => rw [hsz5]; omega
      intro x' w6 hown' hgrow _
      have F6 : Hid (Off gl gh w1 w6) := ⟨hgrow.os.trans (unhide F5).os, hgrow.tape.trans (unhide F5).tape, hgrow.output.trans (unhide F5).output, Nat.le_trans (unhide F5).size hgrow.size, fun x hx n1 n2 => (hgrow.block x (by omega) (fun e => by have := (own5.lt x e.symm).1; omega)).trans ((unhide F5).block x hx n1 n2)⟩
      have L6 := hide (vrow_keep (unhide L5) (hgrow.block gl (by omega) (fun e => by have := (own5.lt gl e.symm).1; omega)))
      have H6 := hide (vrow_keep (unhide H5) (hgrow.block gh (by omega) (fun e => by have := (own5.lt gh e.symm).1; omega)))
      have O6 : Hid (w6.ownsRow w1.heap.size 3 1 x' (i + 1) (intsV (tab (i + 1) fun k => (zL L k).1))) := by
        rw [← tab_succ, hz]
        exact hown'
      have a0 := ((unhide F6).cell (p := ⟨gb, 0, none⟩) (by show gb < _; omega) (by show gb ≠ _; omega) (by show gb ≠ _; omega)).trans d0
      clear hown' hgrow own5 F5 L5 H5 e0 e1 k1 hcv hsz5
      by_cases cS : 2 * i + 1 < S.length
      · have q2 : (2 * (i : Int) + 1 < (S.length : Int)) = True := by simp; omega
        obtain ⟨rfl, hgs⟩ := (unhide H).slack.at_ (by omega)
        have bb := fun (k : Nat) (hk : k < S.length) => (((unhide F6).cell (p := ⟨gs, os + k, none⟩) (by show gs < _; omega) (by show gs ≠ _; omega) (by show gs ≠ _; omega)).trans ((unhide hb1).cell (p := ⟨gs, os + k, none⟩) hgs)).trans ((unhide H).slack.cell k (S.getD k 0) (by rw [List.getD_eq_getElem?_getD, List.getElem?_eq_getElem hk]; rfl))
        have b1 := bb (2 * i) (by omega)
        have b2 := bb (2 * i + 1) cS
        have u1 := hS (2 * i) (by omega)
        have u2 := hS (2 * i + 1) cS
        have m1 := loS_upd (L := L) cS
        have m2 := hiS_upd (L := L) cS
        rw [hz] at m1 m2
        generalize S.getD (2 * i) 0 = y1 at b1 u1 m1
        generalize S.getD (2 * i + 1) 0 = y2 at b2 u2 m2
        have s1 := vrow_at (unhide L6) c
        have s2 := vrow_at (unhide H6) c
        have f1 := vrow_frozen (unhide L6) i
        have f2 := vrow_frozen (unhide H6) i
        have n1 : ¬ gs = gl := by omega
        have n2 : ¬ gh = gl := by omega
        have n3 : ¬ gl = gh := by omega
        have v1 : Hid ((if y1 < z then z - y1 else 0) = max 0 (z - y1)) := by show _ = _; split <;> omega
        have v2 : Hid ((if z + y2 < 255 then z + y2 else 255) = min 255 (z + y2)) := by show _ = _; split <;> omega
        have m1 := hide m1
        have m2 := hide m2
        clear bb
        go_wp2_with fail
        rw [unhide v1, unhide v2]
        have l7 : IRow ((w6.setCell ⟨gl, i, none⟩ (.int .i64 (max 0 (z - y1)))).setCell ⟨gh, i, none⟩ (.int .i64 (min 255 (z + y2)))) gl M (loS L S (i + 1)) := by
          rw [← unhide m1]
          exact vrow_keep (irow_set (unhide L6) i _) (Below.heap_setCell _ _ _ _ (by show gl ≠ gh; exact hne))
        have h7 : IRow ((w6.setCell ⟨gl, i, none⟩ (.int .i64 (max 0 (z - y1)))).setCell ⟨gh, i, none⟩ (.int .i64 (min 255 (z + y2)))) gh M (hiS L S (i + 1)) := by
          rw [← unhide m2]
          exact irow_set (vrow_keep (unhide H6) (Below.heap_setCell _ _ _ _ (by show gh ≠ gl; exact n2))) i _
        refine ⟨⟨i + 1, by omega, rfl, own_stay (unhide O6) fun b hb => ?_, l7, h7, ((unhide F6).set (p := ⟨gl, i, none⟩) (Or.inl rfl) _).set (p := ⟨gh, i, none⟩) (Or.inr rfl) _⟩, by simp [intOf]; omega⟩
        have := ((unhide O6).lt b hb).1
        rw [Below.heap_setCell _ _ _ _ (by show b ≠ gh; omega), Below.heap_setCell _ _ _ _ (by show b ≠ gl; omega)]
      · have q2 : (2 * (i : Int) + 1 < (S.length : Int)) = False := by simp; omega
        have m1 := hide (loS_skip (L := L) cS)
        have m2 := hide (hiS_skip (L := L) cS)
        go_wp2_with fail
        exact ⟨⟨i + 1, by omega, rfl, unhide O6, by rw [unhide m1]; exact L6, by rw [unhide m2]; exact H6, unhide F6⟩, by simp [intOf]; omega⟩
    · have q1 : ((i : Int) < (M : Int)) = False := by simp; omega
      obtain rfl : i = M := by omega
      have e2 := (((unhide hF).cell (p := ⟨sb, 1, none⟩) (by show sb < _; omega) (by show sb ≠ _; omega) (by show sb ≠ _; omega)).trans ((unhide hb1).cell (p := ⟨sb, 1, none⟩) lts)).trans (show w.cell? ⟨sb, 1, none⟩ = some (.slice (some ⟨gq, 0, none⟩) ps.length ps.length) by simp [World.cell?, (unhide H).s0])
      have eM := unhide hMh
      have Bw : Below w.heap.size w wr := (unhide hb1).trans ((unhide hF).to (by omega) hgl hgh)
      have hAbt := bounds_abt hL hS i i
      have hlev : levs n (tab i (loS L S i)) (tab i (hiS L S i)) = true := by
        rw [← eM] at hAbt ⊢
        exact levs_tab (fun k hk => by have := hAbt k hk; dsimp only at this; omega) (fun k hk => by have := hAbt k hk; dsimp only at this; omega)
      have hown : Owns (tab i (loS L S i)).length (fun k => (zL L k).1) (lk n ps ps.length 0) := by
        rw [tab_len, ← eM]
        exact (unhide H).asked.own
      have hA2 : Abt (tab i (loS L S i)).length (fun k => (zL L k).1) (fun k => (tab i (loS L S i)).getD k 0) (fun k => (tab i (hiS L S i)).getD k 0) := by
        intro k hk
        rw [tab_len] at hk
        have := hAbt k hk
        dsimp only
        rw [tab_get hk, tab_get hk]
        exact this
      have kR := hide (runOwn (cq := ps.length) h1 (by omega) hlev (unhide H).asked.hd (unhide H).asked.hz (unhide H).asked.so hown hA2 wr (ints_row (cap := i) (unhide hl)) (ints_row (cap := i) (unhide hh)) ((unhide H).asked.at_.below Bw))
      have B5 := hide Bw
      have hAt := hide (ints_own (L := tab i fun k => (zL L k).1) (by rw [tab_len]; exact unhide hO))
      have hlo := hide (ints_row (cap := i) (unhide hl))
      have hhi := hide (ints_row (cap := i) (unhide hh))
      clear Bw hAbt hlev hown hA2 hO hl hh hF
      go_wp2_with fail
      refine (unhide kR).mono ?_
      rintro e w5 ⟨hcase, hb5⟩
      have B6 := hide ((unhide B5).trans (hb5.mono (unhide B5).size))
      rcases hcase with rfl | ⟨gl', cl', gh', ch', lo', hi', rfl, r1, r2, hG, hA'⟩
      · clear kR hb5
        go_wp2_with fail
        exact unhide B6
      · rw [tab_len] at *
        have hAt5 := hide (ints_below (unhide hAt) hb5)
        have hlo5 := hide (ints_below (unhide hlo) hb5)
        have hhi5 := hide (ints_below (unhide hhi) hb5)
        have i1 := ints_row (cap := cl') r1
        have i2 := ints_row (cap := ch') r2
        have kV := hide (withinYes (A := tab i fun k => (zL L k).1) (by rw [tab_len]; omega) rfl (by rw [tab_len, tab_len]) (by rw [tab_len, tab_len]) (fun k hk => by
          rw [tab_len] at hk
          rw [tab_get hk, tab_get hk, tab_get hk]
          have := hA' k hk
          dsimp only at this
          omega) w5 (unhide hAt5) (unhide hAt5) i1 i2)
        have hins : Hid (∀ k, k < i → loS L S i k ≤ lo' k ∧ hi' k ≤ hiS L S i k) := fun k hk => by
          have := hG.ins k hk
          rw [tab_get hk, tab_get hk] at this
          exact this
        have i1 := hide i1
        have i2 := hide i2
        clear kR hb5 hG hA' r1 r2
        go_wp2_with fail
        refine (unhide kV).mono ?_
        rintro e w6 ⟨rfl, hb6⟩
        have kV2 := hide (withinYes (A := tab i lo') (B := tab i hi') (by rw [tab_len]; omega) (by rw [tab_len, tab_len]) (by rw [tab_len, tab_len]) (by rw [tab_len, tab_len]) (fun k hk => by
          rw [tab_len] at hk
          rw [tab_get hk, tab_get hk, tab_get hk, tab_get hk]
          exact unhide hins k hk) w6 (ints_below (unhide i1) hb6) (ints_below (unhide i2) hb6) (ints_below (unhide hlo5) hb6) (ints_below (unhide hhi5) hb6))
        have B7 := hide ((unhide B6).trans (hb6.mono (unhide B6).size))
        clear kV hb6
        go_wp2_with fail
        refine (unhide kV2).mono ?_
        rintro e w7 ⟨rfl, hb7⟩
        have B8 := hide ((unhide B7).trans (hb7.mono (unhide B7).size))
        clear kV2 hb7
        go_wp2_with fail
        exact unhide B8
end Go.Proofs.Ythbghcebcahlnaa
