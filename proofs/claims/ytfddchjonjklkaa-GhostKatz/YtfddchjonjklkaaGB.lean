/- Blind of the ghost of (-1, 1): its sums by lines in a map, gone through in whatever order. -/
import Derived.Test.YtfddchjonjklkaaGT
import Derived.Test.YtfddchjonjklkaaYC
import Derived.MapKept
import Derived.Laws.IdiomRangeMap
namespace Go.Proofs.Ytfddchjonjklkaa
open Go.RowKit Fl

section
variable {w : World} {b : Nat} {es : Array MapEntry} {clock : Nat} {k : Int}
open MapKept

theorem keyInt (k : Int) : IsKey (.int .i64) (.int .i64 k) := by first | exact ⟨k, rfl⟩ | trivial | (unfold IsKey; simp)

theorem look_new (hb : w.heap[b]? = some (.map es clock)) (hf : Instr.findNow (.int .i64) (.int .i64 k) es.toList 0 = some none) :
    (Instr.lookup 54 (.map (some b)) (.int .i64 k) false).run Try.prog w = .ok (.complex .f64 0 0) w := by
  simp [Instr.lookup, run_underlying Try.underlying54, MapKept.run_getObj_map hb, run_checkKey Try.underlying3 (keyInt k), run_findKey Try.underlying3 hf]

theorem look_old {i : Nat} {v : Value} (hb : w.heap[b]? = some (.map es clock)) (hf : Instr.findNow (.int .i64) (.int .i64 k) es.toList 0 = some (some (i, v))) :
    (Instr.lookup 54 (.map (some b)) (.int .i64 k) false).run Try.prog w = .ok v w := by
  simp [Instr.lookup, run_underlying Try.underlying54, MapKept.run_getObj_map hb, run_checkKey Try.underlying3 (keyInt k), run_findKey Try.underlying3 hf]

theorem put_new (hb : w.heap[b]? = some (.map es clock)) (hf : Instr.findNow (.int .i64) (.int .i64 k) es.toList 0 = some none) (v : Value) :
    (Instr.mapUpdate 54 (.map (some b)) (.int .i64 k) v).run Try.prog w = .ok () { w with heap := w.heap.setIfInBounds b (.map (es.push ⟨.int .i64 k, v, clock⟩) (clock + 1)) } := by
  simp [Instr.mapUpdate, run_underlying Try.underlying54, MapKept.run_getObj_map hb, run_checkKey Try.underlying3 (keyInt k), run_findKey Try.underlying3 hf, MapKept.run_setObj_map _ hb]

theorem put_old {i : Nat} {u : Value} {e : MapEntry} (hb : w.heap[b]? = some (.map es clock)) (hf : Instr.findNow (.int .i64) (.int .i64 k) es.toList 0 = some (some (i, u))) (he : es[i]? = some e) (hk : e.key = .int .i64 k) (v : Value) :
    (Instr.mapUpdate 54 (.map (some b)) (.int .i64 k) v).run Try.prog w = .ok () { w with heap := w.heap.setIfInBounds b (.map (es.modify i fun e => { e with key := .int .i64 k, val := v }) clock) } := by
  have ks := run_keyThatStays (P := Try.prog) (w := w) (keyInt k)
  simp [Instr.mapUpdate, run_underlying Try.underlying54, MapKept.run_getObj_map hb, run_checkKey Try.underlying3 (keyInt k), run_findKey Try.underlying3 hf, MapKept.run_setObj_map _ hb, he, hk, ks]
end

/-- The map's entries behind k cells. -/
def esK : Nat → Array MapEntry
  | 0 => #[]
  | 1 => #[⟨.int .i64 0, .complex .f64 0 0, 0⟩]
  | 2 => #[⟨.int .i64 0, .complex .f64 0 0, 0⟩, ⟨.int .i64 1, .complex .f64 4607182418800017408 0, 1⟩]
  | 3 => #[⟨.int .i64 0, .complex .f64 0 0, 0⟩, ⟨.int .i64 1, .complex .f64 0 0, 1⟩]
  | _ => #[⟨.int .i64 0, .complex .f64 0 0, 0⟩, ⟨.int .i64 1, .complex .f64 0 0, 1⟩, ⟨.int .i64 2, .complex .f64 0 0, 2⟩]
def ckK : Nat → Nat
  | 0 => 0
  | 1 => 1
  | 2 => 2
  | 3 => 2
  | _ => 3
def cK : Nat → Nat
  | 1 => 4607182418800017408
  | 2 => 13830554455654793216
  | _ => 0
def lnK : Nat → Int
  | 0 => 0
  | 1 => 1
  | 2 => 1
  | _ => 2
/-- What the map has at a line ahead of the k-th cell, and behind it. -/
def olK : Nat → Nat
  | 2 => 4607182418800017408
  | _ => 0
def nwK : Nat → Nat
  | 1 => 4607182418800017408
  | _ => 0

theorem row_c {w : World} {g : Nat} (hR : Row w g 4 (ghB L1 2)) (k : Nat) (hk : k < 4) : w.cell? ⟨g, k, none⟩ = some (.complex .f64 (cK k) 0) := by
  have h := row_at hR hk
  rw [h]
  have e : ∀ k : Fin 4, ghB L1 2 k.1 = (cK k.1, 0) := by decide +kernel
  rw [e ⟨k, hk⟩]
  rfl

theorem add_k (k : Nat) (hk : k < 4) : AddTo (olK k, 0) (cK k, 0) (nwK k, 0) := by
  match k, hk with
  | 0, _ => exact ⟨by decide +kernel, by decide +kernel⟩
  | 1, _ => exact ⟨by decide +kernel, by decide +kernel⟩
  | 2, _ => exact ⟨by decide +kernel, by decide +kernel⟩
  | 3, _ => exact ⟨by decide +kernel, by decide +kernel⟩

theorem look_k {w : World} {b : Nat} (k : Nat) (hk : k < 4) (hb : w.heap[b]? = some (.map (esK k) (ckK k))) :
    (Instr.lookup 54 (.map (some b)) (.int .i64 (lnK k)) false).run Try.prog w = .ok (.complex .f64 (olK k) 0) w := by
  match k, hk with
  | 0, _ => exact look_new hb rfl
  | 1, _ => exact look_new hb rfl
  | 2, _ => exact look_old (i := 1) hb rfl
  | 3, _ => exact look_new hb rfl

theorem put_k {w : World} {b : Nat} (k : Nat) (hk : k < 4) (hb : w.heap[b]? = some (.map (esK k) (ckK k))) :
    (Instr.mapUpdate 54 (.map (some b)) (.int .i64 (lnK k)) (.complex .f64 (nwK k) 0)).run Try.prog w = .ok () { w with heap := w.heap.setIfInBounds b (.map (esK (k + 1)) (ckK (k + 1))) } := by
  match k, hk with
  | 0, _ => exact put_new hb rfl _
  | 1, _ => exact put_new hb rfl _
  | 2, _ => exact put_old (i := 1) hb rfl rfl rfl _
  | 3, _ => exact put_new hb rfl _

/-- What holds behind k cells. -/
structure SInv (w : World) (g c k : Nat) (W : World) : Prop where
  row : Row W g 4 (ghB L1 2)
  bh : W.heap[w.heap.size]? = some (.cells #[.int .i64 2, .int .i64 2, .slice (some ⟨g, 0, none⟩) 4 c] 26 (0, 0))
  bd : W.heap[w.heap.size + 1]? = some (.cells #[.int .i64 (-1), .int .i64 1] 34 (0, 0))
  map : W.heap[w.heap.size + 1 + 1]? = some (.map (esK k) (ckK k))
  below : Below w.heap.size w W

theorem SInv.drew {w W : World} {g c k : Nat} (h : SInv w g c k W) : SInv w g c k W.drew := ⟨h.row, h.bh, h.bd, h.map, h.below.drew⟩

theorem SInv.next {w W : World} {g c k : Nat} (h : SInv w g c k W) (hg : g < w.heap.size) (hk : k < 4) :
    ∃ W', (Instr.mapUpdate 54 (.map (some (w.heap.size + 1 + 1))) (.int .i64 (lnK k)) (.complex .f64 (nwK k) 0)).run Try.prog W = .ok () W' ∧ SInv w g c (k + 1) W' := by
  obtain ⟨s1, s2⟩ := MapKept.heap_set (o' := .map (esK (k + 1)) (ckK (k + 1))) h.map
  refine ⟨_, put_k k hk h.map, row_keep h.row (s2 g (by omega)), (s2 _ (by omega)).trans h.bh, (s2 _ (by omega)).trans h.bd, s1, h.below.os, h.below.tape, h.below.output, ?_, fun i hi => (s2 i (by omega)).trans (h.below.block i hi)⟩
  show _ ≤ (W.heap.setIfInBounds _ _).size
  rw [Array.size_setIfInBounds]
  exact h.below.size

set_option maxRecDepth 100000 in
set_option maxHeartbeats 3200000 in
theorem sumsOk (w : World) (g c : Nat) (hR : Row w g 4 (ghB L1 2)) :
    Calls Try.prog 25 #[.agg #[.int .i64 2, .int .i64 2, .slice (some ⟨g, 0, none⟩) 4 c], .agg #[.int .i64 (-1), .int .i64 1]] w fun e w' => e = .returned (.map (some (w.heap.size + 1 + 1))) ∧ SInv w g c 4 w' := by
  have hg := row_lt hR
  have hR' := hide hR
  clear hR
  have hmk := @run_makeMap Try.prog
  have I0 : Hid (SInv w g c 0 (((w.alloc (.cells #[.int .i64 2, .int .i64 2, .slice (some ⟨g, 0, none⟩) 4 c] 26)).alloc (.cells #[.int .i64 (-1), .int .i64 1] 34)).alloc (.map #[] 0))) := by
    have s1 : (w.alloc (.cells #[.int .i64 2, .int .i64 2, .slice (some ⟨g, 0, none⟩) 4 c] 26)).heap.size = w.heap.size + 1 := World.size_alloc _ _
    have s2 : ((w.alloc (.cells #[.int .i64 2, .int .i64 2, .slice (some ⟨g, 0, none⟩) 4 c] 26)).alloc (.cells #[.int .i64 (-1), .int .i64 1] 34)).heap.size = w.heap.size + 1 + 1 := by rw [World.size_alloc, s1]
    have hB := (((Below.refl _ w).alloc (Nat.le_refl _) (.cells #[.int .i64 2, .int .i64 2, .slice (some ⟨g, 0, none⟩) 4 c] 26)).alloc (by omega) (.cells #[.int .i64 (-1), .int .i64 1] 34)).alloc (by omega) (.map #[] 0)
    refine ⟨row_below (unhide hR') hB hg, ?_, ?_, ?_, hB⟩
    · rw [Below.heap_alloc _ _ _ (by omega), Below.heap_alloc _ _ _ (by omega)]
      exact heap_alloc_new _ _
    · rw [Below.heap_alloc _ _ _ (by omega), ← s1]
      exact heap_alloc_new _ _
    · rw [← s2]
      exact heap_alloc_new _ _
  go_enter Try.func25, Try.ntmps25
  go_wp2_with fail
  clear hmk
  go_loopw [13] (fun iv wr => ∃ k : Nat, k ≤ 4 ∧ iv = .int .i64 k ∧ Hid (SInv w g c k wr)) (fun iv _ => 4 - (intOf iv).toNat)
  case atStart => exact ⟨0, by omega, rfl, I0⟩
  case round =>
    clear I0
    obtain ⟨k, hk, rfl, I1⟩ := hrel
    by_cases hk4 : k < 4
    · have c1 := row_c (unhide I1).row k hk4
      have kA := hide (fun w => addAny (add_k k hk4) w)
      have hlk := look_k k hk4 (unhide I1).drew.map
      obtain ⟨w6, hpt, I6⟩ := (unhide I1).drew.next hg hk4
      have I6 := hide I6
      have b0 := block_cell (unhide I1).bh 0
      have d0 := block_cell (unhide I1).bd 0
      have d1 := block_cell (unhide I1).bd 1
      simp only [List.getElem?_toArray, List.getElem?_cons_zero, List.getElem?_cons_succ] at b0 d0 d1
      dsimp only at kA
      clear I1
      generalize cK k = cc at *
      generalize olK k = ol at *
      generalize nwK k = nw at *
      rcases (by omega : k = 0 ∨ k = 1 ∨ k = 2 ∨ k = 3) with rfl | rfl | rfl | rfl
      all_goals
        simp only [lnK] at hlk hpt
        go_wp2_with fail
        go_big_region
        go_wp2_with (first | (go_at_call 26; refine (unhide kA _).mono ?_; rintro e w' ⟨rfl, rfl⟩))
        exact ⟨⟨_, hk4, rfl, I6⟩, by simp [intOf]⟩
    · have e : k = 4 := by omega
      subst e
      go_wp2_with fail
      go_ret
      exact ⟨rfl, unhide I1⟩

set_option maxHeartbeats 400000 in
theorem sideTwo (w : World) : Calls Try.prog 41 #[.int .i64 2] w fun e w' => e = .returned (.bool true) ∧ w' = w := by
  go_enter Try.func41, Try.ntmps41
  go_wp2
  go_ret
  exact ⟨rfl, rfl⟩

theorem whole_k (k : Nat) (hk : k < 4) (w : World) : Calls Try.prog 42 #[.complex .f64 (cK k) 0, .int .i64 65536] w fun e w' => e = .returned (.bool true) ∧ w' = w := by
  match k, hk with
  | 0, _ => exact whole_any 0 0 0 0 65536 w (by decide) iv_zero (fun _ => rfl) (by decide) (by decide) iv_zero (fun _ => rfl) (by decide) (by decide)
  | 1, _ => exact whole_any 4607182418800017408 0 1 0 65536 w (by decide) (iv_of 1 (by decide) (by decide +kernel)) (fun h => by cases h) (by decide) (by decide) iv_zero (fun _ => rfl) (by decide) (by decide)
  | 2, _ => exact whole_any 13830554455654793216 0 (-1) 0 65536 w (by decide) (iv_of (-1) (by decide) (by decide +kernel)) (fun h => by cases h) (by decide) (by decide) iv_zero (fun _ => rfl) (by decide) (by decide)
  | 3, _ => exact whole_any 0 0 0 0 65536 w (by decide) iv_zero (fun _ => rfl) (by decide) (by decide) iv_zero (fun _ => rfl) (by decide) (by decide)

set_option maxRecDepth 100000 in
set_option maxHeartbeats 1600000 in
theorem soundOk (w : World) (g c : Nat) (hR : Row w g 4 (ghB L1 2)) :
    Calls Try.prog 32 #[.agg #[.int .i64 2, .int .i64 2, .slice (some ⟨g, 0, none⟩) 4 c]] w fun e w' => e = .returned (.bool true) ∧ Below w.heap.size w w' := by
  have hB := (Below.refl _ w).alloc (Nat.le_refl _) (.cells #[.int .i64 2, .int .i64 2, .slice (some ⟨g, 0, none⟩) 4 c] 26)
  have hR1 := hide (row_below hR hB (row_lt hR))
  have hBh := hide hB
  clear hR hB
  go_enter Try.func32, Try.ntmps32
  go_wp2_with (first | (go_at_call 41; refine (sideTwo _).mono ?_; rintro e w' ⟨rfl, rfl⟩))
  generalize w.alloc (.cells #[.int .i64 2, .int .i64 2, .slice (some ⟨g, 0, none⟩) 4 c] 26) = w1 at *
  go_loopw [29] (fun iv wr => ∃ k : Nat, k ≤ 4 ∧ iv = .int .i64 k ∧ w1 = wr) (fun iv _ => 4 - (intOf iv).toNat)
  case atStart => exact ⟨0, by omega, rfl, rfl⟩
  case round =>
    obtain ⟨k, hk, rfl, rfl⟩ := hrel
    by_cases hk4 : k < 4
    · have q : ((k : Int) < 4) = True := by simp; omega
      have c1 := row_c (unhide hR1) k hk4
      have kW := hide (whole_k k hk4)
      generalize cK k = cc at *
      go_wp2_with (first | (go_at_call 42; refine (unhide kW _).mono ?_; rintro e w' ⟨rfl, rfl⟩))
      exact ⟨⟨k + 1, hk4, by go_num, trivial⟩, by simp [intOf]; omega⟩
    · have q : ((k : Int) < 4) = False := by simp; omega
      go_wp2_with fail
      go_ret
      exact ⟨rfl, unhide hBh⟩

set_option maxHeartbeats 800000 in
theorem checkOk (w : World) (g c : Nat) (hR : Row w g 4 (ghB L1 2)) :
    Calls Try.prog 24 #[.agg #[.int .i64 2, .int .i64 2, .slice (some ⟨g, 0, none⟩) 4 c]] w fun e w' => e = .returned (.int .i64 0) ∧ Below w.heap.size w w' := by
  have hB := (Below.refl _ w).alloc (Nat.le_refl _) (.cells #[.int .i64 2, .int .i64 2, .slice (some ⟨g, 0, none⟩) 4 c] 26)
  have k := hide (soundOk _ g c (row_below hR hB (row_lt hR)))
  have hBh := hide hB
  clear hR hB
  go_enter Try.func24, Try.ntmps24
  go_wp2_with fail
  refine (unhide k).mono ?_
  rintro e w1 ⟨rfl, hb1⟩
  have B1 := hide ((unhide hBh).trans (hb1.mono (unhide hBh).size))
  clear hb1
  go_wp2_with fail
  go_ret
  exact ⟨rfl, unhide B1⟩

theorem es4 {x : MapEntry} (h : x ∈ (esK 4).toList) : x.val = .complex .f64 0 0 := by
  simp [esK] at h
  rcases h with rfl | rfl | rfl <;> rfl

theorem stamp4 : MapKept.Stamped (esK 4) 3 := by
  refine ⟨?_, ?_, ?_⟩
  · intro x hx
    simp [esK] at hx
    rcases hx with rfl | rfl | rfl <;> decide
  · simp [esK]
  · simp [esK]

set_option maxRecDepth 100000 in
set_option maxHeartbeats 3200000 in
theorem blindOk : BlindOk := by
  intro w g c hR
  have hg := row_lt hR
  have hB := ((Below.refl _ w).alloc (Nat.le_refl _) (.cells #[.int .i64 2, .int .i64 2, .slice (some ⟨g, 0, none⟩) 4 c] 26)).alloc (by simp) (.cells #[.int .i64 (-1), .int .i64 1] 34)
  have s1 : (w.alloc (.cells #[.int .i64 2, .int .i64 2, .slice (some ⟨g, 0, none⟩) 4 c] 26)).heap.size = w.heap.size + 1 := World.size_alloc _ _
  have s2 : ((w.alloc (.cells #[.int .i64 2, .int .i64 2, .slice (some ⟨g, 0, none⟩) 4 c] 26)).alloc (.cells #[.int .i64 (-1), .int .i64 1] 34)).heap.size = w.heap.size + 2 := by rw [World.size_alloc, s1]
  have x1 : ((w.alloc (.cells #[.int .i64 2, .int .i64 2, .slice (some ⟨g, 0, none⟩) 4 c] 26)).alloc (.cells #[.int .i64 (-1), .int .i64 1] 34)).heap[w.heap.size]? = some (.cells #[.int .i64 2, .int .i64 2, .slice (some ⟨g, 0, none⟩) 4 c] 26 (0, 0)) := by
    rw [Below.heap_alloc _ _ _ (by omega)]
    exact heap_alloc_new _ _
  have x2 : ((w.alloc (.cells #[.int .i64 2, .int .i64 2, .slice (some ⟨g, 0, none⟩) 4 c] 26)).alloc (.cells #[.int .i64 (-1), .int .i64 1] 34)).heap[w.heap.size + 1]? = some (.cells #[.int .i64 (-1), .int .i64 1] 34 (0, 0)) := by
    rw [← s1]
    exact heap_alloc_new _ _
  have R1 := row_below hR hB hg
  have k1 := hide (checkOk _ g c R1)
  have hok : okD (-1) 1 = true := by decide +kernel
  have k2 := hide (fun w => dirCheck (P := -1) (Q := 1) (by unfold I64; decide) (by unfold I64; decide) w)
  rw [checkS_ok hok] at k2
  unfold dirV at k2
  dsimp only at k2
  have x1h := hide x1
  have x2h := hide x2
  have R1h := hide R1
  have hBh := hide hB
  clear x1 x2 R1 hB hR hok
  go_enter Try.func14, Try.ntmps14
  go_wp2_with fail
  generalize (w.alloc (.cells #[.int .i64 2, .int .i64 2, .slice (some ⟨g, 0, none⟩) 4 c] 26)).alloc (.cells #[.int .i64 (-1), .int .i64 1] 34) = w1 at *
  refine (unhide k1).mono ?_
  rintro e w2 ⟨rfl, hb2⟩
  have B2 := hide ((unhide hBh).trans (hb2.mono (by omega)))
  have X1 := (hb2.block _ (by omega)).trans (unhide x1h)
  have X2 := (hb2.block _ (by omega)).trans (unhide x2h)
  have R2 := hide (row_below (unhide R1h) hb2 (by omega))
  have sz2 := hb2.size
  have p0 := block_cell X2 0
  have p1 := block_cell X2 1
  simp only [List.getElem?_toArray, List.getElem?_cons_zero, List.getElem?_cons_succ] at p0 p1
  have X1h := hide X1
  have X2h := hide X2
  clear hb2 k1 X1 X2 x1h x2h R1h
  go_wp2_with fail
  refine (unhide k2 w2).mono ?_
  rintro e w3 ⟨rfl, hb3⟩
  have B3 := hide ((unhide B2).trans (hb3.mono (by omega)))
  have X1 := (hb3.block _ (by omega)).trans (unhide X1h)
  have X2 := (hb3.block _ (by omega)).trans (unhide X2h)
  have k3 := hide (sumsOk w3 g c (row_below (unhide R2) hb3 (by omega)))
  have sz3 := hb3.size
  have o0 := block_cell X1 0
  have o1 := block_cell X1 1
  have o2 := block_cell X1 2
  have p0 := block_cell X2 0
  have p1 := block_cell X2 1
  simp only [List.getElem?_toArray, List.getElem?_cons_zero, List.getElem?_cons_succ] at o0 o1 o2 p0 p1
  clear hb3 k2 X1 X2 X1h X2h R2
  go_wp2_with fail
  refine (unhide k3).mono ?_
  rintro e w4 ⟨rfl, I4⟩
  have hm : w4.heap[w3.heap.size + 1 + 1]? = some (.map (esK 4) 3) := I4.map
  have B4 := hide ((unhide B3).trans (I4.below.mono (by omega)))
  have hrg := run_range_map (P := Try.prog) w4 54 3 38 _ _ _ Try.underlying54 hm
  have hmh := hide hm
  clear k3 I4 hm o0 o1 o2 p0 p1
  go_wp2_with fail
  clear hrg
  go_loopw [] (fun wr => ∃ (v : World) (seen : Array Nat), v.Alike w4 ∧ wr = v.alloc (.mapIter (some (w3.heap.size + 1 + 1)) 3 seen 3)) (fun wr => (leftOf (esK 4) (wr.iterSeen w4.heap.size)).size)
  case atStart => exact ⟨w4, #[], ⟨rfl, rfl, rfl⟩, rfl⟩
  case round =>
    obtain ⟨v, seen, hal, rfl⟩ := hrel
    have hsz : v.heap.size = w4.heap.size := by rw [hal.1]
    have hb1 : v.heap[w3.heap.size + 1 + 1]? = some (.map (esK 4) 3) := by rw [hal.1]; exact unhide hmh
    have law := run_next_map (P := Try.prog) v 0 (w3.heap.size + 1 + 1) 3 3 seen (esK 4) 3 hb1 stamp4.1 (Nat.le_refl _)
    rw [hsz] at law
    rcases law with ⟨h0, hrun⟩ | ⟨e, he, w5, hal2, hrun⟩
    · have hnx : ∀ ty, (Instr.next (.pointer (some ⟨w4.heap.size, 0, none⟩)) false ty).run Try.prog (v.alloc (.mapIter (some (w3.heap.size + 1 + 1)) 3 seen 3)) = _ := fun _ => hrun
      have halh := hide hal
      clear h0 hrun hal hb1 hsz
      go_wp2_with fail
      go_ret2
      have hb := unhide B4
      have ha := unhide halh
      have hsv : w.heap.size ≤ v.heap.size := by rw [ha.1]; exact hb.size
      refine ⟨rfl, ⟨ha.2.1.trans hb.os, ha.2.2.trans hb.output, ?_, fun i hi => ?_⟩⟩
      · rw [World.size_alloc]
        omega
      · rw [Below.heap_alloc _ _ _ (by omega), ha.1]
        exact hb.block i hi
    · have hval := es4 (mem_left he).1
      rw [hval] at hrun
      have hnx : ∀ ty, (Instr.next (.pointer (some ⟨w4.heap.size, 0, none⟩)) false ty).run Try.prog (v.alloc (.mapIter (some (w3.heap.size + 1 + 1)) 3 seen 3)) = _ := fun _ => hrun
      have hsz2 : w5.heap.size = w4.heap.size := by rw [hal2.1, hal.1]
      have hb2 : w5.heap[w3.heap.size + 1 + 1]? = some (.map (esK 4) 3) := by rw [hal2.1]; exact hb1
      have hen := run_entry_map (P := Try.prog) w5 (w3.heap.size + 1 + 1) 3 seen (esK 4) 3 e hb2 (mem_left he).1 stamp4.2.1
      rw [hsz2, hval] at hen
      have hal3 : Hid (w5.Alike w4) := ⟨hal2.1.trans hal.1, hal2.2.1.trans hal.2.1, hal2.2.2.trans hal.2.2⟩
      have o3 : FloatKind.f64.format.order 0 0 = some .eq := by decide +kernel
      have hms : Hid ((leftOf (esK 4) ((w5.alloc (.mapIter (some (w3.heap.size + 1 + 1)) 3 (seen.push e.born) 3)).iterSeen w4.heap.size)).size < (leftOf (esK 4) ((v.alloc (.mapIter (some (w3.heap.size + 1 + 1)) 3 seen 3)).iterSeen w4.heap.size)).size) := by
        show _ < _
        rw [← hsz2, World.iterSeen_alloc, hsz2, ← hsz, World.iterSeen_alloc]
        exact left_shrinks (esK 4) seen e he
      clear hrun hal hal2 hb1 hb2 hsz hsz2 hval he
      go_wp2_with fail
      exact ⟨⟨w5, seen.push e.born, unhide hal3, rfl⟩, unhide hms⟩
end Go.Proofs.Ytfddchjonjklkaa
