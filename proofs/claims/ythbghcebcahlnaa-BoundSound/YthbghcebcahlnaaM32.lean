/- The lone machine's way, piece by piece. The worker's way, well-founded. A grid's own projections are sound. The look through directions. -/
import Derived.Test.YthbghcebcahlnaaM31
import Derived.Calls
import Derived.Test.YthbghcebcahlnaaM30
import Derived.Test.YthbghcebcahlnaaM14
set_option linter.unusedSectionVars false
namespace Go.Proofs.Ythbghcebcahlnaa
open Go

theorem fen_refl : ∀ l : List Func, Fen l l
  | [] => trivial
  | _ :: l => ⟨.inl rfl, fen_refl l⟩
theorem fenceB : FenceB (barP Try.prog) (barF Try.prog) := by
  letI : Inhabited Junk := noJunk
  refine fence_of (l := (barL Try.prog)) (m := (barL Try.prog)) rfl rfl (fen_refl _) bar_num bar_ends fun fn h => ?_
  have := fence.ext
  obtain ⟨k, hk⟩ : ∃ k : Nat, (barF Try.prog)[k]? = some fn := by
    rcases h with rfl | rfl | rfl | rfl
    · exact ⟨42, rfl⟩
    · exact ⟨93, rfl⟩
    · exact ⟨94, rfl⟩
    · exact ⟨95, rfl⟩
  rcases h with rfl | rfl | rfl | rfl
  · refine ⟨next42, fun e he _ args => ?_⟩
    rw [find42] at he
    cases he
    exact sim_addInt64 args
  · refine ⟨next93, fun e he _ args => ?_⟩
    rw [find93] at he
    cases he
    exact sim_float64bits args
  · refine ⟨next94, fun e he _ args => ?_⟩
    rw [find94] at he
    cases he
    exact sim_float64frombits args
  · refine ⟨next95, fun e he _ args => ?_⟩
    rw [find95] at he
    cases he
    exact sim_toIntegral _ _ args
theorem bodiesB : Bodies (barP Try.prog) (barF Try.prog) := by
  letI : Inhabited Junk := noJunk
  intro f fn c h1 h2
  have := bodies f fn c h1 h2
  rw [← okCode_bar (P := Try.prog) (F := (barF Try.prog))] at this
  exact this
theorem goesW_mono {P : Program} {r : Nat} {E E' : Frame → List Frame → World → Prop} (hE : ∀ fr up w, E fr up w → E' fr up w) {fr : Frame} {up : List Frame} {w : World} (h : GoesW P r E fr up w) : GoesW P r E' fr up w := by
  letI : Inhabited Junk := noJunk
  induction h using GoesW.ind with
  | fin h => exact .fin (hE _ _ _ h)
  | step h1 _ ih => exact .step h1 ih
/-- The lone machine comes to such a one. -/
def To (T : Machine → Prop) (m : Machine) : Prop := ∃ m', T m' ∧ Steps (barP Try.prog) m m'
section
variable {T : Machine → Prop} {b : Frame} {a : Act} {k : List Item} {cs : List Frame} {w : World}
theorem to_step {m m' : Machine} (h : step (barP Try.prog) m = .next m') (ht : To T m') : To T m := let ⟨x, h1, h2⟩ := ht; ⟨x, h1, .head h h2⟩
theorem to_steps {m m' : Machine} (h : Steps (barP Try.prog) m m') (ht : To T m') : To T m := let ⟨x, h1, h2⟩ := ht; ⟨x, h1, h.trans h2⟩
theorem to_here {m : Machine} (h : T m) : To T m := ⟨m, h, Steps.refl _ _⟩
theorem to_seq {x y : Code} (h : To T (lone (b.at a (.code x :: .code y :: k)) cs w)) : To T (lone (b.at a (.code (.seq x y) :: k)) cs w) := to_step step_seq h
theorem to_region {id : Nat} {ops : Array Oper} (h : To T (lone (b.at a (.inRegion ops (List.range ops.size) :: k)) cs w)) : To T (lone (b.at a (.code (.region id ops false) :: k)) cs w) := to_step step_region h
theorem to_out {ops : Array Oper} (h : To T (lone (b.at a k) cs w)) : To T (lone (b.at a (.inRegion ops [] :: k)) cs w) := to_step step_region_end h
/-- A code that ends as it should. -/
theorem to_wp {x : Code} {K : Act → World → Prop} (h : x.wp (barP Try.prog) (fun e a w => e = .normal ∧ K a w) a w) (hk : ∀ a w, K a w → To T (lone (b.at a k) cs w)) : To T (lone (b.at a (.code x :: k)) cs w) := by
  obtain ⟨e, a', w', ⟨rfl, h1⟩, h2⟩ := h b k cs
  exact to_steps h2 (hk a' w' h1)
/-- A code that returns. -/
theorem to_ret {x : Code} {K : Act → World → Prop} (h : x.wp (barP Try.prog) (fun e a w => e = .ret ∧ K a w) a w) (hk : ∀ a w todo, K a w → To T (lone { b.at a todo with mode := .returning } cs w)) : To T (lone (b.at a (.code x :: k)) cs w) := by
  obtain ⟨e, a', w', ⟨rfl, h1⟩, todo, h2⟩ := h b k cs
  exact to_steps h2 (hk a' w' todo h1)
theorem to_value {ops : Array Oper} {i : Nat} {rest : List Nat} {o : Oper} {v : Value} {w' : World} (ho : ops[i]? = some o) (hw : Region.wanted o (yielded ops a.tmps) = true) (hk : b.kind ≠ .early) (hr : (execOp a.eval o).run (barP Try.prog) w = .ok (.value v) w') (ht : To T (lone (b.at (a.put o.dst v) (.inRegion ops rest :: k)) cs w')) : To T (lone (b.at a (.inRegion ops (i :: rest) :: k)) cs w) :=
  letI : Inhabited Junk := noJunk
  to_step (step_lone_of_go (Go.Conc.stepG_value ho hw hk hr)) ht
theorem to_enter {ops : Array Oper} {i : Nat} {rest : List Nat} {o : Oper} {f : FuncId} {args : Array Value} {w' : World} (ho : ops[i]? = some o) (hw : Region.wanted o (yielded ops a.tmps) = true) (hk : b.kind ≠ .early) (hr : (execOp a.eval o).run (barP Try.prog) w = .ok (.enter f args) w') (ht : To T (lone (Frame.enter (barP Try.prog) f args .normal) (b.at a (.inRegion ops (i :: rest) :: k) :: cs) w')) : To T (lone (b.at a (.inRegion ops (i :: rest) :: k)) cs w) :=
  letI : Inhabited Junk := noJunk
  to_step (step_lone_of_go (Go.Conc.stepG_enter ho hw hk hr)) ht
theorem to_leave {fr c : Frame} {v : Value} (h : fr.leaving (barP Try.prog) w (.returned v)) (ht : To T (lone (c.finish v) cs w)) : To T (lone fr (c :: cs) w) := to_step (step_leave_returned h) ht
end
end Go.Proofs.Ythbghcebcahlnaa

set_option linter.unusedSectionVars false
namespace Go.Proofs.Ythbghcebcahlnaa
open Go.RowKit

theorem wk_re {b : Nat} {w0 : World} {n g c m dc : Nat} {da : Option Addr} {t : Nat} {ps : List PD} {W : World} (τ : Nat → Question → Nat) (d : Nat) (h : Wk b w0 n g c m dc da t ps W) : Wk b w0 n g c m dc da t ps (re W τ d) :=
  ⟨h.low, h.big, h.c0, h.c1, h.row, h.c3, h.c4, h.c5, h.bins, h.new⟩
theorem alloc_old (w : World) (o : Obj) (k : Nat) (hk : k < w.heap.size) : (w.alloc o).heap[k]? = w.heap[k]? := Below.heap_alloc _ _ _ hk
theorem wk_start (w : World) (n g c m dc : Nat) (da : Option Addr) : Wk w.heap.size w n g c m dc da 0 [] (vw w n (.slice (some ⟨g, 0, none⟩) (n * n : Nat) c) da m dc) := by
  have s1 := bw1_size w n (.slice (some ⟨g, 0, none⟩) (n * n : Nat) c) da m dc
  have s2 := bw2_size w n (.slice (some ⟨g, 0, none⟩) (n * n : Nat) c) da m dc
  have s3 := bw3_size w n (.slice (some ⟨g, 0, none⟩) (n * n : Nat) c) da m dc
  have s4 := bw4_size w n (.slice (some ⟨g, 0, none⟩) (n * n : Nat) c) da m dc
  have s5 := bw5_size w n (.slice (some ⟨g, 0, none⟩) (n * n : Nat) c) da m dc
  have k6 : ∀ k, k < w.heap.size + 6 → (vw w n (.slice (some ⟨g, 0, none⟩) (n * n : Nat) c) da m dc).heap[k]? = (bw5 w n (.slice (some ⟨g, 0, none⟩) (n * n : Nat) c) da m dc).heap[k]? := fun k hk => alloc_old _ _ k (by omega)
  have k5 : ∀ k, k < w.heap.size + 5 → (bw5 w n (.slice (some ⟨g, 0, none⟩) (n * n : Nat) c) da m dc).heap[k]? = (bw4 w n (.slice (some ⟨g, 0, none⟩) (n * n : Nat) c) da m dc).heap[k]? := fun k hk => alloc_old _ _ k (by omega)
  have k4 : ∀ k, k < w.heap.size + 4 → (bw4 w n (.slice (some ⟨g, 0, none⟩) (n * n : Nat) c) da m dc).heap[k]? = (bw3 w n (.slice (some ⟨g, 0, none⟩) (n * n : Nat) c) da m dc).heap[k]? := fun k hk => alloc_old _ _ k (by omega)
  have k3 : ∀ k, k < w.heap.size + 3 → (bw3 w n (.slice (some ⟨g, 0, none⟩) (n * n : Nat) c) da m dc).heap[k]? = (bw2 w n (.slice (some ⟨g, 0, none⟩) (n * n : Nat) c) da m dc).heap[k]? := fun k hk => alloc_old _ _ k (by omega)
  have k2 : ∀ k, k < w.heap.size + 2 → (bw2 w n (.slice (some ⟨g, 0, none⟩) (n * n : Nat) c) da m dc).heap[k]? = (bw1 w n (.slice (some ⟨g, 0, none⟩) (n * n : Nat) c) da m dc).heap[k]? := fun k hk => alloc_old _ _ k (by omega)
  have n5 := heap_alloc_new (bw4 w n (.slice (some ⟨g, 0, none⟩) (n * n : Nat) c) da m dc) (.cells #[.func (.func 25) #[] #[.pointer (some ⟨w.heap.size + 4, 0, none⟩)]] 70)
  have n4 := heap_alloc_new (bw3 w n (.slice (some ⟨g, 0, none⟩) (n * n : Nat) c) da m dc) (.cells #[.int .i64 0] 68)
  have n3 := heap_alloc_new (bw2 w n (.slice (some ⟨g, 0, none⟩) (n * n : Nat) c) da m dc) (.cells #[.slice (some ⟨w.heap.size + 2, 0, none⟩) m m] 29)
  have n2 := heap_alloc_new (bw1 w n (.slice (some ⟨g, 0, none⟩) (n * n : Nat) c) da m dc) (.cells (zP m) 49)
  have n1 := heap_alloc_new (w.alloc (.cells #[.int .i64 (n : Int), .slice (some ⟨g, 0, none⟩) (n * n : Nat) c] 27)) (.cells #[.slice da m dc] 23)
  have n0 := heap_alloc_new w (.cells #[.int .i64 (n : Int), .slice (some ⟨g, 0, none⟩) (n * n : Nat) c] 27)
  rw [s4] at n5
  rw [s3] at n4
  rw [s2] at n3
  rw [s1] at n2
  rw [World.size_alloc] at n1
  have l1 : ∀ k, k < w.heap.size + 1 → (bw1 w n (.slice (some ⟨g, 0, none⟩) (n * n : Nat) c) da m dc).heap[k]? = (w.alloc (.cells #[.int .i64 (n : Int), .slice (some ⟨g, 0, none⟩) (n * n : Nat) c] 27)).heap[k]? := fun k hk => alloc_old _ _ k (by simp; omega)
  refine ⟨fun k hk => ?_, ?_, ?_, ?_, ⟨zP m, ?_, ?_, fun i hi => absurd hi (by simp)⟩, ?_, ?_, ?_, fun i hi => absurd hi (by simp), fun i hi => absurd hi (by simp)⟩
  · rw [k6 k (by omega), k5 k (by omega), k4 k (by omega), k3 k (by omega), k2 k (by omega), l1 k (by omega), alloc_old _ _ k hk]
  · show _ ≤ ((bw5 w n (.slice (some ⟨g, 0, none⟩) (n * n : Nat) c) da m dc).alloc _).heap.size
    rw [World.size_alloc, s5]
    omega
  · rw [k6 _ (by omega), k5 _ (by omega), k4 _ (by omega), k3 _ (by omega), k2 _ (by omega), l1 _ (by omega)]; exact n0
  · rw [k6 _ (by omega), k5 _ (by omega), k4 _ (by omega), k3 _ (by omega), k2 _ (by omega)]; exact n1
  · rw [k6 _ (by omega), k5 _ (by omega), k4 _ (by omega), k3 _ (by omega)]; exact n2
  · simp [zP, size_madeCells]
  · rw [k6 _ (by omega), k5 _ (by omega), k4 _ (by omega)]; exact n3
  · rw [k6 _ (by omega), k5 _ (by omega)]; exact n4
  · rw [k6 _ (by omega)]; exact n5
/-- What the worker leaves. -/
def Left (w0 : World) (n g c m dc : Nat) (da : Option Addr) (L : List (Int × Int)) (z : Nat → Int × Int) (w' : World) : Prop :=
  ∃ ps t, ps.length = m ∧ Wk w0.heap.size w0 n g c m dc da t ps w' ∧ ∀ i, i < m → (ps.getD i p0).d = L.getD i (0, 0) ∧ binsS n (L.getD i (0, 0)) = (((ps.getD i p0).nb : Int), 0) ∧ (ps.getD i p0).cb = (ps.getD i p0).nb ∧ (∀ j, j < (ps.getD i p0).nb → BinC (NonNeg (n * n) z) ((ps.getD i p0).z j) (accZ (ixN n (L.getD i (0, 0))) z (n * n) j)) ∧ ∀ j, (ps.getD i p0).iz j = (accZ (ixN n (L.getD i (0, 0))) z (n * n) j).1
theorem left_re {w0 : World} {n g c m dc : Nat} {da : Option Addr} {L : List (Int × Int)} {z : Nat → Int × Int} (w : World) (τ : Nat → Question → Nat) (d : Nat) : Left w0 n g c m dc da L z (re w τ d) ↔ Left w0 n g c m dc da L z w :=
  ⟨fun ⟨ps, t, h1, h2, h3⟩ => ⟨ps, t, h1, ⟨h2.low, h2.big, h2.c0, h2.c1, h2.row, h2.c3, h2.c4, h2.c5, h2.bins, h2.new⟩, h3⟩, fun ⟨ps, t, h1, h2, h3⟩ => ⟨ps, t, h1, wk_re τ d h2, h3⟩⟩
/-- ████ THE WORKER's WAY. ████ -/
theorem workGoes {n g c m dc gd od mz : Nat} {da : Option Addr} {L : List (Int × Int)} {f : Nat → Nat × Nat} {z : Nat → Int × Int} (w : World) (h1 : 1 ≤ n) (h2 : n ≤ 64) (hm : m ≤ 64) (hL : L.length = m)
    (hD : Dirs w da gd od L) (hd64 : ∀ i, i < m → Dir64 (L.getD i (0, 0)) ∧ okD (L.getD i (0, 0)).1 (L.getD i (0, 0)).2 = true) (hgd : 0 < m → gd < w.heap.size) (hR : Row w g (n * n) f) (hg : g < w.heap.size) (hz : ∀ j, j < n * n → Cell (f j) (z j) mz) (hmz : mz ≤ 1048576)
    (hk : ∀ (r : Nat) (o : Obj), w.heap[r]? = some o → okObj Try.prog o) (he : w.os.env = #[]) :
    GoesW (bar Try.prog (barF Try.prog)) (barF Try.prog).size (fun fr' up' w' => up' = [] ∧ (∃ T, fr' = out28 w.heap.size T) ∧ Left w n g c m dc da L z w' ∧ (∀ (r : Nat) (o : Obj), w'.heap[r]? = some o → okObj (barP Try.prog) o) ∧ w'.os.env = #[]) (fr28 Try.f28 w.heap.size) [] (vw w n (.slice (some ⟨g, 0, none⟩) (n * n : Nat) c) da m dc) := by
  letI : Inhabited Junk := noJunk
  have hs : Sib Try.prog (fun _ => False) w w := ⟨rfl, fun _ _ => .inl rfl, fun _ hx => hx.elim, hk, he⟩
  have hs2 := sib_bw hs (n : Int) (.slice (some ⟨g, 0, none⟩) (n * n : Nat) c) da m dc
  refine goesW_of_steps (P := (barP Try.prog)) Bar.again fenceB bodiesB (fun fr up w' τ d => and_congr_right fun _ => and_congr_right fun _ => and_congr_left fun _ => left_re w' τ d) ⟨?_, by simp, fun r o h => okObj_bar _ (hs2.kind r o h), hs2.env⟩ (by rw [Array.getElem?_eq_none_iff]; exact Nat.le_refl _) fun τ d => ?_
  · obtain ⟨q1, q2⟩ := ok28 w.heap.size
    refine ⟨fun i hi => ?_, q2⟩
    have : i = .code (rest28 Try.f28) := by simpa [fr28, Frame.at] using hi
    subst this
    have := q1 _ hi
    show okCode (barP Try.prog) (rest28 Try.f28) = true
    rw [show okCode (barP Try.prog) (rest28 Try.f28) = okCode (bar Try.prog (barF Try.prog)) (rest28 Try.f28) from rfl, okCode_bar]
    exact this
  · obtain ⟨e, a', w', ⟨rfl, hd', ps, t, hl, hW, hsp⟩, hA⟩ := workWp (L := L) (gd := gd) (od := od) (f := f) (z := z) (mz := mz) w (re (vw w n (.slice (some ⟨g, 0, none⟩) (n * n : Nat) c) da m dc) τ d) h1 h2 hm hL hD hd64 hgd hR hg hz hmz (wk_re τ d (wk_start w n g c m dc da)) (Go.Conc.baseD 28) [] ([] ++ [baseF (barF Try.prog).size])
    obtain ⟨T, df⟩ := a'
    obtain rfl : df = [done28 w.heap.size] := hd'
    exact ⟨out28 w.heap.size T, [], w', fun hfit => ⟨rfl, ⟨T, rfl⟩, ⟨ps, t, hl, hW, hsp⟩, hfit.kind, hfit.env⟩, hA.trans (.one step_end)⟩
end Go.Proofs.Ythbghcebcahlnaa

namespace Go.Proofs.Ythbghcebcahlnaa
open Go.RowKit Go.Shelf

theorem conv_iv {b : Nat} {n : Int} (h : Fl.IV b n) (hn : n.natAbs ≤ 4611686018427387904) (W : World) : (convert 38 3 (.float .f64 b)).run (barP Try.prog) W = .ok (.int .i64 n) W := by
  have hi := Fl.iv_toInt h
  refine run_convert_float_int (P := (barP Try.prog)) W 38 3 .f64 .i64 b n (by kernel_rfl) (by kernel_rfl) ?_
  unfold floatToIntVal
  rw [hi]
  dsimp only
  rw [if_pos ⟨by show -9223372036854775808 ≤ _; omega, by show _ ≤ 9223372036854775807; omega⟩]
set_option maxHeartbeats 400000 in
theorem sumOwn {a : Nat} {n : Int} (ha : a < 18446744073709551616) (hv : Fl.IV a n) (h0 : n = 0 → a = 0) (hn : 0 ≤ n) (hm : n ≤ 4294967296) (w : World) : Calls (barP Try.prog) 69 #[.complex .f64 a 0] w fun e w' => e = .returned (.bool false) ∧ Below w.heap.size w w' := by
  have k1 := hide (whole_any a 0 n 0 4294967296 w ha hv h0 (by omega) (by decide) Fl.iv_zero (fun _ => rfl) (by decide) (by decide))
  have hlt : (FloatKind.f64.format.order a 0 == some .lt) = false := by
    rw [show FloatKind.f64.format.order a 0 = _ from Fl.iv_order hv Fl.iv_zero]
    have : compare n 0 ≠ .lt := fun e => by have := Int.compare_eq_lt.1 e; omega
    cases hc : compare n 0 with
    | lt => exact absurd hc this
    | eq => rfl
    | gt => rfl
  clear hv h0 ha
  go_enter Bar.func69, Bar.ntmps69
  go_wp2_with fail
  refine (unhide k1).mono ?_
  rintro e w1 ⟨rfl, rfl⟩
  go_wp2_with fail
  go_ret
  exact ⟨rfl, Below.refl _ _⟩
/-- The places of a line, in their order. -/
theorem places_own {n nb j : Nat} {d : Int × Int} (h1 : 1 ≤ n) (h2 : n ≤ 64) (ho : okD d.1 d.2 = true) (hb : binsS n d = ((nb : Int), 0)) (hj : j < nb) :
    cellsS n d j = ((List.range (n * n)).filter (fun k => decide (ixN n d k = j))).map (fun i => (((i % n : Nat) : Int), ((i / n : Nat) : Int))) ∧ placesS n d j = (List.range (n * n)).filter (fun k => decide (ixN n d k = j)) := by
  have e0 : (List.range (n * n)).filter (onLine d.1 d.2 (startS n d) j n) = (List.range (n * n)).filter (fun k => decide (ixN n d k = j)) := by
    refine List.filter_congr fun k hk => ?_
    rw [List.mem_range] at hk
    have hx := ix_bounds h1 h2 ho hk
    unfold onLine ixN
    have : d.2 * ((k % n : Nat) : Int) - d.1 * ((k / n : Nat) : Int) + startS n d = ixS n d k := rfl
    rw [this]
    by_cases e : ixS n d k = (j : Int)
    · rw [decide_eq_true e, decide_eq_true (by omega)]
    · rw [decide_eq_false e, decide_eq_false (by omega)]
  have e1 : cellsS n d j = ((List.range (n * n)).filter (fun k => decide (ixN n d k = j))).map (fun i => (((i % n : Nat) : Int), ((i / n : Nat) : Int))) := by
    unfold cellsS lineS
    rw [hb]
    dsimp only
    rw [if_neg (by simp), if_neg (by omega), Int.toNat_natCast]
    unfold lineL
    rw [e0]
  refine ⟨e1, ?_⟩
  unfold placesS
  rw [e1, List.map_map]
  refine (List.map_congr_left (g := id) fun i hi => ?_).trans (List.map_id _)
  show ((((i / n : Nat) : Int) * (n : Int) + ((i % n : Nat) : Int)).toNat) = i
  rw [← Int.natCast_mul, ← Int.natCast_add, Int.toNat_natCast, Nat.mul_comm]
  exact Nat.div_add_mod i n
/-- A bin is the sum over its line. -/
theorem acc_sum (ix : Nat → Nat) (z : Nat → Int × Int) (j : Nat) : ∀ K, (accZ ix z K j).1 = sumL (fun k => (z k).1) ((List.range K).filter fun k => decide (ix k = j))
  | 0 => by simp [accZ, sumL]
  | K + 1 => by
    have ih := acc_sum ix z j K
    rw [List.range_succ, List.filter_append, sumL_append]
    unfold accZ
    by_cases e : j = ix K
    · rw [if_pos e]
      have : List.filter (fun k => decide (ix k = j)) [K] = [K] := by simp [e.symm]
      rw [this]
      show (accZ ix z K j).1 + (z K).1 = _
      rw [ih]
      simp [sumL]
    · rw [if_neg e]
      have : List.filter (fun k => decide (ix k = j)) [K] = [] := by simp; exact fun h => e h.symm
      rw [this, ih]
      simp [sumL]
end Go.Proofs.Ythbghcebcahlnaa

namespace Go.Proofs.Ythbghcebcahlnaa
open Go.RowKit

/-- Where a direction stands among the first of a list. -/
def Found (L : List (Int × Int)) (k : Nat) (d : Int × Int) (r : Int) : Prop := (r = -1 ∧ ∀ j, j < k → L.getD j (0, 0) ≠ d) ∨ ∃ j, j < k ∧ r = j ∧ L.getD j (0, 0) = d
theorem dirs_get {w : World} {a : Option Addr} {g o : Nat} {L : List (Int × Int)} (h : Dirs w a g o L) {i : Nat} (hi : i < L.length) : w.cell? ⟨g, o + i * 2, none⟩ = some (.int .i64 (L.getD i (0, 0)).1) ∧ w.cell? ⟨g, o + i * 2 + 1, none⟩ = some (.int .i64 (L.getD i (0, 0)).2) := by
  refine h.cell i _ ?_
  rw [List.getD_eq_getElem?_getD]
  cases hh : L[i]? with
  | none => rw [List.getElem?_eq_none_iff] at hh; omega
  | some x => rfl
set_option maxRecDepth 100000 in
set_option maxHeartbeats 3200000 in
theorem indexDir {a : Option Addr} {g o k cap : Nat} {L : List (Int × Int)} {x y : Int} (hk : k ≤ L.length) (hL : L.length ≤ 4096) (w : World) (h : Dirs w a g o L) :
    Calls (barP Try.prog) 41 #[.slice a k cap, .agg #[.int .i64 x, .int .i64 y]] w fun e w' => ∃ r, e = .returned (.int .i64 r) ∧ Found L k (x, y) r ∧ Below w.heap.size w w' := by
  have H := hide h
  have bx : Hid (Below w.heap.size w (w.alloc (.cells #[.int .i64 x, .int .i64 y] 47))) := (Below.refl _ _).alloc (Nat.le_refl _) _
  have b0 := cell_of (i := 0) (heap_alloc_new w (.cells #[.int .i64 x, .int .i64 y] 47)) rfl
  have b1 := cell_of (i := 1) (heap_alloc_new w (.cells #[.int .i64 x, .int .i64 y] 47)) rfl
  clear h
  go_enter Bar.func41, Bar.ntmps41
  go_wp2_with fail
  generalize w.alloc (.cells #[.int .i64 x, .int .i64 y] 47) = w1 at *
  go_loopw [8] (fun iv wr => ∃ i : Nat, i ≤ k ∧ iv = .int .i64 i ∧ Hid (wr.heap = w1.heap) ∧ Hid (Below w1.heap.size w1 wr) ∧ Hid (∀ j, j < i → L.getD j (0, 0) ≠ (x, y))) (fun iv _ => k - (intOf iv).toNat)
  case atStart => exact ⟨0, Nat.zero_le _, rfl, rfl, Below.refl _ _, fun j hj => absurd hj (by omega)⟩
  case round =>
    obtain ⟨i, hi, rfl, hh, hB, hne⟩ := hrel
    by_cases c1 : i < k
    · have q1 : ((i : Int) < (k : Int)) = True := by simp; omega
      have hda := ((unhide H).at_ (by omega)).1
      have hgl := ((unhide H).at_ (by omega)).2
      subst hda
      obtain ⟨e1, e2⟩ := dirs_get (unhide H) (i := i) (by omega)
      obtain ⟨u, v, huv⟩ : ∃ u v, L.getD i (0, 0) = (u, v) := ⟨_, _, rfl⟩
      rw [huv] at e1 e2
      have huv := hide huv
      have k1 : wr.cell? ⟨g, o + i * 2, none⟩ = some (.int .i64 u) := (heapCell (unhide hh) _).trans (((unhide bx).cell (p := ⟨g, o + i * 2, none⟩) hgl).trans e1)
      have k2 : wr.cell? ⟨g, o + i * 2 + 1, none⟩ = some (.int .i64 v) := (heapCell (unhide hh) _).trans (((unhide bx).cell (p := ⟨g, o + i * 2 + 1, none⟩) hgl).trans e2)
      have k3 : wr.cell? ⟨w.heap.size, 0, none⟩ = some (.int .i64 x) := (heapCell (unhide hh) _).trans b0
      have k4 : wr.cell? ⟨w.heap.size, 1, none⟩ = some (.int .i64 y) := (heapCell (unhide hh) _).trans b1
      clear e1 e2
      have done : ∀ r : Int, Found L k (x, y) r → ∀ wz : World, Below w1.heap.size w1 wz → ∃ r', Ending.returned (.int .i64 r) = .returned (.int .i64 r') ∧ Found L k (x, y) r' ∧ Below w.heap.size w wz := fun r hr wz hz => ⟨r, rfl, hr, (unhide bx).trans (hz.mono (unhide bx).size)⟩
      have done := hide done
      by_cases cu : x = u
      · subst cu
        by_cases cv : y = v
        · subst cv
          go_wp2_with fail
          go_quiet (fail)
          go_wp2_with fail
          go_ret
          exact unhide done i (.inr ⟨i, c1, rfl, unhide huv⟩) _ ⟨(unhide hB).os, (unhide hB).tape, (unhide hB).output, (unhide hB).size, (unhide hB).block⟩
        · have q2 : (y == v) = false := by simp; exact cv
          go_wp2_with fail
          go_quiet (fail)
          go_wp2_with fail
          have hb := unhide hB
          exact ⟨⟨i + 1, by omega, by go_num, unhide hh, ⟨hb.os, hb.tape, hb.output, hb.size, hb.block⟩, fun j hj => by
            by_cases e : j = i
            · subst e; rw [unhide huv]; intro e; exact cv (by injection e with _ e; exact e.symm)
            · exact unhide hne j (by omega)⟩, by simp [intOf]; omega⟩
      · have q2 : (x == u) = false := by simp; exact cu
        go_wp2_with fail
        go_quiet (fail)
        go_wp2_with fail
        have hb := unhide hB
        exact ⟨⟨i + 1, by omega, by go_num, unhide hh, ⟨hb.os, hb.tape, hb.output, hb.size, hb.block⟩, fun j hj => by
            by_cases e : j = i
            · subst e; rw [unhide huv]; intro e; exact cu (by injection e with e _; exact e.symm)
            · exact unhide hne j (by omega)⟩, by simp [intOf]; omega⟩
    · have q1 : ((i : Int) < (k : Int)) = False := by simp; omega
      obtain rfl : i = k := by omega
      go_wp2_with fail
      go_ret
      have hb := unhide hB
      exact ⟨-1, rfl, .inl ⟨rfl, unhide hne⟩, (unhide bx).trans (hb.mono (unhide bx).size)⟩
set_option maxRecDepth 100000 in
set_option maxHeartbeats 3200000 in
theorem containsDir {a : Option Addr} {g o k cap : Nat} {L : List (Int × Int)} {x y : Int} (hk : k ≤ L.length) (hL : L.length ≤ 4096) (w : World) (h : Dirs w a g o L) :
    Calls (barP Try.prog) 24 #[.slice a k cap, .agg #[.int .i64 x, .int .i64 y]] w fun e w' => ∃ r : Bool, e = .returned (.bool r) ∧ (r = true ↔ ∃ j, j < k ∧ L.getD j (0, 0) = (x, y)) ∧ Below w.heap.size w w' := by
  have H := hide h
  clear h
  have bx : Hid (Below w.heap.size w (w.alloc (.cells #[.int .i64 x, .int .i64 y] 47))) := (Below.refl _ _).alloc (Nat.le_refl _) _
  have b0 := cell_of (i := 0) (heap_alloc_new w (.cells #[.int .i64 x, .int .i64 y] 47)) rfl
  have b1 := cell_of (i := 1) (heap_alloc_new w (.cells #[.int .i64 x, .int .i64 y] 47)) rfl
  go_enter Bar.func24, Bar.ntmps24
  go_wp2_with fail
  generalize w.alloc (.cells #[.int .i64 x, .int .i64 y] 47) = w1 at *
  refine (indexDir hk hL w1 (dirs_below (unhide H) (unhide bx))).mono ?_
  rintro e w2 ⟨r, rfl, hr, hb⟩
  have hB := hide ((unhide bx).trans (hb.mono (unhide bx).size))
  have hr := hide hr
  clear hb
  by_cases c : (0 : Int) ≤ r
  · have q : ((0 : Int) ≤ r) = True := by simp [c]
    go_wp2_with fail
    go_ret
    refine ⟨true, rfl, ⟨fun _ => ?_, fun _ => rfl⟩, unhide hB⟩
    rcases unhide hr with ⟨e, _⟩ | ⟨j, h1, _, h3⟩
    · omega
    · exact ⟨j, h1, h3⟩
  · have q : ((0 : Int) ≤ r) = False := by simp [c]
    go_wp2_with fail
    go_ret
    refine ⟨false, rfl, ⟨fun x => (by cases x), fun ⟨j, h1, h2⟩ => ?_⟩, unhide hB⟩
    rcases unhide hr with ⟨_, e⟩ | ⟨j, h1, h3, _⟩
    · exact absurd h2 (e j h1)
    · omega
end Go.Proofs.Ythbghcebcahlnaa
