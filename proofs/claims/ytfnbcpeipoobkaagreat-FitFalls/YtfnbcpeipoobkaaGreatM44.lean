/- FitFalls: its way in company. A law's run in company, of any world. FitFalls: its run in company, of any arguments. A direction that came in, as the walk wants it. -/
import Derived.Test.YtfnbcpeipoobkaaGreatM43
import Derived.Test.YtfnbcpeipoobkaaGreatM21
import Derived.OpenShut
import Derived.ChangeOld
import Derived.ChangeSame
namespace Go.Proofs.YtfnbcpeipoobkaaGreat
open Go Go.RowKit Go.Shelf Fl Ieee

theorem bins225 {n nb : Nat} {d : Int × Int} (h1 : 1 ≤ n) (h2 : n ≤ 8) (ho : okD d.1 d.2 = true) (hb : binsS n d = ((nb : Int), 0)) : nb ≤ 225 := by
  obtain ⟨b1, b2, b3⟩ := okD_bounds ho
  unfold binsS at hb
  rw [if_neg (by omega), if_pos ho] at hb
  have e := congrArg Prod.fst hb
  dsimp only at e
  have h3 : ((n : Int) - 1) * ((d.1.natAbs : Int) + d.2) ≤ 7 * 32 := Int.mul_le_mul (by omega) (by omega) (by omega) (by decide)
  omega
theorem take_get {D : List (Int × Int)} {i : Nat} (h : i < (D.take 4).length) : (D.take 4).getD i (0, 0) = D.getD i (0, 0) ∧ i < D.length ∧ i < 4 := by
  rw [List.length_take] at h
  refine ⟨?_, by omega, by omega⟩
  rw [List.getD_eq_getElem?_getD, List.getElem?_take, if_pos (by omega), List.getD_eq_getElem?_getD]
theorem dirs_take {w : World} {a : Option Addr} {g o : Nat} {D : List (Int × Int)} (h : Dirs w a g o D) : Dirs w a g o (D.take 4) :=
  ⟨fun hl => h.at_ (by rw [List.length_take] at hl; omega), fun i c hi => h.cell i c (by
    rw [List.getElem?_take] at hi
    split at hi
    · exact hi
    · cases hi)⟩
theorem heap_cell {w w' : World} {p : Addr} (h : w'.heap[p.block]? = w.heap[p.block]?) : w'.cell? p = w.cell? p := by unfold World.cell?; rw [h]
theorem bytes_low {w w' : World} {a : Option Addr} {g o : Nat} {L : List Int} (h : Bytes w a g o L) (hl : ∀ k, k < w.heap.size → w'.heap[k]? = w.heap[k]?) (hs : w.heap.size ≤ w'.heap.size) : Bytes w' a g o L := by
  refine ⟨fun hp => ⟨(h.at_ hp).1, Nat.lt_of_lt_of_le (h.at_ hp).2 hs⟩, fun i c hi => ?_⟩
  have hp : 0 < L.length := by have := (List.getElem?_eq_some_iff.1 hi).1; omega
  exact (heap_cell (p := ⟨g, o + i, none⟩) (hl g (h.at_ hp).2)).trans (h.cell i c hi)
theorem dirs_low {w w' : World} {a : Option Addr} {g o : Nat} {L : List (Int × Int)} (h : Dirs w a g o L) (hl : ∀ k, k < w.heap.size → w'.heap[k]? = w.heap[k]?) (hs : w.heap.size ≤ w'.heap.size) : Dirs w' a g o L := by
  refine ⟨fun hp => ⟨(h.at_ hp).1, Nat.lt_of_lt_of_le (h.at_ hp).2 hs⟩, fun i c hi => ?_⟩
  have hp : 0 < L.length := by have := (List.getElem?_eq_some_iff.1 hi).1; omega
  have hb := hl g (h.at_ hp).2
  exact ⟨(heap_cell (p := ⟨g, o + i * 2, none⟩) hb).trans (h.cell i c hi).1, (heap_cell (p := ⟨g, o + i * 2 + 1, none⟩) hb).trans (h.cell i c hi).2⟩
/-- True, and the old memory as it lay. -/
def Post3 (w0 : World) (fr : Frame) (w : World) : Prop := fr.tmps.getD 6 undef = .bool true ∧ ∀ k, k < w0.heap.size → w.heap[k]? = w0.heap[k]?
/-- .. and the group lies behind it. -/
def Post3g (w0 : World) (g : Nat) (fr : Frame) (w : World) : Prop := w0.heap.size ≤ g ∧ Post3 w0 fr w
/-- The memory at the call of byWorkers, heap alone. -/
structure Mem7 (w0 : World) (b1 n gg gb : Nat) (L : List Int) (w : World) : Prop where
  low : ∀ k, k < w0.heap.size → w.heap[k]? = w0.heap[k]?
  big : w0.heap.size ≤ b1 ∧ b1 + 2 ≤ w.heap.size
  g0 : w.heap[gb]? = some (.cells #[.int .i64 n, .slice (some ⟨gg, 0, none⟩) (n * n : Nat) (n * n : Nat)] 27)
  gbl : gb < b1
  ggl : gg < b1
  row : Row w gg (n * n) (smallB L)
  c0 : w.heap[b1]? = some (.cells #[.int .i64 n, .slice (some ⟨gg, 0, none⟩) (n * n : Nat) (n * n : Nat)] 27)
  c1 : w.heap[b1 + 1]? = some (.cells #[.int .i64 0, .slice none 0 0] 33)
theorem kc_bin {nn : Prop} {b : Nat × Nat} {ix : Nat → Nat} {L : List Int} {n j : Nat} (h2 : n ≤ 8) (h : BinC nn b (accZ ix (smallZ L) (n * n) j)) : KC b := by
  have hsq : n * n ≤ 64 := Nat.mul_le_mul h2 h2
  have hs := (accZ_sm (ix := ix) (v := smallZ L) (C := 128) (k := n * n) (fun i _ => (dc_small L i).2) j).mono (Nat.mul_le_mul_right 128 hsq)
  exact ⟨_, ⟨dv_iv h.ic.one, dv_iv h.ic.two, h.lt1, h.lt2⟩, hs.mono (by decide)⟩
set_option maxRecDepth 100000 in
set_option maxHeartbeats 4000000 in
/-- From the join to the end. -/
theorem law_end {T : Machine → Prop} {cs : List Frame} {w0 w w1 w2 : World} {n gg gb m dc gs os sc : Nat} {da sa : Option Addr} {L S : List Int} {D : List (Int × Int)} {a : Act} {lv dv v7 : Value} {T0 : List Value} {s0 s1 : Bool} (h1 : 1 ≤ n) (h2 : n ≤ 8) (hSl : S.length ≤ 9223372036854775807) (hB : Bytes w0 sa gs os S) (hG : GoodDirs D) (hD : D.length = m) (hm4 : m ≤ 4)
    (hs : s1 = true → s0 = true) (hT : Tm7 w1 (.slice da m dc) T0) (hM : Mem7 w0 w1.heap.size n gg gb L w) (hA : Tm3 a lv (.slice sa S.length sc) dv v7 (.pointer (some ⟨gb, 0, none⟩))) (hF : Left w n gg (n * n) m dc da D (smallZ L) w2)
    (ht : ∀ fr w5, Out 3 fr [] → Post3 w0 fr w5 → To T (lone fr cs w5)) :
    To T (lone (fr15 Tryz.f11 w.heap.size n (.slice (some ⟨gg, 0, none⟩) (n * n : Nat) (n * n : Nat)) da m dc) (fr7 Tryz.f5 T0 w1.heap.size n (.slice (some ⟨gg, 0, none⟩) (n * n : Nat) (n * n : Nat)) (.slice da m dc) s0 s1 :: fr3 Tryz.f3 a :: cs) w2) := by
  obtain ⟨b1, b2⟩ := hM.big
  have hgb := hM.gbl
  have hgg := hM.ggl
  obtain ⟨ps, t, hps, hW, hsp⟩ := hF
  have low2 : ∀ k, k < w.heap.size → w2.heap[k]? = w.heap[k]? := hW.low
  have big2 := hW.big
  refine bw_back hW.c3 ?_
  refine all_back hs hT ((low2 _ (by omega)).trans hM.c0) ((low2 _ (by omega)).trans hM.c1) fun w3 hE => ?_
  refine law_upto hA fun a' hA' e10 e11 => ?_
  have s3 := hE.size
  have low3 : ∀ k, k < w.heap.size → k ≠ w1.heap.size + 1 → w3.heap[k]? = w.heap[k]? := fun k hk hn => (hE.block k hn).trans (low2 k hk)
  have al : ∀ k, k < w3.heap.size → (w3.alloc (.cells #[.int .i64 n, .slice (some ⟨w.heap.size + 2, 0, none⟩) m m] 33)).heap[k]? = w3.heap[k]? := fun k hk => alloc_old _ _ k hk
  have hlt : ∀ i, i < ps.length → (ps.getD i p0).gb < w2.heap.size := fun i hi => vrow_lt (hW.bins i hi)
  have hH : HandF w.heap.size (w3.alloc (.cells #[.int .i64 n, .slice (some ⟨w.heap.size + 2, 0, none⟩) m m] 33)) n gg gb w3.heap.size (w.heap.size + 2) ps (smallB L) := by
    refine ⟨(al gb (by omega)).trans ((low3 gb (by omega) (by omega)).trans hM.g0), ?_, row_keep hM.row ((al gg (by omega)).trans (low3 gg (by omega) (by omega))), by rw [World.size_alloc]; omega, fun i hi => ?_, fun i hi => ?_, fun i hi => ?_, fun i hi => ?_⟩
    · rw [hps]
      exact heap_alloc_new w3 _
    · have e : (w3.alloc (.cells #[.int .i64 n, .slice (some ⟨w.heap.size + 2, 0, none⟩) m m] 33)).heap[w.heap.size + 2]? = w2.heap[w.heap.size + 2]? := (al _ (by omega)).trans (hE.block _ (by omega))
      obtain ⟨cur, k1, k2, k3⟩ := hW.row
      obtain ⟨c1, c2, c3⟩ := k3 i hi
      have hcb := (hsp i (by omega)).2.2.1
      rw [hcb] at c3
      exact ⟨(block_cell (e.trans k1) _).trans c1, (block_cell (e.trans k1) _).trans c2, (block_cell (e.trans k1) _).trans c3⟩
    · have hn := hW.new i hi
      have hl := hlt i hi
      obtain ⟨cur, k1, k2, k3⟩ := hW.bins i hi
      have e : (w3.alloc (.cells #[.int .i64 n, .slice (some ⟨w.heap.size + 2, 0, none⟩) m m] 33)).heap[(ps.getD i p0).gb]? = w2.heap[(ps.getD i p0).gb]? := (al _ (by omega)).trans (hE.block _ (by omega))
      exact ⟨cur, e.trans k1, k2, fun j hj => ⟨(ps.getD i p0).z j, k3 j hj, kc_bin h2 ((hsp i (by omega)).2.2.2.1 j hj)⟩⟩
    · obtain ⟨e1, e2, _⟩ := hsp i (by omega)
      have ho := (hG.2 i (by omega)).1
      rw [e1]
      exact ⟨ho, e2, bins225 h1 h2 ho e2⟩
    · have hn := hW.new i hi
      have hl := hlt i hi
      exact ⟨by omega, by omega, by omega, by omega, by omega⟩
  have hBW : Bytes (w3.alloc (.cells #[.int .i64 n, .slice (some ⟨w.heap.size + 2, 0, none⟩) m m] 33)) sa gs os S := bytes_low hB (fun k hk => (al k (by omega)).trans ((low3 k (by omega) (by omega)).trans (hM.low k hk))) (by rw [World.size_alloc]; omega)
  refine to_ret (K := fun a w' => a.defers = [] ∧ a.tmps[6]?.getD undef = .bool true ∧ Below w.heap.size (w3.alloc (.cells #[.int .i64 n, .slice (some ⟨w.heap.size + 2, 0, none⟩) m m] 33)) w') (by rw [act_eta a' hA'.size hA'.defers, hA'.e1, hA'.e8, e10, e11]; exact rest3Ok _ h1 h2 hSl (by omega) (by rw [World.size_alloc]; omega) hH hBW (fun hp => by have := (hB.at_ hp).2; omega)) ?_
  rintro a5 w5 todo ⟨hd, h6, hb⟩
  refine ht _ _ ⟨rfl, rfl, hd, rfl, rfl⟩ ⟨?_, fun k hk => ?_⟩
  · simpa [Frame.at] using h6
  · rw [hb.block k (by omega), al k (by omega), low3 k (by omega) (by omega), hM.low k hk]
/-- The law stands in All at its call of byWorkers. -/
def E1 (w0 : World) (L : List Int) (da : Option Addr) (m dc : Nat) (lv bv : Value) (fr : Frame) (up : List Frame) (w : World) : Prop :=
  FitB (barP Tryz.prog) fr up w ∧ ∃ n w1 gg gb a T0 s0 s1, 1 ≤ n ∧ n ≤ 8 ∧ (s1 = true → s0 = true) ∧ Tm7 w1 (.slice da m dc) T0 ∧ Mem7 w0 w1.heap.size n gg gb L w ∧ Tm3 a lv bv (.slice da m dc) (.int .i64 (n : Nat)) (.pointer (some ⟨gb, 0, none⟩)) ∧
    fr = fr7 Tryz.f5 T0 w1.heap.size n (.slice (some ⟨gg, 0, none⟩) (n * n : Nat) (n * n : Nat)) (.slice da m dc) s0 s1 ∧ up = [fr3 Tryz.f3 a]
theorem fit_blind {P : Program} {fr : Frame} {up : List Frame} {w : World} (τ : Nat → Question → Nat) (d : Nat) : FitB P fr up (re w τ d) ↔ FitB P fr up w := ⟨fun h => ⟨h.frame, h.up, h.kind, h.env⟩, fun h => ⟨h.frame, h.up, h.kind, h.env⟩⟩
theorem mem7_blind {w0 w : World} {b1 n gg gb : Nat} {L : List Int} (τ : Nat → Question → Nat) (d : Nat) : Mem7 w0 b1 n gg gb L (re w τ d) ↔ Mem7 w0 b1 n gg gb L w :=
  ⟨fun h => ⟨h.low, h.big, h.g0, h.gbl, h.ggl, h.row, h.c0, h.c1⟩, fun h => ⟨h.low, h.big, h.g0, h.gbl, h.ggl, h.row, h.c0, h.c1⟩⟩
theorem e1_blind {w0 : World} {L : List Int} {da : Option Addr} {m dc : Nat} {lv bv : Value} (fr : Frame) (up : List Frame) (w : World) (τ : Nat → Question → Nat) (d : Nat) : E1 w0 L da m dc lv bv fr up (re w τ d) ↔ E1 w0 L da m dc lv bv fr up w := by
  unfold E1
  simp only [fit_blind, mem7_blind]
theorem ok15B (b : Nat) (n : Int) (cS : Value) (da : Option Addr) (m dc : Nat) : okFrame (barP Tryz.prog) (fr15 Tryz.f11 b n cS da m dc) := by
  letI : Inhabited Junk := noJunk
  have h1 : okCode (barP Tryz.prog) (rest15 Tryz.f11) = true := by
    rw [show okCode (barP Tryz.prog) (rest15 Tryz.f11) = okCode (bar Tryz.prog (barF Tryz.prog)) (rest15 Tryz.f11) from rfl, okCode_bar]
    kernel_rfl
  have h2 : ((ops15 Tryz.f11).all fun o => okOp (barP Tryz.prog) o.op) = true := by kernel_rfl
  refine ⟨fun i hi => ?_, fun d hd => ?_⟩
  · have : i = .inRegion (ops15 Tryz.f11) [] ∨ i = .code (rest15 Tryz.f11) := by simpa [fr15, Frame.at] using hi
    rcases this with rfl | rfl
    · exact h2
    · exact h1
  · simp [fr15, Frame.at] at hd
set_option maxRecDepth 100000 in
theorem good_goes {w0 : World} {gl ol lc gd od dc gs os sc : Nat} {la da sa : Option Addr} {L S : List Int} {D : List (Int × Int)} (hLl : L.length ≤ 9223372036854775807) (hSl : S.length ≤ 9223372036854775807) (hB : Bytes w0 la gl ol L) (hBS : Bytes w0 sa gs os S) (hD : Dirs w0 da gd od D) (hDl : D.length ≤ 9223372036854775807) (hI : ∀ i, i < D.length → I64 (D.getD i (0, 0)).1 ∧ I64 (D.getD i (0, 0)).2) (hcap : D.length ≤ dc) (hG : GoodDirs (D.take 4))
    (hfit : FitB (barP Tryz.prog) (Frame.enter (barP Tryz.prog) 3 #[.slice la L.length lc, .slice sa S.length sc, .slice da D.length dc] .normal) [] w0) :
    GoesW (bar Tryz.prog (barF Tryz.prog)) (barF Tryz.prog).size (Pieces 3 (Post3 w0) (Post3g w0)) (Frame.enter (barP Tryz.prog) 3 #[.slice la L.length lc, .slice sa S.length sc, .slice da D.length dc] .normal) [] w0 := by
  letI : Inhabited Junk := noJunk
  have hr : (barF Tryz.prog)[(barF Tryz.prog).size]? = none := by rw [Array.getElem?_eq_none_iff]; exact Nat.le_refl _
  have hl4 : (D.take 4).length ≤ 4 := by rw [List.length_take]; omega
  have hD4 := dirs_take hD
  have hI4 : ∀ i, i < (D.take 4).length → I64 ((D.take 4).getD i (0, 0)).1 ∧ I64 ((D.take 4).getD i (0, 0)).2 := fun i hi => by
    obtain ⟨e1, e2, _⟩ := take_get hi
    rw [e1]
    exact hI i e2
  have hcap4 : (D.take 4).length ≤ dc := by rw [List.length_take]; omega
  have hda : 0 < D.length → ∃ g o, da = some ⟨g, o, none⟩ := fun hp => ⟨gd, od, (hD.at_ hp).1⟩
  refine goesW_mono (E := E1 w0 L da (D.take 4).length dc (.slice la L.length lc) (.slice sa S.length sc)) ?mono (goesW_of_steps (P := (barP Tryz.prog)) Bar.again fenceB bodiesB e1_blind hfit hr fun τ d => ?_)
  case mono =>
    rintro fr up w ⟨hf, n, w1, gg, gb, a, T0, s0, s1, h1, h2, hs, htm, hM, hA, rfl, rfl⟩
    obtain ⟨b1, b2⟩ := hM.big
    have hgg := hM.ggl
    refine .inr ⟨n, (.slice (some ⟨gg, 0, none⟩) (n * n : Nat) (n * n : Nat)), da, (D.take 4).length, dc, fun w' => Left w n gg (n * n) (D.take 4).length dc da (D.take 4) (smallZ L) w' ∧ (∀ (r : Nat) (o : Obj), w'.heap[r]? = some o → okObj (barP Tryz.prog) o) ∧ w'.os.env = #[], fr7_call htm.len hG.1 _, ⟨(barF Tryz.prog).size, ?_⟩, ?_⟩
    · refine workGoes (gd := gd) (od := od) (mz := 128) (f := smallB L) w h1 (by omega) hG.1 rfl (dirs_low hD4 hM.low (by omega)) (fun i hi => ?_) (fun hp => by have := (hD4.at_ hp).2; omega) hM.row (by omega) (fun j _ => small_cell L j) (by decide) (fun r o ho => okObj_unbar o (hf.kind r o ho)) hf.env
      have ho := (hG.2 i hi).1
      obtain ⟨q1, q2, q3⟩ := okD_bounds ho
      exact ⟨⟨by unfold I64; omega, by unfold I64; omega⟩, ho⟩
    · rintro w2 ⟨hF, hk, he⟩
      refine ⟨(barF Tryz.prog).size, goesW_of_steps (P := (barP Tryz.prog)) Bar.again fenceB bodiesB (fun fr up w τ d => Iff.rfl) ⟨ok15B _ _ _ _ _ _, ?_, hk, he⟩ hr fun τ d => ?_⟩
      · intro f hf'
        rcases List.mem_cons.1 hf' with rfl | hf'
        · exact hf.frame
        · exact hf.up f hf'
      · have hF' : Left w n gg (n * n) (D.take 4).length dc da (D.take 4) (smallZ L) (re w2 τ d) := (left_re w2 τ d).2 hF
        obtain ⟨m', ⟨fr, w5, rfl, ho, hp⟩, hst⟩ := law_end (T := fun m => ∃ fr w5, m = lone fr ([] ++ [baseF (barF Tryz.prog).size]) w5 ∧ Out 3 fr [] ∧ Post3 w0 fr w5) (cs := [baseF (barF Tryz.prog).size]) h1 h2 hSl hBS hG rfl hl4 hs htm hM hA hF' fun fr w5 ho hp => to_here ⟨fr, w5, rfl, ho, hp⟩
        exact ⟨fr, [], w5, fun _ => ⟨ho, by omega, hp⟩, hst⟩
  · obtain ⟨m', ⟨fr, up, w, rfl, h⟩, hst⟩ := law_to (T := fun m => ∃ fr up w, m = lone fr (up ++ [baseF (barF Tryz.prog).size]) w ∧ (FitB (barP Tryz.prog) fr up w → E1 w0 L da (D.take 4).length dc (.slice la L.length lc) (.slice sa S.length sc) fr up w)) (cs := [baseF (barF Tryz.prog).size]) (lc := lc) (dc := dc) (bv := .slice sa S.length sc) (gl := gl) (ol := ol) (re w0 τ d) hLl ⟨hB.at_, hB.cell⟩ hcap hda fun a w1 n gg gb h1 h2 hI3 hA => by
      have hD1 : Dirs (re w0 τ d) da gd od (D.take 4) := ⟨hD4.at_, hD4.cell⟩
      refine all_to (f := smallB L) (z := smallZ L) (mz := 128) w1 h1 (by omega) hI3.row (fun j _ => small_cell L j) (by decide) (dirs_below hD1 hI3.low) hI4 hcap4 hG fun w2 T0 s0 s1 hs hin htm => ?_
      refine to_here ⟨_, [_], w2, rfl, fun hfit => ⟨hfit, n, w1, gg, gb, a, T0, s0, s1, h1, h2, hs, htm, ?_, hA, rfl, rfl⟩⟩
      have lb := (Array.getElem?_eq_some_iff.1 hI3.g0).1
      have lg := row_lt hI3.row
      have lc1 := (Array.getElem?_eq_some_iff.1 hin.c1).1
      have sz : w0.heap.size ≤ w1.heap.size := hI3.low.size
      exact ⟨fun k hk => (hin.low.block k (by omega)).trans (hI3.low.block k hk), ⟨sz, by omega⟩, (hin.low.block gb lb).trans hI3.g0, lb, lg, row_below hI3.row hin.low lg, hin.c0, hin.c1⟩
    exact ⟨fr, up, w, h, hst⟩
set_option maxRecDepth 100000 in
set_option maxHeartbeats 4000000 in
theorem tailBad {n gg gb gd od m dc : Nat} {da : Option Addr} {L : List Int} {D : List (Int × Int)} {x0 x1 x3 x4 x5 x6 x7 x9 x10 x11 x12 x13 x14 x15 x16 x17 x18 x19 x20 x21 x22 x23 x24 x25 x26 x27 x28 x29 x30 x31 x32 x33 x34 x35 x36 x37 x38 x39 x40 x41 x42 x43 x44 x45 x46 x47 x48 x49 x50 x51 x52 x53 x54 x55 x56 x57 x58 x59 x60 x61 x62 x63 x64 x65 x66 x67 x68 x69 x70 x71 x72 x73 x74 x75 x76 x77 x78 x79 x80 x81 x82 x83 x84 x85 x86 x87 x88 x89 x90 x91 x92 x93 x94 x95 x96 x97 x98 x99 x100 x101 x102 x103 x104 x105 x106 x107 x108 x109 x110 x111 x112 x113 x114 x115 x116 x117 x118 x119 x120 x121 x122 x123 x124 x125 x126 x127 x128 x129 x130 x131 x132 x133 x134 x135 x136 x137 x138 x139 x140 x141 x142 x143 x144 x145 x146 x147 x148 x149 x150 x151 x152 x153 x154 x155 x156 x157 x158 x159 x160 x161 x162 x163 x164 x165 x166 x167 x168 x169 x170 x171 x172 x173 x174 x175 x176 x177 x178 x179 x180 : Value} (h1 : 1 ≤ n) (h2 : n ≤ 8) (w : World) (g0 : w.heap[gb]? = some (.cells #[.int .i64 n, .slice (some ⟨gg, 0, none⟩) (n * n : Nat) (n * n : Nat)] 27)) (hR : Row w gg (n * n) (smallB L)) (hD : Dirs w da gd od D) (hm : D.length = m) (hl : m ≤ 4) (hI : ∀ i, i < D.length → I64 (D.getD i (0, 0)).1 ∧ I64 (D.getD i (0, 0)).2) (hcap : m ≤ dc) (hG : ¬ GoodDirs D) :
    Code.wp (barP Tryz.prog) (csnd (csnd (csnd (csnd (csnd (csnd (csnd (body3 Tryz.f3)))))))) (fun e a w' => e = .ret ∧ a.defers = [] ∧ a.tmps[6]?.getD undef = .bool true ∧ Below w.heap.size w w') ⟨#[x0, x1, .slice da m dc, x3, x4, x5, x6, x7, .pointer (some ⟨gb, 0, none⟩), x9, x10, x11, x12, x13, x14, x15, x16, x17, x18, x19, x20, x21, x22, x23, x24, x25, x26, x27, x28, x29, x30, x31, x32, x33, x34, x35, x36, x37, x38, x39, x40, x41, x42, x43, x44, x45, x46, x47, x48, x49, x50, x51, x52, x53, x54, x55, x56, x57, x58, x59, x60, x61, x62, x63, x64, x65, x66, x67, x68, x69, x70, x71, x72, x73, x74, x75, x76, x77, x78, x79, x80, x81, x82, x83, x84, x85, x86, x87, x88, x89, x90, x91, x92, x93, x94, x95, x96, x97, x98, x99, x100, x101, x102, x103, x104, x105, x106, x107, x108, x109, x110, x111, x112, x113, x114, x115, x116, x117, x118, x119, x120, x121, x122, x123, x124, x125, x126, x127, x128, x129, x130, x131, x132, x133, x134, x135, x136, x137, x138, x139, x140, x141, x142, x143, x144, x145, x146, x147, x148, x149, x150, x151, x152, x153, x154, x155, x156, x157, x158, x159, x160, x161, x162, x163, x164, x165, x166, x167, x168, x169, x170, x171, x172, x173, x174, x175, x176, x177, x178, x179, x180], []⟩ w := by
  have kA := allBad (c := n * n) (cap := dc) (f := smallB L) (z := smallZ L) (mz := 128) w h1 (by omega) hR (fun j _ => small_cell L j) (by decide) hD (by omega) hI (by omega) hG
  unfold gridV at kA
  rw [hm] at kA
  have c0 : w.cell? ⟨gb, 0, none⟩ = some (.int .i64 n) := by simp [World.cell?, g0]
  have c1 : w.cell? ⟨gb, 1, none⟩ = some (.slice (some ⟨gg, 0, none⟩) (n * n : Nat) (n * n : Nat)) := by simp [World.cell?, g0]
  have kA := hide kA
  clear hR hD hI hG g0
  obtain ⟨NN, hNN⟩ : ∃ NN, n * n = NN := ⟨_, rfl⟩
  rw [hNN] at kA c1
  clear hNN
  simp only [body3, csnd, Tryz.f3, Option.getD_some]
  go_wp2_with fail
  refine (unhide kA).mono ?_
  rintro e w3 ⟨r, hr, rfl, hb3⟩
  have q : (r = 0) = False := by simpa using hr
  have B4 := hide (hb3.alloc hb3.size (.cells #[.int .i64 0, .slice none 0 0] 33))
  clear hb3 kA
  go_wp2_with fail
  exact unhide B4
set_option maxRecDepth 100000 in
theorem bad_goes {w0 : World} {gl ol lc gd od dc sc : Nat} {la da sa : Option Addr} {L S : List Int} {D : List (Int × Int)} (hLl : L.length ≤ 9223372036854775807) (hB : Bytes w0 la gl ol L) (hD : Dirs w0 da gd od D) (hDl : D.length ≤ 9223372036854775807) (hI : ∀ i, i < D.length → I64 (D.getD i (0, 0)).1 ∧ I64 (D.getD i (0, 0)).2) (hcap : D.length ≤ dc) (hG : ¬ GoodDirs (D.take 4))
    (hfit : FitB (barP Tryz.prog) (Frame.enter (barP Tryz.prog) 3 #[.slice la L.length lc, .slice sa S.length sc, .slice da D.length dc] .normal) [] w0) :
    GoesW (bar Tryz.prog (barF Tryz.prog)) (barF Tryz.prog).size (Pieces 3 (Post3 w0) (Post3g w0)) (Frame.enter (barP Tryz.prog) 3 #[.slice la L.length lc, .slice sa S.length sc, .slice da D.length dc] .normal) [] w0 := by
  letI : Inhabited Junk := noJunk
  have hr : (barF Tryz.prog)[(barF Tryz.prog).size]? = none := by rw [Array.getElem?_eq_none_iff]; exact Nat.le_refl _
  have hl4 : (D.take 4).length ≤ 4 := by rw [List.length_take]; omega
  have hD4 := dirs_take hD
  have hI4 : ∀ i, i < (D.take 4).length → I64 ((D.take 4).getD i (0, 0)).1 ∧ I64 ((D.take 4).getD i (0, 0)).2 := fun i hi => by
    obtain ⟨e1, e2, _⟩ := take_get hi
    rw [e1]
    exact hI i e2
  have hcap4 : (D.take 4).length ≤ dc := by rw [List.length_take]; omega
  have hda : 0 < D.length → ∃ g o, da = some ⟨g, o, none⟩ := fun hp => ⟨gd, od, (hD.at_ hp).1⟩
  refine goesW_mono (E := fun fr up w => Out 3 fr up ∧ Post3 w0 fr w) (fun fr up w h => .inl h) (goesW_of_steps (P := (barP Tryz.prog)) Bar.again fenceB bodiesB (fun fr up w τ d => Iff.rfl) hfit hr fun τ d => ?_)
  obtain ⟨m', ⟨fr, w5, rfl, ho, hp⟩, hst⟩ := law_pre (T := fun m => ∃ fr w5, m = lone fr ([] ++ [baseF (barF Tryz.prog).size]) w5 ∧ Out 3 fr [] ∧ Post3 w0 fr w5) (cs := [baseF (barF Tryz.prog).size]) (lc := lc) (dc := dc) (bv := .slice sa S.length sc) (gl := gl) (ol := ol) (re w0 τ d) hLl ⟨hB.at_, hB.cell⟩ hcap hda fun a w1 n gg gb h1 h2 hI3 hA => by
    have hD1 : Dirs (re w0 τ d) da gd od (D.take 4) := ⟨hD4.at_, hD4.cell⟩
    refine to_ret (K := fun a w' => a.defers = [] ∧ a.tmps[6]?.getD undef = .bool true ∧ Below w1.heap.size w1 w') (by rw [act_eta a hA.size hA.defers, hA.e2, hA.e8]; exact tailBad h1 h2 w1 hI3.g0 hI3.row (dirs_below hD1 hI3.low) rfl hl4 hI4 hcap4 hG) ?_
    rintro a5 w5 todo ⟨hd, h6, hb⟩
    have sz : w0.heap.size ≤ w1.heap.size := hI3.low.size
    refine to_here ⟨_, w5, rfl, ⟨rfl, rfl, hd, rfl, rfl⟩, ?_, fun k hk => ?_⟩
    · simpa [Frame.at] using h6
    · exact (hb.block k (by omega)).trans (hI3.low.block k hk)
  exact ⟨fr, [], w5, fun _ => ⟨ho, hp⟩, hst⟩
end Go.Proofs.YtfnbcpeipoobkaaGreat

namespace Go.Proofs.YtfnbcpeipoobkaaGreat
open Go Go.Conc Go.RowKit Go.Shelf

/-- What lies there is what lay in W. -/
abbrev keepJunk (W : World) : Inhabited Junk := ⟨⟨fun r o => o = W.heap[r]?⟩⟩
/-- What is not known, hidden by a dead view. -/
def cleanO (t : TypeId) (o : Obj) : Obj := if hides o = true then .view ⟨0, 0, some 0⟩ t else o
def clean (t : TypeId) (W : World) : World := { W with heap := W.heap.map (cleanO t), os := { W.os with env := #[] } }
theorem clean_at (t : TypeId) (W : World) (r : Nat) : (clean t W).heap[r]? = (W.heap[r]?).map (cleanO t) := by simp [clean]
theorem clean_size (t : TypeId) (W : World) : (clean t W).heap.size = W.heap.size := by simp [clean]
theorem clean_cell {t : TypeId} {W : World} {p : Addr} {x : Value} (h : W.cell? p = some x) : (clean t W).cell? p = some x := by
  unfold World.cell? at h ⊢
  rw [clean_at]
  cases hh : W.heap[p.block]? with
  | none => rw [hh] at h; cases h
  | some o =>
    rw [hh] at h
    cases o with
    | cells c e f => exact h
    | _ => cases h
theorem clean_ok (P : Program) (t : TypeId) (o : Obj) : okObj P (cleanO t o) := by
  cases o with
  | deferred d => exact (rfl : (some 0 : Option Nat).isSome = true)
  | loop l => exact (rfl : (some 0 : Option Nat).isSome = true)
  | view a t => exact (rfl : (some 0 : Option Nat).isSome = true)
  | pending => exact (rfl : (some 0 : Option Nat).isSome = true)
  | _ => trivial
theorem clean_kind (P : Program) (t : TypeId) (W : World) (r : Nat) (o : Obj) (h : (clean t W).heap[r]? = some o) : okObj P o := by
  rw [clean_at] at h
  obtain ⟨x, _, rfl⟩ := Option.map_eq_some_iff.1 h
  exact clean_ok P t x
theorem clean_sib (t : TypeId) (W : World) : @Sib (keepJunk W) Tryz.prog (fun _ => False) (clean t W) W := by
  letI : Inhabited Junk := keepJunk W
  refine ⟨(clean_size t W).symm, fun r _ => ?_, fun r hr => hr.elim, fun r o h => clean_kind _ t W r o h, rfl⟩
  rw [clean_at]
  cases h : W.heap[r]? with
  | none => exact .inl rfl
  | some o =>
    by_cases c : hides o = true
    · refine .inr ⟨h.symm, ⟨0, 0, some 0⟩, t, o, rfl, ?_, rfl, c⟩
      show some (cleanO t o) = _
      unfold cleanO
      rw [if_pos c]
    · refine .inl ?_
      show _ = some (cleanO t o)
      unfold cleanO
      rw [if_neg c]
theorem clean_bytes {t : TypeId} {W : World} {a : Option Addr} {g o : Nat} {L : List Int} (h : Bytes W a g o L) : Bytes (clean t W) a g o L :=
  ⟨fun hl => ⟨(h.at_ hl).1, (clean_size t W).symm ▸ (h.at_ hl).2⟩, fun i c hi => clean_cell (h.cell i c hi)⟩
theorem clean_dirs {t : TypeId} {W : World} {a : Option Addr} {g o : Nat} {L : List (Int × Int)} (h : Dirs W a g o L) : Dirs (clean t W) a g o L :=
  ⟨fun hl => ⟨(h.at_ hl).1, (clean_size t W).symm ▸ (h.at_ hl).2⟩, fun i c hi => ⟨clean_cell (h.cell i c hi).1, clean_cell (h.cell i c hi).2⟩⟩

/-- True, and all that lay there lies there, or a dead view does. -/
def PostT (t : TypeId) (W : World) (v : Value) (w' : World) : Prop := v = .bool true ∧ w'.os = W.os ∧ w'.output = W.output ∧ w'.tape = W.tape ∧ ∀ k, k < W.heap.size → w'.heap[k]? = W.heap[k]? ∨ w'.heap[k]? = some (.view ⟨0, 0, some 0⟩ t)
theorem kept_of {t : TypeId} {W w v : World} {V : Nat → Prop} (hs : @Sib (keepJunk W) Tryz.prog V w v) {k : Nat} (hV : ¬ V k) (hw : w.heap[k]? = (clean t W).heap[k]?) : v.heap[k]? = W.heap[k]? ∨ v.heap[k]? = some (.view ⟨0, 0, some 0⟩ t) := by
  letI : Inhabited Junk := keepJunk W
  rcases hs.like k hV with e | ⟨hj, _⟩
  · rw [e, hw, clean_at]
    cases h : W.heap[k]? with
    | none => exact .inl rfl
    | some o =>
      by_cases c : hides o = true
      · refine .inr ?_
        show some (cleanO t o) = _
        unfold cleanO
        rw [if_pos c]
      · refine .inl ?_
        show some (cleanO t o) = _
        unfold cleanO
        rw [if_neg c]
  · exact .inl hj
/-- One machine ends in one way: what two looks say of it holds at once. -/
theorem run_both {P : Program} {m : Machine} {A B : Value → World → Prop}
    (h1 : ∃ M last o w' t', runNT P (M + 1) m #[] = (.ended o w', t') ∧ runN P M m = .next last ∧ step P last = .ended o w' ∧ Go.Conc.Good P A last o w' t')
    (h2 : ∃ M last o w' t', runNT P (M + 1) m #[] = (.ended o w', t') ∧ runN P M m = .next last ∧ step P last = .ended o w' ∧ Go.Conc.Good P B last o w' t') :
    ∃ M last o w' t', runNT P (M + 1) m #[] = (.ended o w', t') ∧ runN P M m = .next last ∧ step P last = .ended o w' ∧ Go.Conc.Good P (fun v w => A v w ∧ B v w) last o w' t' := by
  obtain ⟨M, last, o, w', t', a1, a2, a3, a4⟩ := h1
  obtain ⟨M2, last2, o2, w2, t2, b1, b2, b3, b4⟩ := h2
  have late : ∀ (K j : Nat) (l x : Machine) (o : Outcome) (w : World), runN P K m = .next l → step P l = .ended o w → runN P (K + (j + 1)) m = .next x → False := by
    intro K j l x o w e1 e2 e3
    rw [runN_add, e1] at e3
    have e4 : runN P (j + 1) l = .ended o w := by
      unfold runN
      rw [e2]
    have e5 : runN P (j + 1) l = .next x := e3
    rw [e4] at e5
    cases e5
  have hM : M = M2 := by
    rcases Nat.lt_trichotomy M M2 with h | h | h
    · exact (late M (M2 - M - 1) last last2 o w' a2 a3 (by rw [show M + (M2 - M - 1 + 1) = M2 by omega]; exact b2)).elim
    · exact h
    · exact (late M2 (M - M2 - 1) last2 last o2 w2 b2 b3 (by rw [show M2 + (M - M2 - 1 + 1) = M by omega]; exact a2)).elim
  subst hM
  rw [a2] at b2
  rw [a1] at b1
  injection b2 with e1
  injection b1 with e2 e3
  injection e2 with e4 e5
  subst e1 e3 e4 e5
  obtain ⟨v, rfl, c1, c2⟩ := a4
  obtain ⟨v2, d0, d1, d2⟩ := b4
  injection d0 with d0
  subst d0
  exact ⟨M, last, _, w', t', a1, a2, a3, v, rfl, ⟨c1, d1⟩, c2⟩
theorem both_kept {W w' : World} {v : Value} (h0 : PostT 0 W v w') (h1 : PostT 1 W v w') : v = .bool true ∧ Below W.heap.size W w' := by
  have key : ∀ k, k < W.heap.size → w'.heap[k]? = W.heap[k]? := by
    intro k hk
    rcases h0.2.2.2.2 k hk with e | e
    · exact e
    · rcases h1.2.2.2.2 k hk with e' | e'
      · exact e'
      · rw [e] at e'
        simp at e'
  refine ⟨h0.1, h0.2.1, h0.2.2.2.1, h0.2.2.1, ?_, key⟩
  refine Nat.le_of_not_lt fun hc => ?_
  have e := key _ hc
  rw [Array.getElem?_eq_none (Nat.le_refl _)] at e
  rw [Array.getElem?_eq_getElem hc] at e
  cases e
end Go.Proofs.YtfnbcpeipoobkaaGreat

namespace Go.Proofs.YtfnbcpeipoobkaaGreat
open Go Go.Conc Go.RowKit Go.Shelf

theorem enter3 (args : Array Value) : Frame.enter (barP Tryz.prog) 3 args .normal = Frame.enter Tryz.prog 3 args .normal := by
  unfold Frame.enter
  rw [Bar.func3, Tryz.func3]
theorem okBody3 : okCode Tryz.prog (Tryz.f3.body.getD (.refuse "unsupported: a function without a Go body is entered")) = true := by kernel_rfl
theorem ok3 (args : Array Value) : okFrame Tryz.prog (Frame.enter Tryz.prog 3 args .normal) := by
  unfold Frame.enter
  rw [Tryz.func3]
  refine ⟨fun i hi => ?_, fun d hd => ?_⟩
  · have hi : i = .code (Tryz.f3.body.getD (.refuse "unsupported: a function without a Go body is entered")) := by simpa using hi
    rw [hi]
    exact okBody3
  · cases hd
theorem ok3B (args : Array Value) : okFrame (barP Tryz.prog) (Frame.enter (barP Tryz.prog) 3 args .normal) := by
  letI : Inhabited Junk := noJunk
  rw [enter3]
  refine ⟨fun i hi => ?_, fun d hd => (ok3 args).2 d hd⟩
  have h := (ok3 args).1 i hi
  have hi : i = .code (Tryz.f3.body.getD (.refuse "unsupported: a function without a Go body is entered")) := by
    unfold Frame.enter at hi
    rw [Tryz.func3] at hi
    simpa using hi
  rw [hi]
  show okCode (barP Tryz.prog) _ = true
  rw [show ∀ c, okCode (barP Tryz.prog) c = okCode (bar Tryz.prog (barF Tryz.prog)) c from fun _ => rfl, okCode_bar]
  exact okBody3
set_option maxRecDepth 100000 in
theorem falls_runT (t : TypeId) {W : World} {gl ol lc gd od dc gs os sc : Nat} {la da sa : Option Addr} {L S : List Int} {D : List (Int × Int)} (hLl : L.length ≤ 9223372036854775807) (hSl : S.length ≤ 9223372036854775807) (hDl : D.length ≤ 9223372036854775807)
    (hB : Bytes W la gl ol L) (hBS : Bytes W sa gs os S) (hD : Dirs W da gd od D) (hI : ∀ i, i < D.length → I64 (D.getD i (0, 0)).1 ∧ I64 (D.getD i (0, 0)).2) (hcap : D.length ≤ dc) :
    ∃ M last o w' t', runNT Tryz.prog (M + 1) (solo (G (Frame.enter Tryz.prog 3 #[.slice la L.length lc, .slice sa S.length sc, .slice da D.length dc] .normal) []) W) #[] = (.ended o w', t') ∧ runN Tryz.prog M (solo (G (Frame.enter Tryz.prog 3 #[.slice la L.length lc, .slice sa S.length sc, .slice da D.length dc] .normal) []) W) = .next last ∧
      step Tryz.prog last = .ended o w' ∧ Go.Conc.Good Tryz.prog (PostT t W) last o w' t' := by
  have hfit : FitB (barP Tryz.prog) (Frame.enter (barP Tryz.prog) 3 #[.slice la L.length lc, .slice sa S.length sc, .slice da D.length dc] .normal) [] (clean t W) := ⟨ok3B _, fun f hf => (by cases hf), fun r o h => clean_kind _ t W r o h, rfl⟩
  have hg : ∃ r, GoesW (bar Tryz.prog (barF Tryz.prog)) r (Pieces 3 (Post3 (clean t W)) (Post3g (clean t W))) (Frame.enter Tryz.prog 3 #[.slice la L.length lc, .slice sa S.length sc, .slice da D.length dc] .normal) [] (clean t W) := by
    refine ⟨(barF Tryz.prog).size, ?_⟩
    rw [← enter3]
    by_cases hG : GoodDirs (D.take 4)
    · exact good_goes hLl hSl (clean_bytes hB) (clean_bytes hBS) (clean_dirs hD) hDl hI hcap hG hfit
    · exact bad_goes hLl (clean_bytes hB) (clean_dirs hD) hDl hI hcap hG hfit
  letI : Inhabited Junk := keepJunk W
  refine law_run (i := 6) (fn := Tryz.f3) Tryz.func3 rfl (by kernel_rfl) (clean_sib t W) (ok3 _) hg ?_ ?_
  · rintro fr w v ⟨h6, hlow⟩ hs h1 h2 h3
    exact ⟨h6, h1, h2, h3, fun k hk => kept_of hs id (hlow k (by rw [clean_size]; exact hk))⟩
  · rintro g fr w v ⟨hgs, h6, hlow⟩ hs h1 h2 h3
    rw [clean_size] at hgs
    exact ⟨h6, h1, h2, h3, fun k hk => kept_of hs (fun e : k = g => by omega) (hlow k (by rw [clean_size]; exact hk))⟩
/-- ████ FitFalls, ON EVERY SCHEDULE. ████ -/
theorem falls_run {W : World} {gl ol lc gd od dc gs os sc : Nat} {la da sa : Option Addr} {L S : List Int} {D : List (Int × Int)} (hLl : L.length ≤ 9223372036854775807) (hSl : S.length ≤ 9223372036854775807) (hDl : D.length ≤ 9223372036854775807)
    (hB : Bytes W la gl ol L) (hBS : Bytes W sa gs os S) (hD : Dirs W da gd od D) (hI : ∀ i, i < D.length → I64 (D.getD i (0, 0)).1 ∧ I64 (D.getD i (0, 0)).2) (hcap : D.length ≤ dc) :
    ∃ M last o w' t', runNT Tryz.prog (M + 1) (solo (G (Frame.enter Tryz.prog 3 #[.slice la L.length lc, .slice sa S.length sc, .slice da D.length dc] .normal) []) W) #[] = (.ended o w', t') ∧ runN Tryz.prog M (solo (G (Frame.enter Tryz.prog 3 #[.slice la L.length lc, .slice sa S.length sc, .slice da D.length dc] .normal) []) W) = .next last ∧
      step Tryz.prog last = .ended o w' ∧ Go.Conc.Good Tryz.prog (fun v w' => v = .bool true ∧ Below W.heap.size W w') last o w' t' := by
  obtain ⟨M, last, o, w', t', h1, h2, h3, v, e, ⟨a, b⟩, c⟩ := run_both (falls_runT 0 (lc := lc) (sc := sc) hLl hSl hDl hB hBS hD hI hcap) (falls_runT 1 (lc := lc) (sc := sc) hLl hSl hDl hB hBS hD hI hcap)
  exact ⟨M, last, o, w', t', h1, h2, h3, v, e, both_kept a b, c⟩
end Go.Proofs.YtfnbcpeipoobkaaGreat

namespace Go.Proofs.YtfnbcpeipoobkaaGreat
open Go.ChangeShapes Go.WideShapes Go.ChangeAt Go.RowKit

theorem i64_bounds {x : Int} (h : (Lit.int .i64 x).wf = true) : I64 x := by
  have h' : (decide (-9223372036854775808 ≤ x) && decide (x ≤ 9223372036854775807)) = true := h
  unfold I64
  simpa using h'

section
variable {H : Type} {enc : TypeId × Value → H} {P : Program} {w : World} {base : Nat} {spare : Nat → Bool} {held : Bool}

theorem size2 {cs : Array Value} (h : cs.size = 2) : ∃ x y, cs = #[x, y] := by
  obtain ⟨l⟩ := cs
  match l, h with
  | [x, y], _ => exact ⟨x, y, rfl⟩

theorem open_pair {r : Reach} {b0 : Nat} {t : TypeId} {f0 f1 : Field} {k : IntKind} {v : Value} {d : DataW H} {p : List MemPlace} (ht : P.underlying t = some (.struct #[f0, f1])) (h0 : P.underlying f0.type = some (.int k)) (h1 : P.underlying f1.type = some (.int k))
    (hC : P.cellsOf t = 2) (o0 : f0.offset = 0) (o1 : f1.offset = 1) (c0 : P.cellsOf f0.type = 1) (c1 : P.cellsOf f1.type = 1)
    (hv : Value.okWide P w r b0 t v) (h : DataW.Trod enc P w base spare held t v d p) :
    ∃ x y, v = .agg #[.int k x, .int k y] ∧ d = .agg [.lit (.int k x), .lit (.int k y)] ∧ p = [] ∧ (Lit.int k x).wf = true ∧ (Lit.int k y).wf = true := by
  simp only [Value.okWide, ht] at hv
  obtain ⟨cs, rfl, hsz, _⟩ := hv
  obtain ⟨v0, v1, rfl⟩ := size2 (hsz.trans hC)
  obtain ⟨fuel, hf⟩ := h
  obtain ⟨y0, y1, n, hx, _, t0, t1⟩ := trod_struct2 ht hf
  rw [o0, c0] at t0
  rw [o1, c1] at t1
  simp [Value.cells] at t0 t1
  obtain ⟨x, e0, rfl, w0⟩ := DataW.trod_int h0 t0
  obtain ⟨y, e1, rfl, w1⟩ := DataW.trod_int h1 t1
  simp at e0 e1
  subst e0 e1
  simp at hx
  exact ⟨x, y, rfl, hx.1, hx.2, w0, w1⟩

theorem shut_pair {t : TypeId} {f0 f1 : Field} {k : IntKind} {x y : Int} (ht : P.underlying t = some (.struct #[f0, f1])) (h0 : P.underlying f0.type = some (.int k)) (h1 : P.underlying f1.type = some (.int k))
    (hC : P.cellsOf t = 2) (o0 : f0.offset = 0) (o1 : f1.offset = 1) (c0 : P.cellsOf f0.type = 1) (c1 : P.cellsOf f1.type = 1) (wx : (Lit.int k x).wf = true) (wy : (Lit.int k y).wf = true) :
    DataW.Trod enc P w base spare held t (.agg #[.int k x, .int k y]) (.agg [.lit (.int k x), .lit (.int k y)]) [] := by
  refine ⟨2, ?_⟩
  have := trod_struct2_mk (enc := enc) (w := w) (base := base) (spare := spare) (held := held) (n := 1) (cs := [.int k x, .int k y]) (y0 := (.lit (.int k x), [])) (y1 := (.lit (.int k y), [])) ht (by rw [hC]; rfl)
    (by rw [o0, c0]; exact trod_int_mk 0 h0 wx) (by rw [o1, c1]; exact trod_int_mk 0 h1 wy)
  exact this
end

theorem cellsDir : (barP Tryz.prog).cellsOf 38 = 2 := by kernel_rfl
theorem cellsInt : (barP Tryz.prog).cellsOf 3 = 1 := by kernel_rfl
end Go.Proofs.YtfnbcpeipoobkaaGreat
