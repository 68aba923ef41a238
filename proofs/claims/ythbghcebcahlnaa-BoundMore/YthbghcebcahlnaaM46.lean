/- BoundMore: its way in company. (Laid by program: mbf.py.) BoundMore: its run in company, of any arguments. -/
import Derived.Test.YthbghcebcahlnaaM40
import Derived.Test.YthbghcebcahlnaaM45
namespace Go.Proofs.Ythbghcebcahlnaa
open Go Go.RowKit Go.Shelf

theorem ret4_of {c : Code} {a : Act} {w W : World} (h : Code.wp (barP Try.prog) c (Ret4 W) a w) : Code.wp (barP Try.prog) c (fun e a w' => e = .ret ∧ a.defers = [] ∧ a.tmps[6]?.getD undef = .bool true ∧ Below W.heap.size W w') a w := by
  refine Code.wp_mono (fun e a w' h => ?_) h
  cases e with
  | ret => exact ⟨rfl, h⟩
  | _ => exact h.elim
set_option maxRecDepth 100000 in
set_option maxHeartbeats 4000000 in
/-- From the join to the end. -/
theorem law_end4 {T : Machine → Prop} {cs : List Frame} {w0 w w1 w2 : World} {n gg gb m dc : Nat} {da : Option Addr} {k : Int} {L : List Int} {D : List (Int × Int)} {lv : Value} {T0 : List Value} {s0 s1 : Bool} (h1 : 1 ≤ n) (h2 : n ≤ 8) (hL : Byte8 L) (hG : GoodDirs D) (hD : D.length = m)
    (hs : s1 = true → s0 = true) (hT : Tm7 w1 (.slice da m dc) T0) (hM : Mem7 w0 w1.heap.size n gg gb L w) (hF : Left w n gg (n * n) m dc da D (zL L) w2)
    (ht : ∀ fr w5, Out 4 fr [] → Post3 w0 fr w5 → To T (lone fr cs w5)) :
    To T (lone (fr15 Try.f15 w.heap.size n (.slice (some ⟨gg, 0, none⟩) (n * n : Nat) (n * n : Nat)) da m dc) (fr7 Try.f7 T0 w1.heap.size n (.slice (some ⟨gg, 0, none⟩) (n * n : Nat) (n * n : Nat)) (.slice da m dc) s0 s1 :: fr4 Try.f4 lv (.slice da m dc) (.int .i64 k) (gridV n gg (n * n)) gb :: cs) w2) := by
  obtain ⟨b1, b2⟩ := hM.big
  have hgb := hM.gbl
  have hgg := hM.ggl
  obtain ⟨ps, t, hps, hW, hsp⟩ := id hF
  have low2 : ∀ k, k < w.heap.size → w2.heap[k]? = w.heap[k]? := hW.low
  have big2 := hW.big
  refine bw_back hW.c3 ?_
  refine all_back hs hT ((low2 _ (by omega)).trans hM.c0) ((low2 _ (by omega)).trans hM.c1) fun w3 hE => ?_
  refine law_upto4 ?_
  have s3 := hE.size
  have low3 : ∀ k, k < w.heap.size → k ≠ w1.heap.size + 1 → w3.heap[k]? = w.heap[k]? := fun k hk hn => (hE.block k hn).trans (low2 k hk)
  have al : ∀ k, k < w3.heap.size → (w3.alloc (.cells #[.int .i64 n, .slice (some ⟨w.heap.size + 2, 0, none⟩) m m] 31)).heap[k]? = w3.heap[k]? := fun k hk => alloc_old _ _ k hk
  obtain ⟨ps', hl', hnew, hAs⟩ := asked_of h1 (by omega) (levelsB hL (n * n)) hG hD hF
  have hH : Hand4 (w3.alloc (.cells #[.int .i64 n, .slice (some ⟨w.heap.size + 2, 0, none⟩) m m] 31)) n gg gb w3.heap.size (w.heap.size + 2) ps' L := by
    refine ⟨(al gb (by omega)).trans ((low3 gb (by omega) (by omega)).trans hM.g0), ?_, ?_⟩
    · rw [hl']
      exact heap_alloc_new w3 _
    · have hp := hAs.at_
      refine ⟨hAs.hd, hAs.hz, hAs.so, hAs.own, ⟨by rw [World.size_alloc]; omega, fun i hi => ?_, fun i hi => ?_⟩⟩
      · have e : (w3.alloc (.cells #[.int .i64 n, .slice (some ⟨w.heap.size + 2, 0, none⟩) m m] 31)).heap[w.heap.size + 2]? = w2.heap[w.heap.size + 2]? := (al _ (by omega)).trans (hE.block _ (by omega))
        obtain ⟨c1, c2, c3⟩ := hp.cells i hi
        exact ⟨(heap_cell (p := ⟨w.heap.size + 2, i * 3, none⟩) e).trans c1, (heap_cell (p := ⟨w.heap.size + 2, i * 3 + 1, none⟩) e).trans c2, (heap_cell (p := ⟨w.heap.size + 2, i * 3 + 2, none⟩) e).trans c3⟩
      · have hlt := vrow_lt (hp.bins i hi)
        have := hnew i hi
        exact vrow_keep (hp.bins i hi) ((al _ (by omega)).trans (hE.block _ (by omega)))
  refine to_ret (K := fun a w' => a.defers = [] ∧ a.tmps[6]?.getD undef = .bool true ∧ Below (w3.alloc (.cells #[.int .i64 n, .slice (some ⟨w.heap.size + 2, 0, none⟩) m m] 31)).heap.size (w3.alloc (.cells #[.int .i64 n, .slice (some ⟨w.heap.size + 2, 0, none⟩) m m] 31)) w') (ret4_of (rest4Ok _ h1 h2 hL hH)) ?_
  rintro a w5 todo ⟨hd, h6, hb⟩
  refine ht _ _ ⟨rfl, rfl, hd, rfl, rfl⟩ ⟨?_, fun k hk => ?_⟩
  · simpa [Frame.at] using h6
  · rw [hb.block k (by rw [World.size_alloc]; omega), al k (by omega), low3 k (by omega) (by omega), hM.low k hk]
/-- The law stands in All at its call of byWorkers. -/
def E4 (w0 : World) (n : Nat) (L : List Int) (da : Option Addr) (m dc : Nat) (lv sv : Value) (fr : Frame) (up : List Frame) (w : World) : Prop :=
  FitB (barP Try.prog) fr up w ∧ ∃ w1 gg gb T0 s0 s1, (s1 = true → s0 = true) ∧ Tm7 w1 (.slice da m dc) T0 ∧ Mem7 w0 w1.heap.size n gg gb L w ∧
    fr = fr7 Try.f7 T0 w1.heap.size n (.slice (some ⟨gg, 0, none⟩) (n * n : Nat) (n * n : Nat)) (.slice da m dc) s0 s1 ∧ up = [fr4 Try.f4 lv (.slice da m dc) sv (gridV n gg (n * n)) gb]
theorem e4_blind {w0 : World} {n : Nat} {L : List Int} {da : Option Addr} {m dc : Nat} {lv sv : Value} (fr : Frame) (up : List Frame) (w : World) (τ : Nat → Question → Nat) (d : Nat) : E4 w0 n L da m dc lv sv fr up (re w τ d) ↔ E4 w0 n L da m dc lv sv fr up w := by
  unfold E4
  simp only [fit_blind, mem7_blind]
set_option maxRecDepth 100000 in
theorem good_goes4 {w0 : World} {n gl ol lc gd od dc : Nat} {la da : Option Addr} {k : Int} {L : List Int} {D : List (Int × Int)} (hn : n = sideB L.length) (h1 : 1 ≤ n) (h2 : n ≤ 8) (hLl : L.length ≤ 9223372036854775807) (hL : Byte8 L)
    (hB : Bytes w0 la gl ol L) (hD : Dirs w0 da gd od D) (hI : ∀ i, i < D.length → I64 (D.getD i (0, 0)).1 ∧ I64 (D.getD i (0, 0)).2) (hcap : D.length ≤ dc) (hG : GoodDirs D)
    (hfit : FitB (barP Try.prog) (Frame.enter (barP Try.prog) 4 #[.slice la L.length lc, .slice da D.length dc, .int .i64 k] .normal) [] w0) :
    GoesW (bar Try.prog (barF Try.prog)) (barF Try.prog).size (Pieces 4 (Post3 w0) (Post3g w0)) (Frame.enter (barP Try.prog) 4 #[.slice la L.length lc, .slice da D.length dc, .int .i64 k] .normal) [] w0 := by
  letI : Inhabited Junk := noJunk
  have hr : (barF Try.prog)[(barF Try.prog).size]? = none := by rw [Array.getElem?_eq_none_iff]; exact Nat.le_refl _
  refine goesW_mono (E := E4 w0 n L da D.length dc (.slice la L.length lc) (.int .i64 k)) ?mono (goesW_of_steps (P := (barP Try.prog)) Bar.again fenceB bodiesB e4_blind hfit hr fun τ d => ?_)
  case mono =>
    rintro fr up w ⟨hf, w1, gg, gb, T0, s0, s1, hs, htm, hM, rfl, rfl⟩
    obtain ⟨b1, b2⟩ := hM.big
    have hgg := hM.ggl
    refine .inr ⟨n, .slice (some ⟨gg, 0, none⟩) (n * n : Nat) (n * n : Nat), da, D.length, dc, fun w' => Left w n gg (n * n) D.length dc da D (zL L) w' ∧ (∀ (r : Nat) (o : Obj), w'.heap[r]? = some o → okObj (barP Try.prog) o) ∧ w'.os.env = #[], fr7_call htm.len hG.1 _, ⟨(barF Try.prog).size, ?_⟩, ?_⟩
    · refine workGoes (gd := gd) (od := od) (mz := 255) (f := lvlB L) w h1 (by omega) hG.1 rfl (dirs_low hD hM.low (by omega)) (fun i hi => ?_) (fun hp => by have := (hD.at_ hp).2; omega) hM.row (by omega) (fun j _ => cellB hL j) (by decide) (fun r o ho => okObj_unbar o (hf.kind r o ho)) hf.env
      have ho := (hG.2 i hi).1
      obtain ⟨q1, q2, q3⟩ := okD_bounds ho
      exact ⟨⟨by unfold I64; omega, by unfold I64; omega⟩, ho⟩
    · rintro w2 ⟨hF, hk, he⟩
      refine ⟨(barF Try.prog).size, goesW_of_steps (P := (barP Try.prog)) Bar.again fenceB bodiesB (fun fr up w τ d => Iff.rfl) ⟨ok15B _ _ _ _ _ _, ?_, hk, he⟩ hr fun τ d => ?_⟩
      · intro f hf'
        rcases List.mem_cons.1 hf' with rfl | hf'
        · exact hf.frame
        · exact hf.up f hf'
      · have hF' : Left w n gg (n * n) D.length dc da D (zL L) (re w2 τ d) := (left_re w2 τ d).2 hF
        obtain ⟨m', ⟨fr, w5, rfl, ho, hp⟩, hst⟩ := law_end4 (T := fun m => ∃ fr w5, m = lone fr ([] ++ [baseF (barF Try.prog).size]) w5 ∧ Out 4 fr [] ∧ Post3 w0 fr w5) (cs := [baseF (barF Try.prog).size]) (lv := .slice la L.length lc) h1 h2 hL hG rfl hs htm hM hF' fun fr w5 ho hp => to_here ⟨fr, w5, rfl, ho, hp⟩
        exact ⟨fr, [], w5, fun _ => ⟨ho, by omega, hp⟩, hst⟩
  · obtain ⟨m', ⟨fr, up, w, rfl, h⟩, hst⟩ := law_to4 (T := fun m => ∃ fr up w, m = lone fr (up ++ [baseF (barF Try.prog).size]) w ∧ (FitB (barP Try.prog) fr up w → E4 w0 n L da D.length dc (.slice la L.length lc) (.int .i64 k) fr up w)) (cs := [baseF (barF Try.prog).size]) (lc := lc) (dv := .slice da D.length dc) (sv := .int .i64 k) (gl := gl) (ol := ol) (re w0 τ d) hn hLl ⟨hB.at_, hB.cell⟩ fun w1 gg gb hI3 => by
      have hD1 : Dirs (re w0 τ d) da gd od D := ⟨hD.at_, hD.cell⟩
      refine all_to (f := lvlB L) (z := zL L) (mz := 255) w1 h1 (by omega) hI3.row (fun j _ => cellB hL j) (by decide) (dirs_below hD1 hI3.low) hI hcap hG fun w2 T0 s0 s1 hs hin htm => ?_
      refine to_here ⟨_, [_], w2, rfl, fun hfit => ⟨hfit, w1, gg, gb, T0, s0, s1, hs, htm, ?_, rfl, rfl⟩⟩
      have lb := (Array.getElem?_eq_some_iff.1 hI3.g0).1
      have lg := row_lt hI3.row
      have lc1 := (Array.getElem?_eq_some_iff.1 hin.c1).1
      have sz : w0.heap.size ≤ w1.heap.size := hI3.low.size
      exact ⟨fun k hk => (hin.low.block k (by omega)).trans (hI3.low.block k hk), ⟨sz, by omega⟩, (hin.low.block gb lb).trans hI3.g0, lb, lg, row_below hI3.row hin.low lg, hin.c0, hin.c1⟩
    exact ⟨fr, up, w, h, hst⟩
set_option maxRecDepth 100000 in
set_option maxHeartbeats 4000000 in
theorem badCalls4 {n gl ol lc gd od dc : Nat} {la da : Option Addr} {L : List Int} {D : List (Int × Int)} {sv : Value} (w : World) (hn : n = sideB L.length) (h1 : 1 ≤ n) (h2 : n ≤ 8) (hLl : L.length ≤ 9223372036854775807) (hL : Byte8 L) (hB : Bytes w la gl ol L) (hD : Dirs w da gd od D) (hl : D.length ≤ 9223372036854775807) (hI : ∀ i, i < D.length → I64 (D.getD i (0, 0)).1 ∧ I64 (D.getD i (0, 0)).2) (hcap : D.length ≤ dc) (hG : ¬ GoodDirs D) :
    Calls (barP Try.prog) 4 #[.slice la L.length lc, .slice da D.length dc, sv] w fun e w' => e = .returned (.bool true) ∧ Below w.heap.size w w' := by
  have kG := fun w1 (b : Below w.heap.size w w1) => gridAny (cap := lc) hLl w1 (bytes_below hB b)
  rw [← hn] at kG
  have kA := fun w1 gg (b : Below w.heap.size w w1) (hR : Row w1 gg (n * n) (lvlB L)) => allBad (c := n * n) (f := lvlB L) (z := zL L) (mz := 255) w1 h1 (by omega) hR (fun j _ => cellB hL j) (by decide) (dirs_below hD b) hl hI hcap hG
  unfold gridV at kA
  clear hB hn hD hI hG hl hcap
  generalize la = la0 at *
  obtain ⟨lv, hlv⟩ : ∃ lv : Value, .slice la0 L.length lc = lv := ⟨_, rfl⟩
  obtain ⟨dv, hdv⟩ : ∃ dv : Value, .slice da D.length dc = dv := ⟨_, rfl⟩
  rw [hlv] at kG ⊢
  rw [hdv] at kA ⊢
  have kG := hide kG
  have kA := hide kA
  clear hlv hdv
  go_enter Bar.func4, Bar.ntmps4
  go_wp2_with fail
  refine (aliveOk _).mono ?_
  rintro e w1 ⟨rfl, hb⟩
  have B1 := hide hb
  clear hb
  go_wp2_with fail
  refine (unhide kG _ (unhide B1)).mono ?_
  rintro e w2 ⟨gg, rfl, hg', hrow, hb2⟩
  have s2 : w.heap.size ≤ w2.heap.size := Nat.le_trans (unhide B1).size hb2.size
  have bb := (Below.refl _ w2).alloc (Nat.le_refl _) (.cells #[.int .i64 n, .slice (some ⟨gg, 0, none⟩) (n * n : Nat) (n * n : Nat)] 27)
  have B2 := hide (((unhide B1).trans (hb2.mono (unhide B1).size)).trans (bb.mono s2))
  have hR := row_below hrow bb (row_lt hrow)
  have kA2 := hide (unhide kA _ gg (unhide B2) hR)
  clear hb2 hrow hg' bb hR kA kG
  go_wp2_with fail
  refine (unhide kA2).mono ?_
  rintro e w3 ⟨r, hr, rfl, hb3⟩
  have B3 := hide ((unhide B2).trans (hb3.mono (unhide B2).size))
  have q : (r = 0) = False := by simpa using hr
  have B4 := hide ((unhide B3).alloc (unhide B3).size (.cells #[.int .i64 0, .slice none 0 0] 31))
  clear hb3 kA2
  go_wp2_with fail
  go_ret
  exact ⟨rfl, unhide B4⟩
theorem bad_goes4 {w0 : World} {n gl ol lc gd od dc : Nat} {la da : Option Addr} {L : List Int} {D : List (Int × Int)} {sv : Value} (hn : n = sideB L.length) (h1 : 1 ≤ n) (h2 : n ≤ 8) (hLl : L.length ≤ 9223372036854775807) (hL : Byte8 L) (hB : Bytes w0 la gl ol L) (hD : Dirs w0 da gd od D) (hl : D.length ≤ 9223372036854775807) (hI : ∀ i, i < D.length → I64 (D.getD i (0, 0)).1 ∧ I64 (D.getD i (0, 0)).2) (hcap : D.length ≤ dc) (hG : ¬ GoodDirs D)
    (hfit : FitB (barP Try.prog) (Frame.enter (barP Try.prog) 4 #[.slice la L.length lc, .slice da D.length dc, sv] .normal) [] w0) :
    GoesW (bar Try.prog (barF Try.prog)) (barF Try.prog).size (Pieces 4 (Post3 w0) (Post3g w0)) (Frame.enter (barP Try.prog) 4 #[.slice la L.length lc, .slice da D.length dc, sv] .normal) [] w0 := by
  letI : Inhabited Junk := noJunk
  have hr : (barF Try.prog)[(barF Try.prog).size]? = none := by rw [Array.getElem?_eq_none_iff]; exact Nat.le_refl _
  refine goesW_mono ?_ (goesW_of_calls (P := (barP Try.prog)) Bar.again fenceB bodiesB (R := fun e w' => e = .returned (.bool true) ∧ ∀ k, k < w0.heap.size → w'.heap[k]? = w0.heap[k]?) (fun e w τ d => Iff.rfl) (fun w h => by cases h.1) hfit hr fun τ d => ?_)
  · rintro fr up w ⟨rfl, hk, he, hf, e, ⟨rfl, hlow⟩, m1, m2, m3, fn, hfn, hrun⟩
    refine .inl ⟨⟨rfl, m1, m2, m3, hf⟩, ?_, hlow⟩
    rw [hf, Bar.func4] at hfn
    obtain rfl := Option.some.inj hfn
    unfold results at hrun
    simp only [Try.f4] at hrun
    simpa [go_sem] using hrun
  · refine (badCalls4 (gl := gl) (ol := ol) (gd := gd) (od := od) (re w0 τ d) hn h1 h2 hLl hL ⟨hB.at_, hB.cell⟩ ⟨hD.at_, hD.cell⟩ hl hI hcap hG).mono ?_
    rintro e w' ⟨rfl, hb⟩
    exact ⟨rfl, fun k hk => hb.block k hk⟩
end Go.Proofs.Ythbghcebcahlnaa

namespace Go.Proofs.Ythbghcebcahlnaa
open Go Go.Conc Go.RowKit Go.Shelf

theorem enter4 (args : Array Value) : Frame.enter (barP Try.prog) 4 args .normal = Frame.enter Try.prog 4 args .normal := by
  unfold Frame.enter
  rw [Bar.func4, Try.func4]
theorem okBody4 : okCode Try.prog (Try.f4.body.getD (.refuse "unsupported: a function without a Go body is entered")) = true := by kernel_rfl
theorem ok4 (args : Array Value) : okFrame Try.prog (Frame.enter Try.prog 4 args .normal) := by
  unfold Frame.enter
  rw [Try.func4]
  refine ⟨fun i hi => ?_, fun d hd => ?_⟩
  · have hi : i = .code (Try.f4.body.getD (.refuse "unsupported: a function without a Go body is entered")) := by simpa using hi
    rw [hi]
    exact okBody4
  · cases hd
theorem ok4B (args : Array Value) : okFrame (barP Try.prog) (Frame.enter (barP Try.prog) 4 args .normal) := by
  letI : Inhabited Junk := noJunk
  rw [enter4]
  refine ⟨fun i hi => ?_, fun d hd => (ok4 args).2 d hd⟩
  have h := (ok4 args).1 i hi
  have hi : i = .code (Try.f4.body.getD (.refuse "unsupported: a function without a Go body is entered")) := by
    unfold Frame.enter at hi
    rw [Try.func4] at hi
    simpa using hi
  rw [hi]
  show okCode (barP Try.prog) _ = true
  rw [show ∀ c, okCode (barP Try.prog) c = okCode (bar Try.prog (barF Try.prog)) c from fun _ => rfl, okCode_bar]
  exact okBody4
set_option maxRecDepth 100000 in
theorem more_runT (t : TypeId) {W : World} {gl ol lc gd od dc : Nat} {la da : Option Addr} {k : Int} {L : List Int} {D : List (Int × Int)} (hLl : L.length ≤ 9223372036854775807) (hL : Byte8 L) (hDl : D.length ≤ 9223372036854775807)
    (hB : Bytes W la gl ol L) (hD : Dirs W da gd od D) (hI : ∀ i, i < D.length → I64 (D.getD i (0, 0)).1 ∧ I64 (D.getD i (0, 0)).2) (hcap : D.length ≤ dc) :
    ∃ M last o w' t', runNT Try.prog (M + 1) (solo (G (Frame.enter Try.prog 4 #[.slice la L.length lc, .slice da D.length dc, .int .i64 k] .normal) []) W) #[] = (.ended o w', t') ∧ runN Try.prog M (solo (G (Frame.enter Try.prog 4 #[.slice la L.length lc, .slice da D.length dc, .int .i64 k] .normal) []) W) = .next last ∧
      step Try.prog last = .ended o w' ∧ Go.Conc.Good Try.prog (PostT t W) last o w' t' := by
  obtain ⟨s1, s8⟩ := sideB_le L.length
  have hfit : FitB (barP Try.prog) (Frame.enter (barP Try.prog) 4 #[.slice la L.length lc, .slice da D.length dc, .int .i64 k] .normal) [] (clean t W) := ⟨ok4B _, fun f hf => (by cases hf), fun r o h => clean_kind _ t W r o h, rfl⟩
  have hg : ∃ r, GoesW (bar Try.prog (barF Try.prog)) r (Pieces 4 (Post3 (clean t W)) (Post3g (clean t W))) (Frame.enter Try.prog 4 #[.slice la L.length lc, .slice da D.length dc, .int .i64 k] .normal) [] (clean t W) := by
    refine ⟨(barF Try.prog).size, ?_⟩
    rw [← enter4]
    by_cases hG : GoodDirs D
    · exact good_goes4 rfl s1 s8 hLl hL (clean_bytes hB) (clean_dirs hD) hI hcap hG hfit
    · exact bad_goes4 rfl s1 s8 hLl hL (clean_bytes hB) (clean_dirs hD) hDl hI hcap hG hfit
  letI : Inhabited Junk := keepJunk W
  refine law_run (i := 6) (fn := Try.f4) Try.func4 rfl (by kernel_rfl) (clean_sib t W) (ok4 _) hg ?_ ?_
  · rintro fr w v ⟨h6, hlow⟩ hs h1 h2 h3
    exact ⟨h6, h1, h2, h3, fun k hk => kept_of hs id (hlow k (by rw [clean_size]; exact hk))⟩
  · rintro g fr w v ⟨hgs, h6, hlow⟩ hs h1 h2 h3
    rw [clean_size] at hgs
    exact ⟨h6, h1, h2, h3, fun k hk => kept_of hs (fun e : k = g => by omega) (hlow k (by rw [clean_size]; exact hk))⟩
/-- ████ BoundMore, ON EVERY SCHEDULE. ████ -/
theorem more_run {W : World} {gl ol lc gd od dc : Nat} {la da : Option Addr} {k : Int} {L : List Int} {D : List (Int × Int)} (hLl : L.length ≤ 9223372036854775807) (hL : Byte8 L) (hDl : D.length ≤ 9223372036854775807)
    (hB : Bytes W la gl ol L) (hD : Dirs W da gd od D) (hI : ∀ i, i < D.length → I64 (D.getD i (0, 0)).1 ∧ I64 (D.getD i (0, 0)).2) (hcap : D.length ≤ dc) :
    ∃ M last o w' t', runNT Try.prog (M + 1) (solo (G (Frame.enter Try.prog 4 #[.slice la L.length lc, .slice da D.length dc, .int .i64 k] .normal) []) W) #[] = (.ended o w', t') ∧ runN Try.prog M (solo (G (Frame.enter Try.prog 4 #[.slice la L.length lc, .slice da D.length dc, .int .i64 k] .normal) []) W) = .next last ∧
      step Try.prog last = .ended o w' ∧ Go.Conc.Good Try.prog (fun v w' => v = .bool true ∧ Below W.heap.size W w') last o w' t' := by
  obtain ⟨M, last, o, w', t', h1, h2, h3, v, e, ⟨a, b⟩, c⟩ := run_both (more_runT 0 (lc := lc) (k := k) hLl hL hDl hB hD hI hcap) (more_runT 1 (lc := lc) (k := k) hLl hL hDl hB hD hI hcap)
  exact ⟨M, last, o, w', t', h1, h2, h3, v, e, both_kept a b, c⟩
end Go.Proofs.Ythbghcebcahlnaa
