/- BoundSound: its way in company, good directions. -/
import Derived.Test.YthbghcebcahlnaaLSE
namespace Go.Proofs.Ythbghcebcahlnaa
open Go Go.RowKit Go.Shelf

theorem dirs_low {w w' : World} {a : Option Addr} {g o : Nat} {L : List (Int × Int)} (h : Dirs w a g o L) (hl : ∀ k, k < w.heap.size → w'.heap[k]? = w.heap[k]?) (hs : w.heap.size ≤ w'.heap.size) : Dirs w' a g o L := by
  refine ⟨fun hp => ⟨(h.at_ hp).1, Nat.lt_of_lt_of_le (h.at_ hp).2 hs⟩, fun i c hi => ?_⟩
  have hp : 0 < L.length := by have := (List.getElem?_eq_some_iff.1 hi).1; omega
  have hb := hl g (h.at_ hp).2
  exact ⟨(heap_cell (p := ⟨g, o + i * 2, none⟩) hb).trans (h.cell i c hi).1, (heap_cell (p := ⟨g, o + i * 2 + 1, none⟩) hb).trans (h.cell i c hi).2⟩
/-- The law stands in All at its call of byWorkers. -/
def E1 (w0 : World) (n : Nat) (L : List Int) (da : Option Addr) (m dc : Nat) (lv sv : Value) (fr : Frame) (up : List Frame) (w : World) : Prop :=
  FitB (barP Try.prog) fr up w ∧ ∃ w1 gg gb T0 s0 s1, (s1 = true → s0 = true) ∧ Tm7 w1 (.slice da m dc) T0 ∧ Mem7 w0 w1.heap.size n gg gb L w ∧
    fr = fr7 Try.f7 T0 w1.heap.size n (.slice (some ⟨gg, 0, none⟩) (n * n : Nat) (n * n : Nat)) (.slice da m dc) s0 s1 ∧ up = [fr3 Try.f3 lv (.slice da m dc) sv (gridV n gg (n * n)) gb]
theorem fit_blind {P : Program} {fr : Frame} {up : List Frame} {w : World} (τ : Nat → Question → Nat) (d : Nat) : FitB P fr up (re w τ d) ↔ FitB P fr up w := ⟨fun h => ⟨h.frame, h.up, h.kind, h.env⟩, fun h => ⟨h.frame, h.up, h.kind, h.env⟩⟩
theorem mem7_blind {w0 w : World} {b1 n gg gb : Nat} {L : List Int} (τ : Nat → Question → Nat) (d : Nat) : Mem7 w0 b1 n gg gb L (re w τ d) ↔ Mem7 w0 b1 n gg gb L w :=
  ⟨fun h => ⟨h.low, h.big, h.g0, h.gbl, h.ggl, h.row, h.c0, h.c1⟩, fun h => ⟨h.low, h.big, h.g0, h.gbl, h.ggl, h.row, h.c0, h.c1⟩⟩
theorem e1_blind {w0 : World} {n : Nat} {L : List Int} {da : Option Addr} {m dc : Nat} {lv sv : Value} (fr : Frame) (up : List Frame) (w : World) (τ : Nat → Question → Nat) (d : Nat) : E1 w0 n L da m dc lv sv fr up (re w τ d) ↔ E1 w0 n L da m dc lv sv fr up w := by
  unfold E1
  simp only [fit_blind, mem7_blind]
theorem ok15B (b : Nat) (n : Int) (cS : Value) (da : Option Addr) (m dc : Nat) : okFrame (barP Try.prog) (fr15 Try.f15 b n cS da m dc) := by
  letI : Inhabited Junk := noJunk
  have h1 : okCode (barP Try.prog) (rest15 Try.f15) = true := by
    rw [show okCode (barP Try.prog) (rest15 Try.f15) = okCode (bar Try.prog (barF Try.prog)) (rest15 Try.f15) from rfl, okCode_bar]
    kernel_rfl
  have h2 : ((ops15 Try.f15).all fun o => okOp (barP Try.prog) o.op) = true := by kernel_rfl
  refine ⟨fun i hi => ?_, fun d hd => ?_⟩
  · have : i = .inRegion (ops15 Try.f15) [] ∨ i = .code (rest15 Try.f15) := by simpa [fr15, Frame.at] using hi
    rcases this with rfl | rfl
    · exact h2
    · exact h1
  · simp [fr15, Frame.at] at hd
set_option maxRecDepth 100000 in
theorem good_goes {w0 : World} {n gl ol lc gd od dc gs os sc : Nat} {la da sa : Option Addr} {L S : List Int} {D : List (Int × Int)} (hn : n = sideB L.length) (h1 : 1 ≤ n) (h2 : n ≤ 8) (hLl : L.length ≤ 9223372036854775807) (hL : Byte8 L) (hS : Byte8 S) (hSl : S.length ≤ 9223372036854775807)
    (hB : Bytes w0 la gl ol L) (hBS : Bytes w0 sa gs os S) (hD : Dirs w0 da gd od D) (hI : ∀ i, i < D.length → I64 (D.getD i (0, 0)).1 ∧ I64 (D.getD i (0, 0)).2) (hcap : D.length ≤ dc) (hG : GoodDirs D)
    (hfit : FitB (barP Try.prog) (Frame.enter (barP Try.prog) 3 #[.slice la L.length lc, .slice da D.length dc, .slice sa S.length sc] .normal) [] w0) :
    GoesW (bar Try.prog (barF Try.prog)) (barF Try.prog).size (Pieces 3 (Post3 w0) (Post3g w0)) (Frame.enter (barP Try.prog) 3 #[.slice la L.length lc, .slice da D.length dc, .slice sa S.length sc] .normal) [] w0 := by
  letI : Inhabited Junk := noJunk
  have hr : (barF Try.prog)[(barF Try.prog).size]? = none := by rw [Array.getElem?_eq_none_iff]; exact Nat.le_refl _
  refine goesW_mono (E := E1 w0 n L da D.length dc (.slice la L.length lc) (.slice sa S.length sc)) ?mono (goesW_of_steps (P := (barP Try.prog)) Bar.again fenceB bodiesB e1_blind hfit hr fun τ d => ?_)
  case mono =>
    rintro fr up w ⟨hf, w1, gg, gb, T0, s0, s1, hs, htm, hM, rfl, rfl⟩
    obtain ⟨b1, b2⟩ := hM.big
    have hgg := hM.ggl
    refine .inr ⟨n, .slice (some ⟨gg, 0, none⟩) (n * n : Nat) (n * n : Nat), da, D.length, dc, fun w' => Left w n gg (n * n) D.length dc da D (zL L) w' ∧ (∀ (r : Nat) (o : Obj), w'.heap[r]? = some o → okObj (barP Try.prog) o) ∧ w'.os.env = #[], fr7_call htm.len hG.1 _, ⟨(barF Try.prog).size, ?_⟩, ?_⟩
    · refine workGoes (gd := gd) (od := od) (mz := 255) (f := lvlB L) w h1 (by omega) hG.1 rfl (dirs_low hD hM.low (by omega)) (fun i hi => ?_) (fun hp => by have := (hD.at_ hp).2; omega) hM.row (by omega) (fun j _ => cellB hL j) (by decide) (fun r o ho => okObj_unbar o (hf.kind r o ho)) hf.env
      have ho := (hG.2 i hi).1
      obtain ⟨q1, q2, q3⟩ := okD_bounds ho
      exact ⟨⟨by unfold I64; omega, by unfold I64; omega⟩, ho⟩
    · rintro w2 ⟨hF, hk, he⟩
      refine ⟨(barF Try.prog).size, goesW_of_steps (P := (barP Try.prog)) Bar.again fenceB bodiesB (fun fr up w τ d => Iff.rfl) ⟨ok15B _ _ _ _ _ _, ?_, hk, he⟩ hr fun τ d => ?_⟩
      · intro f hf'
        rcases List.mem_cons.1 hf' with rfl | hf'
        · exact hf.frame
        · exact hf.up f hf'
      · have hF' : Left w n gg (n * n) D.length dc da D (zL L) (re w2 τ d) := (left_re w2 τ d).2 hF
        obtain ⟨m', ⟨fr, w5, rfl, ho, hp⟩, hst⟩ := law_end (T := fun m => ∃ fr w5, m = lone fr ([] ++ [baseF (barF Try.prog).size]) w5 ∧ Out 3 fr [] ∧ Post3 w0 fr w5) (cs := [baseF (barF Try.prog).size]) (lv := .slice la L.length lc) (sc := sc) h1 h2 hL hS hSl hBS hG rfl hs htm hM hF' fun fr w5 ho hp => to_here ⟨fr, w5, rfl, ho, hp⟩
        exact ⟨fr, [], w5, fun _ => ⟨ho, by omega, hp⟩, hst⟩
  · obtain ⟨m', ⟨fr, up, w, rfl, h⟩, hst⟩ := law_to (T := fun m => ∃ fr up w, m = lone fr (up ++ [baseF (barF Try.prog).size]) w ∧ (FitB (barP Try.prog) fr up w → E1 w0 n L da D.length dc (.slice la L.length lc) (.slice sa S.length sc) fr up w)) (cs := [baseF (barF Try.prog).size]) (lc := lc) (dv := .slice da D.length dc) (sv := .slice sa S.length sc) (gl := gl) (ol := ol) (re w0 τ d) hn hLl ⟨hB.at_, hB.cell⟩ fun w1 gg gb hI3 => by
      have hD1 : Dirs (re w0 τ d) da gd od D := ⟨hD.at_, hD.cell⟩
      refine all_to (f := lvlB L) (z := zL L) (mz := 255) w1 h1 (by omega) hI3.row (fun j _ => cellB hL j) (by decide) (dirs_below hD1 hI3.low) hI hcap hG fun w2 T0 s0 s1 hs hin htm => ?_
      refine to_here ⟨_, [_], w2, rfl, fun hfit => ⟨hfit, w1, gg, gb, T0, s0, s1, hs, htm, ?_, rfl, rfl⟩⟩
      have lb := (Array.getElem?_eq_some_iff.1 hI3.g0).1
      have lg := row_lt hI3.row
      have lc1 := (Array.getElem?_eq_some_iff.1 hin.c1).1
      have sz : w0.heap.size ≤ w1.heap.size := hI3.low.size
      exact ⟨fun k hk => (hin.low.block k (by omega)).trans (hI3.low.block k hk), ⟨sz, by omega⟩, (hin.low.block gb lb).trans hI3.g0, lb, lg, row_below hI3.row hin.low lg, hin.c0, hin.c1⟩
    exact ⟨fr, up, w, h, hst⟩
end Go.Proofs.Ythbghcebcahlnaa
