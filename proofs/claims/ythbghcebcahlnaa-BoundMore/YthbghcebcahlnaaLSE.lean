/- BoundSound: its way from the join to its end. -/
import Derived.Test.YthbghcebcahlnaaLSD
namespace Go.Proofs.Ythbghcebcahlnaa
open Go Go.RowKit Go.Shelf

/-- True, and the old memory as it lay. -/
def Post3 (w0 : World) (fr : Frame) (w : World) : Prop := fr.tmps.getD 6 undef = .bool true ∧ ∀ k, k < w0.heap.size → w.heap[k]? = w0.heap[k]?
/-- .. and the group lies behind it. -/
def Post3g (w0 : World) (g : Nat) (fr : Frame) (w : World) : Prop := w0.heap.size ≤ g ∧ Post3 w0 fr w
/-- The memory at the call of byWorkers, heap alone. -/
structure Mem7 (w0 : World) (b1 n gg gb : Nat) (L : List Int) (w : World) : Prop where
  low : ∀ k, k < w0.heap.size → w.heap[k]? = w0.heap[k]?
  big : w0.heap.size ≤ b1 ∧ b1 + 2 ≤ w.heap.size
  g0 : w.heap[gb]? = some (.cells #[.int .i64 n, .slice (some ⟨gg, 0, none⟩) (n * n : Nat) (n * n : Nat)] 27)
  gbl : gb < b1
  ggl : gg < b1
  row : Row w gg (n * n) (lvlB L)
  c0 : w.heap[b1]? = some (.cells #[.int .i64 n, .slice (some ⟨gg, 0, none⟩) (n * n : Nat) (n * n : Nat)] 27)
  c1 : w.heap[b1 + 1]? = some (.cells #[.int .i64 0, .slice none 0 0] 31)
theorem heap_cell {w w' : World} {p : Addr} (h : w'.heap[p.block]? = w.heap[p.block]?) : w'.cell? p = w.cell? p := by unfold World.cell?; rw [h]
theorem bytes_low {w w' : World} {a : Option Addr} {g o : Nat} {L : List Int} (h : Bytes w a g o L) (hl : ∀ k, k < w.heap.size → w'.heap[k]? = w.heap[k]?) (hs : w.heap.size ≤ w'.heap.size) : Bytes w' a g o L := by
  refine ⟨fun hp => ⟨(h.at_ hp).1, Nat.lt_of_lt_of_le (h.at_ hp).2 hs⟩, fun i c hi => ?_⟩
  have hp : 0 < L.length := by have := (List.getElem?_eq_some_iff.1 hi).1; omega
  exact (heap_cell (p := ⟨g, o + i, none⟩) (hl g (h.at_ hp).2)).trans (h.cell i c hi)
set_option maxRecDepth 100000 in
set_option maxHeartbeats 4000000 in
/-- From the join to the end. -/
theorem law_end {T : Machine → Prop} {cs : List Frame} {w0 w w1 w2 : World} {n gg gb m dc gs os sc : Nat} {da sa : Option Addr} {L S : List Int} {D : List (Int × Int)} {lv : Value} {T0 : List Value} {s0 s1 : Bool} (h1 : 1 ≤ n) (h2 : n ≤ 8) (hL : Byte8 L) (hS : Byte8 S) (hSl : S.length ≤ 9223372036854775807) (hB : Bytes w0 sa gs os S) (hG : GoodDirs D) (hD : D.length = m)
    (hs : s1 = true → s0 = true) (hT : Tm7 w1 (.slice da m dc) T0) (hM : Mem7 w0 w1.heap.size n gg gb L w) (hF : Left w n gg (n * n) m dc da D (zL L) w2)
    (ht : ∀ fr w5, Out 3 fr [] → Post3 w0 fr w5 → To T (lone fr cs w5)) :
    To T (lone (fr15 Try.f15 w.heap.size n (.slice (some ⟨gg, 0, none⟩) (n * n : Nat) (n * n : Nat)) da m dc) (fr7 Try.f7 T0 w1.heap.size n (.slice (some ⟨gg, 0, none⟩) (n * n : Nat) (n * n : Nat)) (.slice da m dc) s0 s1 :: fr3 Try.f3 lv (.slice da m dc) (.slice sa S.length sc) (gridV n gg (n * n)) gb :: cs) w2) := by
  obtain ⟨b1, b2⟩ := hM.big
  have hgb := hM.gbl
  have hgg := hM.ggl
  obtain ⟨ps, t, hps, hW, hsp⟩ := id hF
  have low2 : ∀ k, k < w.heap.size → w2.heap[k]? = w.heap[k]? := hW.low
  have big2 := hW.big
  refine bw_back hW.c3 ?_
  refine all_back hs hT ((low2 _ (by omega)).trans hM.c0) ((low2 _ (by omega)).trans hM.c1) fun w3 hE => ?_
  refine law_upto ?_
  have s3 := hE.size
  have low3 : ∀ k, k < w.heap.size → k ≠ w1.heap.size + 1 → w3.heap[k]? = w.heap[k]? := fun k hk hn => (hE.block k hn).trans (low2 k hk)
  have al : ∀ k, k < w3.heap.size → (w3.alloc (.cells #[.int .i64 n, .slice (some ⟨w.heap.size + 2, 0, none⟩) m m] 31)).heap[k]? = w3.heap[k]? := fun k hk => alloc_old _ _ k hk
  obtain ⟨ps', hl', hnew, hAs⟩ := asked_of h1 (by omega) (levelsB hL (n * n)) hG hD hF
  have hH : Hand (w3.alloc (.cells #[.int .i64 n, .slice (some ⟨w.heap.size + 2, 0, none⟩) m m] 31)) n gg gb w3.heap.size (w.heap.size + 2) ps' L S sa gs os := by
    refine ⟨(al gb (by omega)).trans ((low3 gb (by omega) (by omega)).trans hM.g0), ?_, row_keep hM.row ((al gg (by omega)).trans (low3 gg (by omega) (by omega))), bytes_low hB (fun k hk => (al k (by omega)).trans ((low3 k (by omega) (by omega)).trans (hM.low k hk))) (by rw [World.size_alloc]; omega), ?_⟩
    · rw [hl']
      exact heap_alloc_new w3 _
    · have hp := hAs.at_
      refine ⟨hAs.hd, hAs.hz, hAs.so, hAs.own, ⟨by rw [World.size_alloc]; omega, fun i hi => ?_, fun i hi => ?_⟩⟩
      · have e : (w3.alloc (.cells #[.int .i64 n, .slice (some ⟨w.heap.size + 2, 0, none⟩) m m] 31)).heap[w.heap.size + 2]? = w2.heap[w.heap.size + 2]? := (al _ (by omega)).trans (hE.block _ (by omega))
        obtain ⟨c1, c2, c3⟩ := hp.cells i hi
        exact ⟨(heap_cell (p := ⟨w.heap.size + 2, i * 3, none⟩) e).trans c1, (heap_cell (p := ⟨w.heap.size + 2, i * 3 + 1, none⟩) e).trans c2, (heap_cell (p := ⟨w.heap.size + 2, i * 3 + 2, none⟩) e).trans c3⟩
      · have hlt := vrow_lt (hp.bins i hi)
        have := hnew i hi
        exact vrow_keep (hp.bins i hi) ((al _ (by omega)).trans (hE.block _ (by omega)))
  refine to_ret (rest3Ok (sc := sc) _ h1 h2 hL hS hSl hH) ?_
  rintro a w5 todo ⟨hd, h6, hb⟩
  refine ht _ _ ⟨rfl, rfl, hd, rfl, rfl⟩ ⟨?_, fun k hk => ?_⟩
  · simpa [Frame.at] using h6
  · rw [hb.block k (by rw [World.size_alloc]; omega), al k (by omega), low3 k (by omega) (by omega), hM.low k hk]
end Go.Proofs.Ythbghcebcahlnaa
