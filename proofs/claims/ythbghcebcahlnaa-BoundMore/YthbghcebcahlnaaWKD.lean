/- The worker's way, well-founded. -/
import Derived.Test.YthbghcebcahlnaaWKC
import Derived.Test.YthbghcebcahlnaaSO
set_option linter.unusedSectionVars false
namespace Go.Proofs.Ythbghcebcahlnaa
open Go.RowKit

theorem wk_re {b : Nat} {w0 : World} {n g c m dc : Nat} {da : Option Addr} {t : Nat} {ps : List PD} {W : World} (τ : Nat → Question → Nat) (d : Nat) (h : Wk b w0 n g c m dc da t ps W) : Wk b w0 n g c m dc da t ps (re W τ d) :=
  ⟨h.low, h.big, h.c0, h.c1, h.row, h.c3, h.c4, h.c5, h.bins, h.new⟩
theorem alloc_old (w : World) (o : Obj) (k : Nat) (hk : k < w.heap.size) : (w.alloc o).heap[k]? = w.heap[k]? := Below.heap_alloc _ _ _ hk
theorem wk_start (w : World) (n g c m dc : Nat) (da : Option Addr) : Wk w.heap.size w n g c m dc da 0 [] (vw w n (.slice (some ⟨g, 0, none⟩) (n * n : Nat) c) da m dc) := by
  have s1 := bw1_size w n (.slice (some ⟨g, 0, none⟩) (n * n : Nat) c) da m dc
  have s2 := bw2_size w n (.slice (some ⟨g, 0, none⟩) (n * n : Nat) c) da m dc
  have s3 := bw3_size w n (.slice (some ⟨g, 0, none⟩) (n * n : Nat) c) da m dc
  have s4 := bw4_size w n (.slice (some ⟨g, 0, none⟩) (n * n : Nat) c) da m dc
  have s5 := bw5_size w n (.slice (some ⟨g, 0, none⟩) (n * n : Nat) c) da m dc
  have k6 : ∀ k, k < w.heap.size + 6 → (vw w n (.slice (some ⟨g, 0, none⟩) (n * n : Nat) c) da m dc).heap[k]? = (bw5 w n (.slice (some ⟨g, 0, none⟩) (n * n : Nat) c) da m dc).heap[k]? := fun k hk => alloc_old _ _ k (by omega)
  have k5 : ∀ k, k < w.heap.size + 5 → (bw5 w n (.slice (some ⟨g, 0, none⟩) (n * n : Nat) c) da m dc).heap[k]? = (bw4 w n (.slice (some ⟨g, 0, none⟩) (n * n : Nat) c) da m dc).heap[k]? := fun k hk => alloc_old _ _ k (by omega)
  have k4 : ∀ k, k < w.heap.size + 4 → (bw4 w n (.slice (some ⟨g, 0, none⟩) (n * n : Nat) c) da m dc).heap[k]? = (bw3 w n (.slice (some ⟨g, 0, none⟩) (n * n : Nat) c) da m dc).heap[k]? := fun k hk => alloc_old _ _ k (by omega)
  have k3 : ∀ k, k < w.heap.size + 3 → (bw3 w n (.slice (some ⟨g, 0, none⟩) (n * n : Nat) c) da m dc).heap[k]? = (bw2 w n (.slice (some ⟨g, 0, none⟩) (n * n : Nat) c) da m dc).heap[k]? := fun k hk => alloc_old _ _ k (by omega)
  have k2 : ∀ k, k < w.heap.size + 2 → (bw2 w n (.slice (some ⟨g, 0, none⟩) (n * n : Nat) c) da m dc).heap[k]? = (bw1 w n (.slice (some ⟨g, 0, none⟩) (n * n : Nat) c) da m dc).heap[k]? := fun k hk => alloc_old _ _ k (by omega)
  have n5 := heap_alloc_new (bw4 w n (.slice (some ⟨g, 0, none⟩) (n * n : Nat) c) da m dc) (.cells #[.func (.func 25) #[] #[.pointer (some ⟨w.heap.size + 4, 0, none⟩)]] 70)
  have n4 := heap_alloc_new (bw3 w n (.slice (some ⟨g, 0, none⟩) (n * n : Nat) c) da m dc) (.cells #[.int .i64 0] 68)
  have n3 := heap_alloc_new (bw2 w n (.slice (some ⟨g, 0, none⟩) (n * n : Nat) c) da m dc) (.cells #[.slice (some ⟨w.heap.size + 2, 0, none⟩) m m] 29)
  have n2 := heap_alloc_new (bw1 w n (.slice (some ⟨g, 0, none⟩) (n * n : Nat) c) da m dc) (.cells (zP m) 49)
  have n1 := heap_alloc_new (w.alloc (.cells #[.int .i64 (n : Int), .slice (some ⟨g, 0, none⟩) (n * n : Nat) c] 27)) (.cells #[.slice da m dc] 23)
  have n0 := heap_alloc_new w (.cells #[.int .i64 (n : Int), .slice (some ⟨g, 0, none⟩) (n * n : Nat) c] 27)
  rw [s4] at n5
  rw [s3] at n4
  rw [s2] at n3
  rw [s1] at n2
  rw [World.size_alloc] at n1
  have l1 : ∀ k, k < w.heap.size + 1 → (bw1 w n (.slice (some ⟨g, 0, none⟩) (n * n : Nat) c) da m dc).heap[k]? = (w.alloc (.cells #[.int .i64 (n : Int), .slice (some ⟨g, 0, none⟩) (n * n : Nat) c] 27)).heap[k]? := fun k hk => alloc_old _ _ k (by simp; omega)
  refine ⟨fun k hk => ?_, ?_, ?_, ?_, ⟨zP m, ?_, ?_, fun i hi => absurd hi (by simp)⟩, ?_, ?_, ?_, fun i hi => absurd hi (by simp), fun i hi => absurd hi (by simp)⟩
  · rw [k6 k (by omega), k5 k (by omega), k4 k (by omega), k3 k (by omega), k2 k (by omega), l1 k (by omega), alloc_old _ _ k hk]
  · show _ ≤ ((bw5 w n (.slice (some ⟨g, 0, none⟩) (n * n : Nat) c) da m dc).alloc _).heap.size
    rw [World.size_alloc, s5]
    omega
  · rw [k6 _ (by omega), k5 _ (by omega), k4 _ (by omega), k3 _ (by omega), k2 _ (by omega), l1 _ (by omega)]; exact n0
  · rw [k6 _ (by omega), k5 _ (by omega), k4 _ (by omega), k3 _ (by omega), k2 _ (by omega)]; exact n1
  · rw [k6 _ (by omega), k5 _ (by omega), k4 _ (by omega), k3 _ (by omega)]; exact n2
  · simp [zP, size_madeCells]
  · rw [k6 _ (by omega), k5 _ (by omega), k4 _ (by omega)]; exact n3
  · rw [k6 _ (by omega), k5 _ (by omega)]; exact n4
  · rw [k6 _ (by omega)]; exact n5
/-- What the worker leaves. -/
def Left (w0 : World) (n g c m dc : Nat) (da : Option Addr) (L : List (Int × Int)) (z : Nat → Int × Int) (w' : World) : Prop :=
  ∃ ps t, ps.length = m ∧ Wk w0.heap.size w0 n g c m dc da t ps w' ∧ ∀ i, i < m → (ps.getD i p0).d = L.getD i (0, 0) ∧ binsS n (L.getD i (0, 0)) = (((ps.getD i p0).nb : Int), 0) ∧ (ps.getD i p0).cb = (ps.getD i p0).nb ∧ (∀ j, j < (ps.getD i p0).nb → BinC (NonNeg (n * n) z) ((ps.getD i p0).z j) (accZ (ixN n (L.getD i (0, 0))) z (n * n) j)) ∧ ∀ j, (ps.getD i p0).iz j = (accZ (ixN n (L.getD i (0, 0))) z (n * n) j).1
theorem left_re {w0 : World} {n g c m dc : Nat} {da : Option Addr} {L : List (Int × Int)} {z : Nat → Int × Int} (w : World) (τ : Nat → Question → Nat) (d : Nat) : Left w0 n g c m dc da L z (re w τ d) ↔ Left w0 n g c m dc da L z w :=
  ⟨fun ⟨ps, t, h1, h2, h3⟩ => ⟨ps, t, h1, ⟨h2.low, h2.big, h2.c0, h2.c1, h2.row, h2.c3, h2.c4, h2.c5, h2.bins, h2.new⟩, h3⟩, fun ⟨ps, t, h1, h2, h3⟩ => ⟨ps, t, h1, wk_re τ d h2, h3⟩⟩
/-- ████ THE WORKER's WAY. ████ -/
theorem workGoes {n g c m dc gd od mz : Nat} {da : Option Addr} {L : List (Int × Int)} {f : Nat → Nat × Nat} {z : Nat → Int × Int} (w : World) (h1 : 1 ≤ n) (h2 : n ≤ 64) (hm : m ≤ 64) (hL : L.length = m)
    (hD : Dirs w da gd od L) (hd64 : ∀ i, i < m → Dir64 (L.getD i (0, 0)) ∧ okD (L.getD i (0, 0)).1 (L.getD i (0, 0)).2 = true) (hgd : 0 < m → gd < w.heap.size) (hR : Row w g (n * n) f) (hg : g < w.heap.size) (hz : ∀ j, j < n * n → Cell (f j) (z j) mz) (hmz : mz ≤ 1048576)
    (hk : ∀ (r : Nat) (o : Obj), w.heap[r]? = some o → okObj Try.prog o) (he : w.os.env = #[]) :
    GoesW (bar Try.prog (barF Try.prog)) (barF Try.prog).size (fun fr' up' w' => up' = [] ∧ (∃ T, fr' = out28 w.heap.size T) ∧ Left w n g c m dc da L z w' ∧ (∀ (r : Nat) (o : Obj), w'.heap[r]? = some o → okObj (barP Try.prog) o) ∧ w'.os.env = #[]) (fr28 Try.f28 w.heap.size) [] (vw w n (.slice (some ⟨g, 0, none⟩) (n * n : Nat) c) da m dc) := by
  letI : Inhabited Junk := noJunk
  have hs : Sib Try.prog (fun _ => False) w w := ⟨rfl, fun _ _ => .inl rfl, fun _ hx => hx.elim, hk, he⟩
  have hs2 := sib_bw hs (n : Int) (.slice (some ⟨g, 0, none⟩) (n * n : Nat) c) da m dc
  refine goesW_of_steps (P := (barP Try.prog)) Bar.again fenceB bodiesB (fun fr up w' τ d => and_congr_right fun _ => and_congr_right fun _ => and_congr_left fun _ => left_re w' τ d) ⟨?_, by simp, fun r o h => okObj_bar _ (hs2.kind r o h), hs2.env⟩ (by rw [Array.getElem?_eq_none_iff]; exact Nat.le_refl _) fun τ d => ?_
  · obtain ⟨q1, q2⟩ := ok28 w.heap.size
    refine ⟨fun i hi => ?_, q2⟩
    have : i = .code (rest28 Try.f28) := by simpa [fr28, Frame.at] using hi
    subst this
    have := q1 _ hi
    show okCode (barP Try.prog) (rest28 Try.f28) = true
    rw [show okCode (barP Try.prog) (rest28 Try.f28) = okCode (bar Try.prog (barF Try.prog)) (rest28 Try.f28) from rfl, okCode_bar]
    exact this
  · obtain ⟨e, a', w', ⟨rfl, hd', ps, t, hl, hW, hsp⟩, hA⟩ := workWp (L := L) (gd := gd) (od := od) (f := f) (z := z) (mz := mz) w (re (vw w n (.slice (some ⟨g, 0, none⟩) (n * n : Nat) c) da m dc) τ d) h1 h2 hm hL hD hd64 hgd hR hg hz hmz (wk_re τ d (wk_start w n g c m dc da)) (Go.Conc.baseD 28) [] ([] ++ [baseF (barF Try.prog).size])
    obtain ⟨T, df⟩ := a'
    obtain rfl : df = [done28 w.heap.size] := hd'
    exact ⟨out28 w.heap.size T, [], w', fun hfit => ⟨rfl, ⟨T, rfl⟩, ⟨ps, t, hl, hW, hsp⟩, hfit.kind, hfit.env⟩, hA.trans (.one step_end)⟩
end Go.Proofs.Ythbghcebcahlnaa
