/- All: from its entry to its call of byWorkers. -/
import Derived.Test.YthbghcebcahlnaaALD
import Derived.Test.YthbghcebcahlnaaYG
namespace Go.Proofs.Ythbghcebcahlnaa
open Go Go.RowKit

/-- The memory at the call of byWorkers. -/
structure In7 (w w1 : World) (n : Int) (cV : Value) : Prop where
  low : Below w.heap.size w w1
  c0 : w1.heap[w.heap.size]? = some (.cells #[.int .i64 n, cV] 27)
  c1 : w1.heap[w.heap.size + 1]? = some (.cells #[.int .i64 0, .slice none 0 0] 31)
/-- The temporaries there. -/
structure Tm7 (w : World) (dV : Value) (T0 : List Value) : Prop where
  len : T0.length = 29
  t1 : T0.getD 1 undef = dV
  t2 : T0.getD 2 undef = .int .i64 1
  t3 : T0.getD 3 undef = .pointer (some ⟨w.heap.size, 0, none⟩)
  t6 : T0.getD 6 undef = .pointer (some ⟨w.heap.size + 1, 0, none⟩)
theorem In7.up {w w1 w2 : World} {n : Int} {cV : Value} (h : In7 w w1 n cV) (hb : Below w1.heap.size w1 w2) : In7 w w2 n cV := by
  have h0 := (Array.getElem?_eq_some_iff.1 h.c0).1
  have h1 := (Array.getElem?_eq_some_iff.1 h.c1).1
  exact ⟨h.low.trans (hb.mono (by omega)), (hb.block _ h0).trans h.c0, (hb.block _ h1).trans h.c1⟩
/-- All on its way: what lies in the memory, what the temporaries hold. -/
def At7 (w : World) (n : Int) (cV dV : Value) (a : Act) (w1 : World) : Prop := In7 w w1 n cV ∧ ∃ x0 x4 x5 x7 x8 x9 x10 x11 x12 x13 x14 x15 x16 x17 x18 x19 x20 x21 x22 x23 x24 x25 x26 x27 x28 : Value, a = ⟨#[x0, dV, .int .i64 1, .pointer (some ⟨w.heap.size, 0, none⟩), x4, x5, .pointer (some ⟨w.heap.size + 1, 0, none⟩), x7, x8, x9, x10, x11, x12, x13, x14, x15, x16, x17, x18, x19, x20, x21, x22, x23, x24, x25, x26, x27, x28, undef, undef, undef, undef, undef, undef, undef], []⟩
set_option maxRecDepth 100000 in
set_option maxHeartbeats 4000000 in
theorem all_to {T : Machine → Prop} {cs : List Frame} {n g c mz gd od cap : Nat} {da : Option Addr} {L : List (Int × Int)} {f : Nat → Nat × Nat} {z : Nat → Int × Int} (w : World) (h1 : 1 ≤ n) (h2 : n ≤ 64) (hR : Row w g (n * n) f) (hz : ∀ j, j < n * n → Cell (f j) (z j) mz) (hm : mz ≤ 1048576)
    (hD : Dirs w da gd od L) (hI : ∀ i, i < L.length → I64 (L.getD i (0, 0)).1 ∧ I64 (L.getD i (0, 0)).2) (hcap : L.length ≤ cap) (hG : GoodDirs L)
    (hl : ∀ w1 T0 s0 s1, (s1 = true → s0 = true) → In7 w w1 n (.slice (some ⟨g, 0, none⟩) (n * n : Nat) c) → Tm7 w (.slice da L.length cap) T0 → To T (lone ((Go.Conc.base 7).at (aG T0 w.heap.size n (.slice (some ⟨g, 0, none⟩) (n * n : Nat) c) (.slice da L.length cap) s0 s1 true true true) [.inRegion (ops9 Try.f7) (5 :: rest9 s0 s1), .code .ret]) cs w1)) :
    To T (lone (Frame.enter (barP Try.prog) 7 #[gridV n g c, .slice da L.length cap, .int .i64 1] .normal) cs w) := by
  rw [Go.Conc.enter_at _ Bar.func7 rfl]
  have hlt := row_lt hR
  have hi0 : In7 w ((w.alloc (.cells #[.int .i64 n, .slice (some ⟨g, 0, none⟩) (n * n : Nat) c] 27)).alloc (.cells #[.int .i64 0, .slice none 0 0] 31)) n (.slice (some ⟨g, 0, none⟩) (n * n : Nat) c) := by
    have := heap_alloc_new (w.alloc (.cells #[.int .i64 (n : Int), .slice (some ⟨g, 0, none⟩) (n * n : Nat) c] 27)) (.cells #[.int .i64 0, .slice none 0 0] 31)
    refine ⟨((Below.refl _ w).alloc (Nat.le_refl _) _).alloc (by simp) _, (alloc_old _ _ _ (by simp)).trans (heap_alloc_new w _), ?_⟩
    rwa [World.size_alloc] at this
  have kG := fun w1 (b : Below w.heap.size w w1) => gridCheck (c := c) w1 h1 h2 (row_below hR b hlt) hz hm
  have kL := fun w1 (b : Below w.heap.size w w1) => lookOk (cap := cap) (by have := hG.1; omega) hI w1 (dirs_below hD b) hcap
  clear hD hI hR hz hm
  replace kG := hide kG
  replace kL := hide kL
  replace hi0 := hide hi0
  replace hl := hide hl
  replace hG := hide hG
  clear h1 h2 hlt
  unfold gridV at *
  generalize L.length = ll at *
  generalize n * n = M at *
  clear hcap
  have e0 : #[Value.agg #[Value.int .i64 n, .slice (some ⟨g, 0, none⟩) M c], .slice da ll cap, .int .i64 1] ++ Array.replicate (Try.f7.ntmps - #[Value.agg #[Value.int .i64 n, .slice (some ⟨g, 0, none⟩) M c], .slice da ll cap, .int .i64 1].size) undef = #[.agg #[.int .i64 n, .slice (some ⟨g, 0, none⟩) M c], .slice da ll cap, .int .i64 1, undef, undef, undef, undef, undef, undef, undef, undef, undef, undef, undef, undef, undef, undef, undef, undef, undef, undef, undef, undef, undef, undef, undef, undef, undef, undef, undef, undef, undef, undef, undef, undef, undef] := by simp
  rw [e0]
  refine to_seq (to_wp (K := At7 w n (.slice (some ⟨g, 0, none⟩) M c) (.slice da ll cap)) ?c0 ?_)
  case c0 =>
    go_wp2_with fail
    exact ⟨unhide hi0, _, _, _, _, _, _, _, _, _, _, _, _, _, _, _, _, _, _, _, _, _, _, _, _, _, rfl⟩
  rintro _ w1 ⟨hi1, x0, x4, x5, x7, x8, x9, x10, x11, x12, x13, x14, x15, x16, x17, x18, x19, x20, x21, x22, x23, x24, x25, x26, x27, x28, rfl⟩
  replace hi1 := hide hi1
  refine to_seq (to_wp (K := At7 w n (.slice (some ⟨g, 0, none⟩) M c) (.slice da ll cap)) ?c1 ?_)
  case c1 =>
    have c0 : w1.cell? ⟨w.heap.size, 0, none⟩ = some (.int .i64 n) := by simp [World.cell?, (unhide hi1).c0]
    have c1 : w1.cell? ⟨w.heap.size, 1, none⟩ = some (.slice (some ⟨g, 0, none⟩) M c) := by simp [World.cell?, (unhide hi1).c0]
    go_wp2_with fail
    refine (unhide kG w1 (unhide hi1).low).mono ?_
    rintro e w2 ⟨rfl, hb2⟩
    replace hb2 := hide hb2
    go_wp2_with fail
    exact ⟨(unhide hi1).up (unhide hb2), _, _, _, _, _, _, _, _, _, _, _, _, _, _, _, _, _, _, _, _, _, _, _, _, _, rfl⟩
  clear hi1 x0 x4 x5 x7 x8 x9 x10 x11 x12 x13 x14 x15 x16 x17 x18 x19 x20 x21 x22 x23 x24 x25 x26 x27 x28 w1
  rintro _ w1 ⟨hi1, x0, x4, x5, x7, x8, x9, x10, x11, x12, x13, x14, x15, x16, x17, x18, x19, x20, x21, x22, x23, x24, x25, x26, x27, x28, rfl⟩
  replace hi1 := hide hi1
  refine to_seq (to_wp (K := At7 w n (.slice (some ⟨g, 0, none⟩) M c) (.slice da ll cap)) ?c2 ?_)
  case c2 =>
    go_wp2_with fail
    refine (unhide kL w1 (unhide hi1).low).mono ?_
    rintro e w2 ⟨r, rfl, hr, hb2⟩
    obtain rfl := hr.2 (unhide hG)
    clear hr
    replace hb2 := hide hb2
    go_wp2_with fail
    exact ⟨(unhide hi1).up (unhide hb2), _, _, _, _, _, _, _, _, _, _, _, _, _, _, _, _, _, _, _, _, _, _, _, _, _, rfl⟩
  clear hi1 x0 x4 x5 x7 x8 x9 x10 x11 x12 x13 x14 x15 x16 x17 x18 x19 x20 x21 x22 x23 x24 x25 x26 x27 x28 w1
  rintro _ w1 ⟨hi1, x0, x4, x5, x7, x8, x9, x10, x11, x12, x13, x14, x15, x16, x17, x18, x19, x20, x21, x22, x23, x24, x25, x26, x27, x28, rfl⟩
  replace hi1 := hide hi1
  refine to_seq (to_wp (K := At7 w n (.slice (some ⟨g, 0, none⟩) M c) (.slice da ll cap)) ?c3 ?_)
  case c3 =>
    go_wp2_with fail
    exact ⟨unhide hi1, _, _, _, _, _, _, _, _, _, _, _, _, _, _, _, _, _, _, _, _, _, _, _, _, _, rfl⟩
  clear hi1 x0 x4 x5 x7 x8 x9 x10 x11 x12 x13 x14 x15 x16 x17 x18 x19 x20 x21 x22 x23 x24 x25 x26 x27 x28 w1
  rintro _ w1 ⟨hi1, x0, x4, x5, x7, x8, x9, x10, x11, x12, x13, x14, x15, x16, x17, x18, x19, x20, x21, x22, x23, x24, x25, x26, x27, x28, rfl⟩
  refine to_seq (to_step step_region_draw ?_)
  have hi2 : In7 w { w1 with drawn := w1.drawn + 1 } n (.slice (some ⟨g, 0, none⟩) M c) := hi1.up ⟨rfl, rfl, rfl, Nat.le_refl _, fun _ _ => rfl⟩
  have e9 : ∀ t, Region.schedule ((barP Try.prog).follows .mixedOrders) (ops9 Try.f7) t = Region.linearise.go .any (ops9 Try.f7) (4 + 5) t (lst false false false false false false false false false) [] := by
    intro t
    rw [mixed]
    simp only [Region.schedule, Bool.true_or, if_true, Region.linearise]
    rw [show (ops9 Try.f7).size = 4 + 5 from by kernel_rfl]
    rfl
  refine (?_ : To T (lone ((Go.Conc.base 7).at _ (.inRegion (ops9 Try.f7) (Region.schedule ((barP Try.prog).follows .mixedOrders) (ops9 Try.f7) _) :: _)) cs _))
  rw [e9]
  exact all_upto (T0 := [x0, .slice da ll cap, .int .i64 1, .pointer (some ⟨w.heap.size, 0, none⟩), x4, x5, .pointer (some ⟨w.heap.size + 1, 0, none⟩), x7, x8, x9, x10, x11, x12, x13, x14, x15, x16, x17, x18, x19, x20, x21, x22, x23, x24, x25, x26, x27, x28]) rfl rfl rfl rfl rfl hi2.c0 (by simp [Go.Conc.base]) (fun s0 s1 hs => unhide hl _ _ s0 s1 hs hi2 ⟨rfl, rfl, rfl, rfl, rfl⟩) 5 _ false false false false false (fun h => by cases h) rfl
end Go.Proofs.Ythbghcebcahlnaa
