/- The library's Repeat of one int. The landed Wide. The landed sweep: one line. The landed sweep and settle. -/
import Derived.Test.YthbghcebcahlnaaM21
import Derived.Laws.MathBits
import Derived.Laws.CopyOwn
namespace Go.Proofs.Ythbghcebcahlnaa
open Go.RowKit

set_option maxRecDepth 100000 in
set_option maxHeartbeats 1600000 in
theorem mul64 {y : Nat} (hy : y ≤ 4096) (w : World) : Calls (barP Try.prog) 63 #[.int .u64 1, .int .u64 y] w fun e w' => e = .returned (.tuple #[.int .u64 0, .int .u64 y]) ∧ Below w.heap.size w w' := by
  have b1 : bits .and .u64 1 4294967295 = 1 := by rw [and_low32 1 (by decide) (by decide)]; rfl
  have b2 : bits .and .u64 (y : Int) 4294967295 = (y : Int) := by rw [and_low32 _ (by omega) (by omega)]; omega
  have b0 : bits .and .u64 0 4294967295 = 0 := by rw [and_low32 0 (by decide) (by decide)]; rfl
  have b3 : IntKind.u64.wrap (y : Int) = (y : Int) := by rw [IntKind.wrap_u64]; omega
  have b4 : (y : Int) / 4294967296 = 0 := by omega
  go_enter Bar.func63, Bar.ntmps63
  go_wp2_with fail
  go_ret2
  exact ⟨rfl, Below.refl _ _⟩

set_option maxRecDepth 100000 in
set_option maxHeartbeats 1600000 in
theorem bitsMul {y : Nat} (hy : y ≤ 4096) (w : World) : Calls (barP Try.prog) 32 #[.int .u64 1, .int .u64 y] w fun e w' => e = .returned (.tuple #[.int .u64 0, .int .u64 y]) ∧ Below w.heap.size w w' := by
  have k1 := hide (mul64 hy w)
  go_enter Bar.func32, Bar.ntmps32
  go_wp2_with fail
  refine (unhide k1).mono ?_
  rintro e w1 ⟨rfl, hb1⟩
  go_wp2_with fail
  go_ret2
  exact ⟨rfl, hb1⟩

/-- A row whose first k cells hold v. -/
def fillV (x z : Value) (k : Nat) : Nat → Value := fun i => if i < k then x else z
theorem fill_row {w : World} {t : TypeId} {x z : Value} {g M k c : Nat} (h : VRow w t g M (fillV x z k)) (hk : k ≤ M) (hc : c ≤ k) (hM : k + c ≤ M) :
    ∃ cur : Array Value, w.heap[g]? = some (.cells cur t (0, 0)) ∧ (∀ j v, (List.replicate c x)[j]? = some v → w.cell? ((⟨g, 0, none⟩ : Addr).add j) = some v) ∧ k + (List.replicate c x).length ≤ cur.size ∧
      VRow (w.setRow g (cur.toList.take k ++ List.replicate c x ++ cur.toList.drop (k + (List.replicate c x).length)).toArray) t g M (fillV x z (k + c)) := by
  obtain ⟨cur, h1, h2, h3⟩ := h
  unfold fillV at h3 ⊢
  refine ⟨cur, h1, fun j v hv => ?_, by rw [List.length_replicate]; omega, _, setRow_heap w g _ _ _ _ h1, ?_, fun i hi => ?_⟩
  · rw [List.getElem?_replicate] at hv
    split at hv
    · next hj =>
      cases hv
      rw [addr_add, cell_of_row w g j cur _ (0, 0) h1, h3 j (by omega), if_pos (by omega)]
    · cases hv
  · simp
    omega
  · have hlen : (cur.toList.take k).length = k := by simp; omega
    rw [List.getElem?_toArray, List.append_assoc, List.length_replicate]
    dsimp only
    by_cases e1 : i < k
    · rw [List.getElem?_append_left (by omega), List.getElem?_take, if_pos e1, Array.getElem?_toList, h3 i hi, if_pos e1, if_pos (by omega)]
    · rw [List.getElem?_append_right (by omega), hlen]
      by_cases e2 : i < k + c
      · rw [List.getElem?_append_left (by rw [List.length_replicate]; omega), List.getElem?_replicate, if_pos (by omega), if_pos e2]
      · rw [List.getElem?_append_right (by rw [List.length_replicate]; omega), List.length_replicate, List.getElem?_drop, Array.getElem?_toList, show k + c + (i - k - c) = i by omega, h3 i hi, if_neg e1, if_neg e2]

set_option maxRecDepth 100000 in
set_option maxHeartbeats 1600000 in
theorem repeatInts {p M : Nat} {x : Int} (h1 : 1 ≤ M) (hM : M ≤ 4096) (w : World) (c0 : w.cell? ⟨p, 0, none⟩ = some (.int .i64 x)) (hp : p < w.heap.size) :
    Calls (barP Try.prog) 17 #[.slice (some ⟨p, 0, none⟩) 1 1, .int .i64 M] w fun e w' => ∃ g', e = .returned (.slice (some ⟨g', 0, none⟩) M M) ∧ w.heap.size ≤ g' ∧ VRow w' 3 g' M (fun _ => .int .i64 x) ∧ Below w.heap.size w w' := by
  have k1 := hide (bitsMul hM w)
  have q1 : ((M : Int) < 0) = False := by simp
  have q2 : ((9223372036854775807 : Int) < (M : Int)) = False := by simp; omega
  have z1 : IntKind.u64.wrap (M : Int) = (M : Int) := by rw [IntKind.wrap_u64]; omega
  have z2 : IntKind.i64.wrap (M : Int) = (M : Int) := by rw [IntKind.wrap_i64]; omega
  have hmk := run_make_row' (P := (barP Try.prog)) 35 3 (.int .i64 0) 8 Bar.underlying35 infoInt rfl .i64 .i64 M (by omega) (by omega)
  go_enter Bar.func17, Bar.ntmps17
  go_wp2_with fail
  refine (unhide k1).mono ?_
  rintro e w1 ⟨rfl, hb1⟩
  have B1 := hb1
  have c1 := (hb1.cell (p := ⟨p, 0, none⟩) hp).trans c0
  have hs1 := hb1.size
  have R2 : Hid (VRow (w1.alloc (.cells (madeCells #[.int .i64 0] M) 3)) 3 w1.heap.size M (fun _ => .int .i64 0)) := vrow_new w1 (.int .i64 0) M 3
  have b2 : Below w1.heap.size w1 (w1.alloc (.cells (madeCells #[.int .i64 0] M) 3)) := (Below.refl _ _).alloc (Nat.le_refl _) _
  have c2 := hide ((b2.cell (p := ⟨p, 0, none⟩) (by show p < _; omega)).trans c1)
  have B2 := hide (B1.trans (b2.mono hs1))
  clear hb1 k1 c0 c1 B1 b2
  have hsz : ((barP Try.prog).info? 3).map (·.size) = some 1 := by kernel_rfl
  have hrun : ∃ w3, (Builtin.copy_ #[35, 35] 3 #[.slice (some ⟨w1.heap.size, 0, none⟩) M M, .slice (some ⟨p, 0, none⟩) 1 1]).run (barP Try.prog) (w1.alloc (.cells (madeCells #[.int .i64 0] M) 3)) = .ok (.int .i64 1) w3 ∧ VRow w3 3 w1.heap.size M (fillV (.int .i64 x) (.int .i64 0) 1) ∧ Below w.heap.size w w3 := by
    obtain ⟨cur, u1, u2, u3⟩ := unhide R2
    refine ⟨_, run_copy_row (P := (barP Try.prog)) _ 35 35 3 3 w1.heap.size 0 M M ⟨p, 0, none⟩ 1 1 cur 3 [.int .i64 x] Bar.underlying35 hsz u1 (Nat.min_eq_left h1).symm (fun j v hv => ?_) (by simp; omega) (fun v hv => by simp at hv; subst hv; rfl), ?_, below_setRow (unhide B2) (by omega) _⟩
    · match j, hv with
      | 0, hv => rw [addr_add]; simp at hv; subst hv; exact unhide c2
    · refine ⟨_, setRow_heap _ w1.heap.size _ _ _ _ u1, by simp; omega, fun i hi => ?_⟩
      rw [List.getElem?_toArray, List.take_zero, List.nil_append]
      match i with
      | 0 => rfl
      | i + 1 =>
        show (cur.toList.drop 1)[i]? = _
        rw [List.getElem?_drop, Array.getElem?_toList, Nat.add_comm 1 i, u3 (i + 1) hi]
        simp [fillV]
  obtain ⟨w3, hrun, R3, B3⟩ := hrun
  have R3 := hide R3
  have B3 := hide B3
  clear R2 B2 c2
  go_wp2_with fail
  clear hrun hmk
  generalize w1.heap.size = gq at *
  go_loopw [8] (fun kv wr => ∃ k : Nat, 1 ≤ k ∧ k ≤ M ∧ kv = .int .i64 k ∧ Hid (VRow wr 3 gq M (fillV (.int .i64 x) (.int .i64 0) k)) ∧ Hid (Below w.heap.size w wr)) (fun kv _ => M - (intOf kv).toNat)
  case atStart => exact ⟨1, Nat.le_refl _, h1, rfl, R3, B3⟩
  case round =>
    clear R3 B3
    obtain ⟨k, hk1, hk, rfl, hR, hB⟩ := hrel
    by_cases hkM : k < M
    · have q3 : ((k : Int) < (M : Int)) = True := by simp; omega
      have q4 : ((k : Int) ≤ (M : Int)) = True := by simp; omega
      have q5 : ((0 : Int) ≤ (k : Int)) = True := by simp
      obtain ⟨c, hc⟩ : ∃ c, Nat.min k (M - k) = c := ⟨_, rfl⟩
      have hm1 : c ≤ k := hc ▸ Nat.min_le_left _ _
      have hm2 : c ≤ M - k := hc ▸ Nat.min_le_right _ _
      have hm3 : 1 ≤ c := by
        rcases Nat.le_total k (M - k) with h | h
        · have : Nat.min k (M - k) = k := Nat.min_eq_left h
          omega
        · have : Nat.min k (M - k) = M - k := Nat.min_eq_right h
          omega
      have hrun : ∃ w4, (Builtin.copy_ #[35, 35] 3 #[.slice (some ⟨gq, k, none⟩) (M - k) (M - k), .slice (some ⟨gq, 0, none⟩) k M]).run (barP Try.prog) wr.drew = .ok (.int .i64 c) w4 ∧ VRow w4 3 gq M (fillV (.int .i64 x) (.int .i64 0) (k + c)) ∧ Below w.heap.size w w4 := by
        obtain ⟨cu, v1, v2, v3, v4⟩ := fill_row (c := c) (vrow_keep (w' := wr.drew) (unhide hR) rfl) (by omega) hm1 (by omega)
        have := run_copy_row (P := (barP Try.prog)) wr.drew 35 35 3 3 gq k (M - k) (M - k) ⟨gq, 0, none⟩ k M cu 3 (List.replicate c (.int .i64 x)) Bar.underlying35 hsz v1 (by rw [List.length_replicate, hc]) v2 v3 (fun v hv => by
          have := (List.mem_replicate.1 hv).2
          subst this
          rfl)
        refine ⟨_, this.trans ?_, v4, below_setRow ((unhide hB).drew) (by omega) _⟩
        rw [List.length_replicate]
        rfl
      obtain ⟨w4, hrun, R4, B4⟩ := hrun
      have R4 := hide R4
      have B4 := hide B4
      have hc := hide hc
      have z3 : IntKind.i64.wrap ((k : Int) + (c : Int)) = ((k + c : Nat) : Int) := by rw [IntKind.wrap_i64]; omega
      clear hR hB
      go_wp2_with fail
      go_region
      all_goals go_wp2_with fail
      all_goals exact ⟨⟨k + c, by omega, by omega, by simp, R4, B4⟩, by simp [intOf]; omega⟩
    · have e : k = M := by omega
      subst e
      have q3 : ((k : Int) < (k : Int)) = False := by simp
      have R5 := hide (vrow_ext (f' := fun _ => .int .i64 x) (unhide hR) (fun i hi => by simp [fillV, hi]))
      go_wp2_with fail
      go_ret
      exact ⟨gq, rfl, by omega, unhide R5, unhide hB⟩
end Go.Proofs.Ythbghcebcahlnaa

namespace Go.Proofs.Ythbghcebcahlnaa
open Go.RowKit

theorem isSmallYes {n : Int} (h1 : 1 ≤ n) (h2 : n ≤ 16) (w : World) : Calls (barP Try.prog) 16 #[.int .i64 n] w fun e w' => e = .returned (.bool true) ∧ w' = w := by
  have d1 : ((1 : Int) ≤ n) = True := by simp; omega
  have d2 : (n ≤ 16) = True := by simp; omega
  go_enter Bar.func16, Bar.ntmps16
  go_wp2_with fail
  go_ret
  exact ⟨rfl, rfl⟩
theorem isSmallNo {n : Int} (h : n < 1 ∨ 16 < n) (w : World) : Calls (barP Try.prog) 16 #[.int .i64 n] w fun e w' => e = .returned (.bool false) ∧ w' = w := by
  have hd : ((1 : Int) ≤ n) = False ∨ (((1 : Int) ≤ n) = True ∧ (n ≤ 16) = False) := by
    by_cases d1 : n < 1
    · exact Or.inl (by simp; omega)
    · exact Or.inr ⟨by simp; omega, by simp; omega⟩
  clear h
  rcases hd with d1 | ⟨d1, d2⟩
  all_goals
    go_enter Bar.func16, Bar.ntmps16
    go_wp2_with fail
    go_ret
    exact ⟨rfl, rfl⟩

/-- The two lists lie apart. -/
def WideNew (f : Nat) : Prop := ∀ (N : Nat) (w : World), 1 ≤ N → N ≤ 16 → Calls (barP Try.prog) f #[.int .i64 N] w fun e w' =>
  ∃ g h, e = .returned (.tuple #[.slice (some ⟨g, 0, none⟩) (N * N) (N * N), .slice (some ⟨h, 0, none⟩) (N * N) (N * N), .int .i64 0]) ∧ VRow w' 3 g (N * N) (fun _ => .int .i64 0) ∧ VRow w' 3 h (N * N) (fun _ => .int .i64 255) ∧ g ≠ h ∧ Below w.heap.size w w'

section
variable {w w3 : World} {M gq : Nat} {x : Value}
def Ends (w w3 : World) (M g gq : Nat) (x : Value) : Prop := VRow w3 3 g M (fun _ => .int .i64 0) ∧ VRow w3 3 gq M (fun _ => x) ∧ g ≠ gq ∧ Below w.heap.size w w3
theorem wide_a (h1 : (((w.alloc (.cells (madeCells #[.int .i64 0] M) 3)).alloc (.cells #[.int .i64 255] 3)).drew).heap.size ≤ gq) (h2 : VRow w3 3 gq M (fun _ => x))
    (h3 : Below (((w.alloc (.cells (madeCells #[.int .i64 0] M) 3)).alloc (.cells #[.int .i64 255] 3)).drew).heap.size (((w.alloc (.cells (madeCells #[.int .i64 0] M) 3)).alloc (.cells #[.int .i64 255] 3)).drew) w3) : Ends w w3 M w.heap.size gq x := by
  have hs : (((w.alloc (.cells (madeCells #[.int .i64 0] M) 3)).alloc (.cells #[.int .i64 255] 3)).drew).heap.size = w.heap.size + 2 := by show ((w.alloc _).alloc _).heap.size = _; rw [World.size_alloc, World.size_alloc]
  refine ⟨vrow_keep (vrow_new w (.int .i64 0) M 3) ((h3.block _ (by omega)).trans (Below.heap_alloc _ _ _ (by rw [World.size_alloc]; omega))), h2, by omega, ?_⟩
  exact ((((Below.refl w.heap.size w).alloc (Nat.le_refl _) _).alloc (by rw [World.size_alloc]; omega) _).drew).trans (h3.mono (by omega))
theorem wide_b (h1 : (((w.alloc (.cells #[.int .i64 255] 3)).alloc (.cells (madeCells #[.int .i64 0] M) 3)).drew).heap.size ≤ gq) (h2 : VRow w3 3 gq M (fun _ => x))
    (h3 : Below (((w.alloc (.cells #[.int .i64 255] 3)).alloc (.cells (madeCells #[.int .i64 0] M) 3)).drew).heap.size (((w.alloc (.cells #[.int .i64 255] 3)).alloc (.cells (madeCells #[.int .i64 0] M) 3)).drew) w3) : Ends w w3 M (w.heap.size + 1) gq x := by
  have hs : (((w.alloc (.cells #[.int .i64 255] 3)).alloc (.cells (madeCells #[.int .i64 0] M) 3)).drew).heap.size = w.heap.size + 2 := by show ((w.alloc _).alloc _).heap.size = _; rw [World.size_alloc, World.size_alloc]
  have h := vrow_new (w.alloc (.cells #[.int .i64 255] 3)) (.int .i64 0) M 3
  rw [World.size_alloc] at h
  refine ⟨vrow_keep h (h3.block _ (by omega)), h2, by omega, ?_⟩
  exact ((((Below.refl w.heap.size w).alloc (Nat.le_refl _) _).alloc (by rw [World.size_alloc]; omega) _).drew).trans (h3.mono (by omega))
theorem wide_c (h2 : VRow w3 3 gq M (fun _ => x))
    (h3 : Below ((w.alloc (.cells #[.int .i64 255] 3)).drew).heap.size ((w.alloc (.cells #[.int .i64 255] 3)).drew) w3) : Ends w (w3.alloc (.cells (madeCells #[.int .i64 0] M) 3)) M w3.heap.size gq x := by
  have hs : ((w.alloc (.cells #[.int .i64 255] 3)).drew).heap.size = w.heap.size + 1 := by show (w.alloc _).heap.size = _; rw [World.size_alloc]
  have hlt := vrow_lt h2
  have hsz := h3.size
  refine ⟨vrow_new w3 (.int .i64 0) M 3, vrow_keep h2 (Below.heap_alloc _ _ _ hlt), by omega, ?_⟩
  exact ((((Below.refl w.heap.size w).alloc (Nat.le_refl _) _).drew).trans (h3.mono (by omega))).alloc (by omega) _
end

set_option maxRecDepth 100000 in
set_option maxHeartbeats 3200000 in
theorem boundWideNew : WideNew 8 := by
  intro N w h1 h2
  have ks := hide (fun w => isSmallYes (n := (N : Int)) (by omega) (by omega) w)
  obtain ⟨M, hM⟩ : ∃ M, N * N = M := ⟨_, rfl⟩
  have hM2 : M ≤ 256 := by rw [← hM]; exact Nat.mul_le_mul (show N ≤ 16 by omega) (show N ≤ 16 by omega)
  have hM1 : 1 ≤ M := by rw [← hM]; exact Nat.mul_le_mul h1 h1
  have m1 : IntKind.i64.wrap ((N : Int) * (N : Int)) = (M : Int) := by rw [← Int.natCast_mul, hM, IntKind.wrap_i64]; omega
  rw [hM]
  have hmk := run_make_row' (P := (barP Try.prog)) 35 3 (.int .i64 0) 8 Bar.underlying35 infoInt rfl .i64 .i64 M (by omega) (by omega)
  clear hM
  go_enter Bar.func8, Bar.ntmps8
  go_wp2_with fail
  refine (unhide ks _).mono ?_
  rintro e w1 ⟨rfl, rfl⟩
  clear ks
  go_wp2_with fail
  go_region_with (go_at_call 17; refine (repeatInts (x := 255) (M := M) hM1 (by omega) _ (by simp [go_sem]) (by first | (simp; done) | (simp; omega))).mono ?_; rintro e w3 ⟨gq, rfl, hgq, hrow, hb3⟩)
  all_goals go_wp2_with fail
  all_goals go_ret3
  · exact ⟨_, _, rfl, wide_a hgq hrow hb3⟩
  · exact ⟨_, _, rfl, wide_b hgq hrow hb3⟩
  · exact ⟨_, _, rfl, wide_c hrow hb3⟩

set_option maxHeartbeats 3200000 in
theorem boundWide : WideOk 8 := by
  intro n w
  by_cases h : n < 1 ∨ 16 < n
  · have ks := hide (fun w => isSmallNo h w)
    unfold wideLo wideHi wideE
    rw [if_pos h, if_pos h, if_pos h]
    clear h
    go_enter Bar.func8, Bar.ntmps8
    go_wp2_with fail
    refine (unhide ks _).mono ?_
    rintro e w1 ⟨rfl, rfl⟩
    clear ks
    go_wp2_with fail
    go_ret3
    exact ⟨_, _, rfl, ints_none _, ints_none _, Below.refl _ _⟩
  · unfold wideLo wideHi wideE
    rw [if_neg h, if_neg h, if_neg h]
    obtain ⟨N, rfl⟩ : ∃ N : Nat, n = N := ⟨n.toNat, by omega⟩
    rw [Int.toNat_natCast]
    refine (boundWideNew N w (by omega) (by omega)).mono ?_
    rintro e w' ⟨g, h', rfl, r1, r2, _, hb⟩
    exact ⟨_, _, rfl, vrow_ints r1, vrow_ints r2, hb⟩
end Go.Proofs.Ythbghcebcahlnaa

namespace Go.Proofs.Ythbghcebcahlnaa
open Go.RowKit

structure DS where
  least : Int
  most : Int
  ch : Bool
  lo : Nat → Int
  hi : Nat → Int

/-- One cell of a line; none: a contradiction. -/
def dStep (b : Int) (p : Nat) (s : DS) : Option DS :=
  let le := wrap64 (s.least - s.lo p)
  let mo := wrap64 (s.most - s.hi p)
  let low := if s.lo p < wrap64 (b - mo) then wrap64 (b - mo) else s.lo p
  let high := if wrap64 (b - le) < s.hi p then wrap64 (b - le) else s.hi p
  if high < low then none else some ⟨wrap64 (le + low), wrap64 (mo + high), s.ch || (low != s.lo p) || (high != s.hi p), updI s.lo p low, updI s.hi p high⟩
def dK (b : Int) (P : List Nat) (s : DS) : Nat → Option DS
  | 0 => some s
  | k + 1 => (dK b P s k).bind (dStep b (P.getD k 0))
def drawS (P : List Nat) (b : Int) (lo hi : Nat → Int) : Option DS :=
  dK b P ⟨sumK lo P P.length, sumK hi P P.length, false, lo, hi⟩ P.length

theorem dK_less {b : Int} {P : List Nat} {s : DS} : ∀ {n : Nat} {d : DS}, dK b P s n = some d → ∀ k, k ≤ n → ∃ e, dK b P s k = some e
  | 0, d, h, k, hk => by
    have : k = 0 := by omega
    subst this
    exact ⟨d, h⟩
  | n + 1, d, h, k, hk => by
    by_cases e : k = n + 1
    · subst e
      exact ⟨d, h⟩
    · unfold dK at h
      cases hx : dK b P s n with
      | none => rw [hx] at h; cases h
      | some y => exact dK_less hx k (by omega)

/-- What a cell's step is, by its two tests. -/
theorem dStep_at {b : Int} {p : Nat} {s d : DS} (h : dStep b p s = some d) : ∃ le mo L2 H2 low high : Int, le = wrap64 (s.least - s.lo p) ∧ mo = wrap64 (s.most - s.hi p) ∧ L2 = wrap64 (b - mo) ∧ H2 = wrap64 (b - le) ∧
    (((s.lo p < L2) = True ∧ low = L2 ∧ ¬ low = s.lo p) ∨ ((s.lo p < L2) = False ∧ low = s.lo p)) ∧ (((H2 < s.hi p) = True ∧ high = H2 ∧ ¬ high = s.hi p) ∨ ((H2 < s.hi p) = False ∧ high = s.hi p)) ∧ (high < low) = False ∧
    d = ⟨wrap64 (le + low), wrap64 (mo + high), s.ch || (low != s.lo p) || (high != s.hi p), updI s.lo p low, updI s.hi p high⟩ := by
  unfold dStep at h
  dsimp only at h
  obtain ⟨low, hlow⟩ : ∃ low, low = (if s.lo p < wrap64 (b - wrap64 (s.most - s.hi p)) then wrap64 (b - wrap64 (s.most - s.hi p)) else s.lo p) := ⟨_, rfl⟩
  obtain ⟨high, hhigh⟩ : ∃ high, high = (if wrap64 (b - wrap64 (s.least - s.lo p)) < s.hi p then wrap64 (b - wrap64 (s.least - s.lo p)) else s.hi p) := ⟨_, rfl⟩
  rw [← hlow, ← hhigh] at h
  by_cases hn : high < low
  · rw [if_pos hn] at h
    cases h
  · rw [if_neg hn] at h
    refine ⟨_, _, _, _, low, high, rfl, rfl, rfl, rfl, ?_, ?_, ?_, (Option.some.inj h).symm⟩
    · by_cases c : s.lo p < wrap64 (b - wrap64 (s.most - s.hi p))
      · left
        rw [if_pos c] at hlow
        exact ⟨by simp [c], hlow, by omega⟩
      · right
        rw [if_neg c] at hlow
        exact ⟨by simp [c], hlow⟩
    · by_cases c : wrap64 (b - wrap64 (s.least - s.lo p)) < s.hi p
      · left
        rw [if_pos c] at hhigh
        exact ⟨by simp [c], hhigh, by omega⟩
      · right
        rw [if_neg c] at hhigh
        exact ⟨by simp [c], hhigh⟩
    · simp only [eq_iff_iff, iff_false]
      exact hn

theorem sum_held {w0 W : World} {bk gp cp gx cx M m : Nat} {P : List Nat} {b : Int} {x : Nat → Int} {u v : Value} (hm : P.length = m) (hin : ∀ k, k < m → P.getD k 0 < M) (hP : m ≤ 4096) (h : W.cell? ⟨bk, 0, none⟩ = some u ∧ W.cell? ⟨bk, 1, none⟩ = some v ∧ Hid (Below w0.heap.size w0 W)) (hp : Hid (VRow w0 3 gp m (fun i => .int .i64 ((P.getD i 0 : Nat) : Int)))) (hx : Hid (VRow w0 3 gx M (fun i => .int .i64 (x i)))) :
    Calls (barP Try.prog) 88 #[.agg #[.slice (some ⟨gp, 0, none⟩) m cp, .int .i64 b], .slice (some ⟨gx, 0, none⟩) M cx] W fun e w' => e = .returned (.int .i64 (sumK x P m)) ∧ Below W.heap.size W w' := by
  subst hm
  exact sumOk hin hP W (vrow_keep (unhide hp) ((unhide h.2.2).block _ (vrow_lt (unhide hp)))) (vrow_keep (unhide hx) ((unhide h.2.2).block _ (vrow_lt (unhide hx))))

theorem draw_end {v9 wr : World} {gl gh M p n : Nat} {low high : Int} {slo shi : Nat → Int} (hL : IRow wr gl M slo) (hH : IRow wr gh M shi) (hne : gl ≠ gh) (hO : Off gl gh v9 wr) :
    IRow (((wr.drewN n).setCell ⟨gl, p, none⟩ (.int .i64 low)).setCell ⟨gh, p, none⟩ (.int .i64 high)) gl M (updI slo p low) ∧ IRow (((wr.drewN n).setCell ⟨gl, p, none⟩ (.int .i64 low)).setCell ⟨gh, p, none⟩ (.int .i64 high)) gh M (updI shi p high) ∧
      Off gl gh v9 (((wr.drewN n).setCell ⟨gl, p, none⟩ (.int .i64 low)).setCell ⟨gh, p, none⟩ (.int .i64 high)) := by
  have hL' : IRow (wr.drewN n) gl M slo := vrow_keep hL rfl
  have hH' : IRow (wr.drewN n) gh M shi := vrow_keep hH rfl
  have hO' : Off gl gh v9 (wr.drewN n) := ⟨hO.os, hO.tape, hO.output, hO.size, hO.block⟩
  refine ⟨vrow_keep (irow_set hL' p low) (Below.heap_setCell _ _ _ _ (by show gl ≠ gh; exact hne)), irow_set (vrow_keep hH' (Below.heap_setCell _ _ _ _ (by show gh ≠ gl; exact fun e => hne e.symm))) p high, ?_⟩
  exact (hO'.set (p := ⟨gl, p, none⟩) (Or.inl rfl) _).set (p := ⟨gh, p, none⟩) (Or.inr rfl) _

set_option maxRecDepth 100000 in
set_option maxHeartbeats 6400000 in
theorem drawOk {gp cp gl cl gh ch M : Nat} {P : List Nat} {b : Int} {lo hi : Nat → Int} {d : DS} (hd : drawS P b lo hi = some d) (hin : ∀ k, k < P.length → P.getD k 0 < M) (hP : P.length ≤ 4096) (hP1 : 1 ≤ P.length) (hne : gl ≠ gh) (hpl : gp ≠ gl) (hph : gp ≠ gh) (w : World) (hp : PRow w gp P) (hl : IRow w gl M lo) (hh : IRow w gh M hi) :
    Calls (barP Try.prog) 71 #[.agg #[placesV gp cp P, .int .i64 b], .slice (some ⟨gl, 0, none⟩) M cl, .slice (some ⟨gh, 0, none⟩) M ch] w fun e w' => e = .returned (.tuple #[.bool d.ch, .int .i64 0]) ∧ IRow w' gl M d.lo ∧ IRow w' gh M d.hi ∧ Off gl gh w w' := by
  have hk : dK b P ⟨sumK lo P P.length, sumK hi P P.length, false, lo, hi⟩ P.length = some d := hd
  have bx : Hid (Below w.heap.size w (w.alloc (.cells #[placesV gp cp P, .int .i64 b] 94))) := (Below.refl _ _).alloc (Nat.le_refl _) _
  have hp1 := hide (vrow_keep (w' := w.alloc (.cells #[placesV gp cp P, .int .i64 b] 94)) hp ((unhide bx).block _ (vrow_lt hp)))
  have hl1 := hide (vrow_keep (w' := w.alloc (.cells #[placesV gp cp P, .int .i64 b] 94)) hl ((unhide bx).block _ (vrow_lt hl)))
  have hh1 := hide (vrow_keep (w' := w.alloc (.cells #[placesV gp cp P, .int .i64 b] 94)) hh ((unhide bx).block _ (vrow_lt hh)))
  have sz : Hid ((w.alloc (.cells #[placesV gp cp P, .int .i64 b] 94)).heap.size = w.heap.size + 1) := by show _ = _; simp
  have rb := cell_of_row _ w.heap.size 0 _ _ (0, 0) (heap_alloc_new w (.cells #[placesV gp cp P, .int .i64 b] 94))
  have rc := cell_of_row _ w.heap.size 1 _ _ (0, 0) (heap_alloc_new w (.cells #[placesV gp cp P, .int .i64 b] 94))
  simp only [List.getElem?_toArray, List.getElem?_cons_zero, List.getElem?_cons_succ] at rb rc
  have hgl : gl < w.heap.size := vrow_lt hl
  have hgh : gh < w.heap.size := vrow_lt hh
  have hgp : gp < w.heap.size := vrow_lt hp
  have hless := hide (fun k (hk' : k ≤ P.length) => dK_less hk k hk')
  have hstep : Hid (∀ k s, dK b P ⟨sumK lo P P.length, sumK hi P P.length, false, lo, hi⟩ k = some s → dK b P ⟨sumK lo P P.length, sumK hi P P.length, false, lo, hi⟩ (k + 1) = dStep b (P.getD k 0) s) := fun k s h => by
    show (dK b P _ k).bind _ = _
    rw [h]
    rfl
  have hstart : Hid (dK b P ⟨sumK lo P P.length, sumK hi P P.length, false, lo, hi⟩ 0 = some ⟨sumK lo P P.length, sumK hi P P.length, false, lo, hi⟩) := rfl
  have hk := hide hk
  have hin := hide hin
  clear hd hp hl hh
  unfold placesV at bx hp1 hl1 hh1 sz rb rc ⊢
  generalize dK b P ⟨sumK lo P P.length, sumK hi P P.length, false, lo, hi⟩ = DK at *
  generalize hs1 : sumK lo P P.length = s1 at *
  generalize hs2 : sumK hi P P.length = s2 at *
  generalize hm : P.length = m at *
  replace hm := hide hm
  have q0 : (m = 0) = False := by simp; omega
  replace hs1 := hide hs1
  replace hs2 := hide hs2
  go_enter Bar.func71, Bar.ntmps71
  go_wp2_with fail
  generalize w.alloc (.cells #[.slice (some ⟨gp, 0, none⟩) m cp, .int .i64 b] 94) = w0 at *
  have S0 : w0.cell? ⟨w.heap.size, 0, none⟩ = some (.slice (some ⟨gp, 0, none⟩) m cp) ∧ w0.cell? ⟨w.heap.size, 1, none⟩ = some (.int .i64 b) ∧ Hid (Below w0.heap.size w0 w0) := ⟨rb, rc, Below.refl _ _⟩
  have hlt : w.heap.size < w0.heap.size := by have := unhide sz; omega
  clear rb rc
  go_region_held3 (fun w8 => w8.cell? ⟨w.heap.size, 0, none⟩ = some (.slice (some ⟨gp, 0, none⟩) m cp) ∧ w8.cell? ⟨w.heap.size, 1, none⟩ = some (.int .i64 b) ∧ Hid (Below w0.heap.size w0 w8))
    (first | exact held_keep hlt (by assumption) (by assumption) | exact held_drew (by assumption) | exact S0 | exact held_drew S0 | go_keep)
    (first
    | (go_at_call 88; first
        | (with_reducible refine (sum_held (w0 := w0) (unhide hm) (unhide hin) hP (by assumption) hp1 hl1).mono ?_)
        | (with_reducible refine (sum_held (w0 := w0) (unhide hm) (unhide hin) hP (by assumption) hp1 hh1).mono ?_)
       rintro e v9 ⟨rfl, hx⟩
       have hx := hide hx))
  obtain ⟨z0, z1, hend⟩ : v9.cell? ⟨w.heap.size, 0, none⟩ = some (.slice (some ⟨gp, 0, none⟩) m cp) ∧ v9.cell? ⟨w.heap.size, 1, none⟩ = some (.int .i64 b) ∧ Hid (Below w0.heap.size w0 v9) := by assumption
  have P9 := hide (vrow_keep (unhide hp1) ((unhide hend).block _ (vrow_lt (unhide hp1))))
  have L9 := hide (vrow_keep (unhide hl1) ((unhide hend).block _ (vrow_lt (unhide hl1))))
  have H9 := hide (vrow_keep (unhide hh1) ((unhide hend).block _ (vrow_lt (unhide hh1))))
  have hsz9 := (unhide hend).size
  have O9 := hide ((Off.below (gl := gl) (gh := gh) (unhide bx)).trans (Off.below (unhide hend)))
  rw [unhide hs1, unhide hs2]
  have Z0 := hide z0
  have Z1 := hide z1
  clear hx S0 hp1 hl1 hh1 hend bx z1
  go_wp2_with fail
  clear z0
  go_loopw [8, 9, 10, 33] (fun cv lv mv kv wr => ∃ (k : Nat) (s : DS), k ≤ m ∧ kv = .int .i64 k ∧ Hid (DK k = some s) ∧ cv = .bool s.ch ∧ lv = .int .i64 s.least ∧ mv = .int .i64 s.most ∧ Hid (IRow wr gl M s.lo) ∧ Hid (IRow wr gh M s.hi) ∧ Hid (Off gl gh v9 wr)) (fun _ _ _ kv _ => m - (intOf kv).toNat)
  case atStart => exact ⟨0, _, Nat.zero_le _, rfl, hstart, rfl, rfl, rfl, L9, H9, Off.refl _ _ _⟩
  case round =>
    clear L9 H9
    obtain ⟨k, s, hkm, rfl, hDK, rfl, rfl, rfl, hL, hH, hO⟩ := hrel
    by_cases c : k < m
    · have q1 : ((k : Int) < (m : Int)) = True := by simp; omega
      have c1 := vrow_at (vrow_keep (unhide P9) ((unhide hO).block _ (vrow_lt (unhide P9)) hpl hph)) c
      have c2 := ((unhide hO).cell (p := ⟨w.heap.size, 1, none⟩) (by show w.heap.size < _; omega) (by show w.heap.size ≠ _; omega) (by show w.heap.size ≠ _; omega)).trans (unhide Z1)
      have hp := unhide hin k c
      have c3 := vrow_at (unhide hL) hp
      have c4 := vrow_at (unhide hH) hp
      have f3 := vrow_frozen (unhide hL) (P.getD k 0)
      have f4 := vrow_frozen (unhide hH) (P.getD k 0)
      obtain ⟨s', hs'⟩ := unhide hless (k + 1) (by omega)
      have hs'' := hs'
      rw [unhide hstep k s (unhide hDK)] at hs'
      obtain ⟨le, mo, L2, H2, low, high, e1, e2, e3, e4, hcl, hch, hnl, hs3⟩ := dStep_at hs'
      have D2 := hide hs''
      rw [hs3] at D2
      clear hs' hs'' hs3
      generalize P.getD k 0 = p at *
      obtain ⟨sl, sm, sc, slo, shi⟩ := s
      dsimp only at *
      replace e1 := e1.symm
      replace e2 := e2.symm
      replace e3 := e3.symm
      replace e4 := e4.symm
      have hE := hide (fun n => draw_end (n := n) (p := p) (low := low) (high := high) (unhide hL) (unhide hH) hne (unhide hO))
      clear hL hH hO
      generalize slo p = x at *
      generalize shi p = y at *
      have hcc : sc = true ∨ sc = false := by cases sc <;> simp
      rcases hcl with ⟨j1, rfl, j2⟩ | ⟨j1, rfl⟩
      all_goals rcases hch with ⟨i1, rfl, i2⟩ | ⟨i1, rfl⟩
      all_goals rcases hcc with rfl | rfl
      all_goals go_wp2_with fail
      all_goals go_quiet (fail)
      all_goals go_wp2_with fail
      all_goals go_quiet (fail)
      all_goals go_wp2_with fail
      all_goals
        obtain ⟨r1, r2, r3⟩ := unhide hE _
        exact ⟨⟨k + 1, _, by omega, by go_num, D2, by simp [*], rfl, rfl, r1, r2, r3⟩, by simp [intOf]; omega⟩
    · have q1 : ((k : Int) < (m : Int)) = False := by simp; omega
      obtain rfl : k = m := by omega
      obtain rfl : s = d := by
        have h1 := unhide hDK
        rw [unhide hk] at h1
        exact (Option.some.inj h1).symm
      have O2 := hide ((unhide O9).trans (unhide hO))
      go_wp2_with fail
      go_ret2
      exact ⟨rfl, unhide hL, unhide hH, unhide O2⟩
set_option maxRecDepth 100000 in
set_option maxHeartbeats 6400000 in
/-- A line without cells. -/
theorem drawNil {gp cp gl cl gh ch M : Nat} {lo hi : Nat → Int} (w : World) (hp : PRow w gp []) (hl : IRow w gl M lo) (hh : IRow w gh M hi) :
    Calls (barP Try.prog) 71 #[.agg #[placesV gp cp [], .int .i64 0], .slice (some ⟨gl, 0, none⟩) M cl, .slice (some ⟨gh, 0, none⟩) M ch] w fun e w' => e = .returned (.tuple #[.bool false, .int .i64 0]) ∧ IRow w' gl M lo ∧ IRow w' gh M hi ∧ Off gl gh w w' := by
  have bx : Hid (Below w.heap.size w (w.alloc (.cells #[placesV gp cp [], .int .i64 0] 94))) := (Below.refl _ _).alloc (Nat.le_refl _) _
  have hp1 := hide (vrow_keep (w' := w.alloc (.cells #[placesV gp cp [], .int .i64 0] 94)) hp ((unhide bx).block _ (vrow_lt hp)))
  have hl1 := hide (vrow_keep (w' := w.alloc (.cells #[placesV gp cp [], .int .i64 0] 94)) hl ((unhide bx).block _ (vrow_lt hl)))
  have hh1 := hide (vrow_keep (w' := w.alloc (.cells #[placesV gp cp [], .int .i64 0] 94)) hh ((unhide bx).block _ (vrow_lt hh)))
  have sz : Hid ((w.alloc (.cells #[placesV gp cp [], .int .i64 0] 94)).heap.size = w.heap.size + 1) := by show _ = _; simp
  have rb := cell_of_row _ w.heap.size 0 _ _ (0, 0) (heap_alloc_new w (.cells #[placesV gp cp [], .int .i64 0] 94))
  have rc := cell_of_row _ w.heap.size 1 _ _ (0, 0) (heap_alloc_new w (.cells #[placesV gp cp [], .int .i64 0] 94))
  simp only [List.getElem?_toArray, List.getElem?_cons_zero, List.getElem?_cons_succ] at rb rc
  have hin : Hid (∀ k, k < ([] : List Nat).length → ([] : List Nat).getD k 0 < M) := fun k hk => by simp at hk
  have hm0 : Hid (([] : List Nat).length = 0) := rfl
  clear hp hl hh
  unfold placesV at bx hp1 hl1 hh1 sz rb rc ⊢
  have hs1 : sumK lo [] ([] : List Nat).length = 0 := rfl
  have hs2 : sumK hi [] ([] : List Nat).length = 0 := rfl
  generalize hm : ([] : List Nat).length = m at *
  replace hm := hide hm
  have q0 : (m = 0) = True := by simp; exact unhide hm0
  have q1 : (0 < m) = False := by simp; have := unhide hm0; omega
  go_enter Bar.func71, Bar.ntmps71
  go_wp2_with fail
  generalize w.alloc (.cells #[.slice (some ⟨gp, 0, none⟩) m cp, .int .i64 0] 94) = w0 at *
  have S0 : w0.cell? ⟨w.heap.size, 0, none⟩ = some (.slice (some ⟨gp, 0, none⟩) m cp) ∧ w0.cell? ⟨w.heap.size, 1, none⟩ = some (.int .i64 0) ∧ Hid (Below w0.heap.size w0 w0) := ⟨rb, rc, Below.refl _ _⟩
  have hlt : w.heap.size < w0.heap.size := by have := unhide sz; omega
  clear rb rc
  go_region_held3 (fun w8 => w8.cell? ⟨w.heap.size, 0, none⟩ = some (.slice (some ⟨gp, 0, none⟩) m cp) ∧ w8.cell? ⟨w.heap.size, 1, none⟩ = some (.int .i64 0) ∧ Hid (Below w0.heap.size w0 w8))
    (first | exact held_keep hlt (by assumption) (by assumption) | exact held_drew (by assumption) | exact S0 | exact held_drew S0 | go_keep)
    (first
    | (go_at_call 88; first
        | (with_reducible refine (sum_held (w0 := w0) (unhide hm) (unhide hin) (by rw [unhide hm0]; exact Nat.zero_le _) (by assumption) hp1 hl1).mono ?_)
        | (with_reducible refine (sum_held (w0 := w0) (unhide hm) (unhide hin) (by rw [unhide hm0]; exact Nat.zero_le _) (by assumption) hp1 hh1).mono ?_)
       rintro e v9 ⟨rfl, hx⟩
       have hx := hide hx))
  obtain ⟨z0, z1, hend⟩ : v9.cell? ⟨w.heap.size, 0, none⟩ = some (.slice (some ⟨gp, 0, none⟩) m cp) ∧ v9.cell? ⟨w.heap.size, 1, none⟩ = some (.int .i64 0) ∧ Hid (Below w0.heap.size w0 v9) := by assumption
  have L9 := hide (vrow_keep (unhide hl1) ((unhide hend).block _ (vrow_lt (unhide hl1))))
  have H9 := hide (vrow_keep (unhide hh1) ((unhide hend).block _ (vrow_lt (unhide hh1))))
  have O9 := hide ((Off.below (gl := gl) (gh := gh) (unhide bx)).trans (Off.below (unhide hend)))
  clear hx S0 hp1 hl1 hh1 hend bx z1
  go_wp2_with fail
  clear z0
  go_loopw [8, 9, 10, 33] (fun cv lv mv kv wr => cv = .bool false ∧ kv = .int .i64 0 ∧ Hid (wr = v9)) (fun _ _ _ kv _ => 0)
  case atStart => exact ⟨rfl, rfl, rfl⟩
  case round =>
    obtain ⟨rfl, rfl, hw⟩ := hrel
    obtain rfl := unhide hw
    go_wp2_with fail
    go_ret2
    exact ⟨rfl, unhide L9, unhide H9, unhide O9⟩
theorem drawAny {gp cp gl cl gh ch M : Nat} {P : List Nat} {b : Int} {lo hi : Nat → Int} {d : DS} (hd : drawS P b lo hi = some d) (hin : ∀ k, k < P.length → P.getD k 0 < M) (hP : P.length ≤ 4096) (hP1 : P.length = 0 → b = 0) (hne : gl ≠ gh) (hpl : gp ≠ gl) (hph : gp ≠ gh) (w : World) (hp : PRow w gp P) (hl : IRow w gl M lo) (hh : IRow w gh M hi) :
    Calls (barP Try.prog) 71 #[.agg #[placesV gp cp P, .int .i64 b], .slice (some ⟨gl, 0, none⟩) M cl, .slice (some ⟨gh, 0, none⟩) M ch] w fun e w' => e = .returned (.tuple #[.bool d.ch, .int .i64 0]) ∧ IRow w' gl M d.lo ∧ IRow w' gh M d.hi ∧ Off gl gh w w' := by
  match P, hd, hin, hP, hP1, hp with
  | [], hd, hin, hP, hP1, hp =>
    obtain rfl := hP1 rfl
    obtain rfl : _ = d := Option.some.inj hd
    exact drawNil w hp hl hh
  | a :: r, hd, hin, hP, hP1, hp => exact drawOk hd hin hP (by simp) hne hpl hph w hp hl hh
end Go.Proofs.Ythbghcebcahlnaa

namespace Go.Proofs.Ythbghcebcahlnaa
open Go.RowKit

structure LineD where
  gp : Nat
  cp : Nat
  P : List Nat
  b : Int
structure SS where
  ch : Bool
  lo : Nat → Int
  hi : Nat → Int
def l0 : LineD := ⟨0, 0, [], 0⟩
def swStep (l : LineD) (s : SS) : Option SS := (drawS l.P l.b s.lo s.hi).map fun d => ⟨s.ch || d.ch, d.lo, d.hi⟩
def swK (ls : List LineD) (s : SS) : Nat → Option SS
  | 0 => some s
  | k + 1 => (swK ls s k).bind (swStep (ls.getD k l0))
def runK (ls : List LineD) (lo hi : Nat → Int) : Nat → Option SS
  | 0 => some ⟨true, lo, hi⟩
  | t + 1 => (runK ls lo hi t).bind fun s => swK ls ⟨false, s.lo, s.hi⟩ ls.length

theorem swK_less {ls : List LineD} {s : SS} : ∀ {n : Nat} {d : SS}, swK ls s n = some d → ∀ k, k ≤ n → ∃ e, swK ls s k = some e
  | 0, d, h, k, hk => by
    have : k = 0 := by omega
    subst this
    exact ⟨d, h⟩
  | n + 1, d, h, k, hk => by
    by_cases e : k = n + 1
    · subst e
      exact ⟨d, h⟩
    · unfold swK at h
      cases hx : swK ls s n with
      | none => rw [hx] at h; cases h
      | some y => exact swK_less hx k (by omega)

def lineV (ls : List LineD) (i : Nat) : Value := if i % 2 = 0 then placesV (ls.getD (i / 2) l0).gp (ls.getD (i / 2) l0).cp (ls.getD (i / 2) l0).P else .int .i64 (ls.getD (i / 2) l0).b
structure LinesAt (w : World) (gs gl gh M : Nat) (ls : List LineD) : Prop where
  row : VRow w 94 gs (2 * ls.length) (lineV ls)
  nl : gs ≠ gl
  nh : gs ≠ gh
  places : ∀ i, i < ls.length → PRow w (ls.getD i l0).gp (ls.getD i l0).P
  apart : ∀ i, i < ls.length → (ls.getD i l0).gp ≠ gl ∧ (ls.getD i l0).gp ≠ gh
  fits : ∀ i, i < ls.length → (∀ k, k < (ls.getD i l0).P.length → (ls.getD i l0).P.getD k 0 < M) ∧ (ls.getD i l0).P.length ≤ 4096 ∧ ((ls.getD i l0).P.length = 0 → (ls.getD i l0).b = 0)
theorem LinesAt.off {w w' : World} {gs gl gh M : Nat} {ls : List LineD} (h : LinesAt w gs gl gh M ls) (hO : Off gl gh w w') : LinesAt w' gs gl gh M ls :=
  ⟨vrow_keep h.row (hO.block _ (vrow_lt h.row) h.nl h.nh), h.nl, h.nh, fun i hi => vrow_keep (h.places i hi) (hO.block _ (vrow_lt (h.places i hi)) (h.apart i hi).1 (h.apart i hi).2), h.apart, h.fits⟩

theorem lineV_even (ls : List LineD) (k : Nat) : lineV ls (k * 2) = placesV (ls.getD k l0).gp (ls.getD k l0).cp (ls.getD k l0).P := by
  unfold lineV
  rw [if_pos (by omega), show k * 2 / 2 = k by omega]
theorem lineV_odd (ls : List LineD) (k : Nat) : lineV ls (k * 2 + 1) = .int .i64 (ls.getD k l0).b := by
  unfold lineV
  rw [if_neg (by omega), show (k * 2 + 1) / 2 = k by omega]

set_option maxRecDepth 100000 in
set_option maxHeartbeats 3200000 in
theorem sweepOk {gs cs gl cl gh ch M : Nat} {ls : List LineD} {lo hi : Nat → Int} {s : SS} (hs : swK ls ⟨false, lo, hi⟩ ls.length = some s) (hn : ls.length ≤ 100000) (hne : gl ≠ gh) (w : World) (hA : LinesAt w gs gl gh M ls) (hl : IRow w gl M lo) (hh : IRow w gh M hi) :
    Calls (barP Try.prog) 36 #[.slice (some ⟨gs, 0, none⟩) ls.length cs, .slice (some ⟨gl, 0, none⟩) M cl, .slice (some ⟨gh, 0, none⟩) M ch] w fun e w' => e = .returned (.tuple #[.bool s.ch, .int .i64 0]) ∧ IRow w' gl M s.lo ∧ IRow w' gh M s.hi ∧ Off gl gh w w' := by
  have HA := hide hA
  have hless := hide (fun k (hk' : k ≤ ls.length) => swK_less hs k hk')
  have hstep : Hid (∀ k s', swK ls ⟨false, lo, hi⟩ k = some s' → swK ls ⟨false, lo, hi⟩ (k + 1) = swStep (ls.getD k l0) s') := fun k s' h => by
    show (swK ls _ k).bind _ = _
    rw [h]
    rfl
  have hstart : Hid (swK ls ⟨false, lo, hi⟩ 0 = some ⟨false, lo, hi⟩) := rfl
  have hk := hide hs
  have hl := hide hl
  have hh := hide hh
  clear hs hA
  generalize swK ls ⟨false, lo, hi⟩ = SK at *
  generalize hm : ls.length = m at *
  replace hm := hide hm
  go_enter Bar.func36, Bar.ntmps36
  go_wp2_with fail
  go_loopw [8, 15] (fun cv kv wr => ∃ (k : Nat) (s' : SS), k ≤ m ∧ kv = .int .i64 k ∧ Hid (SK k = some s') ∧ cv = .bool s'.ch ∧ Hid (IRow wr gl M s'.lo) ∧ Hid (IRow wr gh M s'.hi) ∧ Hid (Off gl gh w wr)) (fun _ kv _ => m - (intOf kv).toNat)
  case atStart => exact ⟨0, _, Nat.zero_le _, rfl, hstart, rfl, hl, hh, Off.refl _ _ _⟩
  case round =>
    clear hl hh
    obtain ⟨k, s', hkm, rfl, hSK, rfl, hL, hH, hO⟩ := hrel
    by_cases c : k < m
    · have q1 : ((k : Int) < (m : Int)) = True := by simp; omega
      have A2 := (unhide HA).off (unhide hO)
      have kl : k < ls.length := by rw [unhide hm]; exact c
      have c1 := vrow_at A2.row (i := k * 2) (by omega)
      have c2 := vrow_at A2.row (i := k * 2 + 1) (by omega)
      rw [lineV_even] at c1
      rw [lineV_odd] at c2
      obtain ⟨f1, f2, f3⟩ := A2.fits k kl
      obtain ⟨a1, a2⟩ := A2.apart k kl
      have p1 := A2.places k kl
      obtain ⟨s2, hs2⟩ := unhide hless (k + 1) (by omega)
      have D2 := hide hs2
      rw [unhide hstep k s' (unhide hSK)] at hs2
      unfold swStep at hs2
      obtain ⟨d, hd, hs3⟩ := Option.map_eq_some_iff.1 hs2
      generalize ls.getD k l0 = ln at *
      obtain ⟨gp, cp, P, b⟩ := ln
      dsimp only at *
      have y1 := (Below.refl wr.heap.size wr).alloc (Nat.le_refl _) (.cells #[placesV gp cp P, .int .i64 b] 94)
      have kD := hide (drawAny (cp := cp) (cl := cl) (ch := ch) hd f1 f2 f3 hne a1 a2 _ (vrow_keep p1 (y1.block _ (vrow_lt p1))) (vrow_keep (unhide hL) (y1.block _ (vrow_lt (unhide hL)))) (vrow_keep (unhide hH) (y1.block _ (vrow_lt (unhide hH)))))
      have O1 := hide ((unhide hO).trans (Off.below y1))
      have D2' : Hid (SK (k + 1) = some ⟨s'.ch || d.ch, d.lo, d.hi⟩) := by rw [hs3]; exact unhide D2
      have hcc : s'.ch = true ∨ s'.ch = false := by cases s'.ch <;> simp
      unfold placesV at c1 kD O1
      clear A2 f1 f2 f3 a1 a2 p1 hs2 hs3 hd D2 y1 hL hH hO hSK
      go_wp2_with fail
      refine (unhide kD).mono ?_
      rintro e w2 ⟨rfl, r1, r2, o2⟩
      have R1 := hide r1
      have R2 := hide r2
      have O2 := hide ((unhide O1).trans o2)
      clear kD O1 r1 r2 o2
      rcases hcc with hcc | hcc
      all_goals rw [hcc] at D2' ⊢
      all_goals go_wp2_with fail
      all_goals exact ⟨⟨k + 1, _, by omega, by go_num, D2', by simp, R1, R2, O2⟩, by simp [intOf]; omega⟩
    · have q1 : ((k : Int) < (m : Int)) = False := by simp; omega
      obtain rfl : k = m := by omega
      obtain rfl : s' = s := by
        have h1 := unhide hSK
        rw [unhide hk] at h1
        exact (Option.some.inj h1).symm
      go_wp2_with fail
      go_ret2
      exact ⟨rfl, unhide hL, unhide hH, unhide hO⟩
end Go.Proofs.Ythbghcebcahlnaa
