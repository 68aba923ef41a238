/- The look through directions. The look through directions: lookThrough. What the worker leaves is what Run asks. The statement's own grid of levels. -/
import Derived.Test.YthbghcebcahlnaaM34
import Derived.Test.YthbghcebcahlnaaM27
import Derived.Test.YthbghcebcahlnaaM29
import Derived.Test.YthbghcebcahlnaaM20
import Derived.BigRegion
namespace Go.Proofs.Ythbghcebcahlnaa
open Go.RowKit

/-- Where a direction stands among the first of a list. -/
def Found (L : List (Int × Int)) (k : Nat) (d : Int × Int) (r : Int) : Prop := (r = -1 ∧ ∀ j, j < k → L.getD j (0, 0) ≠ d) ∨ ∃ j, j < k ∧ r = j ∧ L.getD j (0, 0) = d
theorem dirs_get {w : World} {a : Option Addr} {g o : Nat} {L : List (Int × Int)} (h : Dirs w a g o L) {i : Nat} (hi : i < L.length) : w.cell? ⟨g, o + i * 2, none⟩ = some (.int .i64 (L.getD i (0, 0)).1) ∧ w.cell? ⟨g, o + i * 2 + 1, none⟩ = some (.int .i64 (L.getD i (0, 0)).2) := by
  refine h.cell i _ ?_
  rw [List.getD_eq_getElem?_getD]
  cases hh : L[i]? with
  | none => rw [List.getElem?_eq_none_iff] at hh; omega
  | some x => rfl
set_option maxRecDepth 100000 in
set_option maxHeartbeats 3200000 in
theorem indexDir {a : Option Addr} {g o k cap : Nat} {L : List (Int × Int)} {x y : Int} (hk : k ≤ L.length) (hL : L.length ≤ 4096) (w : World) (h : Dirs w a g o L) :
    Calls (barP Try.prog) 41 #[.slice a k cap, .agg #[.int .i64 x, .int .i64 y]] w fun e w' => ∃ r, e = .returned (.int .i64 r) ∧ Found L k (x, y) r ∧ Below w.heap.size w w' := by
  have H := hide h
  have bx : Hid (Below w.heap.size w (w.alloc (.cells #[.int .i64 x, .int .i64 y] 47))) := (Below.refl _ _).alloc (Nat.le_refl _) _
  have b0 := cell_of (i := 0) (heap_alloc_new w (.cells #[.int .i64 x, .int .i64 y] 47)) rfl
  have b1 := cell_of (i := 1) (heap_alloc_new w (.cells #[.int .i64 x, .int .i64 y] 47)) rfl
  clear h
  go_enter Bar.func41, Bar.ntmps41
  go_wp2_with fail
  generalize w.alloc (.cells #[.int .i64 x, .int .i64 y] 47) = w1 at *
  go_loopw [8] (fun iv wr => ∃ i : Nat, i ≤ k ∧ iv = .int .i64 i ∧ Hid (wr.heap = w1.heap) ∧ Hid (Below w1.heap.size w1 wr) ∧ Hid (∀ j, j < i → L.getD j (0, 0) ≠ (x, y))) (fun iv _ => k - (intOf iv).toNat)
  case atStart => exact ⟨0, Nat.zero_le _, rfl, rfl, Below.refl _ _, fun j hj => absurd hj (by omega)⟩
  case round =>
    obtain ⟨i, hi, rfl, hh, hB, hne⟩ := hrel
    by_cases c1 : i < k
    · have q1 : ((i : Int) < (k : Int)) = True := by simp; omega
      have hda := ((unhide H).at_ (by omega)).1
      have hgl := ((unhide H).at_ (by omega)).2
      subst hda
      obtain ⟨e1, e2⟩ := dirs_get (unhide H) (i := i) (by omega)
      obtain ⟨u, v, huv⟩ : ∃ u v, L.getD i (0, 0) = (u, v) := ⟨_, _, rfl⟩
      rw [huv] at e1 e2
      have huv := hide huv
      have k1 : wr.cell? ⟨g, o + i * 2, none⟩ = some (.int .i64 u) := (heapCell (unhide hh) _).trans (((unhide bx).cell (p := ⟨g, o + i * 2, none⟩) hgl).trans e1)
      have k2 : wr.cell? ⟨g, o + i * 2 + 1, none⟩ = some (.int .i64 v) := (heapCell (unhide hh) _).trans (((unhide bx).cell (p := ⟨g, o + i * 2 + 1, none⟩) hgl).trans e2)
      have k3 : wr.cell? ⟨w.heap.size, 0, none⟩ = some (.int .i64 x) := (heapCell (unhide hh) _).trans b0
      have k4 : wr.cell? ⟨w.heap.size, 1, none⟩ = some (.int .i64 y) := (heapCell (unhide hh) _).trans b1
      clear e1 e2
      have done : ∀ r : Int, Found L k (x, y) r → ∀ wz : World, Below w1.heap.size w1 wz → ∃ r', Ending.returned (.int .i64 r) = .returned (.int .i64 r') ∧ Found L k (x, y) r' ∧ Below w.heap.size w wz := fun r hr wz hz => ⟨r, rfl, hr, (unhide bx).trans (hz.mono (unhide bx).size)⟩
      have done := hide done
      by_cases cu : x = u
      · subst cu
        by_cases cv : y = v
        · subst cv
          go_wp2_with fail
          go_quiet (fail)
          go_wp2_with fail
          go_ret
          exact unhide done i (.inr ⟨i, c1, rfl, unhide huv⟩) _ ⟨(unhide hB).os, (unhide hB).tape, (unhide hB).output, (unhide hB).size, (unhide hB).block⟩
        · have q2 : (y == v) = false := by simp; exact cv
          go_wp2_with fail
          go_quiet (fail)
          go_wp2_with fail
          have hb := unhide hB
          exact ⟨⟨i + 1, by omega, by go_num, unhide hh, ⟨hb.os, hb.tape, hb.output, hb.size, hb.block⟩, fun j hj => by
            by_cases e : j = i
            · subst e; rw [unhide huv]; intro e; exact cv (by injection e with _ e; exact e.symm)
            · exact unhide hne j (by omega)⟩, by simp [intOf]; omega⟩
      · have q2 : (x == u) = false := by simp; exact cu
        go_wp2_with fail
        go_quiet (fail)
        go_wp2_with fail
        have hb := unhide hB
        exact ⟨⟨i + 1, by omega, by go_num, unhide hh, ⟨hb.os, hb.tape, hb.output, hb.size, hb.block⟩, fun j hj => by
            by_cases e : j = i
            · subst e; rw [unhide huv]; intro e; exact cu (by injection e with e _; exact e.symm)
            · exact unhide hne j (by omega)⟩, by simp [intOf]; omega⟩
    · have q1 : ((i : Int) < (k : Int)) = False := by simp; omega
      obtain rfl : i = k := by omega
      go_wp2_with fail
      go_ret
      have hb := unhide hB
      exact ⟨-1, rfl, .inl ⟨rfl, unhide hne⟩, (unhide bx).trans (hb.mono (unhide bx).size)⟩
set_option maxRecDepth 100000 in
set_option maxHeartbeats 3200000 in
theorem containsDir {a : Option Addr} {g o k cap : Nat} {L : List (Int × Int)} {x y : Int} (hk : k ≤ L.length) (hL : L.length ≤ 4096) (w : World) (h : Dirs w a g o L) :
    Calls (barP Try.prog) 24 #[.slice a k cap, .agg #[.int .i64 x, .int .i64 y]] w fun e w' => ∃ r : Bool, e = .returned (.bool r) ∧ (r = true ↔ ∃ j, j < k ∧ L.getD j (0, 0) = (x, y)) ∧ Below w.heap.size w w' := by
  have H := hide h
  clear h
  have bx : Hid (Below w.heap.size w (w.alloc (.cells #[.int .i64 x, .int .i64 y] 47))) := (Below.refl _ _).alloc (Nat.le_refl _) _
  have b0 := cell_of (i := 0) (heap_alloc_new w (.cells #[.int .i64 x, .int .i64 y] 47)) rfl
  have b1 := cell_of (i := 1) (heap_alloc_new w (.cells #[.int .i64 x, .int .i64 y] 47)) rfl
  go_enter Bar.func24, Bar.ntmps24
  go_wp2_with fail
  generalize w.alloc (.cells #[.int .i64 x, .int .i64 y] 47) = w1 at *
  refine (indexDir hk hL w1 (dirs_below (unhide H) (unhide bx))).mono ?_
  rintro e w2 ⟨r, rfl, hr, hb⟩
  have hB := hide ((unhide bx).trans (hb.mono (unhide bx).size))
  have hr := hide hr
  clear hb
  by_cases c : (0 : Int) ≤ r
  · have q : ((0 : Int) ≤ r) = True := by simp [c]
    go_wp2_with fail
    go_ret
    refine ⟨true, rfl, ⟨fun _ => ?_, fun _ => rfl⟩, unhide hB⟩
    rcases unhide hr with ⟨e, _⟩ | ⟨j, h1, _, h3⟩
    · omega
    · exact ⟨j, h1, h3⟩
  · have q : ((0 : Int) ≤ r) = False := by simp [c]
    go_wp2_with fail
    go_ret
    refine ⟨false, rfl, ⟨fun x => (by cases x), fun ⟨j, h1, h2⟩ => ?_⟩, unhide hB⟩
    rcases unhide hr with ⟨_, e⟩ | ⟨j, h1, h3, _⟩
    · exact absurd h2 (e j h1)
    · omega
end Go.Proofs.Ythbghcebcahlnaa

namespace Go.Proofs.Ythbghcebcahlnaa
open Go.RowKit

/-- Directions of which each is one, none twice, and not too many. -/
def GoodDirs (L : List (Int × Int)) : Prop := L.length ≤ 64 ∧ ∀ i, i < L.length → okD (L.getD i (0, 0)).1 (L.getD i (0, 0)).2 = true ∧ ∀ j, j < i → L.getD j (0, 0) ≠ L.getD i (0, 0)
theorem checkS_zero {P Q : Int} : checkS P Q = 0 ↔ okD P Q = true := by
  unfold checkS
  cases okD P Q <;> simp
theorem contains_held {w w2 w8 : World} {a : Option Addr} {g o k cap bx : Nat} {L : List (Int × Int)} {u v : Int} (hk : k ≤ L.length) (hL : L.length ≤ 4096) (H : Hid (Dirs w a g o L)) (hB2 : Hid (Below w.heap.size w w2)) (hlt : bx < w2.heap.size)
    (h : w8.cell? ⟨bx, 0, none⟩ = some (.int .i64 u) ∧ w8.cell? ⟨bx, 1, none⟩ = some (.int .i64 v) ∧ Hid (Below w2.heap.size w2 w8)) :
    Calls (barP Try.prog) 24 #[.slice a k cap, .agg #[.int .i64 u, .int .i64 v]] w8 fun e w9 => ∃ r : Bool, e = .returned (.bool r) ∧ (r = true ↔ ∃ j, j < k ∧ L.getD j (0, 0) = (u, v)) ∧ (w9.cell? ⟨bx, 0, none⟩ = some (.int .i64 u) ∧ w9.cell? ⟨bx, 1, none⟩ = some (.int .i64 v) ∧ Hid (Below w2.heap.size w2 w9)) := by
  have h8 : Below w2.heap.size w2 w8 := h.2.2
  refine (containsDir hk hL w8 (dirs_below (dirs_below (unhide H) (unhide hB2)) h8)).mono ?_
  rintro e w9 ⟨r, rfl, hr, hb⟩
  have hlt8 : bx < w8.heap.size := Nat.lt_of_lt_of_le hlt h8.size
  exact ⟨r, rfl, hr, (hb.cell (p := ⟨bx, 0, none⟩) hlt8).trans h.1, (hb.cell (p := ⟨bx, 1, none⟩) hlt8).trans h.2.1, h8.trans (hb.mono h8.size)⟩
theorem held2_drew {w2 w8 : World} {bx : Nat} {u v : Int} (h : w8.cell? ⟨bx, 0, none⟩ = some (.int .i64 u) ∧ w8.cell? ⟨bx, 1, none⟩ = some (.int .i64 v) ∧ Hid (Below w2.heap.size w2 w8)) : w8.drew.cell? ⟨bx, 0, none⟩ = some (.int .i64 u) ∧ w8.drew.cell? ⟨bx, 1, none⟩ = some (.int .i64 v) ∧ Hid (Below w2.heap.size w2 w8.drew) :=
  ⟨h.1, h.2.1, ⟨(unhide h.2.2).os, (unhide h.2.2).tape, (unhide h.2.2).output, (unhide h.2.2).size, (unhide h.2.2).block⟩⟩
set_option maxRecDepth 100000 in
set_option maxHeartbeats 6400000 in
theorem lookOk {a : Option Addr} {g o cap : Nat} {L : List (Int × Int)} (hL : L.length ≤ 9223372036854775807) (hI : ∀ i, i < L.length → I64 (L.getD i (0, 0)).1 ∧ I64 (L.getD i (0, 0)).2) (w : World) (h : Dirs w a g o L) (hcap : L.length ≤ cap) :
    Calls (barP Try.prog) 14 #[.slice a L.length cap] w fun e w' => ∃ r, e = .returned (.int .i64 r) ∧ (r = 0 ↔ GoodDirs L) ∧ Below w.heap.size w w' := by
  have H := hide h
  have HI := hide hI
  clear h hI
  obtain ⟨N, hN⟩ : ∃ N, L.length = N := ⟨_, rfl⟩
  rw [hN] at hL hcap
  rw [hN]
  have hN := hide hN
  by_cases cL : 64 < N
  · have q1 : ((64 : Int) < (N : Int)) = True := by simp; omega
    go_enter Bar.func14, Bar.ntmps14
    go_wp2_with fail
    go_ret
    refine ⟨2, rfl, ⟨fun x => absurd x (by omega), fun x => ?_⟩, Below.refl _ _⟩
    have := x.1
    rw [unhide hN] at this
    omega
  · have q1 : ((64 : Int) < (N : Int)) = False := by simp; omega
    go_enter Bar.func14, Bar.ntmps14
    go_wp2_with fail
    clear q1
    go_loopw [11] (fun iv wr => ∃ i : Nat, i ≤ N ∧ iv = .int .i64 i ∧ Hid (Below w.heap.size w wr) ∧ Hid (∀ k, k < i → okD (L.getD k (0, 0)).1 (L.getD k (0, 0)).2 = true ∧ ∀ j, j < k → L.getD j (0, 0) ≠ L.getD k (0, 0))) (fun iv _ => N - (intOf iv).toNat)
    case atStart => exact ⟨0, Nat.zero_le _, rfl, Below.refl _ _, fun k hk => absurd hk (by omega)⟩
    case round =>
      obtain ⟨i, hi, rfl, hB, hgood⟩ := hrel
      by_cases c1 : i < N
      · have q1 : ((i : Int) < (N : Int)) = True := by simp; omega
        have hlt : i < L.length := by rw [unhide hN]; exact c1
        have hda := ((unhide H).at_ (by omega)).1
        have hgl := ((unhide H).at_ (by omega)).2
        subst hda
        obtain ⟨e1, e2⟩ := dirs_get (unhide H) (i := i) hlt
        obtain ⟨i1, i2⟩ := unhide HI i hlt
        obtain ⟨u, v, huv⟩ : ∃ u v, L.getD i (0, 0) = (u, v) := ⟨_, _, rfl⟩
        rw [huv] at e1 e2 i1 i2
        have huv := hide huv
        have k1 : wr.cell? ⟨g, o + i * 2, none⟩ = some (.int .i64 u) := ((unhide hB).cell (p := ⟨g, o + i * 2, none⟩) hgl).trans e1
        have k2 : wr.cell? ⟨g, o + i * 2 + 1, none⟩ = some (.int .i64 v) := ((unhide hB).cell (p := ⟨g, o + i * 2 + 1, none⟩) hgl).trans e2
        clear e1 e2
        have b0 := cell_of (i := 0) (heap_alloc_new wr (.cells #[.int .i64 u, .int .i64 v] 47)) rfl
        have b1 := cell_of (i := 1) (heap_alloc_new wr (.cells #[.int .i64 u, .int .i64 v] 47)) rfl
        have sz : Hid ((wr.alloc (.cells #[.int .i64 u, .int .i64 v] 47)).heap.size = wr.heap.size + 1) := by show _ = _; simp
        have hB1 := hide ((unhide hB).alloc (unhide hB).size (.cells #[.int .i64 u, .int .i64 v] 47))
        go_wp2_with fail
        generalize wr.alloc (.cells #[.int .i64 u, .int .i64 v] 47) = w1 at *
        refine (dirCheckG i1 i2 w1).mono ?_
        rintro e w2 ⟨rfl, hg2⟩
        have hB2 := hide ((unhide hB1).trans (hg2.below.mono (unhide hB1).size))
        have hlt2 : wr.heap.size < w2.heap.size := by have := hg2.below.size; have := unhide sz; omega
        have hlt1 : wr.heap.size < w1.heap.size := by have := unhide sz; omega
        have d0 : w2.cell? ⟨wr.heap.size, 0, none⟩ = some (.int .i64 u) := (hg2.below.cell (p := ⟨wr.heap.size, 0, none⟩) hlt1).trans b0
        have d1 : w2.cell? ⟨wr.heap.size, 1, none⟩ = some (.int .i64 v) := (hg2.below.cell (p := ⟨wr.heap.size, 1, none⟩) hlt1).trans b1
        clear hg2 hB1 b0 b1 sz
        cases ok : okD u v with
        | false =>
          have ek : checkS u v = 60 := checkS_bad ok
          rw [ek]
          clear ek
          go_wp2_with fail
          go_ret
          refine ⟨60, rfl, ⟨fun x => absurd x (by omega), fun x => ?_⟩, unhide hB2⟩
          have := (x.2 i hlt).1
          rw [unhide huv, ok] at this
          cases this
        | true =>
          have ek : checkS u v = 0 := checkS_zero.2 ok
          rw [ek]
          clear ek
          have S0 : w2.cell? ⟨wr.heap.size, 0, none⟩ = some (.int .i64 u) ∧ w2.cell? ⟨wr.heap.size, 1, none⟩ = some (.int .i64 v) ∧ Hid (Below w2.heap.size w2 w2) := ⟨d0, d1, Below.refl _ _⟩
          have r1 : (0 : Int) ≤ (i : Int) := by omega
          have r2 : (i : Int) ≤ (cap : Int) := by omega
          have r3 : ¬ cap = 0 := by omega
          have r4 : i ≤ cap := by omega
          have ok := hide ok
          clear d0 d1 k1 k2
          go_wp2_with fail
          go_region_held3 (fun w8 => w8.cell? ⟨wr.heap.size, 0, none⟩ = some (.int .i64 u) ∧ w8.cell? ⟨wr.heap.size, 1, none⟩ = some (.int .i64 v) ∧ Hid (Below w2.heap.size w2 w8))
            (first | assumption | exact S0 | exact held2_drew S0 | exact held2_drew (by assumption) | go_keep)
            (first
            | (go_at_call 24; with_reducible refine (contains_held (w2 := w2) (by omega) (by rw [unhide hN]; omega) H hB2 hlt2 (by assumption)).mono ?_
               rintro e v9 ⟨r, rfl, hr, hs⟩
               have hr := hide hr))
          have hB9 := hide ((unhide hB2).trans ((unhide hs.2.2).mono (unhide hB2).size))
          clear hs S0
          cases r with
          | true =>
            go_wp2_with fail
            go_ret
            refine ⟨3, rfl, ⟨fun x => absurd x (by omega), fun x => ?_⟩, unhide hB9⟩
            obtain ⟨j, j1, j2⟩ := (unhide hr).1 (by trivial)
            exact absurd (j2.trans (unhide huv).symm) ((x.2 i hlt).2 j j1)
          | false =>
            go_wp2_with fail
            refine ⟨⟨i + 1, by omega, by go_num, hB9, fun k hk => ?_⟩, by simp [intOf]; omega⟩
            by_cases e : k = i
            · subst e
              rw [unhide huv]
              refine ⟨unhide ok, fun j hj he => ?_⟩
              have := (unhide hr).2 ⟨j, hj, he⟩
              cases this
            · exact unhide hgood k (by omega)
      · have q1 : ((i : Int) < (N : Int)) = False := by simp; omega
        obtain rfl : i = N := by omega
        go_wp2_with fail
        go_ret
        have hb := unhide hB
        exact ⟨0, rfl, ⟨fun _ => ⟨by rw [unhide hN]; omega, fun k hk => unhide hgood k (by rw [unhide hN] at hk; exact hk)⟩, fun _ => rfl⟩, ⟨hb.os, hb.tape, hb.output, hb.size, hb.block⟩⟩
end Go.Proofs.Ythbghcebcahlnaa

namespace Go.Proofs.Ythbghcebcahlnaa
open Go.RowKit Go.Shelf

theorem acc_im {ix : Nat → Nat} {z : Nat → Int × Int} {j : Nat} : ∀ {K : Nat}, (∀ k, k < K → (z k).2 = 0) → (accZ ix z K j).2 = 0
  | 0, _ => rfl
  | K + 1, h => by
    have ih := acc_im (ix := ix) (z := z) (j := j) (K := K) fun k hk => h k (by omega)
    unfold accZ
    split
    · show (accZ ix z K j).2 + (z K).2 = 0
      rw [ih, h K (by omega)]
      rfl
    · exact ih
/-- A grid of levels. -/
def Levels (M : Nat) (z : Nat → Int × Int) : Prop := ∀ k, k < M → 0 ≤ (z k).1 ∧ (z k).1 ≤ 255 ∧ (z k).2 = 0
theorem bins_few {n nb : Nat} {d : Int × Int} (h1 : 1 ≤ n) (h2 : n ≤ 16) (ho : okD d.1 d.2 = true) (hb : binsS n d = ((nb : Int), 0)) : 1 ≤ nb ∧ nb ≤ 512 := by
  obtain ⟨b1, b2, b3⟩ := okD_bounds ho
  have hx : binsS n d = (((n : Int) - 1) * (d.1.natAbs + d.2) + 1, 0) := by
    unfold binsS
    rw [if_neg (by omega), if_pos ho]
  rw [hx] at hb
  have e : ((n : Int) - 1) * (d.1.natAbs + d.2) + 1 = (nb : Int) := congrArg Prod.fst hb
  have h0 : 0 ≤ ((n : Int) - 1) * (d.1.natAbs + d.2) := Int.mul_nonneg (by omega) (by omega)
  have h1 : ((n : Int) - 1) * (d.1.natAbs + d.2) ≤ 15 * 32 := Int.mul_le_mul (by omega) (by omega) (by omega) (by decide)
  omega
/-- A line of the own. -/
theorem own_line {n nb j : Nat} {d : Int × Int} {z : Nat → Int × Int} (h1 : 1 ≤ n) (h2 : n ≤ 16) (ho : okD d.1 d.2 = true) (hb : binsS n d = ((nb : Int), 0)) (hj : j < nb) : Own (n * n) (fun k => (z k).1) (placesS n d j, (accZ (ixN n d) z (n * n) j).1) := by
  obtain ⟨_, e2⟩ := places_own h1 (by omega) ho hb hj
  have hsq : n * n ≤ 256 := Nat.mul_le_mul (show n ≤ 16 by omega) (show n ≤ 16 by omega)
  refine ⟨?_, fun c hc => ?_, ?_, ?_⟩
  · show (placesS n d j).Nodup
    rw [e2]
    exact List.nodup_range.filter _
  · have hc : c ∈ placesS n d j := hc
    rw [e2, List.mem_filter, List.mem_range] at hc
    exact hc.1
  · show sumL _ (placesS n d j) = _
    rw [e2, acc_sum]
  · show (placesS n d j).length ≤ 256
    rw [e2]
    exact Nat.le_trans (List.length_filter_le _ _) (by simp; exact hsq)
theorem acc_small {n : Nat} {ix : Nat → Nat} {z : Nat → Int × Int} (h2 : n ≤ 16) (hz : Levels (n * n) z) (j : Nat) : 0 ≤ (accZ ix z (n * n) j).1 ∧ (accZ ix z (n * n) j).1 ≤ 65280 := by
  have hsq : n * n ≤ 256 := Nat.mul_le_mul (show n ≤ 16 by omega) (show n ≤ 16 by omega)
  rw [acc_sum]
  have := sumL_bounds (f := fun k => (z k).1) (L := (List.range (n * n)).filter fun k => decide (ix k = j)) fun c hc => by
    rw [List.mem_filter, List.mem_range] at hc
    have := hz c hc.1
    exact ⟨this.1, this.2.1⟩
  have hl : ((List.range (n * n)).filter fun k => decide (ix k = j)).length ≤ n * n := Nat.le_trans (List.length_filter_le _ _) (by simp)
  omega
theorem place_wrap {n i : Nat} (h : i < 256) : wrap64 (wrap64 (((i / n : Nat) : Int) * (n : Int)) + ((i % n : Nat) : Int)) = ((i : Nat) : Int) := by
  have hdm := Nat.div_add_mod i n
  rw [Nat.mul_comm] at hdm
  rw [← Int.natCast_mul]
  generalize i / n * n = a at *
  generalize i % n = b at *
  have w1 : wrap64 (a : Int) = (a : Int) := wrap_in (by omega) (by omega)
  rw [w1, wrap_in (by omega) (by omega)]
  omega
/-- All that Run asks of projections. -/
structure Asked (n : Nat) (ps : List PD) (g : Nat → Int) (gq : Nat) (w : World) : Prop where
  hd : ∀ i, i < ps.length → Dir64 (ps.getD i p0).d ∧ binsS n (ps.getD i p0).d = (((ps.getD i p0).nb : Int), 0) ∧ 1 ≤ (ps.getD i p0).nb
  hz : ∀ i j, i < ps.length → j < (ps.getD i p0).nb → ∀ W : World, Calls (barP Try.prog) 69 #[.complex .f64 ((ps.getD i p0).z j).1 ((ps.getD i p0).z j).2] W fun e W' => e = .returned (.bool false) ∧ Below W.heap.size W W'
  so : Sound n ps
  own : Owns (n * n) g (lk n ps ps.length 0)
  at_ : ProjsAt w gq ps
theorem asked_of {w0 w : World} {n g c m dc : Nat} {da : Option Addr} {L : List (Int × Int)} {z : Nat → Int × Int} (h1 : 1 ≤ n) (h2 : n ≤ 16) (hz : Levels (n * n) z) (hG : GoodDirs L) (hL : L.length = m) (h : Left w0 n g c m dc da L z w) :
    ∃ ps, ps.length = m ∧ (∀ i, i < ps.length → w0.heap.size + 7 ≤ (ps.getD i p0).gb) ∧ Asked n ps (fun k => (z k).1) (w0.heap.size + 2) w := by
  obtain ⟨ps, t, hps, hW, hs⟩ := h
  have hsq : n * n ≤ 256 := Nat.mul_le_mul (show n ≤ 16 by omega) (show n ≤ 16 by omega)
  have hok : ∀ i, i < m → okD (L.getD i (0, 0)).1 (L.getD i (0, 0)).2 = true := fun i hi => (hG.2 i (by omega)).1
  have h64 : ∀ i, i < m → Dir64 (L.getD i (0, 0)) := fun i hi => by
    obtain ⟨b1, b2, b3⟩ := okD_bounds (hok i hi)
    exact ⟨by unfold I64; omega, by unfold I64; omega⟩
  have hnn : NonNeg (n * n) z := fun k hk => by have := hz k hk; omega
  refine ⟨ps, hps, hW.new, ⟨fun i hi => ?_, fun i j hi hj W => ?_, ?_, fun x hx => ?_, ?_⟩⟩
  · rw [hps] at hi
    obtain ⟨e1, e2, _⟩ := hs i hi
    rw [e1]
    exact ⟨h64 i hi, e2, (bins_few h1 h2 (hok i hi) e2).1⟩
  · rw [hps] at hi
    obtain ⟨e1, e2, e3, e4, e5⟩ := hs i hi
    have hB := e4 j hj
    obtain ⟨⟨n1, n2⟩, n3, n4⟩ := hB.no hnn
    rw [n4 (acc_im fun k hk => (hz k hk).2.2)]
    exact sumOwn hB.lt1 hB.ic.one n2 n1 (by have := (acc_small (ix := ixN n (L.getD i (0, 0))) h2 hz j).2; omega) W
  · refine ⟨h2, by rw [hps, ← hL]; exact hG.1, fun i hi => ?_, fun i j hi hj => ?_, fun i j k hi hj hk => ?_, fun i j hi hj W => ?_⟩
    · rw [hps] at hi
      obtain ⟨e1, e2, _⟩ := hs i hi
      rw [e1]
      exact ⟨(bins_few h1 h2 (hok i hi) e2).2, h64 i hi⟩
    · rw [hps] at hi
      obtain ⟨e1, e2, _⟩ := hs i hi
      rw [e1, (places_own h1 (by omega) (hok i hi) e2 hj).1, List.length_map]
      exact Nat.le_trans (List.length_filter_le _ _) (by simp; exact hsq)
    · rw [hps] at hi
      obtain ⟨e1, e2, _⟩ := hs i hi
      rw [e1] at hk ⊢
      obtain ⟨f1, f2⟩ := places_own h1 (by omega) (hok i hi) e2 hj
      rw [f1, List.length_map] at hk
      rw [f1, f2]
      generalize hF : (List.range (n * n)).filter (fun k => decide (ixN n (L.getD i (0, 0)) k = j)) = F at hk
      have hall : ∀ x, x ∈ F → x < n * n := fun x hx => by
        rw [← hF, List.mem_filter, List.mem_range] at hx
        exact hx.1
      have hlt : F[k] < n * n := hall _ (List.getElem_mem hk)
      rw [List.getD_eq_getElem?_getD, List.getElem?_map, List.getElem?_eq_getElem hk, List.getD_eq_getElem?_getD, List.getElem?_eq_getElem hk]
      show wrap64 (wrap64 (((F[k] / n : Nat) : Int) * (n : Int)) + ((F[k] % n : Nat) : Int)) = ((F[k] : Nat) : Int)
      exact place_wrap (Nat.lt_of_lt_of_le hlt hsq)
    · rw [hps] at hi
      obtain ⟨e1, e2, e3, e4, e5⟩ := hs i hi
      rw [e5 j]
      exact conv_iv (e4 j hj).ic.one (by have := acc_small (ix := ixN n (L.getD i (0, 0))) h2 hz j; omega) W
  · rw [lk_all, List.mem_flatMap] at hx
    obtain ⟨p, hp, hx⟩ := hx
    obtain ⟨i, hi, rfl⟩ := pd_mem hp
    unfold allS' at hx
    rw [List.mem_map] at hx
    obtain ⟨j, hj, rfl⟩ := hx
    rw [List.mem_range] at hj
    rw [hps] at hi
    obtain ⟨e1, e2, e3, e4, e5⟩ := hs i hi
    unfold pairS
    rw [e1, e5 j]
    exact own_line h1 h2 (hok i hi) e2 hj
  · obtain ⟨cur, r1, r2, r3⟩ := hW.row
    refine ⟨(Array.getElem?_eq_some_iff.1 r1).1, fun i hi => ?_, hW.bins⟩
    obtain ⟨s1, s2, s3⟩ := r3 i hi
    exact ⟨cell_of r1 s1, cell_of r1 s2, cell_of r1 s3⟩
end Go.Proofs.Ythbghcebcahlnaa

namespace Go.Proofs.Ythbghcebcahlnaa
open Go.RowKit Fl
attribute [local go_sem] store_complex

/-- The side of so many levels. -/
def sideB (l : Nat) : Nat := if 64 ≤ l then 8 else if 49 ≤ l then 7 else if 36 ≤ l then 6 else if 25 ≤ l then 5 else if 16 ≤ l then 4 else if 9 ≤ l then 3 else if 4 ≤ l then 2 else 1
theorem sideB_of {l n : Nat} (h1 : 1 ≤ n) (h8 : n ≤ 8) (ha : n = 1 ∨ n * n ≤ l) (hb : n = 8 ∨ l < (n + 1) * (n + 1)) : sideB l = n := by
  unfold sideB
  have : n = 1 ∨ n = 2 ∨ n = 3 ∨ n = 4 ∨ n = 5 ∨ n = 6 ∨ n = 7 ∨ n = 8 := by omega
  rcases this with rfl | rfl | rfl | rfl | rfl | rfl | rfl | rfl
  all_goals
    simp at ha hb
    repeat (first | rw [if_pos (by omega)] | rw [if_neg (by omega)])
theorem sideB_le (l : Nat) : 1 ≤ sideB l ∧ sideB l ≤ 8 := by
  unfold sideB
  repeat (first | omega | split)

def lvlB (L : List Int) (i : Nat) : Nat × Nat := if i < L.length then (floatOfInt .f64 (L.getD i 0), 0) else (0, 0)
def lvlTo (L : List Int) (k i : Nat) : Nat × Nat := if i < k then lvlB L i else (0, 0)
theorem lvlTo_step (L : List Int) (k i : Nat) : upd (lvlTo L k) k (lvlB L k) i = lvlTo L (k + 1) i := by
  unfold upd lvlTo
  by_cases c : i = k
  · subst c
    rw [if_pos rfl, if_pos (by omega)]
  · rw [if_neg c]
    by_cases d : i < k
    · rw [if_pos d, if_pos (by omega)]
    · rw [if_neg d, if_neg (by omega)]
theorem lvlTo_out {L : List Int} {k : Nat} (h : ¬ k < L.length) (i : Nat) : lvlTo L k i = lvlB L i := by
  unfold lvlTo
  split
  · rfl
  · unfold lvlB
    rw [if_neg (by omega)]

set_option maxHeartbeats 3200000 in
theorem gridAny {L : List Int} {a : Option Addr} {cap g o : Nat} (hL : L.length ≤ 9223372036854775807) (w : World) (h : Bytes w a g o L) :
    Calls (barP Try.prog) 6 #[.slice a L.length cap] w fun e w' =>
      ∃ g', e = .returned (.agg #[.int .i64 (sideB L.length : Nat), .slice (some ⟨g', 0, none⟩) (sideB L.length * sideB L.length : Nat) (sideB L.length * sideB L.length : Nat)]) ∧ w.heap.size ≤ g' ∧ Row w' g' (sideB L.length * sideB L.length) (lvlB L) ∧ Below w.heap.size w w' := by
  obtain ⟨i0, hi0, hz0, hz1, hz2⟩ := info_parts infoC
  have H := hide h
  have hsd := hide (fun n a b c d => sideB_of (l := L.length) (n := n) a b c d)
  clear h
  obtain ⟨N, hN⟩ : ∃ N, L.length = N := ⟨_, rfl⟩
  have hNN := hide hN
  rw [hN] at hsd hL ⊢
  clear hN
  generalize sideB N = sd at *
  go_enter Bar.func6, Bar.ntmps6
  go_wp2_with fail
  generalize hw0 : w.alloc (.cells #[.int .i64 0, .slice none 0 0] 27) = w0
  have B0 : Hid (Below w.heap.size w w0) := by rw [← hw0]; exact (Below.refl _ _).alloc (Nat.le_refl _) _
  have s0 : Hid (w0.heap.size = w.heap.size + 1) := by show _ = _; rw [← hw0]; simp
  have s1 : w.heap.size < w0.heap.size := by have := unhide s0; omega
  have r0 : Hid (w0.heap[w.heap.size]? = some (.cells #[.int .i64 0, .slice none 0 0] 27 (0, 0))) := by rw [← hw0]; exact heap_alloc_new w _
  clear hw0
  go_loopw [3] (fun nv wr => ∃ n : Nat, 1 ≤ n ∧ n ≤ 8 ∧ nv = .int .i64 n ∧ Hid (n = 1 ∨ n * n ≤ N) ∧ w0 = wr) (fun nv _ => 8 - (intOf nv).toNat)
  case atStart => exact ⟨1, Nat.le_refl _, by decide, rfl, Or.inl rfl, rfl⟩
  case round =>
    obtain ⟨n, hn1, hn8, rfl, hsq, rfl⟩ := hrel
    have m0 : (n + 1) * (n + 1) ≤ 81 := Nat.mul_le_mul (show n + 1 ≤ 9 by omega) (show n + 1 ≤ 9 by omega)
    have a0 : IntKind.i64.wrap ((n : Int) + 1) = ((n + 1 : Nat) : Int) := by rw [IntKind.wrap_i64]; omega
    have a1 : IntKind.i64.wrap (((n + 1 : Nat) : Int) * ((n + 1 : Nat) : Int)) = (((n + 1) * (n + 1) : Nat) : Int) := by rw [← Int.natCast_mul, IntKind.wrap_i64]; omega
    have a2 : IntKind.i64.wrap (((n : Int) + 1) * ((n : Int) + 1)) = (((n + 1) * (n + 1) : Nat) : Int) := by
      rw [show ((n : Int) + 1) = ((n + 1 : Nat) : Int) by omega]; exact a1
    by_cases c : (n + 1) * (n + 1) ≤ N ∧ n < 8
    · have q1 : ((((n + 1) * (n + 1) : Nat) : Int) ≤ (N : Int)) = True := by simp only [eq_iff_iff, iff_true]; omega
      have q2 : ((n : Int) < 8) = True := by simp; omega
      have hsq2 : Hid (n + 1 = 1 ∨ (n + 1) * (n + 1) ≤ N) := Or.inr c.1
      have c8 := c.2
      generalize (n + 1) * (n + 1) = sq at q1 a1 a2
      clear hsq c m0
      go_wp2_with fail
      exact ⟨⟨n + 1, by omega, by omega, by go_num, hsq2, trivial⟩, by simp [intOf]; omega⟩
    · have hsd2 := unhide hsd n hn1 hn8 (unhide hsq) (by omega)
      have hd : ((((n + 1) * (n + 1) : Nat) : Int) ≤ (N : Int)) = False ∨ (((((n + 1) * (n + 1) : Nat) : Int) ≤ (N : Int)) = True ∧ ((n : Int) < 8) = False) := by
        by_cases c1 : (n + 1) * (n + 1) ≤ N
        · exact Or.inr ⟨by simp only [eq_iff_iff, iff_true]; omega, by simp; omega⟩
        · exact Or.inl (by simp only [eq_iff_iff, iff_false]; omega)
      obtain ⟨M, hM⟩ : ∃ M, n * n = M := ⟨_, rfl⟩
      have hM2 : M ≤ 64 := by rw [← hM]; exact Nat.mul_le_mul hn8 hn8
      have hM1 : 1 ≤ M := by rw [← hM]; exact Nat.mul_le_mul hn1 hn1
      have a3 : IntKind.i64.wrap ((n : Int) * (n : Int)) = (M : Int) := by rw [← Int.natCast_mul, hM, IntKind.wrap_i64]; omega
      have hMM := hide hM
      have hss := hide hsd2
      generalize (n + 1) * (n + 1) = sq at *
      clear hsq c hM hsd2 hsd
      rcases hd with d1 | ⟨d1, d2⟩
      all_goals
        go_wp2_with (first
          | (at_make; refine wpList_make_full _ rfl (.tmp 23) (.tmp 23) 25 rfl w0.heap.size 39 i0 (.complex .f64 0 0) 1 Bar.underlying25 hi0 hz0 hz1 .i64 .i64 M M M rfl rfl rfl rfl ?c1 ?c2 ?c3 ?_))
        case c1 => rw [hz2]; omega
        case c2 => unfold maxLen; omega
        case c3 => exact Nat.le_refl _
        intro w2 hown2 hg2
        have hT : Hid (Row w2 w0.heap.size M (lvlTo L 0)) := row_ext (row_made hown2 (fun _ => (0, 0)) (fun i hi => zeros_get M i hi) (fun _ _ => rfl)) fun i _ => by unfold lvlTo; rw [if_neg (by omega)]
        have hb2 := grown_below hg2
        have B2 := hide ((unhide B0).trans (hb2.mono (unhide B0).size))
        have r2 : Hid (w2.heap[w.heap.size]? = some (.cells #[.int .i64 0, .slice none 0 0] 27 (0, 0))) := (hb2.block _ (by omega)).trans (unhide r0)
        have l2 : w0.heap.size < w2.heap.size := row_lt (unhide hT)
        clear hown2 hg2 hb2
        go_wp2_with fail
        have h4 : Hid ((w2.alloc (.cells #[.int .i64 n, .slice (some ⟨w0.heap.size, 0, none⟩) M M] 27)).heap[w2.heap.size]? = some (.cells #[.int .i64 n, .slice (some ⟨w0.heap.size, 0, none⟩) M M] 27 (0, 0))) := heap_alloc_new w2 _
        have h2 : Hid ((w2.alloc (.cells #[.int .i64 n, .slice (some ⟨w0.heap.size, 0, none⟩) M M] 27)).heap[w.heap.size]? = some (.cells #[.int .i64 0, .slice none 0 0] 27 (0, 0))) := (Below.heap_alloc _ _ _ (by omega)).trans (unhide r2)
        have hT3 : Hid (Row (w2.alloc (.cells #[.int .i64 n, .slice (some ⟨w0.heap.size, 0, none⟩) M M] 27)) w0.heap.size M (lvlTo L 0)) := row_keep (unhide hT) (Below.heap_alloc _ _ _ l2)
        have B3 := hide ((unhide B2).alloc (unhide B2).size (.cells #[.int .i64 n, .slice (some ⟨w0.heap.size, 0, none⟩) M M] 27))
        clear hT r2 r0 B0 B2
        generalize w2.alloc (.cells #[.int .i64 n, .slice (some ⟨w0.heap.size, 0, none⟩) M M] 27) = w3 at *
        generalize w2.heap.size = b4 at *
        generalize w0.heap.size = gr at *
        go_loopw [5] (fun iv wr => ∃ k : Nat, k ≤ M ∧ iv = .int .i64 k ∧ Hid (Row wr gr M (lvlTo L k)) ∧ Hid (wr.heap[b4]? = some (.cells #[.int .i64 n, .slice (some ⟨gr, 0, none⟩) M M] 27 (0, 0))) ∧ Hid (wr.heap[w.heap.size]? = some (.cells #[.int .i64 0, .slice none 0 0] 27 (0, 0))) ∧ Hid (Below w.heap.size w wr)) (fun iv _ => M - (intOf iv).toNat)
        case atStart => exact ⟨0, Nat.zero_le _, rfl, hT3, h4, h2, B3⟩
        case round =>
          clear hT3 h4 h2 B3
          obtain ⟨k, hk, rfl, hR, h4, h2, hB⟩ := hrel
          by_cases hkM : k < M
          · have q3 : ((k : Int) < (M : Int)) = True := by simp; omega
            by_cases hkN : k < N
            · have q4 : ((k : Int) < (N : Int)) = True := by simp; omega
              have hl : 0 < L.length := by rw [unhide hNN]; omega
              obtain ⟨e1, hg⟩ := (unhide H).at_ hl
              obtain ⟨x, hx⟩ : ∃ x, L[k]? = some x := ⟨_, List.getElem?_eq_getElem (by rw [unhide hNN]; omega)⟩
              have r1 := ((unhide hB).cell (p := ⟨g, o + k, none⟩) hg).trans ((unhide H).cell _ _ hx)
              have c1 : wr.cell? ⟨b4, 1, none⟩ = some (.slice (some ⟨gr, 0, none⟩) M M) := cell_of_row wr b4 1 _ _ (0, 0) (unhide h4)
              have c2 := row_at (unhide hR) hkM
              have f2 := row_frozen (unhide hR) k
              unfold cv at c2
              have hRn := hide (row_set (unhide hR) k (lvlB L k))
              have hBn := hide ((unhide hB).setCell (p := ⟨gr, k, none⟩) (by show w.heap.size ≤ gr; omega) (cv (lvlB L k)))
              have h4n : Hid ((wr.setCell ⟨gr, k, none⟩ (cv (lvlB L k))).heap[b4]? = some (.cells #[.int .i64 n, .slice (some ⟨gr, 0, none⟩) M M] 27 (0, 0))) := (Below.heap_setCell _ _ _ _ (by show b4 ≠ gr; omega)).trans (unhide h4)
              have h2n : Hid ((wr.setCell ⟨gr, k, none⟩ (cv (lvlB L k))).heap[w.heap.size]? = some (.cells #[.int .i64 0, .slice none 0 0] 27 (0, 0))) := (Below.heap_setCell _ _ _ _ (by show w.heap.size ≠ gr; omega)).trans (unhide h2)
              have hst := hide (fun i => lvlTo_step L k i)
              have hv : lvlB L k = (floatOfInt .f64 x, 0) := by
                unfold lvlB
                rw [if_pos (by rw [unhide hNN]; exact hkN), List.getD_eq_getElem?_getD, hx]
                rfl
              rw [hv] at hRn hBn hst h4n h2n
              rw [e1]
              clear hR hB h4 h2 hv hx hl
              go_wp2_with fail
              go_big_region
              all_goals go_wp2_with fail
              all_goals exact ⟨⟨k + 1, hkM, by go_num, row_drew (row_ext (unhide hRn) fun i _ => unhide hst i), unhide h4n, unhide h2n, (unhide hBn).drew⟩, by simp [intOf]; omega⟩
            · have q4 : ((k : Int) < (N : Int)) = False := by simp; omega
              have RL : Row wr gr M (lvlB L) := row_ext (unhide hR) fun i _ => lvlTo_out (by rw [unhide hNN]; exact hkN) i
              obtain ⟨c0, c1⟩ : wr.cell? ⟨b4, 0, none⟩ = some (.int .i64 n) ∧ wr.cell? ⟨b4, 1, none⟩ = some (.slice (some ⟨gr, 0, none⟩) M M) := ⟨cell_of_row wr b4 0 _ _ (0, 0) (unhide h4), cell_of_row wr b4 1 _ _ (0, 0) (unhide h4)⟩
              have z0 : wr.cell? ⟨w.heap.size, 0, none⟩ = some (.int .i64 0) := cell_of_row wr w.heap.size 0 _ _ (0, 0) (unhide h2)
              have z1 : wr.cell? ⟨w.heap.size, 1, none⟩ = some (.slice none 0 0) := cell_of_row wr w.heap.size 1 _ _ (0, 0) (unhide h2)
              have y0 := frozen_of_row wr w.heap.size 0 _ _ (unhide h2)
              have y1 := frozen_of_row wr w.heap.size 1 _ _ (unhide h2)
              have RW : Hid (Row ((wr.setCell ⟨w.heap.size, 0, none⟩ (.int .i64 n)).setCell ⟨w.heap.size, 1, none⟩ (.slice (some ⟨gr, 0, none⟩) M M)) gr M (lvlB L)) := row_keep RL (by rw [Below.heap_setCell _ _ _ _ (by show gr ≠ w.heap.size; omega), Below.heap_setCell _ _ _ _ (by show gr ≠ w.heap.size; omega)])
              have BW := hide (((unhide hB).setCell (p := ⟨w.heap.size, 0, none⟩) (Nat.le_refl _) (.int .i64 n)).setCell (p := ⟨w.heap.size, 1, none⟩) (Nat.le_refl _) (.slice (some ⟨gr, 0, none⟩) M M))
              clear RL hR h4 h2 hB
              go_wp2_with fail
              refine bodyPost_ret (results_two (P := (barP Try.prog)) rfl _ _ w.heap.size (.int .i64 n) (.slice (some ⟨gr, 0, none⟩) M M) _ rfl (by simp [go_sem, z0]) (by simp [go_sem, z1]) Bar.underlying27 rfl (by kernel_rfl)) rfl ?_
              rw [unhide hss, unhide hMM]
              exact ⟨gr, rfl, by omega, unhide RW, unhide BW⟩
          · have q3 : ((k : Int) < (M : Int)) = False := by simp; omega
            have RL : Row wr gr M (lvlB L) := row_ext (unhide hR) fun i hi => by unfold lvlTo; rw [if_pos (by omega)]
            obtain ⟨c0, c1⟩ : wr.cell? ⟨b4, 0, none⟩ = some (.int .i64 n) ∧ wr.cell? ⟨b4, 1, none⟩ = some (.slice (some ⟨gr, 0, none⟩) M M) := ⟨cell_of_row wr b4 0 _ _ (0, 0) (unhide h4), cell_of_row wr b4 1 _ _ (0, 0) (unhide h4)⟩
            have z0 : wr.cell? ⟨w.heap.size, 0, none⟩ = some (.int .i64 0) := cell_of_row wr w.heap.size 0 _ _ (0, 0) (unhide h2)
            have z1 : wr.cell? ⟨w.heap.size, 1, none⟩ = some (.slice none 0 0) := cell_of_row wr w.heap.size 1 _ _ (0, 0) (unhide h2)
            have y0 := frozen_of_row wr w.heap.size 0 _ _ (unhide h2)
            have y1 := frozen_of_row wr w.heap.size 1 _ _ (unhide h2)
            have RW : Hid (Row ((wr.setCell ⟨w.heap.size, 0, none⟩ (.int .i64 n)).setCell ⟨w.heap.size, 1, none⟩ (.slice (some ⟨gr, 0, none⟩) M M)) gr M (lvlB L)) := row_keep RL (by rw [Below.heap_setCell _ _ _ _ (by show gr ≠ w.heap.size; omega), Below.heap_setCell _ _ _ _ (by show gr ≠ w.heap.size; omega)])
            have BW := hide (((unhide hB).setCell (p := ⟨w.heap.size, 0, none⟩) (Nat.le_refl _) (.int .i64 n)).setCell (p := ⟨w.heap.size, 1, none⟩) (Nat.le_refl _) (.slice (some ⟨gr, 0, none⟩) M M))
            clear RL hR h4 h2 hB
            go_wp2_with fail
            refine bodyPost_ret (results_two (P := (barP Try.prog)) rfl _ _ w.heap.size (.int .i64 n) (.slice (some ⟨gr, 0, none⟩) M M) _ rfl (by simp [go_sem, z0]) (by simp [go_sem, z1]) Bar.underlying27 rfl (by kernel_rfl)) rfl ?_
            rw [unhide hss, unhide hMM]
            exact ⟨gr, rfl, by omega, unhide RW, unhide BW⟩
end Go.Proofs.Ythbghcebcahlnaa
