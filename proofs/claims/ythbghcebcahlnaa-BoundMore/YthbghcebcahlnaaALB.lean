/- The look through directions: lookThrough. -/
import Derived.Test.YthbghcebcahlnaaALA
namespace Go.Proofs.Ythbghcebcahlnaa
open Go.RowKit

/-- Directions of which each is one, none twice, and not too many. -/
def GoodDirs (L : List (Int × Int)) : Prop := L.length ≤ 64 ∧ ∀ i, i < L.length → okD (L.getD i (0, 0)).1 (L.getD i (0, 0)).2 = true ∧ ∀ j, j < i → L.getD j (0, 0) ≠ L.getD i (0, 0)
theorem checkS_zero {P Q : Int} : checkS P Q = 0 ↔ okD P Q = true := by
  unfold checkS
  cases okD P Q <;> simp
theorem contains_held {w w2 w8 : World} {a : Option Addr} {g o k cap bx : Nat} {L : List (Int × Int)} {u v : Int} (hk : k ≤ L.length) (hL : L.length ≤ 4096) (H : Hid (Dirs w a g o L)) (hB2 : Hid (Below w.heap.size w w2)) (hlt : bx < w2.heap.size)
    (h : w8.cell? ⟨bx, 0, none⟩ = some (.int .i64 u) ∧ w8.cell? ⟨bx, 1, none⟩ = some (.int .i64 v) ∧ Hid (Below w2.heap.size w2 w8)) :
    Calls (barP Try.prog) 24 #[.slice a k cap, .agg #[.int .i64 u, .int .i64 v]] w8 fun e w9 => ∃ r : Bool, e = .returned (.bool r) ∧ (r = true ↔ ∃ j, j < k ∧ L.getD j (0, 0) = (u, v)) ∧ (w9.cell? ⟨bx, 0, none⟩ = some (.int .i64 u) ∧ w9.cell? ⟨bx, 1, none⟩ = some (.int .i64 v) ∧ Hid (Below w2.heap.size w2 w9)) := by
  have h8 : Below w2.heap.size w2 w8 := h.2.2
  refine (containsDir hk hL w8 (dirs_below (dirs_below (unhide H) (unhide hB2)) h8)).mono ?_
  rintro e w9 ⟨r, rfl, hr, hb⟩
  have hlt8 : bx < w8.heap.size := Nat.lt_of_lt_of_le hlt h8.size
  exact ⟨r, rfl, hr, (hb.cell (p := ⟨bx, 0, none⟩) hlt8).trans h.1, (hb.cell (p := ⟨bx, 1, none⟩) hlt8).trans h.2.1, h8.trans (hb.mono h8.size)⟩
theorem held2_drew {w2 w8 : World} {bx : Nat} {u v : Int} (h : w8.cell? ⟨bx, 0, none⟩ = some (.int .i64 u) ∧ w8.cell? ⟨bx, 1, none⟩ = some (.int .i64 v) ∧ Hid (Below w2.heap.size w2 w8)) : w8.drew.cell? ⟨bx, 0, none⟩ = some (.int .i64 u) ∧ w8.drew.cell? ⟨bx, 1, none⟩ = some (.int .i64 v) ∧ Hid (Below w2.heap.size w2 w8.drew) :=
  ⟨h.1, h.2.1, ⟨(unhide h.2.2).os, (unhide h.2.2).tape, (unhide h.2.2).output, (unhide h.2.2).size, (unhide h.2.2).block⟩⟩
set_option maxRecDepth 100000 in
set_option maxHeartbeats 6400000 in
theorem lookOk {a : Option Addr} {g o cap : Nat} {L : List (Int × Int)} (hL : L.length ≤ 9223372036854775807) (hI : ∀ i, i < L.length → I64 (L.getD i (0, 0)).1 ∧ I64 (L.getD i (0, 0)).2) (w : World) (h : Dirs w a g o L) (hcap : L.length ≤ cap) :
    Calls (barP Try.prog) 14 #[.slice a L.length cap] w fun e w' => ∃ r, e = .returned (.int .i64 r) ∧ (r = 0 ↔ GoodDirs L) ∧ Below w.heap.size w w' := by
  have H := hide h
  have HI := hide hI
  clear h hI
  obtain ⟨N, hN⟩ : ∃ N, L.length = N := ⟨_, rfl⟩
  rw [hN] at hL hcap
  rw [hN]
  have hN := hide hN
  by_cases cL : 64 < N
  · have q1 : ((64 : Int) < (N : Int)) = True := by simp; omega
    go_enter Bar.func14, Bar.ntmps14
    go_wp2_with fail
    go_ret
    refine ⟨2, rfl, ⟨fun x => absurd x (by omega), fun x => ?_⟩, Below.refl _ _⟩
    have := x.1
    rw [unhide hN] at this
    omega
  · have q1 : ((64 : Int) < (N : Int)) = False := by simp; omega
    go_enter Bar.func14, Bar.ntmps14
    go_wp2_with fail
    clear q1
    go_loopw [11] (fun iv wr => ∃ i : Nat, i ≤ N ∧ iv = .int .i64 i ∧ Hid (Below w.heap.size w wr) ∧ Hid (∀ k, k < i → okD (L.getD k (0, 0)).1 (L.getD k (0, 0)).2 = true ∧ ∀ j, j < k → L.getD j (0, 0) ≠ L.getD k (0, 0))) (fun iv _ => N - (intOf iv).toNat)
    case atStart => exact ⟨0, Nat.zero_le _, rfl, Below.refl _ _, fun k hk => absurd hk (by omega)⟩
    case round =>
      obtain ⟨i, hi, rfl, hB, hgood⟩ := hrel
      by_cases c1 : i < N
      · have q1 : ((i : Int) < (N : Int)) = True := by simp; omega
        have hlt : i < L.length := by rw [unhide hN]; exact c1
        have hda := ((unhide H).at_ (by omega)).1
        have hgl := ((unhide H).at_ (by omega)).2
        subst hda
        obtain ⟨e1, e2⟩ := dirs_get (unhide H) (i := i) hlt
        obtain ⟨i1, i2⟩ := unhide HI i hlt
        obtain ⟨u, v, huv⟩ : ∃ u v, L.getD i (0, 0) = (u, v) := ⟨_, _, rfl⟩
        rw [huv] at e1 e2 i1 i2
        have huv := hide huv
        have k1 : wr.cell? ⟨g, o + i * 2, none⟩ = some (.int .i64 u) := ((unhide hB).cell (p := ⟨g, o + i * 2, none⟩) hgl).trans e1
        have k2 : wr.cell? ⟨g, o + i * 2 + 1, none⟩ = some (.int .i64 v) := ((unhide hB).cell (p := ⟨g, o + i * 2 + 1, none⟩) hgl).trans e2
        clear e1 e2
        have b0 := cell_of (i := 0) (heap_alloc_new wr (.cells #[.int .i64 u, .int .i64 v] 47)) rfl
        have b1 := cell_of (i := 1) (heap_alloc_new wr (.cells #[.int .i64 u, .int .i64 v] 47)) rfl
        have sz : Hid ((wr.alloc (.cells #[.int .i64 u, .int .i64 v] 47)).heap.size = wr.heap.size + 1) := by show _ = _; simp
        have hB1 := hide ((unhide hB).alloc (unhide hB).size (.cells #[.int .i64 u, .int .i64 v] 47))
        go_wp2_with fail
        generalize wr.alloc (.cells #[.int .i64 u, .int .i64 v] 47) = w1 at *
        refine (dirCheckG i1 i2 w1).mono ?_
        rintro e w2 ⟨rfl, hg2⟩
        have hB2 := hide ((unhide hB1).trans (hg2.below.mono (unhide hB1).size))
        have hlt2 : wr.heap.size < w2.heap.size := by have := hg2.below.size; have := unhide sz; omega
        have hlt1 : wr.heap.size < w1.heap.size := by have := unhide sz; omega
        have d0 : w2.cell? ⟨wr.heap.size, 0, none⟩ = some (.int .i64 u) := (hg2.below.cell (p := ⟨wr.heap.size, 0, none⟩) hlt1).trans b0
        have d1 : w2.cell? ⟨wr.heap.size, 1, none⟩ = some (.int .i64 v) := (hg2.below.cell (p := ⟨wr.heap.size, 1, none⟩) hlt1).trans b1
        clear hg2 hB1 b0 b1 sz
        cases ok : okD u v with
        | false =>
          have ek : checkS u v = 60 := checkS_bad ok
          rw [ek]
          clear ek
          go_wp2_with fail
          go_ret
          refine ⟨60, rfl, ⟨fun x => absurd x (by omega), fun x => ?_⟩, unhide hB2⟩
          have := (x.2 i hlt).1
          rw [unhide huv, ok] at this
          cases this
        | true =>
          have ek : checkS u v = 0 := checkS_zero.2 ok
          rw [ek]
          clear ek
          have S0 : w2.cell? ⟨wr.heap.size, 0, none⟩ = some (.int .i64 u) ∧ w2.cell? ⟨wr.heap.size, 1, none⟩ = some (.int .i64 v) ∧ Hid (Below w2.heap.size w2 w2) := ⟨d0, d1, Below.refl _ _⟩
          have r1 : (0 : Int) ≤ (i : Int) := by omega
          have r2 : (i : Int) ≤ (cap : Int) := by omega
          have r3 : ¬ cap = 0 := by omega
          have r4 : i ≤ cap := by omega
          have ok := hide ok
          clear d0 d1 k1 k2
          go_wp2_with fail
          go_region_held3 (fun w8 => w8.cell? ⟨wr.heap.size, 0, none⟩ = some (.int .i64 u) ∧ w8.cell? ⟨wr.heap.size, 1, none⟩ = some (.int .i64 v) ∧ Hid (Below w2.heap.size w2 w8))
            (first | assumption | exact S0 | exact held2_drew S0 | exact held2_drew (by assumption) | go_keep)
            (first
            | (go_at_call 24; with_reducible refine (contains_held (w2 := w2) (by omega) (by rw [unhide hN]; omega) H hB2 hlt2 (by assumption)).mono ?_
               rintro e v9 ⟨r, rfl, hr, hs⟩
               have hr := hide hr))
          have hB9 := hide ((unhide hB2).trans ((unhide hs.2.2).mono (unhide hB2).size))
          clear hs S0
          cases r with
          | true =>
            go_wp2_with fail
            go_ret
            refine ⟨3, rfl, ⟨fun x => absurd x (by omega), fun x => ?_⟩, unhide hB9⟩
            obtain ⟨j, j1, j2⟩ := (unhide hr).1 (by trivial)
            exact absurd (j2.trans (unhide huv).symm) ((x.2 i hlt).2 j j1)
          | false =>
            go_wp2_with fail
            refine ⟨⟨i + 1, by omega, by go_num, hB9, fun k hk => ?_⟩, by simp [intOf]; omega⟩
            by_cases e : k = i
            · subst e
              rw [unhide huv]
              refine ⟨unhide ok, fun j hj he => ?_⟩
              have := (unhide hr).2 ⟨j, hj, he⟩
              cases this
            · exact unhide hgood k (by omega)
      · have q1 : ((i : Int) < (N : Int)) = False := by simp; omega
        obtain rfl : i = N := by omega
        go_wp2_with fail
        go_ret
        have hb := unhide hB
        exact ⟨0, rfl, ⟨fun _ => ⟨by rw [unhide hN]; omega, fun k hk => unhide hgood k (by rw [unhide hN] at hk; exact hk)⟩, fun _ => rfl⟩, ⟨hb.os, hb.tape, hb.output, hb.size, hb.block⟩⟩
end Go.Proofs.Ythbghcebcahlnaa
