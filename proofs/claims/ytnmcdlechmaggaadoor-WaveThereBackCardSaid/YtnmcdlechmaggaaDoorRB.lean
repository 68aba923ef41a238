/- The statement's own lists: whole numbers out of any numbers; a list copied. -/
import Derived.Test.YtnmcdlechmaggaaDoorRA
import Derived.BigRegion
namespace Go.Proofs.YtnmcdlechmaggaaDoor
open Go.RowKit Fl
attribute [local go_sem] store_complex

/-- What stands in the numbers that came in: N pairs of int32. -/
structure Pairs (w : World) (g o N : Nat) (p : Nat → Int × Int) : Prop where
  one : ∀ i, i < N → w.cell? ⟨g, o + i * 2, none⟩ = some (.int .i32 (p i).1)
  two : ∀ i, i < N → w.cell? ⟨g, o + i * 2 + 1, none⟩ = some (.int .i32 (p i).2)
  lt : 0 < N → g < w.heap.size

structure Small32 (N : Nat) (p : Nat → Int × Int) : Prop where
  one : ∀ i, i < N → -2147483648 ≤ (p i).1 ∧ (p i).1 ≤ 2147483647
  two : ∀ i, i < N → -2147483648 ≤ (p i).2 ∧ (p i).2 ≤ 2147483647

/-- The numbers of the list: those that came in shifted, 0 behind them. -/
def wv (N : Nat) (p : Nat → Int × Int) (i : Nat) : Int × Int := if i < N then ((p i).1 / 2048, (p i).2 / 2048) else (0, 0)
def wx (N : Nat) (p : Nat → Int × Int) (i : Nat) : Nat × Nat := (floatOfInt .f64 (wv N p i).1, floatOfInt .f64 (wv N p i).2)
def wxTo (N : Nat) (p : Nat → Int × Int) (k i : Nat) : Nat × Nat := if i < k then wx N p i else (0, 0)

theorem fo_zero : floatOfInt .f64 0 = 0 := by decide +kernel
theorem wx_out {N i : Nat} {p : Nat → Int × Int} (h : ¬ i < N) : wx N p i = (0, 0) := by
  unfold wx wv
  rw [if_neg h]
  show (floatOfInt .f64 0, floatOfInt .f64 0) = _
  rw [fo_zero]

theorem fo_lt (n : Int) : floatOfInt .f64 n < 18446744073709551616 := of_decide_eq_true (floatOfInt_wf .f64 n)

theorem ints_wx {N n : Nat} {p : Nat → Int × Int} (h : Small32 N p) : Ints n (wx N p) (wv N p) := by
  have le : ∀ j, (wv N p j).1.natAbs ≤ 1048576 ∧ (wv N p j).2.natAbs ≤ 1048576 := by
    intro j
    unfold wv
    by_cases c : j < N
    · rw [if_pos c]
      have h1 := h.one j c
      have h2 := h.two j c
      show ((p j).1 / 2048).natAbs ≤ _ ∧ ((p j).2 / 2048).natAbs ≤ _
      omega
    · rw [if_neg c]
      exact ⟨by decide, by decide⟩
  exact ⟨fun j _ => ⟨iv_ofInt _ (by have := (le j).1; omega), iv_ofInt _ (by have := (le j).2; omega)⟩, fun j _ => le j, fun j _ => ⟨fo_lt _, fo_lt _⟩⟩

theorem wxTo_step (N : Nat) (p : Nat → Int × Int) (k i : Nat) : upd (wxTo N p k) k (wx N p k) i = wxTo N p (k + 1) i := by
  unfold upd wxTo
  by_cases e : i = k
  · subst e
    rw [if_pos rfl, if_pos (by omega)]
  · rw [if_neg e]
    by_cases e2 : i < k
    · rw [if_pos e2, if_pos (by omega)]
    · rw [if_neg e2, if_neg (by omega)]

theorem wxTo_out {N k : Nat} {p : Nat → Int × Int} (hk : ¬ k < N) (i : Nat) : wxTo N p k i = wx N p i := by
  unfold wxTo
  by_cases e : i < k
  · rw [if_pos e]
  · rw [if_neg e, wx_out (by omega)]

set_option maxHeartbeats 3200000 in
theorem wholesAny {N most M g o cap : Nat} {p : Nat → Int × Int} (hN : N ≤ 9223372036854775807) (hM : most ≤ 2 ^ M) (hM12 : M ≤ 12) (w : World) (a : Option Addr) (ha : 0 < N → a = some ⟨g, o, none⟩) (hp : Pairs w g o N p) (hs : Small32 N p) :
    Calls Tryd.prog 5 #[.slice a N cap, .int .i64 most] w fun e w' =>
      ∃ L g', L ≤ M ∧ e = .returned (.slice (some ⟨g', 0, none⟩) (2 ^ L : Nat) (2 ^ L : Nat)) ∧ w.heap.size ≤ g' ∧ Row w' g' (2 ^ L) (wx N p) ∧ Below w.heap.size w w' := by
  obtain ⟨i0, hi0, hz0, hz1, hz2⟩ := info_parts infoC
  have hp := hide hp
  have hM4 : most ≤ 4096 := Nat.le_trans hM (Nat.pow_le_pow_right (n := 2) (by decide) hM12)
  have hM := hide hM
  have ha := hide ha
  have Hs := hide hs
  clear hs
  go_enter Tryd.func5, Tryd.ntmps5
  go_wp2_with fail
  go_loopw [5] (fun nv wr => ∃ L n : Nat, n ≤ 4096 ∧ Hid (n = 2 ^ L ∧ L ≤ M) ∧ nv = .int .i64 n ∧ w = wr) (fun nv _ => 4096 - (intOf nv).toNat)
  case atStart => exact ⟨0, 1, by decide, ⟨rfl, Nat.zero_le _⟩, rfl, rfl⟩
  case round =>
    obtain ⟨L, n, hn4, hL, rfl, rfl⟩ := hrel
    by_cases c1 : 2 * n ≤ N
    · by_cases c2 : 2 * n ≤ most
      · have d1 : (2 * (n : Int) ≤ (N : Int)) = True := by simp; omega
        have d2 : (2 * (n : Int) ≤ (most : Int)) = True := by simp; omega
        go_wp2_with fail
        obtain ⟨e1, e2⟩ := unhide hL
        have hn1 : 1 ≤ n := by rw [e1]; exact Nat.one_le_two_pow
        refine ⟨⟨L + 1, n * 2, by omega, ⟨by rw [Nat.pow_succ, e1], ?_⟩, by go_num, trivial⟩, by simp [intOf]; omega⟩
        have h3 : 2 ^ (L + 1) ≤ 2 ^ M := by
          have := unhide hM
          rw [Nat.pow_succ, ← e1]
          omega
        exact (Nat.pow_le_pow_iff_right (by decide)).1 h3
      · have d1 : (2 * (n : Int) ≤ (N : Int)) = True := by simp; omega
        have d2 : (2 * (n : Int) ≤ (most : Int)) = False := by simp; omega
        have hn1 : 1 ≤ n := by rw [(unhide hL).1]; exact Nat.one_le_two_pow
        go_wp2_with (first
          | (at_make; refine wpList_make_full _ rfl (.tmp 21) (.tmp 21) 24 rfl w.heap.size 31 i0 (.complex .f64 0 0) 1 Tryd.underlying24 hi0 hz0 hz1 .i64 .i64 n n n rfl rfl rfl rfl ?c1 ?c2 ?c3 ?_))
        case c1 => rw [hz2]; omega
        case c2 => unfold maxLen; omega
        case c3 => exact Nat.le_refl _
        intro w2 hown2 hg2
        have hT : Hid (Row w2 w.heap.size n (wxTo N p 0)) := row_ext (row_made hown2 (fun _ => (0, 0)) (fun i hi => zeros_get n i hi) (fun _ _ => rfl)) fun i _ => by unfold wxTo; rw [if_neg (by omega)]
        have hB := hide (grown_below hg2)
        clear hown2 hg2
        go_wp2_with fail
        go_loopw [7] (fun ix wr => ∃ k : Nat, k ≤ n ∧ ix = .int .i64 k ∧ Hid (Row wr w.heap.size n (wxTo N p k)) ∧ Hid (Below w.heap.size w wr)) (fun ix _ => n - (intOf ix).toNat)
        case atStart => exact ⟨0, Nat.zero_le _, rfl, hT, hB⟩
        case round =>
          obtain ⟨k, hk, rfl, hRr, hBr⟩ := hrel
          by_cases hkn : k < n
          · by_cases hkN : k < N
            · have q1 : ((k : Int) < (n : Int)) = True := by simp; omega
              have q2 : ((k : Int) < (N : Int)) = True := by simp; omega
              have hg : g < w.heap.size := (unhide hp).lt (by omega)
              have r1 := ((unhide hBr).cell (p := ⟨g, o + k * 2, none⟩) hg).trans ((unhide hp).one k hkN)
              have r2 := ((unhide hBr).cell (p := ⟨g, o + k * 2 + 1, none⟩) hg).trans ((unhide hp).two k hkN)
              have c1 := row_at (unhide hRr) hkn
              have f1 := row_frozen (unhide hRr) k
              unfold cv at c1
              have hRn := hide (row_set (unhide hRr) k (wx N p k))
              have hBn := hide ((unhide hBr).setCell (p := ⟨w.heap.size, k, none⟩) (Nat.le_refl _) (cv (wx N p k)))
              have hv : Hid (wx N p k = (floatOfInt .f64 ((p k).1 / 2048), floatOfInt .f64 ((p k).2 / 2048))) := by show _ = _; unfold wx wv; rw [if_pos hkN]
              have hst := hide (fun i => wxTo_step N p k i)
              rw [unhide hv] at hRn hBn hst
              rw [unhide ha (by omega)]
              generalize (p k).1 = x at r1 hRn hBn hst
              generalize (p k).2 = y at r2 hRn hBn hst
              clear hRr hBr hv
              go_wp2_with fail
              go_big_region
              all_goals go_wp2_with fail
              all_goals exact ⟨⟨k + 1, hkn, by go_num, row_drew (row_ext (unhide hRn) fun i _ => unhide hst i), (unhide hBn).drew⟩, by simp [intOf]; omega⟩
            · have q1 : ((k : Int) < (n : Int)) = True := by simp; omega
              have q2 : ((k : Int) < (N : Int)) = False := by simp; omega
              go_wp2_with fail
              go_ret
              exact ⟨L, w.heap.size, (unhide hL).2, by rw [← (unhide hL).1]; rfl, Nat.le_refl _, by rw [← (unhide hL).1]; exact row_ext (unhide hRr) fun i _ => wxTo_out hkN i, unhide hBr⟩
          · have q1 : ((k : Int) < (n : Int)) = False := by simp; omega
            go_wp2_with fail
            go_ret
            exact ⟨L, w.heap.size, (unhide hL).2, by rw [← (unhide hL).1]; rfl, Nat.le_refl _, by rw [← (unhide hL).1]; exact row_ext (unhide hRr) fun i hi => by unfold wxTo; rw [if_pos (by omega)], unhide hBr⟩
    · have d1 : (2 * (n : Int) ≤ (N : Int)) = False := by simp; omega
      have hn1 : 1 ≤ n := by rw [(unhide hL).1]; exact Nat.one_le_two_pow
      go_wp2_with (first
        | (at_make; refine wpList_make_full _ rfl (.tmp 21) (.tmp 21) 24 rfl w.heap.size 31 i0 (.complex .f64 0 0) 1 Tryd.underlying24 hi0 hz0 hz1 .i64 .i64 n n n rfl rfl rfl rfl ?c1 ?c2 ?c3 ?_))
      case c1 => rw [hz2]; omega
      case c2 => unfold maxLen; omega
      case c3 => exact Nat.le_refl _
      intro w2 hown2 hg2
      have hT : Hid (Row w2 w.heap.size n (wxTo N p 0)) := row_ext (row_made hown2 (fun _ => (0, 0)) (fun i hi => zeros_get n i hi) (fun _ _ => rfl)) fun i _ => by unfold wxTo; rw [if_neg (by omega)]
      have hB := hide (grown_below hg2)
      clear hown2 hg2
      go_wp2_with fail
      go_loopw [7] (fun ix wr => ∃ k : Nat, k ≤ n ∧ ix = .int .i64 k ∧ Hid (Row wr w.heap.size n (wxTo N p k)) ∧ Hid (Below w.heap.size w wr)) (fun ix _ => n - (intOf ix).toNat)
      case atStart => exact ⟨0, Nat.zero_le _, rfl, hT, hB⟩
      case round =>
        obtain ⟨k, hk, rfl, hRr, hBr⟩ := hrel
        by_cases hkn : k < n
        · by_cases hkN : k < N
          · have q1 : ((k : Int) < (n : Int)) = True := by simp; omega
            have q2 : ((k : Int) < (N : Int)) = True := by simp; omega
            have hg : g < w.heap.size := (unhide hp).lt (by omega)
            have r1 := ((unhide hBr).cell (p := ⟨g, o + k * 2, none⟩) hg).trans ((unhide hp).one k hkN)
            have r2 := ((unhide hBr).cell (p := ⟨g, o + k * 2 + 1, none⟩) hg).trans ((unhide hp).two k hkN)
            have c1 := row_at (unhide hRr) hkn
            have f1 := row_frozen (unhide hRr) k
            unfold cv at c1
            have hRn := hide (row_set (unhide hRr) k (wx N p k))
            have hBn := hide ((unhide hBr).setCell (p := ⟨w.heap.size, k, none⟩) (Nat.le_refl _) (cv (wx N p k)))
            have hv : Hid (wx N p k = (floatOfInt .f64 ((p k).1 / 2048), floatOfInt .f64 ((p k).2 / 2048))) := by show _ = _; unfold wx wv; rw [if_pos hkN]
            have hst := hide (fun i => wxTo_step N p k i)
            rw [unhide hv] at hRn hBn hst
            rw [unhide ha (by omega)]
            generalize (p k).1 = x at r1 hRn hBn hst
            generalize (p k).2 = y at r2 hRn hBn hst
            clear hRr hBr hv
            go_wp2_with fail
            go_big_region
            all_goals go_wp2_with fail
            all_goals exact ⟨⟨k + 1, hkn, by go_num, row_drew (row_ext (unhide hRn) fun i _ => unhide hst i), (unhide hBn).drew⟩, by simp [intOf]; omega⟩
          · have q1 : ((k : Int) < (n : Int)) = True := by simp; omega
            have q2 : ((k : Int) < (N : Int)) = False := by simp; omega
            go_wp2_with fail
            go_ret
            exact ⟨L, w.heap.size, (unhide hL).2, by rw [← (unhide hL).1]; rfl, Nat.le_refl _, by rw [← (unhide hL).1]; exact row_ext (unhide hRr) fun i _ => wxTo_out hkN i, unhide hBr⟩
        · have q1 : ((k : Int) < (n : Int)) = False := by simp; omega
          go_wp2_with fail
          go_ret
          exact ⟨L, w.heap.size, (unhide hL).2, by rw [← (unhide hL).1]; rfl, Nat.le_refl _, by rw [← (unhide hL).1]; exact row_ext (unhide hRr) fun i hi => by unfold wxTo; rw [if_pos (by omega)], unhide hBr⟩

def vals (n : Nat) (f : Nat → Nat × Nat) : List Value := (List.range n).map fun i => cv (f i)
theorem vals_length (n : Nat) (f : Nat → Nat × Nat) : (vals n f).length = n := by unfold vals; simp
theorem vals_get {n i : Nat} (f : Nat → Nat × Nat) (h : i < n) : (vals n f)[i]? = some (cv (f i)) := by
  unfold vals
  simp [h]
theorem vals_lt {n i : Nat} {f : Nat → Nat × Nat} {u : Value} (h : (vals n f)[i]? = some u) : i < n ∧ u = cv (f i) := by
  have hi : i < n := by
    have := (List.getElem?_eq_some_iff.1 h).1
    rwa [vals_length] at this
  rw [vals_get f hi] at h
  exact ⟨hi, (Option.some.inj h).symm⟩

/-- What an owned list is: a row. -/
theorem row_owned {w : World} {B n : Nat} {v : Value} {xs : List Value} {f : Nat → Nat × Nat} (h : w.ownsRow B 31 1 v n xs) (hn : 1 ≤ n) (hx : ∀ i, i < n → xs[i]? = some (cv (f i))) :
    ∃ g cap, v = .slice (some ⟨g, 0, none⟩) n cap ∧ n ≤ cap ∧ B ≤ g ∧ Row w g n f := by
  rcases h.2 with ⟨_, h'⟩ | ⟨g, cap, cur, rfl, hb, hg, hnc, _, hcs, htake⟩
  · omega
  · refine ⟨g, cap, rfl, hnc, hb, cur, hg, by omega, fun i hi => ?_⟩
    have h3 := hx i hi
    rw [← htake, List.getElem?_take, if_pos (by omega)] at h3
    simpa using h3

theorem addr_add (g j : Nat) : (⟨g, 0, none⟩ : Addr).add j = ⟨g, j, none⟩ := by unfold Addr.add; split <;> simp_all

set_option maxHeartbeats 1600000 in
theorem copiedAny {n g cap : Nat} {f : Nat → Nat × Nat} (hn : 1 ≤ n) (hn4 : n ≤ 4096) (w : World) (hR : Row w g n f) :
    Calls Tryd.prog 7 #[.slice (some ⟨g, 0, none⟩) n cap] w fun e w' =>
      ∃ g' cap', e = .returned (.slice (some ⟨g', 0, none⟩) n cap') ∧ n ≤ cap' ∧ w.heap.size ≤ g' ∧ Row w' g' n f ∧ Below w.heap.size w w' := by
  obtain ⟨i0, hi0, hz0, hz1, hz2⟩ := info_parts infoC
  have hown0 := hide (World.ownsRow_lit (base := w.heap.size) (e := 31) (size := 1) w #[] 0 (Nat.le_refl _) (Nat.zero_le _) rfl)
  have hR := hide hR
  go_enter Tryd.func7, Tryd.ntmps7
  go_wp2_with (first
    | (at_builtin; refine wpList_append_own _ rfl (.tmp 3) (.tmp 4) 24 rfl w.heap.size 31 i0 (.complex .f64 0 0) 1 16 Tryd.underlying24 hi0 hz0 hz1 hz2 rfl (by decide) _ 0 _ rfl (unhide hown0) ⟨g, 0, none⟩ n cap (vals n f) rfl ?c0 ?c1 ?c2 ?c3 ?c4 ?c5 ?_))
  case c0 => exact vals_length n f
  case c1 =>
    intro j u hj
    obtain ⟨hj1, rfl⟩ := vals_lt hj
    exact row_at (row_keep (unhide hR) (Below.heap_alloc _ _ _ (row_lt (unhide hR)))) hj1
  case c2 =>
    intro u hu
    unfold vals at hu
    simp at hu
    obtain ⟨i, _, rfl⟩ := hu
    rfl
  case c3 => unfold maxLen; omega
  case c4 => omega
  intro v' w1 hown' hgrow _
  obtain ⟨g', cap', rfl, h1, h2, h3⟩ := row_owned hown' (by omega) (f := f) (fun i hi => by
    show (vals n f)[i]? = _
    exact vals_get f (by omega))
  have hB : Hid (Below w.heap.size w w1) := ((Below.refl _ _).alloc (Nat.le_refl _) _).grown hgrow (by simp) (fun k hk => by cases hk; exact Nat.le_refl _)
  have h3 := hide h3
  clear hown' hgrow
  go_wp2_with fail
  go_ret
  exact ⟨g', cap', rfl, h1, h2, unhide h3, unhide hB⟩
end Go.Proofs.YtnmcdlechmaggaaDoor
