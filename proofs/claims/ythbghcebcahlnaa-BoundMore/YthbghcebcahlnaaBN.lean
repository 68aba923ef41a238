/- The landed sweep: one line. -/
import Derived.Test.YthbghcebcahlnaaBM
namespace Go.Proofs.Ythbghcebcahlnaa
open Go.RowKit

structure DS where
  least : Int
  most : Int
  ch : Bool
  lo : Nat → Int
  hi : Nat → Int

/-- One cell of a line; none: a contradiction. -/
def dStep (b : Int) (p : Nat) (s : DS) : Option DS :=
  let le := wrap64 (s.least - s.lo p)
  let mo := wrap64 (s.most - s.hi p)
  let low := if s.lo p < wrap64 (b - mo) then wrap64 (b - mo) else s.lo p
  let high := if wrap64 (b - le) < s.hi p then wrap64 (b - le) else s.hi p
  if high < low then none else some ⟨wrap64 (le + low), wrap64 (mo + high), s.ch || (low != s.lo p) || (high != s.hi p), updI s.lo p low, updI s.hi p high⟩
def dK (b : Int) (P : List Nat) (s : DS) : Nat → Option DS
  | 0 => some s
  | k + 1 => (dK b P s k).bind (dStep b (P.getD k 0))
def drawS (P : List Nat) (b : Int) (lo hi : Nat → Int) : Option DS :=
  dK b P ⟨sumK lo P P.length, sumK hi P P.length, false, lo, hi⟩ P.length

theorem dK_less {b : Int} {P : List Nat} {s : DS} : ∀ {n : Nat} {d : DS}, dK b P s n = some d → ∀ k, k ≤ n → ∃ e, dK b P s k = some e
  | 0, d, h, k, hk => by
    have : k = 0 := by omega
    subst this
    exact ⟨d, h⟩
  | n + 1, d, h, k, hk => by
    by_cases e : k = n + 1
    · subst e
      exact ⟨d, h⟩
    · unfold dK at h
      cases hx : dK b P s n with
      | none => rw [hx] at h; cases h
      | some y => exact dK_less hx k (by omega)

/-- What a cell's step is, by its two tests. -/
theorem dStep_at {b : Int} {p : Nat} {s d : DS} (h : dStep b p s = some d) : ∃ le mo L2 H2 low high : Int, le = wrap64 (s.least - s.lo p) ∧ mo = wrap64 (s.most - s.hi p) ∧ L2 = wrap64 (b - mo) ∧ H2 = wrap64 (b - le) ∧
    (((s.lo p < L2) = True ∧ low = L2 ∧ ¬ low = s.lo p) ∨ ((s.lo p < L2) = False ∧ low = s.lo p)) ∧ (((H2 < s.hi p) = True ∧ high = H2 ∧ ¬ high = s.hi p) ∨ ((H2 < s.hi p) = False ∧ high = s.hi p)) ∧ (high < low) = False ∧
    d = ⟨wrap64 (le + low), wrap64 (mo + high), s.ch || (low != s.lo p) || (high != s.hi p), updI s.lo p low, updI s.hi p high⟩ := by
  unfold dStep at h
  dsimp only at h
  obtain ⟨low, hlow⟩ : ∃ low, low = (if s.lo p < wrap64 (b - wrap64 (s.most - s.hi p)) then wrap64 (b - wrap64 (s.most - s.hi p)) else s.lo p) := ⟨_, rfl⟩
  obtain ⟨high, hhigh⟩ : ∃ high, high = (if wrap64 (b - wrap64 (s.least - s.lo p)) < s.hi p then wrap64 (b - wrap64 (s.least - s.lo p)) else s.hi p) := ⟨_, rfl⟩
  rw [← hlow, ← hhigh] at h
  by_cases hn : high < low
  · rw [if_pos hn] at h
    cases h
  · rw [if_neg hn] at h
    refine ⟨_, _, _, _, low, high, rfl, rfl, rfl, rfl, ?_, ?_, ?_, (Option.some.inj h).symm⟩
    · by_cases c : s.lo p < wrap64 (b - wrap64 (s.most - s.hi p))
      · left
        rw [if_pos c] at hlow
        exact ⟨by simp [c], hlow, by omega⟩
      · right
        rw [if_neg c] at hlow
        exact ⟨by simp [c], hlow⟩
    · by_cases c : wrap64 (b - wrap64 (s.least - s.lo p)) < s.hi p
      · left
        rw [if_pos c] at hhigh
        exact ⟨by simp [c], hhigh, by omega⟩
      · right
        rw [if_neg c] at hhigh
        exact ⟨by simp [c], hhigh⟩
    · simp only [eq_iff_iff, iff_false]
      exact hn

theorem sum_held {w0 W : World} {bk gp cp gx cx M m : Nat} {P : List Nat} {b : Int} {x : Nat → Int} {u v : Value} (hm : P.length = m) (hin : ∀ k, k < m → P.getD k 0 < M) (hP : m ≤ 4096) (h : W.cell? ⟨bk, 0, none⟩ = some u ∧ W.cell? ⟨bk, 1, none⟩ = some v ∧ Hid (Below w0.heap.size w0 W)) (hp : Hid (VRow w0 3 gp m (fun i => .int .i64 ((P.getD i 0 : Nat) : Int)))) (hx : Hid (VRow w0 3 gx M (fun i => .int .i64 (x i)))) :
    Calls (barP Try.prog) 88 #[.agg #[.slice (some ⟨gp, 0, none⟩) m cp, .int .i64 b], .slice (some ⟨gx, 0, none⟩) M cx] W fun e w' => e = .returned (.int .i64 (sumK x P m)) ∧ Below W.heap.size W w' := by
  subst hm
  exact sumOk hin hP W (vrow_keep (unhide hp) ((unhide h.2.2).block _ (vrow_lt (unhide hp)))) (vrow_keep (unhide hx) ((unhide h.2.2).block _ (vrow_lt (unhide hx))))

theorem draw_end {v9 wr : World} {gl gh M p n : Nat} {low high : Int} {slo shi : Nat → Int} (hL : IRow wr gl M slo) (hH : IRow wr gh M shi) (hne : gl ≠ gh) (hO : Off gl gh v9 wr) :
    IRow (((wr.drewN n).setCell ⟨gl, p, none⟩ (.int .i64 low)).setCell ⟨gh, p, none⟩ (.int .i64 high)) gl M (updI slo p low) ∧ IRow (((wr.drewN n).setCell ⟨gl, p, none⟩ (.int .i64 low)).setCell ⟨gh, p, none⟩ (.int .i64 high)) gh M (updI shi p high) ∧
      Off gl gh v9 (((wr.drewN n).setCell ⟨gl, p, none⟩ (.int .i64 low)).setCell ⟨gh, p, none⟩ (.int .i64 high)) := by
  have hL' : IRow (wr.drewN n) gl M slo := vrow_keep hL rfl
  have hH' : IRow (wr.drewN n) gh M shi := vrow_keep hH rfl
  have hO' : Off gl gh v9 (wr.drewN n) := ⟨hO.os, hO.tape, hO.output, hO.size, hO.block⟩
  refine ⟨vrow_keep (irow_set hL' p low) (Below.heap_setCell _ _ _ _ (by show gl ≠ gh; exact hne)), irow_set (vrow_keep hH' (Below.heap_setCell _ _ _ _ (by show gh ≠ gl; exact fun e => hne e.symm))) p high, ?_⟩
  exact (hO'.set (p := ⟨gl, p, none⟩) (Or.inl rfl) _).set (p := ⟨gh, p, none⟩) (Or.inr rfl) _

set_option maxRecDepth 100000 in
set_option maxHeartbeats 6400000 in
theorem drawOk {gp cp gl cl gh ch M : Nat} {P : List Nat} {b : Int} {lo hi : Nat → Int} {d : DS} (hd : drawS P b lo hi = some d) (hin : ∀ k, k < P.length → P.getD k 0 < M) (hP : P.length ≤ 4096) (hP1 : 1 ≤ P.length) (hne : gl ≠ gh) (hpl : gp ≠ gl) (hph : gp ≠ gh) (w : World) (hp : PRow w gp P) (hl : IRow w gl M lo) (hh : IRow w gh M hi) :
    Calls (barP Try.prog) 71 #[.agg #[placesV gp cp P, .int .i64 b], .slice (some ⟨gl, 0, none⟩) M cl, .slice (some ⟨gh, 0, none⟩) M ch] w fun e w' => e = .returned (.tuple #[.bool d.ch, .int .i64 0]) ∧ IRow w' gl M d.lo ∧ IRow w' gh M d.hi ∧ Off gl gh w w' := by
  have hk : dK b P ⟨sumK lo P P.length, sumK hi P P.length, false, lo, hi⟩ P.length = some d := hd
  have bx : Hid (Below w.heap.size w (w.alloc (.cells #[placesV gp cp P, .int .i64 b] 94))) := (Below.refl _ _).alloc (Nat.le_refl _) _
  have hp1 := hide (vrow_keep (w' := w.alloc (.cells #[placesV gp cp P, .int .i64 b] 94)) hp ((unhide bx).block _ (vrow_lt hp)))
  have hl1 := hide (vrow_keep (w' := w.alloc (.cells #[placesV gp cp P, .int .i64 b] 94)) hl ((unhide bx).block _ (vrow_lt hl)))
  have hh1 := hide (vrow_keep (w' := w.alloc (.cells #[placesV gp cp P, .int .i64 b] 94)) hh ((unhide bx).block _ (vrow_lt hh)))
  have sz : Hid ((w.alloc (.cells #[placesV gp cp P, .int .i64 b] 94)).heap.size = w.heap.size + 1) := by show _ = _; simp
  have rb := cell_of_row _ w.heap.size 0 _ _ (0, 0) (heap_alloc_new w (.cells #[placesV gp cp P, .int .i64 b] 94))
  have rc := cell_of_row _ w.heap.size 1 _ _ (0, 0) (heap_alloc_new w (.cells #[placesV gp cp P, .int .i64 b] 94))
  simp only [List.getElem?_toArray, List.getElem?_cons_zero, List.getElem?_cons_succ] at rb rc
  have hgl : gl < w.heap.size := vrow_lt hl
  have hgh : gh < w.heap.size := vrow_lt hh
  have hgp : gp < w.heap.size := vrow_lt hp
  have hless := hide (fun k (hk' : k ≤ P.length) => dK_less hk k hk')
  have hstep : Hid (∀ k s, dK b P ⟨sumK lo P P.length, sumK hi P P.length, false, lo, hi⟩ k = some s → dK b P ⟨sumK lo P P.length, sumK hi P P.length, false, lo, hi⟩ (k + 1) = dStep b (P.getD k 0) s) := fun k s h => by
    show (dK b P _ k).bind _ = _
    rw [h]
    rfl
  have hstart : Hid (dK b P ⟨sumK lo P P.length, sumK hi P P.length, false, lo, hi⟩ 0 = some ⟨sumK lo P P.length, sumK hi P P.length, false, lo, hi⟩) := rfl
  have hk := hide hk
  have hin := hide hin
  clear hd hp hl hh
  unfold placesV at bx hp1 hl1 hh1 sz rb rc ⊢
  generalize dK b P ⟨sumK lo P P.length, sumK hi P P.length, false, lo, hi⟩ = DK at *
  generalize hs1 : sumK lo P P.length = s1 at *
  generalize hs2 : sumK hi P P.length = s2 at *
  generalize hm : P.length = m at *
  replace hm := hide hm
  have q0 : (m = 0) = False := by simp; omega
  replace hs1 := hide hs1
  replace hs2 := hide hs2
  go_enter Bar.func71, Bar.ntmps71
  go_wp2_with fail
  generalize w.alloc (.cells #[.slice (some ⟨gp, 0, none⟩) m cp, .int .i64 b] 94) = w0 at *
  have S0 : w0.cell? ⟨w.heap.size, 0, none⟩ = some (.slice (some ⟨gp, 0, none⟩) m cp) ∧ w0.cell? ⟨w.heap.size, 1, none⟩ = some (.int .i64 b) ∧ Hid (Below w0.heap.size w0 w0) := ⟨rb, rc, Below.refl _ _⟩
  have hlt : w.heap.size < w0.heap.size := by have := unhide sz; omega
  clear rb rc
  go_region_held3 (fun w8 => w8.cell? ⟨w.heap.size, 0, none⟩ = some (.slice (some ⟨gp, 0, none⟩) m cp) ∧ w8.cell? ⟨w.heap.size, 1, none⟩ = some (.int .i64 b) ∧ Hid (Below w0.heap.size w0 w8))
    (first | exact held_keep hlt (by assumption) (by assumption) | exact held_drew (by assumption) | exact S0 | exact held_drew S0 | go_keep)
    (first
    | (go_at_call 88; first
        | (with_reducible refine (sum_held (w0 := w0) (unhide hm) (unhide hin) hP (by assumption) hp1 hl1).mono ?_)
        | (with_reducible refine (sum_held (w0 := w0) (unhide hm) (unhide hin) hP (by assumption) hp1 hh1).mono ?_)
       rintro e v9 ⟨rfl, hx⟩
       have hx := hide hx))
  obtain ⟨z0, z1, hend⟩ : v9.cell? ⟨w.heap.size, 0, none⟩ = some (.slice (some ⟨gp, 0, none⟩) m cp) ∧ v9.cell? ⟨w.heap.size, 1, none⟩ = some (.int .i64 b) ∧ Hid (Below w0.heap.size w0 v9) := by assumption
  have P9 := hide (vrow_keep (unhide hp1) ((unhide hend).block _ (vrow_lt (unhide hp1))))
  have L9 := hide (vrow_keep (unhide hl1) ((unhide hend).block _ (vrow_lt (unhide hl1))))
  have H9 := hide (vrow_keep (unhide hh1) ((unhide hend).block _ (vrow_lt (unhide hh1))))
  have hsz9 := (unhide hend).size
  have O9 := hide ((Off.below (gl := gl) (gh := gh) (unhide bx)).trans (Off.below (unhide hend)))
  rw [unhide hs1, unhide hs2]
  have Z0 := hide z0
  have Z1 := hide z1
  clear hx S0 hp1 hl1 hh1 hend bx z1
  go_wp2_with fail
  clear z0
  go_loopw [8, 9, 10, 33] (fun cv lv mv kv wr => ∃ (k : Nat) (s : DS), k ≤ m ∧ kv = .int .i64 k ∧ Hid (DK k = some s) ∧ cv = .bool s.ch ∧ lv = .int .i64 s.least ∧ mv = .int .i64 s.most ∧ Hid (IRow wr gl M s.lo) ∧ Hid (IRow wr gh M s.hi) ∧ Hid (Off gl gh v9 wr)) (fun _ _ _ kv _ => m - (intOf kv).toNat)
  case atStart => exact ⟨0, _, Nat.zero_le _, rfl, hstart, rfl, rfl, rfl, L9, H9, Off.refl _ _ _⟩
  case round =>
    clear L9 H9
    obtain ⟨k, s, hkm, rfl, hDK, rfl, rfl, rfl, hL, hH, hO⟩ := hrel
    by_cases c : k < m
    · have q1 : ((k : Int) < (m : Int)) = True := by simp; omega
      have c1 := vrow_at (vrow_keep (unhide P9) ((unhide hO).block _ (vrow_lt (unhide P9)) hpl hph)) c
      have c2 := ((unhide hO).cell (p := ⟨w.heap.size, 1, none⟩) (by show w.heap.size < _; omega) (by show w.heap.size ≠ _; omega) (by show w.heap.size ≠ _; omega)).trans (unhide Z1)
      have hp := unhide hin k c
      have c3 := vrow_at (unhide hL) hp
      have c4 := vrow_at (unhide hH) hp
      have f3 := vrow_frozen (unhide hL) (P.getD k 0)
      have f4 := vrow_frozen (unhide hH) (P.getD k 0)
      obtain ⟨s', hs'⟩ := unhide hless (k + 1) (by omega)
      have hs'' := hs'
      rw [unhide hstep k s (unhide hDK)] at hs'
      obtain ⟨le, mo, L2, H2, low, high, e1, e2, e3, e4, hcl, hch, hnl, hs3⟩ := dStep_at hs'
      have D2 := hide hs''
      rw [hs3] at D2
      clear hs' hs'' hs3
      generalize P.getD k 0 = p at *
      obtain ⟨sl, sm, sc, slo, shi⟩ := s
      dsimp only at *
      replace e1 := e1.symm
      replace e2 := e2.symm
      replace e3 := e3.symm
      replace e4 := e4.symm
      have hE := hide (fun n => draw_end (n := n) (p := p) (low := low) (high := high) (unhide hL) (unhide hH) hne (unhide hO))
      clear hL hH hO
      generalize slo p = x at *
      generalize shi p = y at *
      have hcc : sc = true ∨ sc = false := by cases sc <;> simp
      rcases hcl with ⟨j1, rfl, j2⟩ | ⟨j1, rfl⟩
      all_goals rcases hch with ⟨i1, rfl, i2⟩ | ⟨i1, rfl⟩
      all_goals rcases hcc with rfl | rfl
      all_goals go_wp2_with fail
      all_goals go_quiet (fail)
      all_goals go_wp2_with fail
      all_goals go_quiet (fail)
      all_goals go_wp2_with fail
      all_goals
        obtain ⟨r1, r2, r3⟩ := unhide hE _
        exact ⟨⟨k + 1, _, by omega, by go_num, D2, by simp [*], rfl, rfl, r1, r2, r3⟩, by simp [intOf]; omega⟩
    · have q1 : ((k : Int) < (m : Int)) = False := by simp; omega
      obtain rfl : k = m := by omega
      obtain rfl : s = d := by
        have h1 := unhide hDK
        rw [unhide hk] at h1
        exact (Option.some.inj h1).symm
      have O2 := hide ((unhide O9).trans (unhide hO))
      go_wp2_with fail
      go_ret2
      exact ⟨rfl, unhide hL, unhide hH, unhide O2⟩
set_option maxRecDepth 100000 in
set_option maxHeartbeats 6400000 in
/-- A line without cells. -/
theorem drawNil {gp cp gl cl gh ch M : Nat} {lo hi : Nat → Int} (w : World) (hp : PRow w gp []) (hl : IRow w gl M lo) (hh : IRow w gh M hi) :
    Calls (barP Try.prog) 71 #[.agg #[placesV gp cp [], .int .i64 0], .slice (some ⟨gl, 0, none⟩) M cl, .slice (some ⟨gh, 0, none⟩) M ch] w fun e w' => e = .returned (.tuple #[.bool false, .int .i64 0]) ∧ IRow w' gl M lo ∧ IRow w' gh M hi ∧ Off gl gh w w' := by
  have bx : Hid (Below w.heap.size w (w.alloc (.cells #[placesV gp cp [], .int .i64 0] 94))) := (Below.refl _ _).alloc (Nat.le_refl _) _
  have hp1 := hide (vrow_keep (w' := w.alloc (.cells #[placesV gp cp [], .int .i64 0] 94)) hp ((unhide bx).block _ (vrow_lt hp)))
  have hl1 := hide (vrow_keep (w' := w.alloc (.cells #[placesV gp cp [], .int .i64 0] 94)) hl ((unhide bx).block _ (vrow_lt hl)))
  have hh1 := hide (vrow_keep (w' := w.alloc (.cells #[placesV gp cp [], .int .i64 0] 94)) hh ((unhide bx).block _ (vrow_lt hh)))
  have sz : Hid ((w.alloc (.cells #[placesV gp cp [], .int .i64 0] 94)).heap.size = w.heap.size + 1) := by show _ = _; simp
  have rb := cell_of_row _ w.heap.size 0 _ _ (0, 0) (heap_alloc_new w (.cells #[placesV gp cp [], .int .i64 0] 94))
  have rc := cell_of_row _ w.heap.size 1 _ _ (0, 0) (heap_alloc_new w (.cells #[placesV gp cp [], .int .i64 0] 94))
  simp only [List.getElem?_toArray, List.getElem?_cons_zero, List.getElem?_cons_succ] at rb rc
  have hin : Hid (∀ k, k < ([] : List Nat).length → ([] : List Nat).getD k 0 < M) := fun k hk => by simp at hk
  have hm0 : Hid (([] : List Nat).length = 0) := rfl
  clear hp hl hh
  unfold placesV at bx hp1 hl1 hh1 sz rb rc ⊢
  have hs1 : sumK lo [] ([] : List Nat).length = 0 := rfl
  have hs2 : sumK hi [] ([] : List Nat).length = 0 := rfl
  generalize hm : ([] : List Nat).length = m at *
  replace hm := hide hm
  have q0 : (m = 0) = True := by simp; exact unhide hm0
  have q1 : (0 < m) = False := by simp; have := unhide hm0; omega
  go_enter Bar.func71, Bar.ntmps71
  go_wp2_with fail
  generalize w.alloc (.cells #[.slice (some ⟨gp, 0, none⟩) m cp, .int .i64 0] 94) = w0 at *
  have S0 : w0.cell? ⟨w.heap.size, 0, none⟩ = some (.slice (some ⟨gp, 0, none⟩) m cp) ∧ w0.cell? ⟨w.heap.size, 1, none⟩ = some (.int .i64 0) ∧ Hid (Below w0.heap.size w0 w0) := ⟨rb, rc, Below.refl _ _⟩
  have hlt : w.heap.size < w0.heap.size := by have := unhide sz; omega
  clear rb rc
  go_region_held3 (fun w8 => w8.cell? ⟨w.heap.size, 0, none⟩ = some (.slice (some ⟨gp, 0, none⟩) m cp) ∧ w8.cell? ⟨w.heap.size, 1, none⟩ = some (.int .i64 0) ∧ Hid (Below w0.heap.size w0 w8))
    (first | exact held_keep hlt (by assumption) (by assumption) | exact held_drew (by assumption) | exact S0 | exact held_drew S0 | go_keep)
    (first
    | (go_at_call 88; first
        | (with_reducible refine (sum_held (w0 := w0) (unhide hm) (unhide hin) (by rw [unhide hm0]; exact Nat.zero_le _) (by assumption) hp1 hl1).mono ?_)
        | (with_reducible refine (sum_held (w0 := w0) (unhide hm) (unhide hin) (by rw [unhide hm0]; exact Nat.zero_le _) (by assumption) hp1 hh1).mono ?_)
       rintro e v9 ⟨rfl, hx⟩
       have hx := hide hx))
  obtain ⟨z0, z1, hend⟩ : v9.cell? ⟨w.heap.size, 0, none⟩ = some (.slice (some ⟨gp, 0, none⟩) m cp) ∧ v9.cell? ⟨w.heap.size, 1, none⟩ = some (.int .i64 0) ∧ Hid (Below w0.heap.size w0 v9) := by assumption
  have L9 := hide (vrow_keep (unhide hl1) ((unhide hend).block _ (vrow_lt (unhide hl1))))
  have H9 := hide (vrow_keep (unhide hh1) ((unhide hend).block _ (vrow_lt (unhide hh1))))
  have O9 := hide ((Off.below (gl := gl) (gh := gh) (unhide bx)).trans (Off.below (unhide hend)))
  clear hx S0 hp1 hl1 hh1 hend bx z1
  go_wp2_with fail
  clear z0
  go_loopw [8, 9, 10, 33] (fun cv lv mv kv wr => cv = .bool false ∧ kv = .int .i64 0 ∧ Hid (wr = v9)) (fun _ _ _ kv _ => 0)
  case atStart => exact ⟨rfl, rfl, rfl⟩
  case round =>
    obtain ⟨rfl, rfl, hw⟩ := hrel
    obtain rfl := unhide hw
    go_wp2_with fail
    go_ret2
    exact ⟨rfl, unhide L9, unhide H9, unhide O9⟩
theorem drawAny {gp cp gl cl gh ch M : Nat} {P : List Nat} {b : Int} {lo hi : Nat → Int} {d : DS} (hd : drawS P b lo hi = some d) (hin : ∀ k, k < P.length → P.getD k 0 < M) (hP : P.length ≤ 4096) (hP1 : P.length = 0 → b = 0) (hne : gl ≠ gh) (hpl : gp ≠ gl) (hph : gp ≠ gh) (w : World) (hp : PRow w gp P) (hl : IRow w gl M lo) (hh : IRow w gh M hi) :
    Calls (barP Try.prog) 71 #[.agg #[placesV gp cp P, .int .i64 b], .slice (some ⟨gl, 0, none⟩) M cl, .slice (some ⟨gh, 0, none⟩) M ch] w fun e w' => e = .returned (.tuple #[.bool d.ch, .int .i64 0]) ∧ IRow w' gl M d.lo ∧ IRow w' gh M d.hi ∧ Off gl gh w w' := by
  match P, hd, hin, hP, hP1, hp with
  | [], hd, hin, hP, hP1, hp =>
    obtain rfl := hP1 rfl
    obtain rfl : _ = d := Option.some.inj hd
    exact drawNil w hp hl hh
  | a :: r, hd, hin, hP, hP1, hp => exact drawOk hd hin hP (by simp) hne hpl hph w hp hl hh
end Go.Proofs.Ythbghcebcahlnaa
