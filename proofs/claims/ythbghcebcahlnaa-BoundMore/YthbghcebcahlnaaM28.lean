/- The landed Run of sound projections. Bounds drawn together: the widest that every line allows; whole numbers alone. Bounds drawn together: what one line does, without wrapping. Bounds drawn together: lines, sweeps, and what is left. -/
import Derived.Test.YthbghcebcahlnaaM27
import Derived.Test.YthbghcebcahlnaaM20
namespace Go.Proofs.Ythbghcebcahlnaa
open Go.RowKit Go.Shelf

def swStepP (x : List Nat × Int) (s : SS) : Option SS := (drawS x.1 x.2 s.lo s.hi).map fun d => ⟨s.ch || d.ch, d.lo, d.hi⟩
def swKp (xs : List (List Nat × Int)) (s : SS) : Nat → Option SS
  | 0 => some s
  | k + 1 => (swKp xs s k).bind (swStepP (xs.getD k ([], 0)))
theorem swK_p (ls : List LineD) (s : SS) : ∀ k, swK ls s k = swKp (ls.map pr) s k
  | 0 => rfl
  | k + 1 => by
    unfold swK swKp
    rw [swK_p ls s k]
    have e : (ls.map pr).getD k ([], 0) = pr (ls.getD k l0) := by
      rw [List.getD_eq_getElem?_getD, List.getD_eq_getElem?_getD, List.getElem?_map]
      cases ls[k]? <;> rfl
    rw [e]
    rfl

theorem flatL_get : ∀ (ls : List LineD) (i : Nat), i < 2 * ls.length → (flatL ls)[i]? = some (lineV ls i)
  | [], i, h => by simp at h
  | a :: ls, i, h => by
    have e : flatL (a :: ls) = placesV a.gp a.cp a.P :: .int .i64 a.b :: flatL ls := by simp [flatL]
    rw [e]
    match i, h with
    | 0, _ => rfl
    | 1, _ => rfl
    | i + 2, h =>
      rw [List.getElem?_cons_succ, List.getElem?_cons_succ, flatL_get ls i (by simp at h; omega)]
      unfold lineV
      rw [show (i + 2) % 2 = i % 2 by omega, show (i + 2) / 2 = i / 2 + 1 by omega, List.getD_cons_succ]

def Fit (M : Nat) (x : List Nat × Int) : Prop := (∀ k, k < x.1.length → x.1.getD k 0 < M) ∧ x.1.length ≤ 4096 ∧ (x.1.length = 0 → x.2 = 0)

theorem linesAt_of {w : World} {base gl gh M : Nat} {v : Value} {ls : List LineD} (h : LN base w v ls) (hl : gl < base) (hh : gh < base) (h1 : 1 ≤ ls.length) (hf : ∀ x, x ∈ ls.map pr → Fit M x) : ∃ gs cs, v = .slice (some ⟨gs, 0, none⟩) ls.length cs ∧ LinesAt w gs gl gh M ls := by
  have hg : ∀ i, i < ls.length → ls.getD i l0 ∈ ls := fun i hi => by
    rw [List.getD_eq_getElem?_getD, List.getElem?_eq_getElem hi]
    exact List.getElem_mem hi
  rcases h.own.2 with ⟨_, h0⟩ | ⟨gs, cs, cur, rfl, hb, hh', hn, hc, hs, ht⟩
  · omega
  · refine ⟨gs, cs, rfl, ⟨cur, hh', by omega, fun i hi => ?_⟩, by omega, by omega, fun i hi => (h.rows _ (hg i hi)).1, fun i hi => ?_, fun i hi => hf _ (List.mem_map.2 ⟨_, hg i hi, rfl⟩)⟩
    · have h3 := flatL_get ls i hi
      rw [← ht, List.getElem?_take, if_pos (by omega)] at h3
      simpa using h3
    · have := (h.rows _ (hg i hi)).2.1
      exact ⟨by omega, by omega⟩

/-- The states behind the sweeps. -/
structure States (xs : List (List Nat × Int)) (T : Nat) (St : Nat → SS) : Prop where
  step : ∀ t, t ≤ T → swKp xs ⟨false, (St t).lo, (St t).hi⟩ xs.length = some (St (t + 1))
  more : ∀ t, t < T → (St (t + 1)).ch = true
  last : (St (T + 1)).ch = false

set_option maxRecDepth 100000 in
set_option maxHeartbeats 3200000 in
theorem runOk {n gq cq T : Nat} {ps : List PD} {u v : Value} {A B : List Int} {St : Nat → SS} (h1 : 1 ≤ n) (h2 : n ≤ 16) (hl : levs n A B = true) (hps : ps.length ≤ 64) (hd : ∀ i, i < ps.length → Dir64 (ps.getD i p0).d ∧ binsS n (ps.getD i p0).d = (((ps.getD i p0).nb : Int), 0) ∧ (ps.getD i p0).nb ≤ 2017)
    (hz : ∀ i j, i < ps.length → j < (ps.getD i p0).nb → ∀ W : World, Calls (barP Try.prog) 69 #[.complex .f64 ((ps.getD i p0).z j).1 ((ps.getD i p0).z j).2] W fun e W' => e = .returned (.bool false) ∧ Below W.heap.size W W')
    (hSo : Sound n ps) (hx1 : 1 ≤ (lk n ps ps.length 0).length) (hx2 : (lk n ps ps.length 0).length ≤ 100000) (hf : ∀ x, x ∈ lk n ps ps.length 0 → Fit A.length x) (hT : T ≤ 511) (hSt : States (lk n ps ps.length 0) T St)
    (s0l : (St 0).lo = fun i => A.getD i 0) (s0h : (St 0).hi = fun i => B.getD i 0) (hc : ∀ i, i < A.length → (St 0).lo i ≤ (St 0).hi i)
    (w : World) (hu : Ints w u A) (hv : Ints w v B) (hp : ProjsAt w gq ps) :
    Calls (barP Try.prog) 9 #[.int .i64 n, .slice (some ⟨gq, 0, none⟩) ps.length cq, u, v] w fun e w' => ∃ gl cl gh ch, e = .returned (.tuple #[.slice (some ⟨gl, 0, none⟩) A.length cl, .slice (some ⟨gh, 0, none⟩) A.length ch, .int .i64 0]) ∧
      IRow w' gl A.length (St (T + 1)).lo ∧ IRow w' gh A.length (St (T + 1)).hi ∧ Below w.heap.size w w' := by
  have kl := hide (lookGood (cq := cq) h1 h2 hl hps hd hz w hu hv hp)
  obtain ⟨lA, lB⟩ := levs_len hl
  obtain ⟨m1, m2⟩ := sq_small (n := (n : Int)) (by omega) (by omega)
  have hu := hide hu
  have hv := hide hv
  have hp := hide hp
  have hc := hide hc
  have e12 : Hid (A.length = B.length) := by show _ = _; omega
  have mA1 : 1 ≤ A.length := by omega
  have mA2 : A.length ≤ 4096 := by omega
  have mB1 : 1 ≤ B.length := by omega
  have mB2 : B.length ≤ 4096 := by omega
  have hlk : Hid (∀ ls : List LineD, ls.map pr = lk n ps ps.length 0 → ls.length = (lk n ps ps.length 0).length) := fun ls h => by rw [← h, List.length_map]
  have hSo := hide hSo
  have hf := hide hf
  have hSt := hide hSt
  have s0l := hide s0l
  have s0h := hide s0h
  clear hl lA lB m1 m2 hd hz hps
  go_enter Bar.func9, Bar.ntmps9
  go_wp2_with fail
  refine (unhide kl).mono ?_
  rintro e w1 ⟨rfl, hb1⟩
  have B1 := hide hb1
  obtain ⟨a1, cap1, g1, o1, rfl, i1⟩ := ints_below (unhide hu) hb1
  have k2 := hide (cloneInts (cap := cap1) mA1 mA2 w1 i1)
  clear hb1 i1 kl
  go_wp2_with fail
  refine (unhide k2).mono ?_
  rintro e w2 ⟨gl, cl, rfl, hgl, r2, own2, hb2⟩
  have B2 := hide ((unhide B1).trans (hb2.mono (unhide B1).size))
  obtain ⟨a2, cap2, g2, o2, rfl, i2⟩ := ints_below (unhide hv) (unhide B2)
  have k3 := hide (cloneInts (cap := cap2) mB1 mB2 w2 i2)
  have R2 := hide r2
  have hs1 : w.heap.size ≤ w1.heap.size := (unhide B1).size
  have hs2 : w1.heap.size ≤ w2.heap.size := hb2.size
  have gl2 : gl < w2.heap.size := vrow_lt r2
  clear hb2 i2 k2 r2 own2 B1
  go_wp2_with fail
  refine (unhide k3).mono ?_
  rintro e w3 ⟨gh, ch, rfl, hgh, r3, own3, hb3⟩
  have B3 := hide ((unhide B2).trans (hb3.mono (by omega)))
  have R2 := hide (vrow_keep (unhide R2) (hb3.block _ gl2))
  have gh3 : gh < w3.heap.size := vrow_lt r3
  have hs3 : w2.heap.size ≤ w3.heap.size := hb3.size
  have r3' := r3
  rw [← unhide e12] at r3'
  have R3 := hide r3'
  have kn := hide (linesOk (cq := cq) (unhide hSo) w3 ((unhide hp).below (unhide B3)))
  clear hb3 k3 r3 r3' own3 B2
  rw [← unhide e12]
  go_wp2_with fail
  refine (unhide kn).mono ?_
  rintro e w4 ⟨lv, ls, rfl, hN, hM, hb4⟩
  obtain ⟨gs, cs, rfl, hLA⟩ := linesAt_of (gl := gl) (gh := gh) (M := A.length) hN (by omega) gh3 (by rw [unhide hlk ls hM]; exact hx1) (fun x hx => unhide hf x (by rw [← hM]; exact hx))
  have B4 := hide ((unhide B3).trans (hb4.mono (unhide B3).size))
  have hs4 : w3.heap.size ≤ w4.heap.size := hb4.size
  have R2' := vrow_keep (w' := w4) (unhide R2) (hb4.block _ (by omega))
  have R3' := vrow_keep (w' := w4) (unhide R3) (hb4.block _ gh3)
  have hne : gl ≠ gh := by omega
  have hSw : Sweeps (.slice (some ⟨gs, 0, none⟩) ls.length cs) gl cl gh ch A.length T St w4 := by
    refine ⟨fun W t ht hO r1 r2 => ?_, (unhide hSt).more, (unhide hSt).last⟩
    have e1 : swK ls ⟨false, (St t).lo, (St t).hi⟩ ls.length = some (St (t + 1)) := by
      rw [swK_p, hM, unhide hlk ls hM]
      exact (unhide hSt).step t ht
    exact sweepOk (cs := cs) (cl := cl) (ch := ch) e1 (by rw [unhide hlk ls hM]; exact hx2) hne W (hLA.off hO) r1 r2
  have k5 := hide (settleOk (cl := cl) (ch := ch) mA2 hT (unhide hc) w4 hSw (by rw [unhide s0l]; exact R2') (by rw [unhide s0h]; exact R3'))
  clear kn hN hM hb4 hLA hSw R2 R3 R2' R3' B3
  go_wp2_with fail
  refine (unhide k5).mono ?_
  rintro e w5 ⟨rfl, r6, r7, hO⟩
  have B6 := hide ((unhide B4).trans (hO.to (by omega) (by omega) (by omega)))
  have R6 := hide r6
  have R7 := hide r7
  clear k5 r6 r7 hO B4
  go_wp2_with fail
  go_ret3
  exact ⟨gl, cl, gh, ch, rfl, unhide R6, unhide R7, unhide B6⟩
structure StatesF (xs : List (List Nat × Int)) (St : Nat → SS) : Prop where
  step : ∀ t, t < 512 → swKp xs ⟨false, (St t).lo, (St t).hi⟩ xs.length = some (St (t + 1))
  more : ∀ t, t < 512 → (St (t + 1)).ch = true

set_option maxRecDepth 100000 in
set_option maxHeartbeats 3200000 in
theorem runFew {n gq cq : Nat} {ps : List PD} {u v : Value} {A B : List Int} {St : Nat → SS} (h1 : 1 ≤ n) (h2 : n ≤ 16) (hl : levs n A B = true) (hps : ps.length ≤ 64) (hd : ∀ i, i < ps.length → Dir64 (ps.getD i p0).d ∧ binsS n (ps.getD i p0).d = (((ps.getD i p0).nb : Int), 0) ∧ (ps.getD i p0).nb ≤ 2017)
    (hz : ∀ i j, i < ps.length → j < (ps.getD i p0).nb → ∀ W : World, Calls (barP Try.prog) 69 #[.complex .f64 ((ps.getD i p0).z j).1 ((ps.getD i p0).z j).2] W fun e W' => e = .returned (.bool false) ∧ Below W.heap.size W W')
    (hSo : Sound n ps) (hx1 : 1 ≤ (lk n ps ps.length 0).length) (hx2 : (lk n ps ps.length 0).length ≤ 100000) (hf : ∀ x, x ∈ lk n ps ps.length 0 → Fit A.length x) (hSt : StatesF (lk n ps ps.length 0) St)
    (s0l : (St 0).lo = fun i => A.getD i 0) (s0h : (St 0).hi = fun i => B.getD i 0) (hc : ∀ i, i < A.length → (St 0).lo i ≤ (St 0).hi i)
    (w : World) (hu : Ints w u A) (hv : Ints w v B) (hp : ProjsAt w gq ps) :
    Calls (barP Try.prog) 9 #[.int .i64 n, .slice (some ⟨gq, 0, none⟩) ps.length cq, u, v] w fun e w' => e = .returned (.tuple #[.slice none 0 0, .slice none 0 0, .int .i64 112]) ∧ Below w.heap.size w w' := by
  have kl := hide (lookGood (cq := cq) h1 h2 hl hps hd hz w hu hv hp)
  obtain ⟨lA, lB⟩ := levs_len hl
  obtain ⟨m1, m2⟩ := sq_small (n := (n : Int)) (by omega) (by omega)
  have hu := hide hu
  have hv := hide hv
  have hp := hide hp
  have hc := hide hc
  have e12 : Hid (A.length = B.length) := by show _ = _; omega
  have mA1 : 1 ≤ A.length := by omega
  have mA2 : A.length ≤ 4096 := by omega
  have mB1 : 1 ≤ B.length := by omega
  have mB2 : B.length ≤ 4096 := by omega
  have hlk : Hid (∀ ls : List LineD, ls.map pr = lk n ps ps.length 0 → ls.length = (lk n ps ps.length 0).length) := fun ls h => by rw [← h, List.length_map]
  have hSo := hide hSo
  have hf := hide hf
  have hSt := hide hSt
  have s0l := hide s0l
  have s0h := hide s0h
  clear hl lA lB m1 m2 hd hz hps
  go_enter Bar.func9, Bar.ntmps9
  go_wp2_with fail
  refine (unhide kl).mono ?_
  rintro e w1 ⟨rfl, hb1⟩
  have B1 := hide hb1
  obtain ⟨a1, cap1, g1, o1, rfl, i1⟩ := ints_below (unhide hu) hb1
  have k2 := hide (cloneInts (cap := cap1) mA1 mA2 w1 i1)
  clear hb1 i1 kl
  go_wp2_with fail
  refine (unhide k2).mono ?_
  rintro e w2 ⟨gl, cl, rfl, hgl, r2, own2, hb2⟩
  have B2 := hide ((unhide B1).trans (hb2.mono (unhide B1).size))
  obtain ⟨a2, cap2, g2, o2, rfl, i2⟩ := ints_below (unhide hv) (unhide B2)
  have k3 := hide (cloneInts (cap := cap2) mB1 mB2 w2 i2)
  have R2 := hide r2
  have hs1 : w.heap.size ≤ w1.heap.size := (unhide B1).size
  have hs2 : w1.heap.size ≤ w2.heap.size := hb2.size
  have gl2 : gl < w2.heap.size := vrow_lt r2
  clear hb2 i2 k2 r2 own2 B1
  go_wp2_with fail
  refine (unhide k3).mono ?_
  rintro e w3 ⟨gh, ch, rfl, hgh, r3, own3, hb3⟩
  have B3 := hide ((unhide B2).trans (hb3.mono (by omega)))
  have R2 := hide (vrow_keep (unhide R2) (hb3.block _ gl2))
  have gh3 : gh < w3.heap.size := vrow_lt r3
  have hs3 : w2.heap.size ≤ w3.heap.size := hb3.size
  have r3' := r3
  rw [← unhide e12] at r3'
  have R3 := hide r3'
  have kn := hide (linesOk (cq := cq) (unhide hSo) w3 ((unhide hp).below (unhide B3)))
  clear hb3 k3 r3 r3' own3 B2
  rw [← unhide e12]
  go_wp2_with fail
  refine (unhide kn).mono ?_
  rintro e w4 ⟨lv, ls, rfl, hN, hM, hb4⟩
  obtain ⟨gs, cs, rfl, hLA⟩ := linesAt_of (gl := gl) (gh := gh) (M := A.length) hN (by omega) gh3 (by rw [unhide hlk ls hM]; exact hx1) (fun x hx => unhide hf x (by rw [← hM]; exact hx))
  have B4 := hide ((unhide B3).trans (hb4.mono (unhide B3).size))
  have hs4 : w3.heap.size ≤ w4.heap.size := hb4.size
  have R2' := vrow_keep (w' := w4) (unhide R2) (hb4.block _ (by omega))
  have R3' := vrow_keep (w' := w4) (unhide R3) (hb4.block _ gh3)
  have hne : gl ≠ gh := by omega
  have hSw : SweepsF (.slice (some ⟨gs, 0, none⟩) ls.length cs) gl cl gh ch A.length St w4 := by
    refine ⟨fun W t ht hO r1 r2 => ?_, (unhide hSt).more⟩
    have e1 : swK ls ⟨false, (St t).lo, (St t).hi⟩ ls.length = some (St (t + 1)) := by
      rw [swK_p, hM, unhide hlk ls hM]
      exact (unhide hSt).step t ht
    exact sweepOk (cs := cs) (cl := cl) (ch := ch) e1 (by rw [unhide hlk ls hM]; exact hx2) hne W (hLA.off hO) r1 r2
  have k5 := hide (settleFew (cl := cl) (ch := ch) mA2 (unhide hc) w4 hSw (by rw [unhide s0l]; exact R2') (by rw [unhide s0h]; exact R3'))
  clear kn hN hM hb4 hLA hSw R2 R3 R2' R3' B3
  go_wp2_with fail
  refine (unhide k5).mono ?_
  rintro e w5 ⟨rfl, hO⟩
  have B6 := hide ((unhide B4).trans (hO.to (by omega) (by omega) (by omega)))
  clear k5 hO B4
  go_wp2_with fail
  go_ret3
  exact ⟨rfl, unhide B6⟩
end Go.Proofs.Ythbghcebcahlnaa

namespace Go.Proofs.Ythbghcebcahlnaa
open Go.RowKit

def sumL (f : Nat → Int) : List Nat → Int
  | [] => 0
  | c :: r => f c + sumL f r

theorem sumL_mono {f g : Nat → Int} : ∀ {L : List Nat}, (∀ c, c ∈ L → f c ≤ g c) → sumL f L ≤ sumL g L
  | [], _ => Int.le_refl _
  | c :: r, h => by
    have h1 := h c (by simp)
    have h2 := sumL_mono (L := r) fun x hx => h x (by simp [hx])
    unfold sumL
    omega

/-- A line without one of its cells. -/
theorem sumL_rest {f g : Nat → Int} : ∀ {L : List Nat} {c : Nat}, c ∈ L → L.Nodup → (∀ x, x ∈ L → x ≠ c → f x ≤ g x) → sumL f L - f c ≤ sumL g L - g c
  | [], _, h, _, _ => by simp at h
  | a :: r, c, h, hd, hm => by
    rw [List.nodup_cons] at hd
    unfold sumL
    by_cases e : a = c
    · subst e
      have := sumL_mono (L := r) fun x hx => hm x (by simp [hx]) (fun y => hd.1 (y ▸ hx))
      omega
    · have hc : c ∈ r := by
        rcases List.mem_cons.1 h with h | h
        · exact absurd h.symm e
        · exact h
      have h1 := hm a (by simp) e
      have h2 := sumL_rest hc hd.2 fun x hx hne => hm x (by simp [hx]) hne
      omega

/-- No line can draw these bounds further together. -/
def Stable (lines : List (List Nat × Int)) (lo hi : Nat → Int) : Prop :=
  ∀ L, L ∈ lines → ∀ c, c ∈ L.1 → L.2 - (sumL hi L.1 - hi c) ≤ lo c ∧ hi c ≤ L.2 - (sumL lo L.1 - lo c)

def Within (M : Nat) (lo hi lo0 hi0 : Nat → Int) : Prop := ∀ i, i < M → lo0 i ≤ lo i ∧ hi i ≤ hi0 i

/-- The widest such bounds within others. -/
structure Great (M : Nat) (lines : List (List Nat × Int)) (lo0 hi0 lo hi : Nat → Int) : Prop where
  stab : Stable lines lo hi
  ins : Within M lo hi lo0 hi0
  most : ∀ l h, Stable lines l h → Within M l h lo0 hi0 → Within M l h lo hi

theorem stable_less {lines lines' : List (List Nat × Int)} {lo hi : Nat → Int} (hs : ∀ L, L ∈ lines → L ∈ lines') (h : Stable lines' lo hi) : Stable lines lo hi := fun L hL c hc => h L (hs L hL) c hc

theorem great_more {M : Nat} {lines lines' : List (List Nat × Int)} {lo0 hi0 lo hi lo' hi' : Nat → Int} (hs : ∀ L, L ∈ lines → L ∈ lines') (h : Great M lines lo0 hi0 lo hi) (h' : Great M lines' lo0 hi0 lo' hi') : Within M lo' hi' lo hi :=
  h.most _ _ (stable_less hs h'.stab) h'.ins

theorem great_same {M : Nat} {lines lines' : List (List Nat × Int)} {lo0 hi0 lo hi lo' hi' : Nat → Int} (hs : ∀ L, L ∈ lines ↔ L ∈ lines') (h : Great M lines lo0 hi0 lo hi) (h' : Great M lines' lo0 hi0 lo' hi') : ∀ i, i < M → lo i = lo' i ∧ hi i = hi' i := fun i hi => by
  have h1 := great_more (fun L hL => (hs L).1 hL) h h' i hi
  have h2 := great_more (fun L hL => (hs L).2 hL) h' h i hi
  omega

theorem great_done {M : Nat} {lines : List (List Nat × Int)} {lo0 hi0 lo hi lo' hi' : Nat → Int} (h : Great M lines lo0 hi0 lo hi) (h' : Great M lines lo hi lo' hi') : ∀ i, i < M → lo i = lo' i ∧ hi i = hi' i := fun i hi => by
  have h1 := h'.most _ _ h.stab (fun i _ => ⟨Int.le_refl _, Int.le_refl _⟩) i hi
  have h2 := h'.ins i hi
  omega

/-- A grid's own sums allow it. -/
theorem stable_own {lines : List (List Nat × Int)} {g : Nat → Int} (h : ∀ L, L ∈ lines → sumL g L.1 = L.2) : Stable lines g g := fun L hL c _ => by
  have := h L hL
  omega

theorem great_sound {M : Nat} {lines : List (List Nat × Int)} {lo0 hi0 lo hi g : Nat → Int} (h : Great M lines lo0 hi0 lo hi) (hg : ∀ L, L ∈ lines → sumL g L.1 = L.2) (hw : Within M g g lo0 hi0) : Within M g g lo hi := h.most _ _ (stable_own hg) hw

/-- Lines of cells of the grid, each once. -/
def LinesOk (M : Nat) (lines : List (List Nat × Int)) : Prop := ∀ L, L ∈ lines → L.1.Nodup ∧ ∀ c, c ∈ L.1 → c < M

def lowAt (L : List Nat × Int) (hi : Nat → Int) (c : Nat) : Int := L.2 - (sumL hi L.1 - hi c)
def setI (f : Nat → Int) (c : Nat) (x : Int) : Nat → Int := fun i => if i = c then x else f i

/-- One step: what any line allows stays within. -/
theorem step_within {M : Nat} {lines : List (List Nat × Int)} (hl : LinesOk M lines) {L : List Nat × Int} (hL : L ∈ lines) {c : Nat} (hc : c ∈ L.1) {lo hi l h : Nat → Int} (hs : Stable lines l h) (hw : Within M l h lo hi) :
    Within M l h (setI lo c (max (lo c) (lowAt L hi c))) (setI hi c (min (hi c) (lowAt L lo c))) := fun i hi' => by
  obtain ⟨nd, ins⟩ := hl L hL
  have hm := hw i hi'
  unfold setI
  by_cases e : i = c
  · subst e
    rw [if_pos rfl, if_pos rfl]
    obtain ⟨s1, s2⟩ := hs L hL i hc
    have a1 := sumL_rest hc nd (f := h) (g := hi) fun x hx _ => (hw x (ins x hx)).2
    have a2 := sumL_rest hc nd (f := lo) (g := l) fun x hx _ => (hw x (ins x hx)).1
    unfold lowAt
    omega
  · rw [if_neg e, if_neg e]
    exact hm

/-- Bounds that no step changes are stable. -/
theorem stable_of {lines : List (List Nat × Int)} {lo hi : Nat → Int} (h : ∀ L, L ∈ lines → ∀ c, c ∈ L.1 → lowAt L hi c ≤ lo c ∧ hi c ≤ lowAt L lo c) : Stable lines lo hi := fun L hL c hc => h L hL c hc

theorem great_of {M : Nat} {lines : List (List Nat × Int)} {lo0 hi0 lo hi : Nat → Int} (h1 : Stable lines lo hi) (h2 : Within M lo hi lo0 hi0) (h3 : ∀ l h, Stable lines l h → Within M l h lo0 hi0 → Within M l h lo hi) : Great M lines lo0 hi0 lo hi := ⟨h1, h2, h3⟩
end Go.Proofs.Ythbghcebcahlnaa

namespace Go.Proofs.Ythbghcebcahlnaa
open Go.RowKit

theorem wrap_in {x : Int} (h1 : -9000000000000000000 ≤ x) (h2 : x ≤ 9000000000000000000) : wrap64 x = x := IntWalk.wrap64_in _ ⟨by omega, by omega⟩
theorem sumL_append (f : Nat → Int) : ∀ (a b : List Nat), sumL f (a ++ b) = sumL f a + sumL f b
  | [], b => by simp [sumL]
  | c :: a, b => by
    have := sumL_append f a b
    simp only [List.cons_append, sumL]
    omega
theorem sumL_bounds {f : Nat → Int} : ∀ {L : List Nat}, (∀ c, c ∈ L → 0 ≤ f c ∧ f c ≤ 255) → 0 ≤ sumL f L ∧ sumL f L ≤ 255 * L.length
  | [], _ => by simp [sumL]
  | c :: r, h => by
    have h1 := h c (by simp)
    have h2 := sumL_bounds (L := r) fun x hx => h x (by simp [hx])
    simp only [sumL, List.length_cons]
    omega
theorem getD_mem {P : List Nat} {k : Nat} (h : k < P.length) : P.getD k 0 ∈ P := by
  rw [List.getD_eq_getElem?_getD, List.getElem?_eq_getElem h]
  exact List.getElem_mem h
theorem sumK_take {f : Nat → Int} {P : List Nat} (hP : P.length ≤ 4096) (hf : ∀ c, c ∈ P → 0 ≤ f c ∧ f c ≤ 255) : ∀ k, k ≤ P.length → sumK f P k = sumL f (P.take k)
  | 0, _ => by simp [sumK, sumL]
  | k + 1, h => by
    have ih := sumK_take hP hf k (by omega)
    have e : P.take (k + 1) = P.take k ++ [P.getD k 0] := by
      rw [List.take_add_one, List.getD_eq_getElem?_getD, List.getElem?_eq_getElem (by omega)]
      rfl
    have b1 := sumL_bounds (L := P.take k) fun c hc => hf c (List.mem_of_mem_take hc)
    have b2 := hf _ (getD_mem (show k < P.length by omega))
    have l1 : (P.take k).length ≤ 4096 := by rw [List.length_take]; omega
    unfold sumK
    rw [ih, e, sumL_append]
    simp only [sumL, Int.add_zero]
    rw [wrap_in (by omega) (by omega)]
theorem sumK_all {f : Nat → Int} {P : List Nat} (hP : P.length ≤ 4096) (hf : ∀ c, c ∈ P → 0 ≤ f c ∧ f c ≤ 255) : sumK f P P.length = sumL f P := by
  rw [sumK_take hP hf _ (Nat.le_refl _), List.take_length]
theorem sumL_notin {f : Nat → Int} {p : Nat} {x : Int} : ∀ {L : List Nat}, p ∉ L → sumL (updI f p x) L = sumL f L
  | [], _ => rfl
  | c :: r, h => by
    have h1 : c ≠ p := fun e => h (by simp [e])
    have h2 : p ∉ r := fun e => h (by simp [e])
    simp only [sumL, sumL_notin h2, updI, if_neg h1]
theorem sumL_upd {f : Nat → Int} {p : Nat} {x : Int} : ∀ {L : List Nat}, p ∈ L → L.Nodup → sumL (updI f p x) L = sumL f L - f p + x
  | [], h, _ => by simp at h
  | c :: r, h, hd => by
    rw [List.nodup_cons] at hd
    by_cases e : c = p
    · subst e
      simp only [sumL, sumL_notin hd.1, updI, if_pos]
      omega
    · have hc : p ∈ r := by
        rcases List.mem_cons.1 h with h | h
        · exact absurd h.symm e
        · exact h
      have := sumL_upd (f := f) (x := x) hc hd.2
      simp only [sumL, this, updI, if_neg e]
      omega
/-- A line of the grid and its sum. -/
structure Own (M : Nat) (g : Nat → Int) (L : List Nat × Int) : Prop where
  nd : L.1.Nodup
  ins : ∀ c, c ∈ L.1 → c < M
  sum : sumL g L.1 = L.2
  len : L.1.length ≤ 256
/-- Bounds of levels about the grid. -/
def Abt (M : Nat) (g lo hi : Nat → Int) : Prop := ∀ i, i < M → 0 ≤ lo i ∧ lo i ≤ g i ∧ g i ≤ hi i ∧ hi i ≤ 255
/-- One cell. -/
theorem dStep_own {M : Nat} {g : Nat → Int} {L : List Nat × Int} (hL : Own M g L) {p : Nat} (hp : p ∈ L.1) {s : DS} (hA : Abt M g s.lo s.hi) (h1 : s.least = sumL s.lo L.1) (h2 : s.most = sumL s.hi L.1) :
    ∃ d, dStep L.2 p s = some d ∧ d.lo = setI s.lo p (max (s.lo p) (lowAt L s.hi p)) ∧ d.hi = setI s.hi p (min (s.hi p) (lowAt L s.lo p)) ∧ d.least = sumL d.lo L.1 ∧ d.most = sumL d.hi L.1 ∧ Abt M g d.lo d.hi ∧
      (d.ch = false → s.ch = false ∧ d.lo = s.lo ∧ d.hi = s.hi ∧ lowAt L s.hi p ≤ s.lo p ∧ s.hi p ≤ lowAt L s.lo p) := by
  obtain ⟨a1, a2, a3, a4⟩ := hA p (hL.ins p hp)
  have bl := sumL_bounds (f := s.lo) (L := L.1) fun c hc => by have := hA c (hL.ins c hc); omega
  have bh := sumL_bounds (f := s.hi) (L := L.1) fun c hc => by have := hA c (hL.ins c hc); omega
  have bg := sumL_bounds (f := g) (L := L.1) fun c hc => by have := hA c (hL.ins c hc); omega
  have r1 := sumL_rest (f := s.lo) (g := g) hp hL.nd fun x hx _ => (hA x (hL.ins x hx)).2.1
  have r2 := sumL_rest (f := g) (g := s.hi) hp hL.nd fun x hx _ => (hA x (hL.ins x hx)).2.2.1
  have hs := hL.sum
  have hn := hL.len
  have e1 : wrap64 (s.least - s.lo p) = sumL s.lo L.1 - s.lo p := by rw [h1]; exact wrap_in (by omega) (by omega)
  have e2 : wrap64 (s.most - s.hi p) = sumL s.hi L.1 - s.hi p := by rw [h2]; exact wrap_in (by omega) (by omega)
  have e3 : wrap64 (L.2 - (sumL s.hi L.1 - s.hi p)) = lowAt L s.hi p := wrap_in (by omega) (by omega)
  have e4 : wrap64 (L.2 - (sumL s.lo L.1 - s.lo p)) = lowAt L s.lo p := wrap_in (by omega) (by omega)
  have l1 : lowAt L s.hi p = L.2 - (sumL s.hi L.1 - s.hi p) := rfl
  have l2 : lowAt L s.lo p = L.2 - (sumL s.lo L.1 - s.lo p) := rfl
  have m1 : (if s.lo p < lowAt L s.hi p then lowAt L s.hi p else s.lo p) = max (s.lo p) (lowAt L s.hi p) := by
    split <;> omega
  have m2 : (if lowAt L s.lo p < s.hi p then lowAt L s.lo p else s.hi p) = min (s.hi p) (lowAt L s.lo p) := by
    split <;> omega
  have hlow : max (s.lo p) (lowAt L s.hi p) ≤ g p := by omega
  have hhigh : g p ≤ min (s.hi p) (lowAt L s.lo p) := by omega
  have e5 : wrap64 (sumL s.lo L.1 - s.lo p + max (s.lo p) (lowAt L s.hi p)) = sumL s.lo L.1 - s.lo p + max (s.lo p) (lowAt L s.hi p) := wrap_in (by omega) (by omega)
  have e6 : wrap64 (sumL s.hi L.1 - s.hi p + min (s.hi p) (lowAt L s.lo p)) = sumL s.hi L.1 - s.hi p + min (s.hi p) (lowAt L s.lo p) := wrap_in (by omega) (by omega)
  have hd : dStep L.2 p s = some ⟨sumL s.lo L.1 - s.lo p + max (s.lo p) (lowAt L s.hi p), sumL s.hi L.1 - s.hi p + min (s.hi p) (lowAt L s.lo p), s.ch || (max (s.lo p) (lowAt L s.hi p) != s.lo p) || (min (s.hi p) (lowAt L s.lo p) != s.hi p), updI s.lo p (max (s.lo p) (lowAt L s.hi p)), updI s.hi p (min (s.hi p) (lowAt L s.lo p))⟩ := by
    unfold dStep
    dsimp only
    rw [e1, e2, e3, e4, m1, m2, if_neg (by omega), e5, e6]
  refine ⟨_, hd, rfl, rfl, ?_, ?_, fun i hi => ?_, fun hc => ?_⟩
  · exact (sumL_upd hp hL.nd).symm
  · exact (sumL_upd hp hL.nd).symm
  · have := hA i hi
    show 0 ≤ updI s.lo p _ i ∧ updI s.lo p _ i ≤ g i ∧ g i ≤ updI s.hi p _ i ∧ updI s.hi p _ i ≤ 255
    unfold updI
    by_cases e : i = p
    · subst e
      rw [if_pos rfl, if_pos rfl]
      omega
    · rw [if_neg e, if_neg e]
      exact this
  · simp only [Bool.or_eq_false_iff, bne_eq_false_iff_eq] at hc
    obtain ⟨⟨c1, c2⟩, c3⟩ := hc
    refine ⟨c1, funext fun i => ?_, funext fun i => ?_, by omega, by omega⟩
    · show updI s.lo p _ i = _
      unfold updI
      split
      · next e => rw [e]; exact c2
      · rfl
    · show updI s.hi p _ i = _
      unfold updI
      split
      · next e => rw [e]; exact c3
      · rfl
end Go.Proofs.Ythbghcebcahlnaa

namespace Go.Proofs.Ythbghcebcahlnaa
open Go.RowKit

/-- One is within the other, about the grid; nothing that any line allows is lost. -/
structure Drawn (M : Nat) (g : Nat → Int) (lines : List (List Nat × Int)) (lo hi lo' hi' : Nat → Int) : Prop where
  abt : Abt M g lo' hi'
  ins : Within M lo' hi' lo hi
  most : ∀ l h, Stable lines l h → Within M l h lo hi → Within M l h lo' hi'
theorem Drawn.refl {M : Nat} {g : Nat → Int} {lines : List (List Nat × Int)} {lo hi : Nat → Int} (h : Abt M g lo hi) : Drawn M g lines lo hi lo hi := ⟨h, fun _ _ => ⟨Int.le_refl _, Int.le_refl _⟩, fun _ _ _ hw => hw⟩
theorem Drawn.trans {M : Nat} {g : Nat → Int} {lines : List (List Nat × Int)} {lo hi lo1 hi1 lo2 hi2 : Nat → Int} (h : Drawn M g lines lo hi lo1 hi1) (k : Drawn M g lines lo1 hi1 lo2 hi2) : Drawn M g lines lo hi lo2 hi2 :=
  ⟨k.abt, fun i hi => by have h1 := h.ins i hi; have h2 := k.ins i hi; omega, fun l h' hs hw => k.most l h' hs (h.most l h' hs hw)⟩
/-- All lines are the grid's own. -/
def Owns (M : Nat) (g : Nat → Int) (lines : List (List Nat × Int)) : Prop := ∀ L, L ∈ lines → Own M g L
theorem Owns.ok {M : Nat} {g : Nat → Int} {lines : List (List Nat × Int)} (h : Owns M g lines) : LinesOk M lines := fun L hL => ⟨(h L hL).nd, (h L hL).ins⟩
/-- The line is allowed as it stands. -/
def Fine1 (L : List Nat × Int) (lo hi : Nat → Int) (c : Nat) : Prop := lowAt L hi c ≤ lo c ∧ hi c ≤ lowAt L lo c
theorem dK_own {M : Nat} {g : Nat → Int} {lines : List (List Nat × Int)} (hO : Owns M g lines) {L : List Nat × Int} (hL : L ∈ lines) {lo hi : Nat → Int} (hA : Abt M g lo hi) : ∀ k, k ≤ L.1.length →
    ∃ d, dK L.2 L.1 ⟨sumK lo L.1 L.1.length, sumK hi L.1 L.1.length, false, lo, hi⟩ k = some d ∧ d.least = sumL d.lo L.1 ∧ d.most = sumL d.hi L.1 ∧ Drawn M g lines lo hi d.lo d.hi ∧ (d.ch = false → d.lo = lo ∧ d.hi = hi ∧ ∀ j, j < k → Fine1 L lo hi (L.1.getD j 0))
  | 0, _ => by
    have hn := (hO L hL).len
    have hi' := (hO L hL).ins
    refine ⟨_, rfl, sumK_all (by omega) fun c hc => ?_, sumK_all (by omega) fun c hc => ?_, Drawn.refl hA, fun _ => ⟨rfl, rfl, fun j hj => by omega⟩⟩
    · have := hA c (hi' c hc); omega
    · have := hA c (hi' c hc); omega
  | k + 1, hk => by
    obtain ⟨s, hs, h1, h2, hD, hf⟩ := dK_own hO hL hA k (by omega)
    have hp := getD_mem (show k < L.1.length by omega)
    obtain ⟨d, hd, e1, e2, q1, q2, hA2, hc⟩ := dStep_own (hO L hL) hp hD.abt h1 h2
    refine ⟨d, ?_, q1, q2, hD.trans ⟨hA2, fun i hi => ?_, fun l h hst hw => ?_⟩, fun hch => ?_⟩
    · show (dK _ _ _ k).bind _ = _
      rw [hs]
      exact hd
    · rw [e1, e2]
      unfold setI
      split
      · next e => rw [e]; omega
      · exact ⟨Int.le_refl _, Int.le_refl _⟩
    · rw [e1, e2]
      exact step_within hO.ok hL hp hst hw
    · obtain ⟨c1, c2, c3, c4, c5⟩ := hc hch
      obtain ⟨f1, f2, f3⟩ := hf c1
      refine ⟨c2.trans f1, c3.trans f2, fun j hj => ?_⟩
      by_cases e : j = k
      · subst e
        rw [f1, f2] at c4 c5
        exact ⟨c4, c5⟩
      · exact f3 j (by omega)
/-- One line. -/
theorem draw_own {M : Nat} {g : Nat → Int} {lines : List (List Nat × Int)} (hO : Owns M g lines) {L : List Nat × Int} (hL : L ∈ lines) {lo hi : Nat → Int} (hA : Abt M g lo hi) :
    ∃ d, drawS L.1 L.2 lo hi = some d ∧ Drawn M g lines lo hi d.lo d.hi ∧ (d.ch = false → d.lo = lo ∧ d.hi = hi ∧ ∀ c, c ∈ L.1 → Fine1 L lo hi c) := by
  obtain ⟨d, hd, _, _, hD, hf⟩ := dK_own hO hL hA _ (Nat.le_refl _)
  refine ⟨d, hd, hD, fun hc => ?_⟩
  obtain ⟨f1, f2, f3⟩ := hf hc
  refine ⟨f1, f2, fun c hc => ?_⟩
  obtain ⟨j, hj, rfl⟩ := List.getElem_of_mem hc
  have := f3 j hj
  rwa [List.getD_eq_getElem?_getD, List.getElem?_eq_getElem hj] at this
/-- One sweep. -/
theorem sweep_own {M : Nat} {g : Nat → Int} {lines : List (List Nat × Int)} (hO : Owns M g lines) {lo hi : Nat → Int} (hA : Abt M g lo hi) : ∀ k, k ≤ lines.length →
    ∃ s, swKp lines ⟨false, lo, hi⟩ k = some s ∧ Drawn M g lines lo hi s.lo s.hi ∧ (s.ch = false → s.lo = lo ∧ s.hi = hi ∧ ∀ j, j < k → ∀ c, c ∈ (lines.getD j ([], 0)).1 → Fine1 (lines.getD j ([], 0)) lo hi c)
  | 0, _ => ⟨_, rfl, Drawn.refl hA, fun _ => ⟨rfl, rfl, fun j hj => by omega⟩⟩
  | k + 1, hk => by
    obtain ⟨s, hs, hD, hf⟩ := sweep_own hO hA k (by omega)
    have hm : lines.getD k ([], 0) ∈ lines := by
      rw [List.getD_eq_getElem?_getD, List.getElem?_eq_getElem (by omega)]
      exact List.getElem_mem _
    obtain ⟨d, hd, hD2, hf2⟩ := draw_own hO hm hD.abt
    refine ⟨⟨s.ch || d.ch, d.lo, d.hi⟩, ?_, hD.trans hD2, fun hc => ?_⟩
    · show (swKp _ _ k).bind _ = _
      rw [hs]
      show swStepP _ s = _
      unfold swStepP
      rw [hd]
      rfl
    · have hc : (s.ch || d.ch) = false := hc
      rw [Bool.or_eq_false_iff] at hc
      obtain ⟨f1, f2, f3⟩ := hf hc.1
      obtain ⟨k1, k2, k3⟩ := hf2 hc.2
      refine ⟨k1.trans f1, k2.trans f2, fun j hj => ?_⟩
      by_cases e : j = k
      · subst e
        rw [f1, f2] at k3
        exact k3
      · exact f3 j (by omega)
/-- The states, sweep by sweep. -/
def stK (lines : List (List Nat × Int)) (lo hi : Nat → Int) : Nat → SS
  | 0 => ⟨true, lo, hi⟩
  | t + 1 => (swKp lines ⟨false, (stK lines lo hi t).lo, (stK lines lo hi t).hi⟩ lines.length).getD ⟨true, lo, hi⟩
theorem stK_own {M : Nat} {g : Nat → Int} {lines : List (List Nat × Int)} (hO : Owns M g lines) {lo hi : Nat → Int} (hA : Abt M g lo hi) : ∀ t, Drawn M g lines lo hi (stK lines lo hi t).lo (stK lines lo hi t).hi
  | 0 => Drawn.refl hA
  | t + 1 => by
    have ih := stK_own hO hA t
    obtain ⟨s, hs, hD, _⟩ := sweep_own hO ih.abt _ (Nat.le_refl _)
    unfold stK
    rw [hs]
    exact ih.trans hD
theorem stK_step {M : Nat} {g : Nat → Int} {lines : List (List Nat × Int)} (hO : Owns M g lines) {lo hi : Nat → Int} (hA : Abt M g lo hi) (t : Nat) : swKp lines ⟨false, (stK lines lo hi t).lo, (stK lines lo hi t).hi⟩ lines.length = some (stK lines lo hi (t + 1)) ∧
    ((stK lines lo hi (t + 1)).ch = false → Stable lines (stK lines lo hi (t + 1)).lo (stK lines lo hi (t + 1)).hi) := by
  obtain ⟨s, hs, hD, hf⟩ := sweep_own hO (stK_own hO hA t).abt _ (Nat.le_refl _)
  have e : stK lines lo hi (t + 1) = s := by
    show (swKp _ _ _).getD _ = s
    rw [hs]
    rfl
  rw [e]
  refine ⟨hs, fun hc => ?_⟩
  obtain ⟨f1, f2, f3⟩ := hf hc
  rw [f1, f2]
  refine stable_of fun L hL c hc => ?_
  obtain ⟨j, hj, rfl⟩ := List.getElem_of_mem hL
  have := f3 j hj
  rw [List.getD_eq_getElem?_getD, List.getElem?_eq_getElem hj] at this
  exact this c hc
/-- ████ The sweeps of a grid's own lines: they settle at the widest bounds that every line allows, or they are too few. ████ -/
theorem sweeps_own {M : Nat} {g : Nat → Int} {lines : List (List Nat × Int)} (hO : Owns M g lines) {lo hi : Nat → Int} (hA : Abt M g lo hi) :
    (∃ T, T ≤ 511 ∧ States lines T (stK lines lo hi) ∧ Great M lines lo hi (stK lines lo hi (T + 1)).lo (stK lines lo hi (T + 1)).hi ∧ Abt M g (stK lines lo hi (T + 1)).lo (stK lines lo hi (T + 1)).hi) ∨ StatesF lines (stK lines lo hi) := by
  have key : ∀ n, (∃ T, T < n ∧ (∀ t, t < T → (stK lines lo hi (t + 1)).ch = true) ∧ (stK lines lo hi (T + 1)).ch = false) ∨ ∀ t, t < n → (stK lines lo hi (t + 1)).ch = true := by
    intro n
    induction n with
    | zero => exact .inr fun t ht => by omega
    | succ n ih =>
      rcases ih with ⟨T, h1, h2, h3⟩ | h
      · exact .inl ⟨T, by omega, h2, h3⟩
      · cases e : (stK lines lo hi (n + 1)).ch with
        | false => exact .inl ⟨n, by omega, h, e⟩
        | true =>
          refine .inr fun t ht => ?_
          by_cases et : t = n
          · rw [et]; exact e
          · exact h t (by omega)
  rcases key 512 with ⟨T, h1, h2, h3⟩ | h
  · have hD := stK_own hO hA (T + 1)
    exact .inl ⟨T, by omega, ⟨fun t _ => (stK_step hO hA t).1, h2, h3⟩, ⟨(stK_step hO hA T).2 h3, hD.ins, hD.most⟩, hD.abt⟩
  · exact .inr ⟨fun t _ => (stK_step hO hA t).1, h⟩
end Go.Proofs.Ythbghcebcahlnaa
