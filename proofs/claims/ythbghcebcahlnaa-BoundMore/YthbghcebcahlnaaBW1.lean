/- The landed Run of sound projections. -/
import Derived.Test.YthbghcebcahlnaaBV
namespace Go.Proofs.Ythbghcebcahlnaa
open Go.RowKit Go.Shelf

def swStepP (x : List Nat × Int) (s : SS) : Option SS := (drawS x.1 x.2 s.lo s.hi).map fun d => ⟨s.ch || d.ch, d.lo, d.hi⟩
def swKp (xs : List (List Nat × Int)) (s : SS) : Nat → Option SS
  | 0 => some s
  | k + 1 => (swKp xs s k).bind (swStepP (xs.getD k ([], 0)))
theorem swK_p (ls : List LineD) (s : SS) : ∀ k, swK ls s k = swKp (ls.map pr) s k
  | 0 => rfl
  | k + 1 => by
    unfold swK swKp
    rw [swK_p ls s k]
    have e : (ls.map pr).getD k ([], 0) = pr (ls.getD k l0) := by
      rw [List.getD_eq_getElem?_getD, List.getD_eq_getElem?_getD, List.getElem?_map]
      cases ls[k]? <;> rfl
    rw [e]
    rfl

theorem flatL_get : ∀ (ls : List LineD) (i : Nat), i < 2 * ls.length → (flatL ls)[i]? = some (lineV ls i)
  | [], i, h => by simp at h
  | a :: ls, i, h => by
    have e : flatL (a :: ls) = placesV a.gp a.cp a.P :: .int .i64 a.b :: flatL ls := by simp [flatL]
    rw [e]
    match i, h with
    | 0, _ => rfl
    | 1, _ => rfl
    | i + 2, h =>
      rw [List.getElem?_cons_succ, List.getElem?_cons_succ, flatL_get ls i (by simp at h; omega)]
      unfold lineV
      rw [show (i + 2) % 2 = i % 2 by omega, show (i + 2) / 2 = i / 2 + 1 by omega, List.getD_cons_succ]

def Fit (M : Nat) (x : List Nat × Int) : Prop := (∀ k, k < x.1.length → x.1.getD k 0 < M) ∧ x.1.length ≤ 4096 ∧ (x.1.length = 0 → x.2 = 0)

theorem linesAt_of {w : World} {base gl gh M : Nat} {v : Value} {ls : List LineD} (h : LN base w v ls) (hl : gl < base) (hh : gh < base) (h1 : 1 ≤ ls.length) (hf : ∀ x, x ∈ ls.map pr → Fit M x) : ∃ gs cs, v = .slice (some ⟨gs, 0, none⟩) ls.length cs ∧ LinesAt w gs gl gh M ls := by
  have hg : ∀ i, i < ls.length → ls.getD i l0 ∈ ls := fun i hi => by
    rw [List.getD_eq_getElem?_getD, List.getElem?_eq_getElem hi]
    exact List.getElem_mem hi
  rcases h.own.2 with ⟨_, h0⟩ | ⟨gs, cs, cur, rfl, hb, hh', hn, hc, hs, ht⟩
  · omega
  · refine ⟨gs, cs, rfl, ⟨cur, hh', by omega, fun i hi => ?_⟩, by omega, by omega, fun i hi => (h.rows _ (hg i hi)).1, fun i hi => ?_, fun i hi => hf _ (List.mem_map.2 ⟨_, hg i hi, rfl⟩)⟩
    · have h3 := flatL_get ls i hi
      rw [← ht, List.getElem?_take, if_pos (by omega)] at h3
      simpa using h3
    · have := (h.rows _ (hg i hi)).2.1
      exact ⟨by omega, by omega⟩

/-- The states behind the sweeps. -/
structure States (xs : List (List Nat × Int)) (T : Nat) (St : Nat → SS) : Prop where
  step : ∀ t, t ≤ T → swKp xs ⟨false, (St t).lo, (St t).hi⟩ xs.length = some (St (t + 1))
  more : ∀ t, t < T → (St (t + 1)).ch = true
  last : (St (T + 1)).ch = false

set_option maxRecDepth 100000 in
set_option maxHeartbeats 3200000 in
theorem runOk {n gq cq T : Nat} {ps : List PD} {u v : Value} {A B : List Int} {St : Nat → SS} (h1 : 1 ≤ n) (h2 : n ≤ 16) (hl : levs n A B = true) (hps : ps.length ≤ 64) (hd : ∀ i, i < ps.length → Dir64 (ps.getD i p0).d ∧ binsS n (ps.getD i p0).d = (((ps.getD i p0).nb : Int), 0) ∧ (ps.getD i p0).nb ≤ 2017)
    (hz : ∀ i j, i < ps.length → j < (ps.getD i p0).nb → ∀ W : World, Calls (barP Try.prog) 69 #[.complex .f64 ((ps.getD i p0).z j).1 ((ps.getD i p0).z j).2] W fun e W' => e = .returned (.bool false) ∧ Below W.heap.size W W')
    (hSo : Sound n ps) (hx1 : 1 ≤ (lk n ps ps.length 0).length) (hx2 : (lk n ps ps.length 0).length ≤ 100000) (hf : ∀ x, x ∈ lk n ps ps.length 0 → Fit A.length x) (hT : T ≤ 511) (hSt : States (lk n ps ps.length 0) T St)
    (s0l : (St 0).lo = fun i => A.getD i 0) (s0h : (St 0).hi = fun i => B.getD i 0) (hc : ∀ i, i < A.length → (St 0).lo i ≤ (St 0).hi i)
    (w : World) (hu : Ints w u A) (hv : Ints w v B) (hp : ProjsAt w gq ps) :
    Calls (barP Try.prog) 9 #[.int .i64 n, .slice (some ⟨gq, 0, none⟩) ps.length cq, u, v] w fun e w' => ∃ gl cl gh ch, e = .returned (.tuple #[.slice (some ⟨gl, 0, none⟩) A.length cl, .slice (some ⟨gh, 0, none⟩) A.length ch, .int .i64 0]) ∧
      IRow w' gl A.length (St (T + 1)).lo ∧ IRow w' gh A.length (St (T + 1)).hi ∧ Below w.heap.size w w' := by
  have kl := hide (lookGood (cq := cq) h1 h2 hl hps hd hz w hu hv hp)
  obtain ⟨lA, lB⟩ := levs_len hl
  obtain ⟨m1, m2⟩ := sq_small (n := (n : Int)) (by omega) (by omega)
  have hu := hide hu
  have hv := hide hv
  have hp := hide hp
  have hc := hide hc
  have e12 : Hid (A.length = B.length) := by show _ = _; omega
  have mA1 : 1 ≤ A.length := by omega
  have mA2 : A.length ≤ 4096 := by omega
  have mB1 : 1 ≤ B.length := by omega
  have mB2 : B.length ≤ 4096 := by omega
  have hlk : Hid (∀ ls : List LineD, ls.map pr = lk n ps ps.length 0 → ls.length = (lk n ps ps.length 0).length) := fun ls h => by rw [← h, List.length_map]
  have hSo := hide hSo
  have hf := hide hf
  have hSt := hide hSt
  have s0l := hide s0l
  have s0h := hide s0h
  clear hl lA lB m1 m2 hd hz hps
  go_enter Bar.func9, Bar.ntmps9
  go_wp2_with fail
  refine (unhide kl).mono ?_
  rintro e w1 ⟨rfl, hb1⟩
  have B1 := hide hb1
  obtain ⟨a1, cap1, g1, o1, rfl, i1⟩ := ints_below (unhide hu) hb1
  have k2 := hide (cloneInts (cap := cap1) mA1 mA2 w1 i1)
  clear hb1 i1 kl
  go_wp2_with fail
  refine (unhide k2).mono ?_
  rintro e w2 ⟨gl, cl, rfl, hgl, r2, own2, hb2⟩
  have B2 := hide ((unhide B1).trans (hb2.mono (unhide B1).size))
  obtain ⟨a2, cap2, g2, o2, rfl, i2⟩ := ints_below (unhide hv) (unhide B2)
  have k3 := hide (cloneInts (cap := cap2) mB1 mB2 w2 i2)
  have R2 := hide r2
  have hs1 : w.heap.size ≤ w1.heap.size := (unhide B1).size
  have hs2 : w1.heap.size ≤ w2.heap.size := hb2.size
  have gl2 : gl < w2.heap.size := vrow_lt r2
  clear hb2 i2 k2 r2 own2 B1
  go_wp2_with fail
  refine (unhide k3).mono ?_
  rintro e w3 ⟨gh, ch, rfl, hgh, r3, own3, hb3⟩
  have B3 := hide ((unhide B2).trans (hb3.mono (by omega)))
  have R2 := hide (vrow_keep (unhide R2) (hb3.block _ gl2))
  have gh3 : gh < w3.heap.size := vrow_lt r3
  have hs3 : w2.heap.size ≤ w3.heap.size := hb3.size
  have r3' := r3
  rw [← unhide e12] at r3'
  have R3 := hide r3'
  have kn := hide (linesOk (cq := cq) (unhide hSo) w3 ((unhide hp).below (unhide B3)))
  clear hb3 k3 r3 r3' own3 B2
  rw [← unhide e12]
  go_wp2_with fail
  refine (unhide kn).mono ?_
  rintro e w4 ⟨lv, ls, rfl, hN, hM, hb4⟩
  obtain ⟨gs, cs, rfl, hLA⟩ := linesAt_of (gl := gl) (gh := gh) (M := A.length) hN (by omega) gh3 (by rw [unhide hlk ls hM]; exact hx1) (fun x hx => unhide hf x (by rw [← hM]; exact hx))
  have B4 := hide ((unhide B3).trans (hb4.mono (unhide B3).size))
  have hs4 : w3.heap.size ≤ w4.heap.size := hb4.size
  have R2' := vrow_keep (w' := w4) (unhide R2) (hb4.block _ (by omega))
  have R3' := vrow_keep (w' := w4) (unhide R3) (hb4.block _ gh3)
  have hne : gl ≠ gh := by omega
  have hSw : Sweeps (.slice (some ⟨gs, 0, none⟩) ls.length cs) gl cl gh ch A.length T St w4 := by
    refine ⟨fun W t ht hO r1 r2 => ?_, (unhide hSt).more, (unhide hSt).last⟩
    have e1 : swK ls ⟨false, (St t).lo, (St t).hi⟩ ls.length = some (St (t + 1)) := by
      rw [swK_p, hM, unhide hlk ls hM]
      exact (unhide hSt).step t ht
    exact sweepOk (cs := cs) (cl := cl) (ch := ch) e1 (by rw [unhide hlk ls hM]; exact hx2) hne W (hLA.off hO) r1 r2
  have k5 := hide (settleOk (cl := cl) (ch := ch) mA2 hT (unhide hc) w4 hSw (by rw [unhide s0l]; exact R2') (by rw [unhide s0h]; exact R3'))
  clear kn hN hM hb4 hLA hSw R2 R3 R2' R3' B3
  go_wp2_with fail
  refine (unhide k5).mono ?_
  rintro e w5 ⟨rfl, r6, r7, hO⟩
  have B6 := hide ((unhide B4).trans (hO.to (by omega) (by omega) (by omega)))
  have R6 := hide r6
  have R7 := hide r7
  clear k5 r6 r7 hO B4
  go_wp2_with fail
  go_ret3
  exact ⟨gl, cl, gh, ch, rfl, unhide R6, unhide R7, unhide B6⟩
structure StatesF (xs : List (List Nat × Int)) (St : Nat → SS) : Prop where
  step : ∀ t, t < 512 → swKp xs ⟨false, (St t).lo, (St t).hi⟩ xs.length = some (St (t + 1))
  more : ∀ t, t < 512 → (St (t + 1)).ch = true

set_option maxRecDepth 100000 in
set_option maxHeartbeats 3200000 in
theorem runFew {n gq cq : Nat} {ps : List PD} {u v : Value} {A B : List Int} {St : Nat → SS} (h1 : 1 ≤ n) (h2 : n ≤ 16) (hl : levs n A B = true) (hps : ps.length ≤ 64) (hd : ∀ i, i < ps.length → Dir64 (ps.getD i p0).d ∧ binsS n (ps.getD i p0).d = (((ps.getD i p0).nb : Int), 0) ∧ (ps.getD i p0).nb ≤ 2017)
    (hz : ∀ i j, i < ps.length → j < (ps.getD i p0).nb → ∀ W : World, Calls (barP Try.prog) 69 #[.complex .f64 ((ps.getD i p0).z j).1 ((ps.getD i p0).z j).2] W fun e W' => e = .returned (.bool false) ∧ Below W.heap.size W W')
    (hSo : Sound n ps) (hx1 : 1 ≤ (lk n ps ps.length 0).length) (hx2 : (lk n ps ps.length 0).length ≤ 100000) (hf : ∀ x, x ∈ lk n ps ps.length 0 → Fit A.length x) (hSt : StatesF (lk n ps ps.length 0) St)
    (s0l : (St 0).lo = fun i => A.getD i 0) (s0h : (St 0).hi = fun i => B.getD i 0) (hc : ∀ i, i < A.length → (St 0).lo i ≤ (St 0).hi i)
    (w : World) (hu : Ints w u A) (hv : Ints w v B) (hp : ProjsAt w gq ps) :
    Calls (barP Try.prog) 9 #[.int .i64 n, .slice (some ⟨gq, 0, none⟩) ps.length cq, u, v] w fun e w' => e = .returned (.tuple #[.slice none 0 0, .slice none 0 0, .int .i64 112]) ∧ Below w.heap.size w w' := by
  have kl := hide (lookGood (cq := cq) h1 h2 hl hps hd hz w hu hv hp)
  obtain ⟨lA, lB⟩ := levs_len hl
  obtain ⟨m1, m2⟩ := sq_small (n := (n : Int)) (by omega) (by omega)
  have hu := hide hu
  have hv := hide hv
  have hp := hide hp
  have hc := hide hc
  have e12 : Hid (A.length = B.length) := by show _ = _; omega
  have mA1 : 1 ≤ A.length := by omega
  have mA2 : A.length ≤ 4096 := by omega
  have mB1 : 1 ≤ B.length := by omega
  have mB2 : B.length ≤ 4096 := by omega
  have hlk : Hid (∀ ls : List LineD, ls.map pr = lk n ps ps.length 0 → ls.length = (lk n ps ps.length 0).length) := fun ls h => by rw [← h, List.length_map]
  have hSo := hide hSo
  have hf := hide hf
  have hSt := hide hSt
  have s0l := hide s0l
  have s0h := hide s0h
  clear hl lA lB m1 m2 hd hz hps
  go_enter Bar.func9, Bar.ntmps9
  go_wp2_with fail
  refine (unhide kl).mono ?_
  rintro e w1 ⟨rfl, hb1⟩
  have B1 := hide hb1
  obtain ⟨a1, cap1, g1, o1, rfl, i1⟩ := ints_below (unhide hu) hb1
  have k2 := hide (cloneInts (cap := cap1) mA1 mA2 w1 i1)
  clear hb1 i1 kl
  go_wp2_with fail
  refine (unhide k2).mono ?_
  rintro e w2 ⟨gl, cl, rfl, hgl, r2, own2, hb2⟩
  have B2 := hide ((unhide B1).trans (hb2.mono (unhide B1).size))
  obtain ⟨a2, cap2, g2, o2, rfl, i2⟩ := ints_below (unhide hv) (unhide B2)
  have k3 := hide (cloneInts (cap := cap2) mB1 mB2 w2 i2)
  have R2 := hide r2
  have hs1 : w.heap.size ≤ w1.heap.size := (unhide B1).size
  have hs2 : w1.heap.size ≤ w2.heap.size := hb2.size
  have gl2 : gl < w2.heap.size := vrow_lt r2
  clear hb2 i2 k2 r2 own2 B1
  go_wp2_with fail
  refine (unhide k3).mono ?_
  rintro e w3 ⟨gh, ch, rfl, hgh, r3, own3, hb3⟩
  have B3 := hide ((unhide B2).trans (hb3.mono (by omega)))
  have R2 := hide (vrow_keep (unhide R2) (hb3.block _ gl2))
  have gh3 : gh < w3.heap.size := vrow_lt r3
  have hs3 : w2.heap.size ≤ w3.heap.size := hb3.size
  have r3' := r3
  rw [← unhide e12] at r3'
  have R3 := hide r3'
  have kn := hide (linesOk (cq := cq) (unhide hSo) w3 ((unhide hp).below (unhide B3)))
  clear hb3 k3 r3 r3' own3 B2
  rw [← unhide e12]
  go_wp2_with fail
  refine (unhide kn).mono ?_
  rintro e w4 ⟨lv, ls, rfl, hN, hM, hb4⟩
  obtain ⟨gs, cs, rfl, hLA⟩ := linesAt_of (gl := gl) (gh := gh) (M := A.length) hN (by omega) gh3 (by rw [unhide hlk ls hM]; exact hx1) (fun x hx => unhide hf x (by rw [← hM]; exact hx))
  have B4 := hide ((unhide B3).trans (hb4.mono (unhide B3).size))
  have hs4 : w3.heap.size ≤ w4.heap.size := hb4.size
  have R2' := vrow_keep (w' := w4) (unhide R2) (hb4.block _ (by omega))
  have R3' := vrow_keep (w' := w4) (unhide R3) (hb4.block _ gh3)
  have hne : gl ≠ gh := by omega
  have hSw : SweepsF (.slice (some ⟨gs, 0, none⟩) ls.length cs) gl cl gh ch A.length St w4 := by
    refine ⟨fun W t ht hO r1 r2 => ?_, (unhide hSt).more⟩
    have e1 : swK ls ⟨false, (St t).lo, (St t).hi⟩ ls.length = some (St (t + 1)) := by
      rw [swK_p, hM, unhide hlk ls hM]
      exact (unhide hSt).step t ht
    exact sweepOk (cs := cs) (cl := cl) (ch := ch) e1 (by rw [unhide hlk ls hM]; exact hx2) hne W (hLA.off hO) r1 r2
  have k5 := hide (settleFew (cl := cl) (ch := ch) mA2 (unhide hc) w4 hSw (by rw [unhide s0l]; exact R2') (by rw [unhide s0h]; exact R3'))
  clear kn hN hM hb4 hLA hSw R2 R3 R2' R3' B3
  go_wp2_with fail
  refine (unhide k5).mono ?_
  rintro e w5 ⟨rfl, hO⟩
  have B6 := hide ((unhide B4).trans (hO.to (by omega) (by omega) (by omega)))
  clear k5 hO B4
  go_wp2_with fail
  go_ret3
  exact ⟨rfl, unhide B6⟩
end Go.Proofs.Ythbghcebcahlnaa
