/- Which cells are certain, and how wide bounds are: the walk. -/
import Derived.Test.YthdoophjcjlklaaBC
namespace Go.Proofs.Ythdoophjcjlklaa
open Go.RowKit

theorem BoolsAt.get {w : World} {a : Option Addr} {g o : Nat} {L : List Bool} (h : BoolsAt w a g o L) {i : Nat} (hi : i < L.length) : w.cell? ⟨g, o + i, none⟩ = some (.bool (L.getD i false)) := by
  refine h.cell i _ ?_
  rw [List.getD_eq_getElem?_getD, List.getElem?_eq_getElem hi]
  rfl

def AliveOk : Prop := ∀ w : World, Calls Try.prog 7 #[] w fun e w' => e = .returned (.bool true) ∧ Below w.heap.size w w'

section
variable {w6 W W' : World} {b : Nat} {x y : Value}
theorem held_keep (hb : b < w6.heap.size) (h : W.cell? ⟨b, 0, none⟩ = some x ∧ W.cell? ⟨b, 1, none⟩ = some y ∧ Hid (Below w6.heap.size w6 W)) (k : Hid (Below W.heap.size W W')) :
    W'.cell? ⟨b, 0, none⟩ = some x ∧ W'.cell? ⟨b, 1, none⟩ = some y ∧ Hid (Below w6.heap.size w6 W') := by
  have hs := (unhide h.2.2).size
  have k := unhide k
  exact ⟨(k.cell (p := ⟨b, 0, none⟩) (by show b < _; omega)).trans h.1, (k.cell (p := ⟨b, 1, none⟩) (by show b < _; omega)).trans h.2.1, (unhide h.2.2).trans (k.mono hs)⟩
theorem held_drew (h : W.cell? ⟨b, 0, none⟩ = some x ∧ W.cell? ⟨b, 1, none⟩ = some y ∧ Hid (Below w6.heap.size w6 W)) : W.drew.cell? ⟨b, 0, none⟩ = some x ∧ W.drew.cell? ⟨b, 1, none⟩ = some y ∧ Hid (Below w6.heap.size w6 W.drew) :=
  ⟨h.1, h.2.1, (unhide h.2.2).drew⟩
theorem same_held {u v : Value} {L : List Int} (h : W.cell? ⟨b, 0, none⟩ = some x ∧ W.cell? ⟨b, 1, none⟩ = some y ∧ Hid (Below w6.heap.size w6 W)) (hL : L.length ≤ 9223372036854775807) (hu : Hid (Ints w6 u L)) (hv : Hid (Ints w6 v L)) :
    Calls Try.prog 12 #[u, v] W fun e w' => e = .returned (.bool true) ∧ Below W.heap.size W w' :=
  sameYes hL W (ints_below (unhide hu) (unhide h.2.2)) (ints_below (unhide hv) (unhide h.2.2))
theorem width_held {f : Nat} {u v : Value} {A B : List Int} (hW : Hid (WidthOk f)) (h : W.cell? ⟨b, 0, none⟩ = some x ∧ W.cell? ⟨b, 1, none⟩ = some y ∧ Hid (Below w6.heap.size w6 W)) (lA : A.length ≤ 9223372036854775807) (lB : B.length ≤ 9223372036854775807) (hu : Hid (Ints w6 u A)) (hv : Hid (Ints w6 v B)) :
    Calls Try.prog f #[u, v] W fun e w' => e = .returned (.int .i64 (widS A B)) ∧ Below W.heap.size W w' :=
  unhide hW A B u v W lA lB (ints_below (unhide hu) (unhide h.2.2)) (ints_below (unhide hv) (unhide h.2.2))
end

theorem wide_len (n : Int) : (wideLo n).length ≤ 9223372036854775807 ∧ (wideHi n).length ≤ 9223372036854775807 := by
  unfold wideLo wideHi
  by_cases h : n < 1 ∨ 16 < n
  · rw [if_pos h, if_pos h]
    exact ⟨Nat.zero_le _, Nat.zero_le _⟩
  · rw [if_neg h, if_neg h, List.length_replicate, List.length_replicate]
    have : n.toNat * n.toNat ≤ 16 * 16 := Nat.mul_le_mul (by omega) (by omega)
    omega

set_option maxHeartbeats 6400000 in
theorem tellsWalk (hal : AliveOk) (hWi : WideOk 8) (hCe : CertOk 10) (hWd : WidthOk 13) {n : Int} {A B : List Int} {u v : Value} (lA : A.length ≤ 70368744177664) (lB : B.length ≤ 70368744177664) (w : World) (hu : Ints w u A) (hv : Ints w v B) :
    Calls Try.prog 3 #[.agg #[u, v], .int .i64 n] w fun e w' => e = .returned (.bool true) ∧ Below w.heap.size w w' := by
  have k1 := hide (fun W => hWi n W)
  have k2 := hide (fun W => refWide n W)
  obtain ⟨l1, l2⟩ := wide_len n
  have k3 := hide (fun (W : World) (h1 : Ints W u A) (h2 : Ints W v B) => hCe A B u v W lA lB h1 h2)
  have k4 := hide (fun (W : World) (h1 : Ints W u A) (h2 : Ints W v B) => refCertain A B u v W lA lB h1 h2)
  have k5 := hide hWd
  have k6 := hide refWidth
  have hal := hide hal
  have I1 := hide hu
  have I2 := hide hv
  have L1 : A.length ≤ 9223372036854775807 := by omega
  have L2 : B.length ≤ 9223372036854775807 := by omega
  have bx : Hid (Below w.heap.size w (w.alloc (.cells #[u, v] 24))) := (Below.refl _ _).alloc (Nat.le_refl _) _
  have bc : Hid (∀ W : World, Below (w.heap.size + 1) (w.alloc (.cells #[u, v] 24)) W → W.cell? ⟨w.heap.size, 0, none⟩ = some u ∧ W.cell? ⟨w.heap.size, 1, none⟩ = some v) := fun W h => by
    rw [h.cell (p := ⟨w.heap.size, 0, none⟩) (by simp), h.cell (p := ⟨w.heap.size, 1, none⟩) (by simp)]
    exact ⟨by simp [go_sem], by simp [go_sem]⟩
  have sz : Hid ((w.alloc (.cells #[u, v] 24)).heap.size = w.heap.size + 1) := by show _ = _; simp
  have hlen : (certL A B).length ≤ 70368744177664 := by unfold certL; rw [certK_len]; omega
  clear hWi hCe hWd hu hv
  go_enter Try.func3, Try.ntmps3
  go_wp2_with fail
  generalize w.alloc (.cells #[u, v] 24) = w0 at *
  refine (unhide hal _).mono ?_
  rintro e w1 ⟨rfl, hb1⟩
  have B1 := hide hb1
  clear hb1 hal
  go_wp2_with fail
  refine (unhide k1 _).mono ?_
  rintro e w2 ⟨u1, v1, rfl, i1, j1, hb2⟩
  have B2 := hide ((unhide B1).trans (hb2.mono (unhide B1).size))
  have P1 := hide i1
  have P2 := hide j1
  clear hb2 k1 B1 i1 j1
  go_wp2_with fail
  refine (unhide k2 _).mono ?_
  rintro e w3 ⟨u2, v2, rfl, i2, j2, hb3⟩
  have B3 := hide ((unhide B2).trans (hb3.mono (unhide B2).size))
  have P1 := hide (ints_below (unhide P1) hb3)
  have P2 := hide (ints_below (unhide P2) hb3)
  have P3 := hide i2
  have P4 := hide j2
  have B3' : Below (w.heap.size + 1) w0 w3 := by rw [← unhide sz]; exact unhide B3
  obtain ⟨x0, x1⟩ := unhide bc w3 B3'
  have I3 := hide (ints_below (ints_below (unhide I1) (unhide bx)) (unhide B3))
  have I4 := hide (ints_below (ints_below (unhide I2) (unhide bx)) (unhide B3))
  clear hb3 k2 B2 i2 j2 B3'
  go_wp2_with fail
  refine (unhide k3 _ (unhide I3) (unhide I4)).mono ?_
  rintro e w4 ⟨c1, rfl, q1, hb4⟩
  have B4 := hide ((unhide B3).trans (hb4.mono (unhide B3).size))
  have B4' : Below (w.heap.size + 1) w0 w4 := by rw [← unhide sz]; exact unhide B4
  obtain ⟨y0, y1⟩ := unhide bc w4 B4'
  have I5 := hide (ints_below (unhide I3) hb4)
  have I6 := hide (ints_below (unhide I4) hb4)
  have P1 := hide (ints_below (unhide P1) hb4)
  have P2 := hide (ints_below (unhide P2) hb4)
  have P3 := hide (ints_below (unhide P3) hb4)
  have P4 := hide (ints_below (unhide P4) hb4)
  have Q1 := hide q1
  clear hb4 k3 B3 B4' x0 x1 q1
  go_wp2_with fail
  refine (unhide k4 _ (unhide I5) (unhide I6)).mono ?_
  rintro e w6 ⟨c2, rfl, q2, hb6⟩
  have B6 := hide ((unhide B4).trans (hb6.mono (unhide B4).size))
  have B6' : Below (w.heap.size + 1) w0 w6 := by rw [← unhide sz]; exact unhide B6
  obtain ⟨z0, z1⟩ := unhide bc w6 B6'
  have I7 := hide (ints_below (unhide I5) hb6)
  have I8 := hide (ints_below (unhide I6) hb6)
  have P1 := hide (ints_below (unhide P1) hb6)
  have P2 := hide (ints_below (unhide P2) hb6)
  have P3 := hide (ints_below (unhide P3) hb6)
  have P4 := hide (ints_below (unhide P4) hb6)
  have Q1 := hide (bools_below (unhide Q1) hb6)
  have Q2 := hide q2
  have hlt : w.heap.size < w6.heap.size := by have := B6'.size; have := unhide sz; omega
  clear hb6 k4 B4 B6' y0 y1 q2
  obtain ⟨a1, cap1, g1, o1, rfl, m1⟩ := unhide Q1
  obtain ⟨a2, cap2, g2, o2, rfl, m2⟩ := unhide Q2
  have m1 := hide m1
  have m2 := hide m2
  have S0 : w6.cell? ⟨w.heap.size, 0, none⟩ = some u ∧ w6.cell? ⟨w.heap.size, 1, none⟩ = some v ∧ Hid (Below w6.heap.size w6 w6) := ⟨z0, z1, Below.refl _ _⟩
  have I7' := hide I7
  clear Q1 Q2
  go_wp2_with fail
  go_region_held3 (fun w8 => w8.cell? ⟨w.heap.size, 0, none⟩ = some u ∧ w8.cell? ⟨w.heap.size, 1, none⟩ = some v ∧ Hid (Below w6.heap.size w6 w8))
    (first | exact held_keep hlt (by assumption) (by assumption) | exact held_drew (by assumption) | exact S0 | exact held_drew S0 | go_keep)
    (first
    | (go_at_call 12; first
        | (with_reducible refine (same_held (w6 := w6) (by assumption) l1 P1 P3).mono ?_)
        | (with_reducible refine (same_held (w6 := w6) (by assumption) l2 P2 P4).mono ?_)
       rintro e v9 ⟨rfl, hx⟩
       have hx := hide hx)
    | (go_at_call 13; with_reducible refine (width_held (w6 := w6) k5 (by assumption) L1 L2 I7 I8).mono ?_
       rintro e v9 ⟨rfl, hx⟩
       have hx := hide hx)
    | (go_at_call 14; with_reducible refine (width_held (w6 := w6) k6 (by assumption) L1 L2 I7 I8).mono ?_
       rintro e v9 ⟨rfl, hx⟩
       have hx := hide hx))
  have hend : Hid (Below w6.heap.size w6 v9) := (show v9.cell? ⟨w.heap.size, 0, none⟩ = some u ∧ v9.cell? ⟨w.heap.size, 1, none⟩ = some v ∧ Hid (Below w6.heap.size w6 v9) by assumption).2.2
  have s1 := hide (unhide m1).at_
  have s2 := hide (unhide m2).at_
  have t1 := hide (fun i (hi : i < (certL A B).length) => ((unhide hend).cell (p := ⟨g1, o1 + i, none⟩) ((unhide m1).at_ (by omega)).2).trans ((unhide m1).get hi))
  have t2 := hide (fun i (hi : i < (certL A B).length) => ((unhide hend).cell (p := ⟨g2, o2 + i, none⟩) ((unhide m2).at_ (by omega)).2).trans ((unhide m2).get hi))
  have hfin : Hid (Below w.heap.size w v9) := (unhide bx).trans (((unhide B6).trans ((unhide hend).mono (unhide B6).size)).mono (unhide bx).size)
  clear m1 m2 S0 I7 I8 I7' P1 P2 P3 P4 k5 k6 hx hend z0 z1
  go_wp2_with fail
  go_loopw [13] (fun iv wr => ∃ i : Nat, i ≤ (certL A B).length ∧ iv = .int .i64 i ∧ Hid (wr.heap = v9.heap) ∧ Hid (Below w.heap.size w wr)) (fun iv _ => (certL A B).length - (intOf iv).toNat)
  case atStart => exact ⟨0, Nat.zero_le _, rfl, rfl, hfin⟩
  case round =>
    obtain ⟨i, hi, rfl, hh, hB⟩ := hrel
    by_cases c : i < (certL A B).length
    · have q1 : ((i : Int) < ((certL A B).length : Int)) = True := by simp; omega
      have e1 := (heapCell (unhide hh) _).trans (unhide t1 i c)
      have e2 := (heapCell (unhide hh) _).trans (unhide t2 i c)
      rw [(unhide s1 (by omega)).1, (unhide s2 (by omega)).1]
      generalize (certL A B).getD i false = bv at *
      generalize (certL A B).length = N at *
      go_wp2_with fail
      go_quiet (fail)
      go_wp2_with fail
      have hb := unhide hB
      exact ⟨⟨i + 1, c, by go_num, unhide hh, ⟨hb.os, hb.tape, hb.output, hb.size, hb.block⟩⟩, by simp [intOf]; omega⟩
    · have q1 : ((i : Int) < ((certL A B).length : Int)) = False := by simp; omega
      generalize (certL A B).length = N at *
      go_wp2_with fail
      go_ret
      exact ⟨rfl, unhide hB⟩
end Go.Proofs.Ythdoophjcjlklaa
