/- Run without projections: the landed one and the document's, in one form. -/
import Derived.Test.YthdoophjcjlklaaCB
namespace Go.Proofs.Ythdoophjcjlklaa
open Go.RowKit Go.Shelf

set_option maxRecDepth 100000 in
set_option maxHeartbeats 3200000 in
theorem runClash {n : Int} {u v : Value} {A B : List Int} (h1 : 1 ≤ n) (h2 : n ≤ 16) (hl : levs n A B = true) (hc : ∃ i, i < A.length ∧ B.getD i 0 < A.getD i 0) (w : World) (hu : Ints w u A) (hv : Ints w v B) :
    Calls Try.prog 17 #[.int .i64 n, .slice none 0 0, u, v] w fun e w' => e = .returned (.tuple #[.slice none 0 0, .slice none 0 0, .int .i64 111]) ∧ Below w.heap.size w w' := by
  have kl := hide (lookNil h1 h2 hl w hu hv)
  obtain ⟨lA, lB⟩ := levs_len hl
  obtain ⟨m1, m2⟩ := sq_small h1 h2
  have hu := hide hu
  have hv := hide hv
  have hc := hide hc
  have e12 : Hid (A.length = B.length) := by show _ = _; omega
  have mA1 : 1 ≤ A.length := by omega
  have mA2 : A.length ≤ 4096 := by omega
  have mB1 : 1 ≤ B.length := by omega
  have mB2 : B.length ≤ 4096 := by omega
  clear hl lA lB m1 m2
  go_enter Try.func17, Try.ntmps17
  go_wp2_with fail
  refine (unhide kl).mono ?_
  rintro e w1 ⟨rfl, hb1⟩
  have B1 := hide hb1
  obtain ⟨a1, cap1, g1, o1, rfl, i1⟩ := ints_below (unhide hu) hb1
  have k2 := hide (cloneInts (cap := cap1) mA1 mA2 w1 i1)
  clear hb1 i1 kl
  go_wp2_with fail
  refine (unhide k2).mono ?_
  rintro e w2 ⟨gl, cl, rfl, hgl, r2, own2, hb2⟩
  have B2 := hide ((unhide B1).trans (hb2.mono (unhide B1).size))
  obtain ⟨a2, cap2, g2, o2, rfl, i2⟩ := ints_below (unhide hv) (unhide B2)
  have k3 := hide (cloneInts (cap := cap2) mB1 mB2 w2 i2)
  have R2 := hide r2
  have hs1 : w.heap.size ≤ w1.heap.size := (unhide B1).size
  have hs2 : w1.heap.size ≤ w2.heap.size := hb2.size
  have gl2 : gl < w2.heap.size := vrow_lt r2
  clear hb2 i2 k2 r2 own2 B1
  go_wp2_with fail
  refine (unhide k3).mono ?_
  rintro e w3 ⟨gh, ch, rfl, hgh, r3, own3, hb3⟩
  have B3 := hide ((unhide B2).trans (hb3.mono (by omega)))
  have R2 := hide (vrow_keep (unhide R2) (hb3.block _ gl2))
  have r3' := r3
  rw [← unhide e12] at r3'
  have R3 := hide r3'
  clear hb3 k3 r3 r3' own3 B2
  go_wp2_with fail
  refine (linesNil _).mono ?_
  rintro e w4 ⟨rfl, rfl⟩
  have k4 := hide (settleClash (lv := .slice none 0 0) (cl := cl) (ch := ch) mA2 (unhide hc) w4 (unhide R2) (unhide R3))
  rw [← unhide e12]
  go_wp2_with fail
  refine (unhide k4).mono ?_
  rintro e w5 ⟨rfl, hb5⟩
  have B5 := hide ((unhide B3).trans (hb5.mono (unhide B3).size))
  clear hb5 k4 R2 R3 B3
  go_wp2_with fail
  go_ret3
  exact ⟨rfl, unhide B5⟩

/-- Two lists of the call's own, apart from each other. -/
structure Own2 (base : Nat) (w : World) (x y : Value) (X Y : List Int) : Prop where
  ownx : w.ownsRow base 3 1 x X.length (intsV X)
  owny : w.ownsRow base 3 1 y Y.length (intsV Y)
  apart : ∀ g, x.ownBlock = some g → y.ownBlock ≠ some g
theorem own2_none (base : Nat) (w : World) : Own2 base w (.slice none 0 0) (.slice none 0 0) [] [] := ⟨World.ownsRow_nil _ _ _ _, World.ownsRow_nil _ _ _ _, fun g h => by cases h⟩

theorem runAny (n : Int) {u v : Value} {A B : List Int} (w : World) (hu : Ints w u A) (hv : Ints w v B) :
    Calls Try.prog 17 #[.int .i64 n, .slice none 0 0, u, v] w fun e w' => ∃ x y, e = .returned (.tuple #[x, y, .int .i64 (errS n A B)]) ∧ Own2 w.heap.size w' x y (outS n A B A) (outS n A B B) ∧ Below w.heap.size w w' := by
  unfold outS
  rcases errS_cases n A B with ⟨he, hb⟩ | ⟨h1, h2, h3, he, hc⟩ | ⟨h1, h2, h3, he, hc⟩
  · rw [he]
    refine (runBad (pv := .slice none 0 0) hb w hu hv).mono ?_
    rintro e w' ⟨rfl, hb⟩
    exact ⟨_, _, rfl, own2_none _ _, hb⟩
  · rw [he]
    refine (runClash h1 h2 h3 hc w hu hv).mono ?_
    rintro e w' ⟨rfl, hb⟩
    exact ⟨_, _, rfl, own2_none _ _, hb⟩
  · rw [he]
    refine (runNil h1 h2 h3 hc w hu hv).mono ?_
    rintro e w' ⟨x, y, rfl, ⟨gl, cl, gh, ch, rfl, rfl, _, _, hne, o1, o2⟩, hb⟩
    refine ⟨_, _, rfl, ⟨o1, o2, fun g h1 h2 => ?_⟩, hb⟩
    have e1 : gl = g := by simpa [Value.ownBlock] using h1
    have e2 : gh = g := by simpa [Value.ownBlock] using h2
    omega

theorem refAny (n : Int) {u v : Value} {A B : List Int} (lA : A.length ≤ 9223372036854775807) (lB : B.length ≤ 9223372036854775807) (w : World) (hu : Ints w u A) (hv : Ints w v B) :
    Calls Try.prog 20 #[.int .i64 n, .slice none 0 0, u, v] w fun e w' => ∃ x y, e = .returned (.tuple #[x, y, .int .i64 (errS n A B)]) ∧ NewI w.heap.size w' x (outS n A B A) ∧ NewI w.heap.size w' y (outS n A B B) ∧ Below w.heap.size w w' := by
  unfold outS
  rcases errS_cases n A B with ⟨he, hb⟩ | ⟨h1, h2, h3, he, hc⟩ | ⟨h1, h2, h3, he, hc⟩
  · rw [he]
    refine (refRunBad (pv := .slice none 0 0) hb lA lB w hu hv).mono ?_
    rintro e w' ⟨rfl, hb⟩
    exact ⟨_, _, rfl, newI_empty rfl, newI_empty rfl, hb⟩
  · rw [he]
    refine (refRunNil h1 h2 h3 w hu hv).mono ?_
    rintro e w' (⟨_, rfl, hb⟩ | ⟨ha, _⟩)
    · exact ⟨_, _, rfl, newI_empty rfl, newI_empty rfl, hb⟩
    · obtain ⟨i, hi, hlt⟩ := hc
      have := ha i hi
      omega
  · rw [he]
    refine (refRunNil h1 h2 h3 w hu hv).mono ?_
    rintro e w' (⟨⟨i, hi, hlt⟩, _⟩ | ⟨_, x, y, rfl, hx, hy, hb⟩)
    · have := hc i hi
      omega
    · exact ⟨_, _, rfl, hx, hy, hb⟩

theorem out_len {n : Int} {A B : List Int} : (outS n A B A).length ≤ 256 ∧ (outS n A B B).length = (outS n A B A).length := by
  unfold outS
  rcases errS_cases n A B with ⟨he, _⟩ | ⟨_, _, _, he, _⟩ | ⟨h1, h2, h3, he, _⟩
  · rw [he]; exact ⟨by simp, rfl⟩
  · rw [he]; exact ⟨by simp, rfl⟩
  · rw [he]
    obtain ⟨lA, lB⟩ := levs_len h3
    obtain ⟨m1, m2⟩ := sq_small h1 h2
    simp only [if_true]
    omega
end Go.Proofs.Ythdoophjcjlklaa
