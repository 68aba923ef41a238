/- The landed Run: what is wrong; no projections. -/
import Derived.Test.YthbghcebcahlnaaBU
namespace Go.Proofs.Ythbghcebcahlnaa
open Go.RowKit Go.Shelf

set_option maxHeartbeats 800000 in
theorem linesNil {n : Int} (w : World) : Calls (barP Try.prog) 21 #[.int .i64 n, .slice none 0 0] w fun e w' => e = .returned (.slice none 0 0) ∧ w' = w := by
  go_enter Bar.func21, Bar.ntmps21
  go_wp2_with fail
  go_loopw [5, 17] (fun v kv wr => v = .slice none 0 0 ∧ kv = .int .i64 0 ∧ w = wr) (fun _ _ _ => 0)
  case atStart => exact ⟨rfl, rfl, rfl⟩
  case round =>
    obtain ⟨rfl, rfl, rfl⟩ := hrel
    go_wp2_with fail
    go_ret
    exact ⟨rfl, rfl⟩

set_option maxHeartbeats 800000 in
theorem sweepNil {u v : Value} (w : World) : Calls (barP Try.prog) 36 #[.slice none 0 0, u, v] w fun e w' => e = .returned (.tuple #[.bool false, .int .i64 0]) ∧ w' = w := by
  go_enter Bar.func36, Bar.ntmps36
  go_wp2_with fail
  go_loopw [8, 15] (fun cv kv wr => cv = .bool false ∧ kv = .int .i64 0 ∧ w = wr) (fun _ _ _ => 0)
  case atStart => exact ⟨rfl, rfl, rfl⟩
  case round =>
    obtain ⟨rfl, rfl, rfl⟩ := hrel
    go_wp2_with fail
    go_ret2
    exact ⟨rfl, rfl⟩

set_option maxRecDepth 100000 in
set_option maxHeartbeats 3200000 in
theorem settleNil {gl cl gh ch M : Nat} {lo hi : Nat → Int} (hM : M ≤ 4096) (hc : ∀ i, i < M → lo i ≤ hi i) (w : World) (hl : IRow w gl M lo) (hh : IRow w gh M hi) :
    Calls (barP Try.prog) 20 #[.slice none 0 0, .slice (some ⟨gl, 0, none⟩) M cl, .slice (some ⟨gh, 0, none⟩) M ch] w fun e w' => e = .returned (.int .i64 0) ∧ Below w.heap.size w w' := by
  have t1 := hide (fun i (h : i < M) => vrow_at hl h)
  have t2 := hide (fun i (h : i < M) => vrow_at hh h)
  have hc := hide hc
  clear hl hh
  go_enter Bar.func20, Bar.ntmps20
  go_wp2_with fail
  go_loopw [12] (fun kv wr => ∃ k : Nat, k ≤ M ∧ kv = .int .i64 k ∧ Hid (wr.heap = w.heap) ∧ Hid (Below w.heap.size w wr)) (fun kv _ => M - (intOf kv).toNat)
  case atStart => exact ⟨0, Nat.zero_le _, rfl, rfl, Below.refl _ _⟩
  case round =>
    obtain ⟨k, hk, rfl, hw, hB⟩ := hrel
    by_cases c : k < M
    · have q1 : ((k : Int) < (M : Int)) = True := by simp; omega
      have k1 := (heapCell (unhide hw) _).trans (unhide t1 k c)
      have k2 := (heapCell (unhide hw) _).trans (unhide t2 k c)
      have d := unhide hc k c
      have q2 : (hi k < lo k) = False := by simp; omega
      generalize hi k = y at *
      generalize lo k = x at *
      clear d
      go_wp2_with fail
      go_quiet (fail)
      go_wp2_with fail
      have hb := unhide hB
      exact ⟨⟨k + 1, by omega, by go_num, unhide hw, ⟨hb.os, hb.tape, hb.output, hb.size, hb.block⟩⟩, by simp [intOf]; omega⟩
    · have q1 : ((k : Int) < (M : Int)) = False := by simp; omega
      clear hw t1 t2
      go_wp2_with fail
      go_loopw [25] (fun tv wx => tv = .int .i64 0 ∧ wr = wx) (fun _ _ => 0)
      case atStart => exact ⟨rfl, rfl⟩
      case round =>
        obtain ⟨rfl, rfl⟩ := hrel
        go_wp2_with fail
        refine (sweepNil _).mono ?_
        rintro e w2 ⟨rfl, rfl⟩
        go_wp2_with fail
        go_ret
        exact ⟨rfl, unhide hB⟩

set_option maxRecDepth 100000 in
set_option maxHeartbeats 1600000 in
theorem runBad {n : Int} {u v pv : Value} {A B : List Int} (h : (n < 1 ∨ 16 < n) ∨ levs n A B = false) (w : World) (hu : Ints w u A) (hv : Ints w v B) :
    Calls (barP Try.prog) 9 #[.int .i64 n, pv, u, v] w fun e w' => e = .returned (.tuple #[.slice none 0 0, .slice none 0 0, .int .i64 1]) ∧ Below w.heap.size w w' := by
  have kl := hide (lookBad (pv := pv) h w hu hv)
  clear h hu hv
  go_enter Bar.func9, Bar.ntmps9
  go_wp2_with fail
  refine (unhide kl).mono ?_
  rintro e w1 ⟨rfl, hb⟩
  have B1 := hide hb
  clear kl hb
  go_wp2_with fail
  go_ret3
  exact ⟨rfl, unhide B1⟩

theorem levs_len {n : Int} {A B : List Int} (h : levs n A B = true) : A.length = n.toNat * n.toNat ∧ B.length = n.toNat * n.toNat := by
  unfold levs levS at h
  simp only [Bool.and_eq_true, decide_eq_true_eq] at h
  exact ⟨h.1.1, h.2.1⟩
theorem sq_small {n : Int} (h1 : 1 ≤ n) (h2 : n ≤ 16) : 1 ≤ n.toNat * n.toNat ∧ n.toNat * n.toNat ≤ 256 :=
  ⟨Nat.mul_le_mul (show 1 ≤ n.toNat by omega) (show 1 ≤ n.toNat by omega), Nat.mul_le_mul (show n.toNat ≤ 16 by omega) (show n.toNat ≤ 16 by omega)⟩

theorem own_less {w : World} {base base' : Nat} {e : TypeId} {size n : Nat} {v : Value} {xs : List Value} (h : w.ownsRow base' e size v n xs) (hb : base ≤ base') : w.ownsRow base e size v n xs := by
  refine ⟨h.1, ?_⟩
  rcases h.2 with hn | ⟨g, cap, cur, rfl, hg, rest⟩
  · exact .inl hn
  · exact .inr ⟨g, cap, cur, rfl, Nat.le_trans hb hg, rest⟩

/-- New bounds. -/
def NewB (w w' : World) (x y : Value) (A B : List Int) : Prop := ∃ gl cl gh ch, x = .slice (some ⟨gl, 0, none⟩) A.length cl ∧ y = .slice (some ⟨gh, 0, none⟩) B.length ch ∧ w.heap.size ≤ gl ∧ w.heap.size ≤ gh ∧ gl ≠ gh ∧
  w'.ownsRow w.heap.size 3 1 x A.length (intsV A) ∧ w'.ownsRow w.heap.size 3 1 y B.length (intsV B)

set_option maxRecDepth 100000 in
set_option maxHeartbeats 3200000 in
theorem runNil {n : Int} {u v : Value} {A B : List Int} (h1 : 1 ≤ n) (h2 : n ≤ 16) (hl : levs n A B = true) (hc : ∀ i, i < A.length → A.getD i 0 ≤ B.getD i 0) (w : World) (hu : Ints w u A) (hv : Ints w v B) :
    Calls (barP Try.prog) 9 #[.int .i64 n, .slice none 0 0, u, v] w fun e w' => ∃ x y, e = .returned (.tuple #[x, y, .int .i64 0]) ∧ NewB w w' x y A B ∧ Below w.heap.size w w' := by
  have kl := hide (lookNil h1 h2 hl w hu hv)
  obtain ⟨lA, lB⟩ := levs_len hl
  obtain ⟨m1, m2⟩ := sq_small h1 h2
  have hu := hide hu
  have hv := hide hv
  have hc := hide hc
  have e12 : Hid (A.length = B.length) := by show _ = _; omega
  have mA1 : 1 ≤ A.length := by omega
  have mA2 : A.length ≤ 4096 := by omega
  have mB1 : 1 ≤ B.length := by omega
  have mB2 : B.length ≤ 4096 := by omega
  clear hl lA lB m1 m2
  go_enter Bar.func9, Bar.ntmps9
  go_wp2_with fail
  refine (unhide kl).mono ?_
  rintro e w1 ⟨rfl, hb1⟩
  have B1 := hide hb1
  obtain ⟨a1, cap1, g1, o1, rfl, i1⟩ := ints_below (unhide hu) hb1
  have k2 := hide (cloneInts (cap := cap1) mA1 mA2 w1 i1)
  clear hb1 i1 kl
  go_wp2_with fail
  refine (unhide k2).mono ?_
  rintro e w2 ⟨gl, cl, rfl, hgl, r2, own2, hb2⟩
  have B2 := hide ((unhide B1).trans (hb2.mono (unhide B1).size))
  obtain ⟨a2, cap2, g2, o2, rfl, i2⟩ := ints_below (unhide hv) (unhide B2)
  have k3 := hide (cloneInts (cap := cap2) mB1 mB2 w2 i2)
  have R2 := hide r2
  have O2 := hide own2
  have hs1 : w.heap.size ≤ w1.heap.size := (unhide B1).size
  have hs2 : w1.heap.size ≤ w2.heap.size := hb2.size
  have gl2 : gl < w2.heap.size := vrow_lt r2
  clear hb2 i2 k2 r2 own2 B1
  go_wp2_with fail
  refine (unhide k3).mono ?_
  rintro e w3 ⟨gh, ch, rfl, hgh, r3, own3, hb3⟩
  have B3 := hide ((unhide B2).trans (hb3.mono (by omega)))
  have R2 := hide (vrow_keep (unhide R2) (hb3.block _ gl2))
  have O2 := hide (own_stay (unhide O2) (fun b hb => hb3.block b ((unhide O2).lt b hb).2))
  have R3 := hide r3
  have O3 := hide own3
  have hs3 : w2.heap.size ≤ w3.heap.size := hb3.size
  clear hb3 k3 r3 own3 B2
  go_wp2_with fail
  refine (linesNil _).mono ?_
  rintro e w4 ⟨rfl, rfl⟩
  have R3' := unhide R3
  rw [← unhide e12] at R3'
  have k4 := hide (settleNil (cl := cl) (ch := ch) mA2 (unhide hc) w4 (unhide R2) R3')
  rw [← unhide e12]
  go_wp2_with fail
  refine (unhide k4).mono ?_
  rintro e w5 ⟨rfl, hb5⟩
  have B5 := hide ((unhide B3).trans (hb5.mono (unhide B3).size))
  have O2 := hide (own_stay (unhide O2) (fun b hb => hb5.block b ((unhide O2).lt b hb).2))
  have O3 := hide (own_stay (unhide O3) (fun b hb => hb5.block b ((unhide O3).lt b hb).2))
  clear hb5 k4 R2 R3 R3' B3
  go_wp2_with fail
  go_ret3
  refine ⟨_, _, rfl, ⟨gl, cl, gh, ch, rfl, by rw [← unhide e12]; rfl, by omega, by omega, by omega, ?_, ?_⟩, unhide B5⟩
  · exact own_less (unhide O2) hs1
  · have h := own_less (base := w.heap.size) (unhide O3) (by omega)
    rw [← unhide e12] at h ⊢
    exact h
end Go.Proofs.Ythbghcebcahlnaa
