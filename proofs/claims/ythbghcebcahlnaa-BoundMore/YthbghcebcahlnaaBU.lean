/- The landed look: the errors that are told ahead of all sweeps. -/
import Derived.Test.YthbghcebcahlnaaBT
import Derived.Test.YthbghcebcahlnaaBS
import Derived.Test.YthbghcebcahlnaaBQ
import Derived.Test.YthbghcebcahlnaaYC
namespace Go.Proofs.Ythbghcebcahlnaa
open Go.RowKit Go.Shelf

set_option maxRecDepth 100000 in
set_option maxHeartbeats 1600000 in
theorem areSumsOk {gs m c : Nat} {z : Nat → Nat × Nat} (hm : m ≤ 2017) (hz : ∀ j, j < m → ∀ W : World, Calls (barP Try.prog) 69 #[.complex .f64 (z j).1 (z j).2] W fun e W' => e = .returned (.bool false) ∧ Below W.heap.size W W') (w : World) (h : VRow w 39 gs m (fun j => .complex .f64 (z j).1 (z j).2)) :
    Calls (barP Try.prog) 35 #[.slice (some ⟨gs, 0, none⟩) m c] w fun e w' => e = .returned (.bool true) ∧ Below w.heap.size w w' := by
  have k1 : Hid (Calls (barP Try.prog) 86 #[.slice (some ⟨gs, 0, none⟩) m c, .func (.func 69) #[] #[]] w fun e w' => e = .returned (.int .i64 (-1)) ∧ Below w.heap.size w w') := by
    show Calls _ _ _ _ _
    have H := hide h
    have hp := hide hz
    clear h hz
    go_enter Bar.func86, Bar.ntmps86
    go_wp2_with fail
    go_loopw [8] (fun kv wr => ∃ k : Nat, k ≤ m ∧ kv = .int .i64 k ∧ Hid (Below w.heap.size w wr)) (fun kv _ => m - (intOf kv).toNat)
    case atStart => exact ⟨0, Nat.zero_le _, rfl, Below.refl _ _⟩
    case round =>
      obtain ⟨k, hk, rfl, hB⟩ := hrel
      by_cases hkm : k < m
      · have q1 : ((k : Int) < (m : Int)) = True := by simp; omega
        have c1 := vrow_at (vrow_keep (unhide H) ((unhide hB).block _ (vrow_lt (unhide H)))) hkm
        have k1 := hide (unhide hp k hkm wr)
        have hs := (unhide hB).size
        generalize z k = fk at *
        obtain ⟨f1, f2⟩ := fk
        dsimp only at *
        go_wp2_with fail
        refine (unhide k1).mono ?_
        rintro e w1 ⟨rfl, hb1⟩
        have B1 := hide ((unhide hB).trans (hb1.mono hs))
        clear hb1 k1 hB c1
        go_wp2_with fail
        exact ⟨⟨k + 1, by omega, by go_num, B1⟩, by simp [intOf]; omega⟩
      · have e : k = m := by omega
        subst e
        have q1 : ((k : Int) < (k : Int)) = False := by simp
        go_wp2_with fail
        go_ret
        exact ⟨rfl, unhide hB⟩
  have k2 : Hid (Calls (barP Try.prog) 68 #[.slice (some ⟨gs, 0, none⟩) m c, .func (.func 69) #[] #[]] w fun e w' => e = .returned (.bool false) ∧ Below w.heap.size w w') := by
    show Calls _ _ _ _ _
    clear h hz
    go_enter Bar.func68, Bar.ntmps68
    go_wp2_with fail
    refine (unhide k1).mono ?_
    rintro e w1 ⟨rfl, hb1⟩
    have B1 := hide hb1
    clear hb1
    go_wp2_with fail
    go_ret
    exact ⟨rfl, unhide B1⟩
  clear k1 h hz
  go_enter Bar.func35, Bar.ntmps35
  go_wp2_with fail
  refine (unhide k2).mono ?_
  rintro e w1 ⟨rfl, hb1⟩
  have B1 := hide hb1
  clear hb1
  go_wp2_with fail
  go_ret
  exact ⟨rfl, unhide B1⟩

def levs (n : Int) (A B : List Int) : Bool := levS (n.toNat * n.toNat) A && levS (n.toNat * n.toNat) B

section
variable {n : Nat} {u v : Value} {A B : List Int}
theorem lev_call (h16 : n ≤ 16) {w0 : World} (hu : Ints w0 u A) (hv : Ints w0 v B) :
    Calls (barP Try.prog) 33 #[.int .i64 ((n * n : Nat) : Int), .slice (some ⟨w0.heap.size, 0, none⟩) 2 2] (w0.alloc (.cells #[u, v] 35)) fun e w' => e = .returned (.bool (levS (n * n) A && levS (n * n) B)) ∧ w' = w0.alloc (.cells #[u, v] 35) := by
  have y := (Below.refl w0.heap.size w0).alloc (Nat.le_refl _) (.cells #[u, v] 35)
  have hM : n * n ≤ 4096 := Nat.le_trans (Nat.mul_le_mul h16 h16) (by decide)
  have r := heap_alloc_new w0 (.cells #[u, v] 35)
  exact areLevelsOk hM _ (ints_below hu y) (ints_below hv y) (cell_of_row _ w0.heap.size 0 _ _ (0, 0) r) (cell_of_row _ w0.heap.size 1 _ _ (0, 0) r)
end

set_option maxRecDepth 100000 in
set_option maxHeartbeats 3200000 in
theorem lookBad {n : Int} {u v pv : Value} {A B : List Int} (h : (n < 1 ∨ 16 < n) ∨ levs n A B = false) (w : World) (hu : Ints w u A) (hv : Ints w v B) :
    Calls (barP Try.prog) 18 #[.int .i64 n, pv, u, v] w fun e w' => e = .returned (.int .i64 1) ∧ Below w.heap.size w w' := by
  by_cases hs : n < 1 ∨ 16 < n
  · have ks := hide (fun w => isSmallNo hs w)
    clear h hs hu hv
    go_enter Bar.func18, Bar.ntmps18
    go_wp2_with fail
    refine (unhide ks _).mono ?_
    rintro e w1 ⟨rfl, rfl⟩
    clear ks
    go_wp2_with fail
    go_ret
    exact ⟨rfl, Below.refl _ _⟩
  · obtain ⟨N, rfl⟩ : ∃ N : Nat, n = N := ⟨n.toNat, by omega⟩
    have hl : levs (N : Int) A B = false := h.resolve_left hs
    unfold levs at hl
    rw [Int.toNat_natCast] at hl
    have ks := hide (fun w => isSmallYes (n := (N : Int)) (by omega) (by omega) w)
    have kl := lev_call (n := N) (by omega) hu hv
    rw [hl] at kl
    have kl := hide kl
    have m1 : wrap64 ((N : Int) * (N : Int)) = ((N * N : Nat) : Int) := by
      have : N * N ≤ 16 * 16 := Nat.mul_le_mul (by omega) (by omega)
      rw [← Int.natCast_mul]
      exact IntWalk.wrap64_in _ ⟨by omega, by omega⟩
    have y := hide ((Below.refl w.heap.size w).alloc (Nat.le_refl _) (.cells #[u, v] 35))
    generalize N * N = M at *
    obtain ⟨a1, cap1, g1, o1, rfl, _⟩ := hu
    obtain ⟨a2, cap2, g2, o2, rfl, _⟩ := hv
    clear h hs hl
    go_enter Bar.func18, Bar.ntmps18
    go_wp2_with fail
    refine (unhide ks _).mono ?_
    rintro e w1 ⟨rfl, rfl⟩
    clear ks
    go_wp2_with fail
    refine (unhide kl).mono ?_
    rintro e w2 ⟨rfl, rfl⟩
    clear kl
    go_wp2_with fail
    go_ret
    exact ⟨rfl, unhide y⟩
set_option maxRecDepth 100000 in
set_option maxHeartbeats 3200000 in
theorem lookNil {n : Int} {u v : Value} {A B : List Int} (h1 : 1 ≤ n) (h2 : n ≤ 16) (hl : levs n A B = true) (w : World) (hu : Ints w u A) (hv : Ints w v B) :
    Calls (barP Try.prog) 18 #[.int .i64 n, .slice none 0 0, u, v] w fun e w' => e = .returned (.int .i64 0) ∧ Below w.heap.size w w' := by
  obtain ⟨N, rfl⟩ : ∃ N : Nat, n = N := ⟨n.toNat, by omega⟩
  unfold levs at hl
  rw [Int.toNat_natCast] at hl
  have ks := hide (fun w => isSmallYes (n := (N : Int)) (by omega) (by omega) w)
  have kl := lev_call (n := N) (by omega) hu hv
  rw [hl] at kl
  have kl := hide kl
  have m1 : wrap64 ((N : Int) * (N : Int)) = ((N * N : Nat) : Int) := by
    have : N * N ≤ 16 * 16 := Nat.mul_le_mul (by omega) (by omega)
    rw [← Int.natCast_mul]
    exact IntWalk.wrap64_in _ ⟨by omega, by omega⟩
  have y := hide ((Below.refl w.heap.size w).alloc (Nat.le_refl _) (.cells #[u, v] 35))
  generalize N * N = M at *
  obtain ⟨a1, cap1, g1, o1, rfl, _⟩ := hu
  obtain ⟨a2, cap2, g2, o2, rfl, _⟩ := hv
  clear hl
  go_enter Bar.func18, Bar.ntmps18
  go_wp2_with fail
  refine (unhide ks _).mono ?_
  rintro e w1 ⟨rfl, rfl⟩
  clear ks
  go_wp2_with fail
  refine (unhide kl).mono ?_
  rintro e w2 ⟨rfl, rfl⟩
  clear kl
  go_wp2_with fail
  generalize w1.alloc (.cells #[.slice a1 A.length cap1, .slice a2 B.length cap2] 35) = w2 at *
  go_loopw [31] (fun kv wr => kv = .int .i64 0 ∧ w2 = wr) (fun _ _ => 0)
  case atStart => exact ⟨rfl, rfl⟩
  case round =>
    obtain ⟨rfl, rfl⟩ := hrel
    go_wp2_with fail
    go_ret
    exact ⟨rfl, unhide y⟩

set_option maxRecDepth 100000 in
set_option maxHeartbeats 3200000 in
theorem lookGood {n gq cq : Nat} {ps : List PD} {u v : Value} {A B : List Int} (h1 : 1 ≤ n) (h2 : n ≤ 16) (hl : levs n A B = true) (hps : ps.length ≤ 64) (hd : ∀ i, i < ps.length → Dir64 (ps.getD i p0).d ∧ binsS n (ps.getD i p0).d = (((ps.getD i p0).nb : Int), 0) ∧ (ps.getD i p0).nb ≤ 2017)
    (hz : ∀ i j, i < ps.length → j < (ps.getD i p0).nb → ∀ W : World, Calls (barP Try.prog) 69 #[.complex .f64 ((ps.getD i p0).z j).1 ((ps.getD i p0).z j).2] W fun e W' => e = .returned (.bool false) ∧ Below W.heap.size W W') (w : World) (hu : Ints w u A) (hv : Ints w v B) (hp : ProjsAt w gq ps) :
    Calls (barP Try.prog) 18 #[.int .i64 n, .slice (some ⟨gq, 0, none⟩) ps.length cq, u, v] w fun e w' => e = .returned (.int .i64 0) ∧ Below w.heap.size w w' := by
  unfold levs at hl
  rw [Int.toNat_natCast] at hl
  have ks := hide (fun w => isSmallYes (n := (n : Int)) (by omega) (by omega) w)
  have kl := lev_call (n := n) (by omega) hu hv
  rw [hl] at kl
  have kl := hide kl
  have m1 : wrap64 ((n : Int) * (n : Int)) = ((n * n : Nat) : Int) := by
    have : n * n ≤ 16 * 16 := Nat.mul_le_mul (by omega) (by omega)
    rw [← Int.natCast_mul]
    exact IntWalk.wrap64_in _ ⟨by omega, by omega⟩
  have y := hide ((Below.refl w.heap.size w).alloc (Nat.le_refl _) (.cells #[u, v] 35))
  have hd := hide hd
  have hz := hide hz
  have hp := hide hp
  have q0 : ((64 : Int) < (ps.length : Int)) = False := by simp; omega
  generalize n * n = M at *
  obtain ⟨a1, cap1, g1, o1, rfl, _⟩ := hu
  obtain ⟨a2, cap2, g2, o2, rfl, _⟩ := hv
  clear hl
  go_enter Bar.func18, Bar.ntmps18
  go_wp2_with fail
  refine (unhide ks _).mono ?_
  rintro e w1 ⟨rfl, rfl⟩
  clear ks
  go_wp2_with fail
  refine (unhide kl).mono ?_
  rintro e w2 ⟨rfl, rfl⟩
  clear kl
  go_wp2_with fail
  generalize w1.alloc (.cells #[.slice a1 A.length cap1, .slice a2 B.length cap2] 35) = w2 at *
  go_loopw [31] (fun kv wr => ∃ i : Nat, i ≤ ps.length ∧ kv = .int .i64 i ∧ Hid (Below w1.heap.size w1 wr)) (fun kv _ => ps.length - (intOf kv).toNat)
  case atStart => exact ⟨0, Nat.zero_le _, rfl, y⟩
  case round =>
    clear y
    obtain ⟨i, hi, rfl, hB⟩ := hrel
    by_cases c : i < ps.length
    · have q1 : ((i : Int) < (ps.length : Int)) = True := by simp; omega
      have A2 := (unhide hp).below (unhide hB)
      obtain ⟨c1, c2, c3⟩ := A2.cells i c
      obtain ⟨h64, hbn, hnb⟩ := unhide hd i c
      have hb1 := A2.bins i c
      have hzz := fun j => unhide hz i j c
      generalize ps.getD i p0 = p at *
      obtain ⟨⟨d1, d2⟩, gb, cb, nb, z, iz⟩ := p
      dsimp only at *
      have y1 := (Below.refl wr.heap.size wr).alloc (Nat.le_refl _) (.cells #[.int .i64 d1, .int .i64 d2, .slice (some ⟨gb, 0, none⟩) nb cb] 49)
      have r1 := heap_alloc_new wr (.cells #[.int .i64 d1, .int .i64 d2, .slice (some ⟨gb, 0, none⟩) nb cb] 49)
      have x3 := hide (cell_of_row _ wr.heap.size 2 _ _ (0, 0) r1)
      have hl1 : wr.heap.size < (wr.alloc (.cells #[.int .i64 d1, .int .i64 d2, .slice (some ⟨gb, 0, none⟩) nb cb] 49)).heap.size := by rw [World.size_alloc]; omega
      have kB := hide (dirBins (n := (n : Int)) h64 (wr.alloc (.cells #[.int .i64 d1, .int .i64 d2, .slice (some ⟨gb, 0, none⟩) nb cb] 49)))
      rw [hbn] at kB
      unfold dirV at kB
      dsimp only at kB
      have V1 := hide (vrow_keep hb1 (y1.block _ (vrow_lt hb1)))
      have kz := hide (fun (W : World) (h : VRow W 39 gb nb (fun j => .complex .f64 (z j).1 (z j).2)) => areSumsOk (c := cb) hnb hzz W h)
      have B1 := hide ((unhide hB).trans (y1.mono (unhide hB).size))
      clear A2 hb1 hzz y1 r1 hB hbn
      go_wp2_with fail
      clear c1 c2 c3
      generalize wr.alloc (.cells #[.int .i64 d1, .int .i64 d2, .slice (some ⟨gb, 0, none⟩) nb cb] 49) = w3 at *
      generalize wr.heap.size = pd at *
      refine (unhide kB).mono ?_
      rintro e w4 ⟨rfl, hb4⟩
      have z3 := (hb4.cell (p := ⟨pd, 2, none⟩) hl1).trans (unhide x3)
      simp only [List.getElem?_toArray, List.getElem?_cons_zero, List.getElem?_cons_succ] at z3
      have kz4 := hide (unhide kz w4 (vrow_keep (unhide V1) (hb4.block _ (vrow_lt (unhide V1)))))
      have B4 := hide ((unhide B1).trans (hb4.mono (unhide B1).size))
      clear kB kz V1 x3 B1 hb4
      go_wp2_with fail
      refine (unhide kz4).mono ?_
      rintro e w5 ⟨rfl, hb5⟩
      have B5 := hide ((unhide B4).trans (hb5.mono (unhide B4).size))
      clear kz4 hb5 B4
      go_wp2_with fail
      exact ⟨⟨i + 1, by omega, by go_num, B5⟩, by simp [intOf]; omega⟩
    · have q1 : ((i : Int) < (ps.length : Int)) = False := by simp; omega
      go_wp2_with fail
      go_ret
      exact ⟨rfl, unhide hB⟩
end Go.Proofs.Ythbghcebcahlnaa
