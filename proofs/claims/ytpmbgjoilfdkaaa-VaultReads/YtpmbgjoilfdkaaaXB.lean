/- The program's head of a record, its last slice, Change behind any slice or none. -/
import Derived.Test.YtpmbgjoilfdkaaaXA
import Derived.Test.YtpmbgjoilfdkaaaVF
import Derived.Test.YtpmbgjoilfdkaaaVG
import Derived.Test.YtpmbgjoilfdkaaaWA
namespace Go.Proofs.Ytpmbgjoilfdkaaa
open Go.RowKit Fl Ieee

set_option maxRecDepth 100000 in
set_option maxHeartbeats 1600000 in
theorem progHead {a : Option Addr} {g o c : Nat} {bs : List Nat} (hm : bs.length ≤ 600001) (w : World) (h : BAt w a g o bs) :
    Calls Try.prog 21 #[.slice a bs.length c] w fun r w' => ∃ v, r = .returned v ∧ w'.ownsRow w.heap.size 5 1 v 8 (bL (highL bs.length 4 ++ highL (sumB bs bs.length) 4)) ∧ Below w.heap.size w w' := by
  have T := hide h
  clear h
  have hx := sumB_lt bs bs.length
  have kS := hide (fun W (hW : BAt W a g o bs) => progSum (c := c) (L := bs) (by omega) W hW)
  have kF := hide (progWrite (B := w.heap.size) (m := 0) (x := bs.length) (v := .slice none 0 0) (xs := []) (by omega) (by decide) w (Nat.le_refl _) (World.ownsRow_nil _ _ _ _))
  have kG := hide (fun (v : Value) (W : World) (hW : w.heap.size ≤ W.heap.size) (hO : W.ownsRow w.heap.size 5 1 v 4 (bL (highL bs.length 4))) => progWrite (x := sumB bs bs.length) hx (by decide) W hW hO)
  generalize sumB bs bs.length = x at *
  obtain ⟨m, hmm⟩ : ∃ m, m = bs.length := ⟨_, rfl⟩
  rw [← hmm] at kS kF kG hm ⊢
  clear hmm
  have u1 : IntKind.u32.wrap (m : Int) = (m : Int) := by show (m : Int) % 4294967296 = _; omega
  have u2 : (m : Int) % 4294967296 = (m : Int) := by omega
  go_enter Try.func21, Try.ntmps21
  go_wp2_with fail
  refine (unhide kF).mono ?_
  rintro e w2 ⟨v2, rfl, hO, hb2⟩
  have O2 : Hid (w2.ownsRow w.heap.size 5 1 v2 4 (bL (highL m 4))) := hO
  have B2 := hide hb2
  have T2 := hide (bat_keep (unhide T) hb2)
  obtain ⟨g2, c2, rfl⟩ := own_slice hO (by decide)
  clear hO hb2 kF
  go_wp2_with fail
  refine (unhide kS _ (unhide T2)).mono ?_
  rintro e w2' ⟨rfl, hw⟩
  obtain rfl := hw.symm
  clear kS
  go_wp2_with fail
  refine (unhide kG _ _ (unhide B2).size (unhide O2)).mono ?_
  rintro e w3 ⟨v3, rfl, hO, hb3⟩
  have O3 : Hid (w3.ownsRow w.heap.size 5 1 v3 8 (bL (highL m 4 ++ highL x 4))) := hO
  have B3 := hide ((unhide B2).trans hb3)
  clear hO hb3 kG
  go_wp2_with fail
  go_ret
  exact ⟨v3, rfl, unhide O3, unhide B3⟩

/-- What stands ahead, as a value: a slice, or one without a side. -/
def AheadAt (w : World) (n : Nat) (a : Option Addr) (m c : Nat) (prev : Option Sli) : Prop := (n = 0 ∧ a = none ∧ m = 0 ∧ c = 0 ∧ prev = none) ∨
  ∃ p g, a = some ⟨g, 0, none⟩ ∧ m = n * n ∧ prev = some (n, p) ∧ Row w g (n * n) p ∧ 1 ≤ n ∧ n ≤ 64 ∧ Bits n p
theorem ahead_keep {w w' : World} {n m c : Nat} {a : Option Addr} {prev : Option Sli} (h : AheadAt w n a m c prev) (hb : Below w.heap.size w w') : AheadAt w' n a m c prev := by
  rcases h with h | ⟨p, g, h1, h2, h3, h4, h5⟩
  · exact .inl h
  · exact .inr ⟨p, g, h1, h2, h3, row_below h4 hb (row_lt h4), h5⟩

set_option maxRecDepth 100000 in
set_option maxHeartbeats 3200000 in
theorem progLast {w : World} {a : Option Addr} {l cap : Nat} {prev : Option Sli} (h : LastAt w a l prev) :
    Calls Try.prog 19 #[.slice a l cap] w fun r w' => ∃ n a' m c, r = .returned (.agg #[.int .i64 (n : Nat), .slice a' m c]) ∧ AheadAt w' n a' m c prev ∧ Below w.heap.size w w' := by
  have bel1 : Below w.heap.size w (w.alloc (.cells #[.int .i64 0, .slice none 0 0] 30)) := (Below.refl _ _).alloc (Nat.le_refl _) _
  have r1 : (w.alloc (.cells #[.int .i64 0, .slice none 0 0] 30)).heap[w.heap.size]? = some (.cells #[.int .i64 0, .slice none 0 0] 30 (0, 0)) := heap_alloc_new w _
  have s1 : (w.alloc (.cells #[.int .i64 0, .slice none 0 0] 30)).heap.size = w.heap.size + 1 := World.size_alloc _ _
  have BL := hide bel1
  have R1 := hide r1
  have infoG : (Try.prog.info? 30).map (·.size) = some 2 := by kernel_rfl
  have IG := hide infoG
  clear infoG
  rcases last_keep h bel1 with ⟨rfl, rfl⟩ | ⟨ga, k, n', p, g', c', rfl, rfl, hk, rfl, k1, k2, k3, k4, k5, k6, k7⟩
  · obtain ⟨y0, y1, y2, y3⟩ := box2_cells r1
    clear r1 bel1 h
    go_enter Try.func19, Try.ntmps19
    go_wp2_with fail
    obtain ⟨t1, t2, _, _⟩ := box2_cells (unhide R1)
    refine bodyPost_ret (results_two (P := Try.prog) rfl _ _ w.heap.size (.int .i64 0) (.slice none 0 0) _ rfl t1 t2 Try.underlying30 rfl (unhide IG)) rfl ?_
    exact ⟨0, none, 0, 0, rfl, .inl ⟨rfl, rfl, rfl, rfl, rfl⟩, unhide BL⟩
  · obtain ⟨y0, y1, y2, y3⟩ := box2_cells r1
    obtain ⟨l, hl⟩ : ∃ l, l = k + 1 := ⟨_, rfl⟩
    rw [← hl]
    have q0 : ((l : Int) = 0) = False := by simp; omega
    have q0' : (l = 0) = False := by simp; omega
    have q0'' : ((l : Int) == 0) = false := by rw [beq_eq_false_iff_ne]; omega
    have q2 : (l : Int) - 1 = (k : Int) := by omega
    have q3 : ((k : Int) < (l : Int)) = True := by simp; omega
    have q4 : IntKind.i64.wrap ((l : Int) - 1) = (k : Int) := by rw [IntKind.wrap_i64]; omega
    have q6 : (k < l) = True := by simp; omega
    have q7 : (0 : Int) ≤ (k : Int) := by omega
    have q9 : IntKind.i64.wrap (k : Int) = (k : Int) := by rw [IntKind.wrap_i64]; omega
    have q8 : (k : Int) < (l : Int) := by omega
    have K4 := hide k4
    have K7 := hide k7
    have hgs : g' ≠ w.heap.size := by
      rintro rfl
      obtain ⟨cur, h4, _⟩ := k4
      rw [r1] at h4
      cases h4
    clear r1 bel1 h hl k4 k7
    go_enter Try.func19, Try.ntmps19
    go_wp2_with fail
    have r2 : (w.alloc (.cells #[.int .i64 n', .slice (some ⟨g', 0, none⟩) (n' * n') c'] 30)).heap[w.heap.size]? = some (.cells #[.int .i64 n', .slice (some ⟨g', 0, none⟩) (n' * n') c'] 30 (0, 0)) := heap_alloc_new w _
    obtain ⟨t1, t2, _, _⟩ := box2_cells r2
    refine bodyPost_ret (results_two (P := Try.prog) rfl _ _ w.heap.size (.int .i64 n') (.slice (some ⟨g', 0, none⟩) (n' * n') c') _ rfl t1 t2 Try.underlying30 rfl (unhide IG)) rfl ?_
    have hlt := row_lt (unhide K4)
    have hr : Row w g' (n' * n') p := row_keep (unhide K4) (Below.heap_alloc _ _ _ (by omega)).symm
    exact ⟨n', _, _, c', rfl, .inr ⟨p, g', rfl, rfl, rfl, row_keep hr (Below.heap_alloc _ _ _ (by omega)), k5, k6, unhide K7⟩, (Below.refl _ _).alloc (Nat.le_refl _) _⟩

set_option maxRecDepth 100000 in
set_option maxHeartbeats 1600000 in
theorem isFieldNone (w : World) : Calls Try.prog 38 #[.agg #[.int .i64 0, .slice none 0 0]] w fun r w' => r = .returned (.bool false) ∧ Below w.heap.size w w' := by
  have ks := hide (isSideOk 0)
  go_enter Try.func38, Try.ntmps38
  go_wp2_with fail
  refine (unhide ks _).mono ?_
  rintro e w1 ⟨t, rfl, ht, hw⟩
  obtain rfl := hw.symm
  obtain rfl : t = false := by
    cases t
    · rfl
    · have := ht.1 rfl; omega
  clear ht ks
  go_wp2_with fail
  go_ret
  exact ⟨rfl, (Below.refl _ _).alloc (Nat.le_refl _) _⟩
theorem box3_none (w : World) (n g m c : Nat) : (((w.alloc (.cells #[.int .i64 n, .slice (some ⟨g, 0, none⟩) m c] 30)).alloc (.cells #[.int .i64 0, .slice none 0 0] 30)).alloc (.cells #[.int .i64 0, .slice none 0 0] 30)).heap[w.heap.size + 1 + 1]? = some (.cells #[.int .i64 0, .slice none 0 0] 30 (0, 0)) ∧
    (((w.alloc (.cells #[.int .i64 n, .slice (some ⟨g, 0, none⟩) m c] 30)).alloc (.cells #[.int .i64 0, .slice none 0 0] 30)).alloc (.cells #[.int .i64 0, .slice none 0 0] 30)).heap[w.heap.size + 1]? = some (.cells #[.int .i64 0, .slice none 0 0] 30 (0, 0)) ∧
    Below w.heap.size w (((w.alloc (.cells #[.int .i64 n, .slice (some ⟨g, 0, none⟩) m c] 30)).alloc (.cells #[.int .i64 0, .slice none 0 0] 30)).alloc (.cells #[.int .i64 0, .slice none 0 0] 30)) := by
  have s1 : (w.alloc (.cells #[.int .i64 n, .slice (some ⟨g, 0, none⟩) m c] 30)).heap.size = w.heap.size + 1 := World.size_alloc _ _
  have s2 : ((w.alloc (.cells #[.int .i64 n, .slice (some ⟨g, 0, none⟩) m c] 30)).alloc (.cells #[.int .i64 0, .slice none 0 0] 30)).heap.size = w.heap.size + 1 + 1 := by rw [World.size_alloc, s1]
  refine ⟨?_, ?_, (((Below.refl _ _).alloc (Nat.le_refl _) _).alloc (by rw [s1]; omega) _).alloc (by rw [s2]; omega) _⟩
  · rw [← s2]
    exact heap_alloc_new _ _
  · rw [Below.heap_alloc _ _ _ (by rw [s2]; omega), ← s1]
    exact heap_alloc_new _ _

set_option maxRecDepth 100000 in
set_option maxHeartbeats 3200000 in
theorem progChangeNone {n g c : Nat} (h1 : 1 ≤ n) (h2 : n ≤ 64) (w : World) : Calls Try.prog 27 #[fieldV n g (n * n) c, .agg #[.int .i64 0, .slice none 0 0]] w fun r w' => r = .returned (.tuple #[noneV, .int .i64 1]) ∧ Below w.heap.size w w' := by
  have kR := hide (fun W => isFieldOk (g := g) (c := c) h1 h2 W)
  have kR' := hide isFieldNone
  unfold fieldV at *
  generalize n * n = M at *
  obtain ⟨r1, r2, bel1⟩ := box3_none w n g M c
  have R1 := hide r1
  have R2 := hide r2
  have BL := hide bel1
  have s1 := (Array.getElem?_eq_some_iff.1 r1).1
  clear r1 r2 bel1
  go_enter Try.func27, Try.ntmps27
  go_wp2_with fail
  generalize ((w.alloc (.cells #[.int .i64 n, .slice (some ⟨g, 0, none⟩) M c] 30)).alloc (.cells #[.int .i64 0, .slice none 0 0] 30)).alloc (.cells #[.int .i64 0, .slice none 0 0] 30) = W0 at *
  refine (unhide kR _).mono ?_
  rintro e W1 ⟨rfl, hb1⟩
  have r1 : W1.heap[w.heap.size + 1 + 1]? = some (.cells #[.int .i64 0, .slice none 0 0] 30 (0, 0)) := by rw [hb1.block _ s1]; exact unhide R1
  have r2 : W1.heap[w.heap.size + 1]? = some (.cells #[.int .i64 0, .slice none 0 0] 30 (0, 0)) := by rw [hb1.block _ (by omega)]; exact unhide R2
  have B1 := hide ((unhide BL).trans (hb1.mono (unhide BL).size))
  obtain ⟨b0, b1, _, _⟩ := box2_cells r2
  have s1' := (Array.getElem?_eq_some_iff.1 r1).1
  have R1' := hide r1
  clear hb1 R1 R2 BL kR r1 r2 s1
  go_wp2_with fail
  refine (unhide kR' _).mono ?_
  rintro e W2 ⟨rfl, hb2⟩
  have r1 : W2.heap[w.heap.size + 1 + 1]? = some (.cells #[.int .i64 0, .slice none 0 0] 30 (0, 0)) := by rw [hb2.block _ s1']; exact unhide R1'
  have B2 := hide ((unhide B1).trans (hb2.mono (unhide B1).size))
  obtain ⟨z0, z1, z2, z3⟩ := box2_cells r1
  have R4 := hide r1
  clear hb2 B1 kR' b0 b1 r1 R1'
  go_wp2_with fail
  obtain ⟨t1, t2, t3, t4⟩ := two_set (unhide R4) (.int .i64 0) (.slice none 0 0)
  refine bodyPost_ret (results_two_tmp (P := Try.prog) rfl _ _ (w.heap.size + 1 + 1) (.int .i64 0) (.slice none 0 0) (.int .i64 1) _ rfl rfl t1 t2 Try.underlying30 rfl (by kernel_rfl)) rfl ?_
  exact ⟨rfl, ((unhide B2).setCell (by show w.heap.size ≤ w.heap.size + 1 + 1; omega) _).setCell (by show w.heap.size ≤ w.heap.size + 1 + 1; omega) _⟩

theorem changeAny {n g c n' m c' : Nat} {a : Option Addr} {f : Nat → Nat × Nat} {prev : Option Sli} (h1 : 1 ≤ n) (h2 : n ≤ 64) (hf : Bits n f) (w : World) (hR : Row w g (n * n) f) (hA : AheadAt w n' a m c' prev) :
    Calls Try.prog 27 #[fieldV n g (n * n) c, .agg #[.int .i64 (n' : Nat), .slice a m c']] w fun r w' => ((∃ p gz cz, prev = some (n, p) ∧ Bits n p ∧ r = .returned (.tuple #[.agg #[.int .i64 (n : Nat), .slice (some ⟨gz, 0, none⟩) (n * n) cz], .int .i64 0]) ∧ Row w' gz (n * n) (xorC f p) ∧ w.heap.size ≤ gz) ∨
      ((∀ p, prev ≠ some (n, p)) ∧ r = .returned (.tuple #[.agg #[.int .i64 0, .slice none 0 0], .int .i64 1]))) ∧ Below w.heap.size w w' := by
  rcases hA with ⟨rfl, rfl, rfl, rfl, rfl⟩ | ⟨p, g', rfl, rfl, rfl, hR', h3, h4, hp⟩
  · refine (progChangeNone (g := g) (c := c) h1 h2 w).mono ?_
    rintro r w' ⟨rfl, hb⟩
    exact ⟨.inr ⟨fun p e => (by cases e), rfl⟩, hb⟩
  · by_cases e : n = n'
    · subst e
      refine (progChange n g c g' c' f p w h1 h2 hf hp hR hR').mono ?_
      rintro r w' ⟨gz, cz, rfl, hz, hg, hb⟩
      exact ⟨.inl ⟨p, gz, cz, rfl, hp, rfl, hz, hg⟩, hb⟩
    · refine (progChangeNo n n' g c g' c' w h1 h2 h3 h4 e).mono ?_
      rintro r w' ⟨rfl, hb⟩
      exact ⟨.inr ⟨fun p e' => (by cases e'; exact e rfl), rfl⟩, hb⟩
end Go.Proofs.Ytpmbgjoilfdkaaa
