/- The program's reading of a slice out of its body. -/
import Derived.Test.YtpmbgjoilfdkaaaXE
namespace Go.Proofs.Ytpmbgjoilfdkaaa
open Go.RowKit Fl Ieee

theorem eq_at {w : World} {a b : Option Addr} {g o c g' o' c' m : Nat} {K L : List Nat} (hm : m = L.length) (hK : BAt w a g o K) (hL : BAt w b g' o' L) :
    Calls Try.prog 33 #[.slice a K.length c, .slice b m c'] w fun r w' => r = .returned (.bool (decide (K = L))) ∧ w' = w := by
  subst hm
  exact bytesEqual hK hL
theorem unpack_at {a : Option Addr} {g o c E : Nat} {L : List Nat} (w : World) (e : E = L.length) (hc : E ≤ c) (hb : E ≤ 140737488355328) (h : BAt w a g o L) :
    Calls Try.prog 32 #[.slice a E c] w fun r w' => ((∃ f gz cz, Good L f ∧ r = .returned (.tuple #[.agg #[.int .i64 (side L : Nat), .slice (some ⟨gz, 0, none⟩) (side L * side L) cz], .int .i64 0]) ∧ Row w' gz (side L * side L) f ∧ w.heap.size ≤ gz) ∨ ((∀ f, ¬ Good L f) ∧ r = .returned (.tuple #[.agg #[.int .i64 0, .slice none 0 0], .int .i64 210]))) ∧ Below w.heap.size w w' := by
  subst e
  exact progUnpack a g o c L w hc hb h
theorem two_setX {w W : World} {x y x' y' v v' : Value} {X : Nat} (h : Two w W x y x' y') (hX : w.heap.size + 1 < X) : Two w ((W.setCell ⟨X, 0, none⟩ v).setCell ⟨X, 1, none⟩ v') x y x' y' :=
  ⟨by rw [Below.heap_setCell _ _ _ _ (by show w.heap.size ≠ X; omega), Below.heap_setCell _ _ _ _ (by show w.heap.size ≠ X; omega)]; exact h.one, by rw [Below.heap_setCell _ _ _ _ (by show w.heap.size + 1 ≠ X; omega), Below.heap_setCell _ _ _ _ (by show w.heap.size + 1 ≠ X; omega)]; exact h.two,
    (h.bel.setCell (by show w.heap.size ≤ X; omega) _).setCell (by show w.heap.size ≤ X; omega) _⟩
theorem good_side {L : List Nat} {f : Nat → Nat × Nat} (h : Good L f) : 1 ≤ side L ∧ side L ≤ 64 := ⟨h.1.lo, h.1.hi⟩

/-- What is asked of the reading of a slice. -/
def ReadP (prev : Option Sli) (b : List Nat) (w : World) (r : Ending) (w' : World) : Prop := ((∃ n f gz cz, SliceB prev b n f ∧ r = .returned (.agg #[.int .i64 (n : Nat), .slice (some ⟨gz, 0, none⟩) (n * n) cz]) ∧ Row w' gz (n * n) f ∧ w.heap.size ≤ gz ∧ 1 ≤ n ∧ n ≤ 64 ∧ Bits n f) ∨ ((∀ n f, ¬ SliceB prev b n f) ∧ r = .panicked tornP)) ∧ Below w.heap.size w w'

set_option maxRecDepth 100000 in
set_option maxHeartbeats 12800000 in
theorem readFirst {ab : Option Addr} {cb m n' m' c' : Nat} {b : List Nat} {a' : Option Addr} {prev : Option Sli} (hm : m = b.length) (h0 : m = 0) (w : World) :
    Calls Try.prog 24 #[.slice ab m cb, .agg #[.int .i64 (n' : Nat), .slice a' m' c']] w (ReadP prev b w) := by
  have kN := hide needNo
  have T0 := hide (two_boxes w (.int .i64 n') (.slice a' m' c') (.int .i64 0) (.slice none 0 0))
  have NO : Hid (∀ n f, ¬ SliceB prev b n f) := fun n f h => by have := h.1; omega
  subst h0
  clear hm
  go_enter Try.func24, Try.ntmps24
  go_wp2_with fail
  refine (unhide kN _).mono ?_
  rintro e w' ⟨rfl, hw⟩
  obtain rfl := hw.symm
  go_wp2_with fail
  exact ⟨rfl, .inr ⟨unhide NO, rfl⟩, (unhide T0).bel⟩

set_option maxRecDepth 100000 in
set_option maxHeartbeats 12800000 in
theorem readRest {ab : Option Addr} {g o cb m n' m' c' : Nat} {b : List Nat} {a' : Option Addr} {prev : Option Sli} (hm : m = b.length) (h0 : 1 ≤ m) (hc : m ≤ cb) (hbig : m ≤ 140737488355328) (w : World) (hB : BAt w ab g o b) (hA : AheadAt w n' a' m' c' prev) :
    Calls Try.prog 24 #[.slice ab m cb, .agg #[.int .i64 (n' : Nat), .slice a' m' c']] w (ReadP prev b w) := by
  have kY := hide needYes
  have kN := hide needNo
  have T0 := hide (two_boxes w (.int .i64 n') (.slice a' m' c') (.int .i64 0) (.slice none 0 0))
  have infoG : (Try.prog.info? 30).map (·.size) = some 2 := by kernel_rfl
  have IG := hide infoG
  obtain ⟨rfl, hg⟩ := hB.at_ (by omega)
  have HM := hide hm
  have BB := hide hB
  have AX := hide hA
  have s0 := two_size (unhide T0)
  obtain ⟨e1, he1⟩ : ∃ e1, e1 + 1 = m := ⟨m - 1, by omega⟩
  obtain ⟨c1, hc1⟩ : ∃ c1, c1 + 1 = cb := ⟨cb - 1, by omega⟩
  have n1 : m - 1 = e1 := by omega
  have n2 : cb - 1 = c1 := by omega
  have n4 : (1 : Int) ≤ (m : Int) := by omega
  have n4' : ((0 : Int) < (m : Int)) = True := by simp; omega
  have n4'' : (0 < m) = True := by simp; omega
  have n5 : (m : Int) ≤ (cb : Int) := by omega
  have eL : e1 = (b.drop 1).length := by rw [List.length_drop]; omega
  have hB0 := bat_keep hB ((unhide T0).bel)
  have k1 := hide (fun (_ : ¬ cb = 1) => unpack_at (a := some ⟨g, o + 1, none⟩) (g := g) (o := o + 1) (c := c1) _ eL (by omega) (by omega) (bat_from (p := 1) hB0))
  have k2 := hide (fun (_ : cb = 1) => unpack_at (a := some ⟨g, o, none⟩) (g := g) (o := o) (c := c1) ((w.alloc (.cells #[.int .i64 n', .slice a' m' c'] 30)).alloc (.cells #[.int .i64 0, .slice none 0 0] 30)) eL (by omega) (by omega) (bat_nil (by omega)))
  have EL := hide eL
  clear infoG hm hB hA eL hB0
  go_enter Try.func24, Try.ntmps24
  go_wp2_with fail
  with_reducible refine (unhide kY _).mono ?_
  rintro e w' ⟨rfl, hw⟩
  obtain rfl := hw.symm
  go_wp2_with fail
  · with_reducible refine (unhide k2 (by assumption)).mono ?_
    rintro e w1 ⟨⟨f0, gz, cz, hG, _⟩ | ⟨hno, rfl⟩, hb⟩
    · exfalso
      have h2 := good_len hG
      have := unhide EL
      omega
    · have NO : Hid (∀ n f, ¬ SliceB prev b n f) := fun n f h => by
        obtain ⟨_, ⟨f0, hg, _⟩, _⟩ := h
        exact hno f0 hg
      have B1 := hide ((unhide T0).bel.trans (hb.mono (unhide T0).bel.size))
      clear hb hno k1 k2 T0
      go_wp2_with fail
      with_reducible refine (unhide kN _).mono ?_
      rintro e w6 ⟨rfl, hw⟩
      obtain rfl := hw.symm
      go_wp2_with fail
      exact ⟨rfl, .inr ⟨unhide NO, rfl⟩, (unhide B1).alloc (unhide B1).size _⟩
  · with_reducible refine (unhide k1 (by assumption)).mono ?_
    rintro e w1 ⟨⟨f0, gz, cz, hG, rfl, hRz, hgz⟩ | ⟨hno, rfl⟩, hb⟩
    · obtain ⟨hn1, hn2⟩ := good_side hG
      have hbl : ∀ i, (b.drop 1).getD i 0 < 256 := fun i => by rw [getD_drop]; exact (unhide BB).lt _
      have BF0 := hide (good_bits hbl hG)
      have GG := hide hG
      obtain ⟨n, hn⟩ : ∃ n, n = side (b.drop 1) := ⟨_, rfl⟩
      rw [← hn] at hn1 hn2 BF0 hRz ⊢
      have BF : Hid (Bits n f0) := BF0
      have HN := hide hn
      have T1 := hide (two_keep (unhide T0) hb)
      have s1 := two_size (unhide T1)
      have ba : Below w1.heap.size w1 (w1.alloc (.cells #[.int .i64 (n : Nat), .slice (some ⟨gz, 0, none⟩) (n * n) cz] 30)) := (Below.refl _ _).alloc (Nat.le_refl _) _
      have T2 := hide (two_keep (unhide T1) ba)
      have BX2 : Hid ((w1.alloc (.cells #[.int .i64 (n : Nat), .slice (some ⟨gz, 0, none⟩) (n * n) cz] 30)).heap[w1.heap.size]? = some (.cells #[.int .i64 (n : Nat), .slice (some ⟨gz, 0, none⟩) (n * n) cz] 30 (0, 0))) := heap_alloc_new w1 _
      have R2 := hide (row_below hRz ba (row_lt hRz))
      have c0 : (w1.alloc (.cells #[.int .i64 (n : Nat), .slice (some ⟨gz, 0, none⟩) (n * n) cz] 30)).cell? ⟨g, o, none⟩ = some (.int .u8 (b.getD 0 0 : Nat)) := (bat_keep (unhide BB) (unhide T2).bel).cell 0 (by have := unhide HM; omega)
      have hgz' : w.heap.size + 1 < gz := by omega
      have hz := (unhide BB).lt 0
      obtain ⟨z, hzz⟩ : ∃ z, z = b.getD 0 0 := ⟨_, rfl⟩
      rw [← hzz] at c0 hz
      have HZ := hide hzz
      clear hG hbl BF0 hn hb ba hRz hgz hzz T0 T1 k1 k2
      by_cases hz1 : z = 1
      · have kX := hide (changeAny (g := gz) (c := cz) (n' := n') (m := m') (c' := c') (a := a') (prev := prev) hn1 hn2 (unhide BF) _ (unhide R2) (ahead_keep (unhide AX) (unhide T2).bel))
        unfold fieldV at kX
        obtain ⟨x00, x01, _, _⟩ := box2_cells (unhide BX2)
        obtain ⟨y00, y01, _, _⟩ := box2_cells (unhide T2).one
        subst hz1
        go_wp2_with fail
        with_reducible refine (unhide kY _).mono ?_
        rintro e w' ⟨rfl, hw⟩
        obtain rfl := hw.symm
        go_wp2_with fail
        with_reducible refine (unhide kX).mono ?_
        rintro e w3 ⟨⟨p, gy, cy, hprev, hbp, rfl, hRy, hgy⟩ | ⟨hno, rfl⟩, hb⟩
        · have hs2 : (w1.alloc (.cells #[.int .i64 (n : Nat), .slice (some ⟨gz, 0, none⟩) (n * n) cz] 30)).heap.size = w1.heap.size + 1 := World.size_alloc _ _
          have hx3 : w3.heap[w1.heap.size]? = some (.cells #[.int .i64 (n : Nat), .slice (some ⟨gz, 0, none⟩) (n * n) cz] 30 (0, 0)) := by rw [hb.block _ (by omega)]; exact unhide BX2
          obtain ⟨x30, x31, x32, x33⟩ := box2_cells hx3
          have T3 := hide (two_setX (v := .int .i64 (n : Nat)) (v' := .slice (some ⟨gy, 0, none⟩) (n * n) cy) (two_keep (unhide T2) hb) (X := w1.heap.size) (by omega))
          have BX3 := hide (two_heap hx3 (.int .i64 (n : Nat)) (.slice (some ⟨gy, 0, none⟩) (n * n) cy))
          have R3 : Hid (Row ((w3.setCell ⟨w1.heap.size, 0, none⟩ (.int .i64 (n : Nat))).setCell ⟨w1.heap.size, 1, none⟩ (.slice (some ⟨gy, 0, none⟩) (n * n) cy)) gy (n * n) (xorC f0 p)) := row_keep hRy (by
            rw [Below.heap_setCell _ _ _ _ (by show gy ≠ w1.heap.size; omega), Below.heap_setCell _ _ _ _ (by show gy ≠ w1.heap.size; omega)])
          have BF3 := hide (bits_xor (unhide BF) hbp)
          have RD : Hid (ReadB prev b n (xorC f0 p)) := ⟨f0, unhide GG, unhide HN, fun _ => ⟨p, hprev, fun _ _ => rfl⟩, fun h => absurd (unhide HZ).symm h⟩
          have hgy' : w.heap.size + 1 < gy := by omega
          clear hb hx3 hprev hbp hRy hgy kX x00 x01 y00 y01 T2 BX2 R2
          have kB := hide (progBody (g := gy) (c := cy) (n' := n') (m := m') (c' := c') (a := a') (prev := prev) hn1 hn2 (unhide BF3) ((w3.setCell ⟨w1.heap.size, 0, none⟩ (.int .i64 (n : Nat))).setCell ⟨w1.heap.size, 1, none⟩ (.slice (some ⟨gy, 0, none⟩) (n * n) cy)) (unhide R3) (ahead_keep (unhide AX) (unhide T3).bel))
          obtain ⟨x00, x01, _, _⟩ := box2_cells (unhide BX3)
          obtain ⟨y00, y01, _, _⟩ := box2_cells (unhide T3).one
          have hX : w1.heap.size < ((w3.setCell ⟨w1.heap.size, 0, none⟩ (.int .i64 (n : Nat))).setCell ⟨w1.heap.size, 1, none⟩ (.slice (some ⟨gy, 0, none⟩) (n * n) cy)).heap.size := (Array.getElem?_eq_some_iff.1 (unhide BX3)).1
          unfold fieldV at kB
          generalize hMM : n * n = M at *
          have HMM := hide hMM
          clear hMM
          go_wp2_with fail
          with_reducible refine (unhide kY _).mono ?_
          rintro e w' ⟨rfl, hw⟩
          obtain rfl := hw.symm
          go_wp2_with fail
          with_reducible refine (unhide kB).mono ?_
          rintro e w5 ⟨bs, g5, c5, rfl, hBI, h256, hl1, hl2, hO, hb⟩
          have T5 := hide (two_keep (unhide T3) hb)
          have BX5 : Hid (w5.heap[w1.heap.size]? = some (.cells #[.int .i64 (n : Nat), .slice (some ⟨gy, 0, none⟩) M cy] 30 (0, 0))) := by show _ = _; rw [hb.block _ hX]; exact unhide BX3
          have R5 := hide (row_below (unhide R3) hb (row_lt (unhide R3)))
          have BI := hide hBI
          have kE := hide (eq_at (c := c5) (c' := cb) (unhide HM) (bat_of_own hO h256) (bat_keep (unhide BB) (unhide T5).bel))
          clear hBI hO hb kB x00 x01 y00 y01 hX T3 BX3 R3
          go_wp2_with fail
          with_reducible refine (unhide kE).mono ?_
          rintro e w6 ⟨rfl, hw⟩
          obtain rfl := hw.symm
          clear kE
          by_cases hq : bs = b
          · have dq : decide (bs = b) = true := decide_eq_true hq
            rw [dq]
            have YES : Hid (SliceB prev b n (xorC f0 p)) := ⟨by have := unhide HM; omega, unhide RD, by rw [← hq]; exact unhide BI⟩
            clear dq hq
            obtain ⟨x00, x01, _, _⟩ := box2_cells (unhide BX5)
            obtain ⟨y00, y01, y02, y03⟩ := box2_cells (unhide T5).two
            go_wp2_with fail
            with_reducible refine (unhide kY _).mono ?_
            rintro e w6 ⟨rfl, hw⟩
            obtain rfl := hw.symm
            go_wp2_with fail
            obtain ⟨t1, t2, t3, t4⟩ := two_set (unhide T5).two (.int .i64 n) (.slice (some ⟨gy, 0, none⟩) M cy)
            refine bodyPost_ret (results_two (P := Try.prog) rfl _ _ (w.heap.size + 1) (.int .i64 n) (.slice (some ⟨gy, 0, none⟩) M cy) _ rfl t1 t2 Try.underlying30 rfl (unhide IG)) rfl ?_
            refine ⟨.inl ⟨n, (xorC f0 p), gy, cy, unhide YES, by rw [unhide HMM], ?_, by omega, hn1, hn2, unhide BF3⟩, ((unhide T5).bel.setCell (by show w.heap.size ≤ w.heap.size + 1; omega) _).setCell (by show w.heap.size ≤ w.heap.size + 1; omega) _⟩
            rw [unhide HMM]
            exact row_keep (unhide R5) (t3 gy (by omega))
          · have dq : decide (bs = b) = false := decide_eq_false hq
            rw [dq]
            have NO : Hid (∀ n f, ¬ SliceB prev b n f) := slice_no (unhide RD) (unhide BI) hq
            clear dq hq
            go_wp2_with fail
            with_reducible refine (unhide kN _).mono ?_
            rintro e w6 ⟨rfl, hw⟩
            obtain rfl := hw.symm
            go_wp2_with fail
            exact ⟨rfl, .inr ⟨unhide NO, rfl⟩, (unhide T5).bel⟩

        · have NO : Hid (∀ n f, ¬ SliceB prev b n f) := fun n1 f h => by
            obtain ⟨_, ⟨f1, _, hs, h1, _⟩, _⟩ := h
            obtain ⟨p, hp, _⟩ := h1 (unhide HZ).symm
            rw [← unhide HN] at hs
            subst hs
            exact hno p hp
          have hs2 : (w1.alloc (.cells #[.int .i64 (n : Nat), .slice (some ⟨gz, 0, none⟩) (n * n) cz] 30)).heap.size = w1.heap.size + 1 := World.size_alloc _ _
          have hx3 : w3.heap[w1.heap.size]? = some (.cells #[.int .i64 (n : Nat), .slice (some ⟨gz, 0, none⟩) (n * n) cz] 30 (0, 0)) := by rw [hb.block _ (by omega)]; exact unhide BX2
          obtain ⟨x30, x31, x32, x33⟩ := box2_cells hx3
          have T3 := hide (two_setX (v := .int .i64 0) (v' := .slice none 0 0) (two_keep (unhide T2) hb) (X := w1.heap.size) (by omega))
          clear hb hx3 hno kX x00 x01 y00 y01 T2 BX2 R2
          go_wp2_with fail
          with_reducible refine (unhide kN _).mono ?_
          rintro e w6 ⟨rfl, hw⟩
          obtain rfl := hw.symm
          go_wp2_with fail
          exact ⟨rfl, .inr ⟨unhide NO, rfl⟩, (unhide T3).bel⟩
      · have z1 : ((z : Int) = 1) = False := by simp; omega
        have z2 : (z = 1) = False := by simp; omega
        have z3 : ((z : Int) == 1) = false := by rw [beq_eq_false_iff_ne]; omega
        have RD : Hid (ReadB prev b n f0) := ⟨f0, unhide GG, unhide HN, fun h => absurd ((unhide HZ).trans h) hz1, fun _ _ _ => rfl⟩
        have kB := hide (progBody (g := gz) (c := cz) (n' := n') (m := m') (c' := c') (a := a') (prev := prev) hn1 hn2 (unhide BF) (w1.alloc (.cells #[.int .i64 (n : Nat), .slice (some ⟨gz, 0, none⟩) (n * n) cz] 30)) (unhide R2) (ahead_keep (unhide AX) (unhide T2).bel))
        obtain ⟨x00, x01, _, _⟩ := box2_cells (unhide BX2)
        obtain ⟨y00, y01, _, _⟩ := box2_cells (unhide T2).one
        have hX : w1.heap.size < (w1.alloc (.cells #[.int .i64 (n : Nat), .slice (some ⟨gz, 0, none⟩) (n * n) cz] 30)).heap.size := (Array.getElem?_eq_some_iff.1 (unhide BX2)).1
        unfold fieldV at kB
        generalize hMM : n * n = M at *
        have HMM := hide hMM
        clear hMM
        go_wp2_with fail
        with_reducible refine (unhide kY _).mono ?_
        rintro e w' ⟨rfl, hw⟩
        obtain rfl := hw.symm
        go_wp2_with fail
        with_reducible refine (unhide kB).mono ?_
        rintro e w5 ⟨bs, g5, c5, rfl, hBI, h256, hl1, hl2, hO, hb⟩
        have T5 := hide (two_keep (unhide T2) hb)
        have BX5 : Hid (w5.heap[w1.heap.size]? = some (.cells #[.int .i64 (n : Nat), .slice (some ⟨gz, 0, none⟩) M cz] 30 (0, 0))) := by show _ = _; rw [hb.block _ hX]; exact unhide BX2
        have R5 := hide (row_below (unhide R2) hb (row_lt (unhide R2)))
        have BI := hide hBI
        have kE := hide (eq_at (c := c5) (c' := cb) (unhide HM) (bat_of_own hO h256) (bat_keep (unhide BB) (unhide T5).bel))
        clear hBI hO hb kB x00 x01 y00 y01 hX T2 BX2 R2
        go_wp2_with fail
        with_reducible refine (unhide kE).mono ?_
        rintro e w6 ⟨rfl, hw⟩
        obtain rfl := hw.symm
        clear kE
        by_cases hq : bs = b
        · have dq : decide (bs = b) = true := decide_eq_true hq
          rw [dq]
          have YES : Hid (SliceB prev b n f0) := ⟨by have := unhide HM; omega, unhide RD, by rw [← hq]; exact unhide BI⟩
          clear dq hq
          obtain ⟨x00, x01, _, _⟩ := box2_cells (unhide BX5)
          obtain ⟨y00, y01, y02, y03⟩ := box2_cells (unhide T5).two
          go_wp2_with fail
          with_reducible refine (unhide kY _).mono ?_
          rintro e w6 ⟨rfl, hw⟩
          obtain rfl := hw.symm
          go_wp2_with fail
          obtain ⟨t1, t2, t3, t4⟩ := two_set (unhide T5).two (.int .i64 n) (.slice (some ⟨gz, 0, none⟩) M cz)
          refine bodyPost_ret (results_two (P := Try.prog) rfl _ _ (w.heap.size + 1) (.int .i64 n) (.slice (some ⟨gz, 0, none⟩) M cz) _ rfl t1 t2 Try.underlying30 rfl (unhide IG)) rfl ?_
          refine ⟨.inl ⟨n, f0, gz, cz, unhide YES, by rw [unhide HMM], ?_, by omega, hn1, hn2, unhide BF⟩, ((unhide T5).bel.setCell (by show w.heap.size ≤ w.heap.size + 1; omega) _).setCell (by show w.heap.size ≤ w.heap.size + 1; omega) _⟩
          rw [unhide HMM]
          exact row_keep (unhide R5) (t3 gz (by omega))
        · have dq : decide (bs = b) = false := decide_eq_false hq
          rw [dq]
          have NO : Hid (∀ n f, ¬ SliceB prev b n f) := slice_no (unhide RD) (unhide BI) hq
          clear dq hq
          go_wp2_with fail
          with_reducible refine (unhide kN _).mono ?_
          rintro e w6 ⟨rfl, hw⟩
          obtain rfl := hw.symm
          go_wp2_with fail
          exact ⟨rfl, .inr ⟨unhide NO, rfl⟩, (unhide T5).bel⟩

    · have NO : Hid (∀ n f, ¬ SliceB prev b n f) := fun n f h => by
        obtain ⟨_, ⟨f0, hg, _⟩, _⟩ := h
        exact hno f0 hg
      have B1 := hide ((unhide T0).bel.trans (hb.mono (unhide T0).bel.size))
      clear hb hno k1 k2 T0
      go_wp2_with fail
      with_reducible refine (unhide kN _).mono ?_
      rintro e w6 ⟨rfl, hw⟩
      obtain rfl := hw.symm
      go_wp2_with fail
      exact ⟨rfl, .inr ⟨unhide NO, rfl⟩, (unhide B1).alloc (unhide B1).size _⟩

theorem progRead {ab : Option Addr} {g o cb m n' m' c' : Nat} {b : List Nat} {a' : Option Addr} {prev : Option Sli} (hm : m = b.length) (hc : m ≤ cb) (hbig : m ≤ 140737488355328) (w : World) (hB : BAt w ab g o b) (hA : AheadAt w n' a' m' c' prev) :
    Calls Try.prog 24 #[.slice ab m cb, .agg #[.int .i64 (n' : Nat), .slice a' m' c']] w (ReadP prev b w) := by
  rcases Nat.eq_zero_or_pos m with h | h
  · exact readFirst hm h w
  · exact readRest hm h hc hbig w hB hA
end Go.Proofs.Ytpmbgjoilfdkaaa
