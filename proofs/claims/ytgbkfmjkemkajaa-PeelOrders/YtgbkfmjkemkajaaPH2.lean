/- The library's heap: one more place; one less. -/
import Derived.Test.YtgbkfmjkemkajaaM7
namespace Go.Proofs.Ytgbkfmjkemkajaa
open Go.RowKit

theorem infoPlace : (Try.prog.info? 81).map (fun i => (i.zero, i.size, i.bytes)) = some (some (.agg #[.int .i64 0, .int .i64 0]), 2, 16) := by kernel_rfl

theorem HeapAt.row {w : World} {B : Nat} {c : Nat → Value} {q m cap k : Nat} {f : Nat → Nat × Nat} (h : HeapAt w B c (.slice (some ⟨q, 0, none⟩) k cap) m f) : PRow w q m cap f ∧ k = m := by
  rcases h.qv with ⟨h, _⟩ | ⟨q', cap', h, hr⟩
  · cases h
  · simp only [Value.slice.injEq, Option.some.injEq, Addr.mk.injEq, and_true] at h
    obtain ⟨rfl, rfl, rfl⟩ := h
    exact ⟨hr, rfl⟩
theorem HeapAt.swap {w w' : World} {B : Nat} {c : Nat → Value} {q m cap : Nat} {f f' : Nat → Nat × Nat} (h : HeapAt w B c (.slice (some ⟨q, 0, none⟩) m cap) m f) (hr : PRow w' q m cap f') (ha : Aside (fun g => g < w.heap.size ∧ g ≠ q) w w') :
    HeapAt w' B c (.slice (some ⟨q, 0, none⟩) m cap) m f' ∧ HTurn w w' B (.slice (some ⟨q, 0, none⟩) m cap) (.slice (some ⟨q, 0, none⟩) m cap) :=
  ⟨⟨(ha.block B ⟨(Array.getElem?_eq_some_iff.1 h.st).1, fun e => h.ne (by rw [e]; rfl)⟩).trans h.st, Or.inr ⟨q, cap, rfl, hr⟩, h.ne⟩,
    ⟨ha.mono fun g hg => ⟨hg.1, fun e => hg.2.2 (by rw [e]; rfl)⟩, Or.inl rfl⟩⟩

set_option maxRecDepth 100000 in
set_option maxHeartbeats 1600000 in
theorem heapUp {B m j : Nat} {c : Nat → Value} {v : Value} {f : Nat → Nat × Nat} (hj : j < m) (hm : m ≤ 1000000) (w : World) (h : HeapAt w B c v m f) :
    Calls Try.prog 86 #[.iface 98 (.pointer (some ⟨B, 5, none⟩)), .int .i64 j] w fun e w' => (∃ v, e = .returned v) ∧ ∃ f', HeapAt w' B c v m f' ∧ (∀ x, InQ f' m x ↔ InQ f m x) ∧ HTurn w w' B v v := by
  rcases h.qv with ⟨_, hm0⟩ | ⟨q, cap, rfl, hq⟩
  · omega
  have H := hide h
  clear hq h
  go_enter Try.func86, Try.ntmps86
  go_wp2_with fail
  go_loopw [1] (fun jv wr => ∃ (j : Nat) (f' : Nat → Nat × Nat), j < m ∧ jv = .int .i64 j ∧ Hid (HeapAt wr B c (.slice (some ⟨q, 0, none⟩) m cap) m f') ∧ Hid (∀ x, InQ f' m x ↔ InQ f m x) ∧ Hid (HTurn w wr B (.slice (some ⟨q, 0, none⟩) m cap) (.slice (some ⟨q, 0, none⟩) m cap))) (fun jv _ => (intOf jv).toNat)
  case atStart => exact ⟨j, f, hj, rfl, H, fun _ => Iff.rfl, HTurn.of_below (Below.refl _ _)⟩
  case round =>
    clear H hj j
    obtain ⟨j, f', hj, rfl, hH, hI, hT⟩ := hrel
    by_cases hz : j = 0
    · subst hz
      go_wp2_with fail
      go_end0
      exact ⟨⟨_, rfl⟩, f', unhide hH, unhide hI, unhide hT⟩
    · obtain ⟨i, hi⟩ : ∃ i, (j - 1) / 2 = i := ⟨_, rfl⟩
      have hij : i < j := by omega
      have z1 : IntKind.i64.wrap ((j : Int) - 1) = ((j - 1 : Nat) : Int) := by rw [IntKind.wrap_i64]; omega
      have z2 : ((j - 1 : Nat) : Int).tdiv 2 = (i : Int) := by rw [Int.tdiv_eq_ediv_of_nonneg (by omega)]; omega
      have z3 : IntKind.i64.wrap (i : Int) = (i : Int) := by rw [IntKind.wrap_i64]; omega
      have z4 : ((i : Int) == (j : Int)) = false := by simp; omega
      have fL := fun n => findLess (unhide hH).cell n
      have kL := hide (qLess (cap := cap) (i := j) (j := i) hj (by omega) wr (unhide hH).row.1)
      go_wp2_with fail
      refine (unhide kL).mono ?_
      rintro e w1 ⟨⟨b, rfl⟩, hb1⟩
      have H1 := hide ((unhide hH).below hb1)
      have T1 := hide ((unhide hT).trans (HTurn.of_below hb1))
      clear hH hT fL hb1 kL
      cases b
      · go_wp2_with fail
        go_end0
        exact ⟨⟨_, rfl⟩, f', unhide H1, unhide hI, unhide T1⟩
      · have fS := fun n => findSwap (unhide H1).cell n
        have kS := hide (qSwap (cap := cap) (i := i) (j := j) (by omega) hj w1 (unhide H1).row.1)
        go_wp2_with fail
        refine (unhide kS).mono ?_
        rintro e w2 ⟨⟨_, rfl⟩, hr2, ha2⟩
        obtain ⟨h2, t2⟩ := (unhide H1).swap hr2 ha2
        have H2 := hide h2
        have T2 := hide ((unhide T1).trans t2)
        have I2 : Hid (∀ x, InQ (swapF f' i j) m x ↔ InQ f m x) := fun x => (inQ_swap (by omega) hj x).trans (unhide hI x)
        clear H1 T1 hI fS kS hr2 ha2 h2 t2
        go_wp2_with fail
        exact ⟨⟨i, swapF f' i j, by omega, rfl, H2, I2, T2⟩, by simp [intOf]; omega⟩

theorem inQ_lt {f f' : Nat → Nat × Nat} {n : Nat} (h : ∀ i, i < n → f' i = f i) (x : Nat × Nat) : InQ f' n x ↔ InQ f n x := by
  constructor
  · rintro ⟨i, hi, rfl⟩; exact ⟨i, hi, (h i hi).symm⟩
  · rintro ⟨i, hi, rfl⟩; exact ⟨i, hi, h i hi⟩

set_option maxRecDepth 100000 in
set_option maxHeartbeats 3200000 in
theorem heapDown {B m n : Nat} {c : Nat → Value} {v : Value} {f : Nat → Nat × Nat} (hn : n < m) (hm : m ≤ 1000000) (w : World) (h : HeapAt w B c v m f) :
    Calls Try.prog 71 #[.iface 98 (.pointer (some ⟨B, 5, none⟩)), .int .i64 0, .int .i64 n] w fun e w' => (∃ v, e = .returned v) ∧ ∃ f', HeapAt w' B c v m f' ∧ ((∀ x, InQ f' n x ↔ InQ f n x) ∧ ∀ k, n ≤ k → f' k = f k) ∧ HTurn w w' B v v := by
  rcases h.qv with ⟨_, hm0⟩ | ⟨q, cap, rfl, hq⟩
  · omega
  have H := hide h
  clear hq h
  go_enter Try.func71, Try.ntmps71
  go_wp2_with fail
  go_loopw [7] (fun iv wr => ∃ (i : Nat) (f' : Nat → Nat × Nat), i ≤ n ∧ iv = .int .i64 i ∧ Hid (HeapAt wr B c (.slice (some ⟨q, 0, none⟩) m cap) m f') ∧ Hid ((∀ x, InQ f' n x ↔ InQ f n x) ∧ ∀ k, n ≤ k → f' k = f k) ∧ Hid (HTurn w wr B (.slice (some ⟨q, 0, none⟩) m cap) (.slice (some ⟨q, 0, none⟩) m cap))) (fun iv _ => n - (intOf iv).toNat)
  case atStart => exact ⟨0, f, Nat.zero_le _, rfl, H, ⟨fun _ => Iff.rfl, fun _ _ => rfl⟩, HTurn.of_below (Below.refl _ _)⟩
  case round =>
    clear H
    obtain ⟨i, f', hi, rfl, hH, hI, hT⟩ := hrel
    have z1 : IntKind.i64.wrap (2 * (i : Int)) = ((2 * i : Nat) : Int) := by rw [IntKind.wrap_i64]; omega
    have z2 : IntKind.i64.wrap (((2 * i : Nat) : Int) + 1) = ((2 * i + 1 : Nat) : Int) := by rw [IntKind.wrap_i64]; omega
    have z3 : IntKind.i64.wrap (((2 * i + 1 : Nat) : Int) + 1) = ((2 * i + 2 : Nat) : Int) := by rw [IntKind.wrap_i64]; omega
    obtain ⟨j1, hj1⟩ : ∃ j1, 2 * i + 1 = j1 := ⟨_, rfl⟩
    obtain ⟨j2, hj2⟩ : ∃ j2, 2 * i + 2 = j2 := ⟨_, rfl⟩
    rw [hj1] at z2 z3
    rw [hj2] at z3
    have o1 : i < j1 := by omega
    have o2 : i < j2 := by omega
    generalize 2 * i = d at z1 z2 hj1 hj2
    by_cases c1 : n ≤ j1
    · have q1 : ((n : Int) ≤ (j1 : Int)) = True := by simp; omega
      go_wp2_with fail
      go_ret
      exact ⟨⟨_, rfl⟩, f', unhide hH, unhide hI, unhide hT⟩
    · have q1 : ((n : Int) ≤ (j1 : Int)) = False := by simp; omega
      have q2 : ((j1 : Int) < 0) = False := by simp
      have hI' : Hid (∀ (a b : Nat), a < n → b < n → ((∀ x, InQ (swapF f' a b) n x ↔ InQ f n x) ∧ ∀ k, n ≤ k → swapF f' a b k = f k)) := fun a b ha hb =>
        ⟨fun x => (inQ_swap ha hb x).trans ((unhide hI).1 x), fun k hk => (swapF_out (by omega) (by omega)).trans ((unhide hI).2 k hk)⟩
      have fL := fun n => findLess (unhide hH).cell n
      have kL := hide (fun (a b : Nat) (ha : a < m) (hb : b < m) (W : World) (hW : HeapAt W B c (.slice (some ⟨q, 0, none⟩) m cap) m f') => qLess (cap := cap) (i := a) (j := b) ha hb W hW.row.1)
      have kS := hide (fun (a b : Nat) (ha : a < m) (hb : b < m) (W : World) (hW : HeapAt W B c (.slice (some ⟨q, 0, none⟩) m cap) m f') => qSwap (cap := cap) (i := a) (j := b) ha hb W hW.row.1)
      by_cases c2 : j2 < n
      · have q3 : ((j2 : Int) < (n : Int)) = True := by simp; omega
        go_wp2_with fail
        refine (unhide kL j2 j1 (by omega) (by omega) wr (unhide hH)).mono ?_
        rintro e w1 ⟨⟨b, rfl⟩, hb1⟩
        have H1 := hide ((unhide hH).below hb1)
        have T1 := hide ((unhide hT).trans (HTurn.of_below hb1))
        clear hH hT fL hb1
        have fL := fun n => findLess (unhide H1).cell n
        cases b
        all_goals go_wp2_with fail
        · refine (unhide kL j1 i (by omega) (by omega) w1 (unhide H1)).mono ?_
          rintro e w2 ⟨⟨b, rfl⟩, hb2⟩
          have H2 := hide ((unhide H1).below hb2)
          have T2 := hide ((unhide T1).trans (HTurn.of_below hb2))
          clear H1 T1 fL hb2
          cases b
          · go_wp2_with fail
            go_ret
            exact ⟨⟨_, rfl⟩, f', unhide H2, unhide hI, unhide T2⟩
          · have fS := fun n => findSwap (unhide H2).cell n
            go_wp2_with fail
            refine (unhide kS i j1 (by omega) (by omega) w2 (unhide H2)).mono ?_
            rintro e w3 ⟨⟨_, rfl⟩, hr3, ha3⟩
            obtain ⟨h3, t3⟩ := (unhide H2).swap hr3 ha3
            have H3 := hide h3
            have T3 := hide ((unhide T2).trans t3)
            clear H2 T2 fS hr3 ha3 h3 t3
            go_wp2_with fail
            exact ⟨⟨j1, swapF f' i j1, by omega, rfl, H3, unhide hI' i j1 (by omega) (by omega), T3⟩, by simp [intOf]; omega⟩
        · refine (unhide kL j2 i (by omega) (by omega) w1 (unhide H1)).mono ?_
          rintro e w2 ⟨⟨b, rfl⟩, hb2⟩
          have H2 := hide ((unhide H1).below hb2)
          have T2 := hide ((unhide T1).trans (HTurn.of_below hb2))
          clear H1 T1 fL hb2
          cases b
          · go_wp2_with fail
            go_ret
            exact ⟨⟨_, rfl⟩, f', unhide H2, unhide hI, unhide T2⟩
          · have fS := fun n => findSwap (unhide H2).cell n
            go_wp2_with fail
            refine (unhide kS i j2 (by omega) (by omega) w2 (unhide H2)).mono ?_
            rintro e w3 ⟨⟨_, rfl⟩, hr3, ha3⟩
            obtain ⟨h3, t3⟩ := (unhide H2).swap hr3 ha3
            have H3 := hide h3
            have T3 := hide ((unhide T2).trans t3)
            clear H2 T2 fS hr3 ha3 h3 t3
            go_wp2_with fail
            exact ⟨⟨j2, swapF f' i j2, by omega, rfl, H3, unhide hI' i j2 (by omega) (by omega), T3⟩, by simp [intOf]; omega⟩
      · have q3 : ((j2 : Int) < (n : Int)) = False := by simp; omega
        go_wp2_with fail
        refine (unhide kL j1 i (by omega) (by omega) wr (unhide hH)).mono ?_
        rintro e w2 ⟨⟨b, rfl⟩, hb2⟩
        have H2 := hide ((unhide hH).below hb2)
        have T2 := hide ((unhide hT).trans (HTurn.of_below hb2))
        clear hH hT fL hb2
        cases b
        · go_wp2_with fail
          go_ret
          exact ⟨⟨_, rfl⟩, f', unhide H2, unhide hI, unhide T2⟩
        · have fS := fun n => findSwap (unhide H2).cell n
          go_wp2_with fail
          refine (unhide kS i j1 (by omega) (by omega) w2 (unhide H2)).mono ?_
          rintro e w3 ⟨⟨_, rfl⟩, hr3, ha3⟩
          obtain ⟨h3, t3⟩ := (unhide H2).swap hr3 ha3
          have H3 := hide h3
          have T3 := hide ((unhide T2).trans t3)
          clear H2 T2 fS hr3 ha3 h3 t3
          go_wp2_with fail
          exact ⟨⟨j1, swapF f' i j1, by omega, rfl, H3, unhide hI' i j1 (by omega) (by omega), T3⟩, by simp [intOf]; omega⟩
end Go.Proofs.Ytgbkfmjkemkajaa
