/- The library's heap: one more place; one less. -/
import Derived.Test.YtgbkfmjkemkajaaPH2
import Derived.Test.YtgbkfmjkemkajaaM8
namespace Go.Proofs.Ytgbkfmjkemkajaa
open Go.RowKit

@[go_sem] theorem asPlace (v : Value) (w : World) : (Instr.typeAssert (.iface 81 v) 20 81 false).run Try.prog w = .ok v w := by kernel_rfl

theorem HeapAt.lt {w : World} {B : Nat} {c : Nat → Value} {v : Value} {m : Nat} {f : Nat → Nat × Nat} (h : HeapAt w B c v m f) : B < w.heap.size := (Array.getElem?_eq_some_iff.1 h.st).1

theorem own_slice {w : World} {base : Nat} {e : TypeId} {s : Nat} {v : Value} {m : Nat} {xs : List Value} (h : w.ownsRow base e s v (m + 1) xs) : ∃ q cap, v = .slice (some ⟨q, 0, none⟩) (m + 1) cap := by
  rcases h.2 with ⟨_, h⟩ | ⟨q, cap, cur, rfl, _⟩
  · omega
  · exact ⟨q, cap, rfl⟩
set_option maxHeartbeats 1600000 in
theorem qLen {a : Option Addr} {m cap : Nat} (w : World) : Calls Try.prog 43 #[.slice a m cap] w fun e w' => e = .returned (.int .i64 m) ∧ Below w.heap.size w w' := by
  go_enter Try.func43, Try.ntmps43
  go_wp2_with fail
  go_ret
  exact ⟨rfl, Below.refl _ _⟩

/-- The list is one shorter. -/
theorem HeapAt.cut {w : World} {B : Nat} {c : Nat → Value} {q m cap : Nat} {f : Nat → Nat × Nat} (h : HeapAt w B c (.slice (some ⟨q, 0, none⟩) (m + 1) cap) (m + 1) f) :
    HeapAt (w.setCell ⟨B, 5, none⟩ (.slice (some ⟨q, 0, none⟩) m cap)) B c (.slice (some ⟨q, 0, none⟩) m cap) m f ∧ HTurn w (w.setCell ⟨B, 5, none⟩ (.slice (some ⟨q, 0, none⟩) m cap)) B (.slice (some ⟨q, 0, none⟩) (m + 1) cap) (.slice (some ⟨q, 0, none⟩) m cap) := by
  obtain ⟨cur, h1, ⟨h2, h3, h4⟩, h5⟩ := h.row.1
  have hne : q ≠ B := fun e => h.ne (by rw [e]; rfl)
  exact ⟨⟨HeapAt.store h.st, Or.inr ⟨q, cap, rfl, cur, (Below.heap_setCell _ _ _ _ hne).trans h1, ⟨h2, by omega, h4⟩, fun i hi => h5 i (by omega)⟩, h.ne⟩, ⟨(Aside.refl _ w).setCell (fun hg => hg.2.1 rfl) _, Or.inl rfl⟩⟩

set_option maxRecDepth 100000 in
set_option maxHeartbeats 1600000 in
theorem qPop {B m : Nat} {c : Nat → Value} {v : Value} {f : Nat → Nat × Nat} (hm : m < 1000000) (w : World) (h : HeapAt w B c v (m + 1) f) :
    Calls Try.prog 110 #[.pointer (some ⟨B, 5, none⟩)] w fun e w' => e = .returned (.iface 81 (.agg #[.int .i64 ((f m).1 : Nat), .int .i64 ((f m).2 : Nat)])) ∧ ∃ v', HeapAt w' B c v' m f ∧ HTurn w w' B v v' := by
  rcases h.qv with ⟨_, hm0⟩ | ⟨q, cap, rfl, hq⟩
  · omega
  have H := hide h
  obtain ⟨d1, d2⟩ := prow_at h.row.1 (i := m) (by omega)
  have c5 := h.cell
  have hlt := h.lt
  have hcap : m + 1 ≤ cap := by
    obtain ⟨cur, h1, ⟨h2, h3, h4⟩, h5⟩ := h.row.1
    exact h3
  have z1 : IntKind.i64.wrap (((m + 1 : Nat) : Int) - 1) = (m : Int) := by rw [IntKind.wrap_i64]; omega
  have q1 : ((m : Int) < ((m + 1 : Nat) : Int)) = True := by simp; omega
  have q2 : ((m : Int) ≤ (cap : Int)) = True := by simp; omega
  have y2 := hide ((Below.refl w.heap.size w).alloc (Nat.le_refl _) (.cells #[.int .i64 ((f m).1 : Nat), .int .i64 ((f m).2 : Nat)] 81))
  have H2 := hide ((unhide H).below (unhide y2))
  have c5' := (unhide H2).cell
  have f5' := (unhide H2).frozen
  clear hq h
  generalize (f m).1 = x1 at *
  generalize (f m).2 = x2 at *
  go_enter Try.func110, Try.ntmps110
  go_wp2_with fail
  go_ret
  obtain ⟨a1, a2⟩ := (unhide H).cut
  have b1 := (Below.refl _ (w.setCell ⟨B, 5, none⟩ (.slice (some ⟨q, 0, none⟩) m cap))).alloc (Nat.le_refl _) (.cells #[.int .i64 (x1 : Nat), .int .i64 (x2 : Nat)] 81)
  exact ⟨rfl, _, a1.below b1, a2.trans (HTurn.of_below b1)⟩

theorem new_two (w : World) (a b : Value) (t : TypeId) : ∀ j u, [a, b][j]? = some u → (w.alloc (.cells #[a, b] t)).cell? ((⟨w.heap.size, 0, none⟩ : Addr).add j) = some u := by
  intro j u hu
  rw [addr_add, cell_of_row _ _ j _ _ (0, 0) (heap_alloc_new w (.cells #[a, b] t))]
  simpa using hu

theorem HeapAt.push {w w1 w' : World} {B : Nat} {c : Nat → Value} {v v' : Value} {m : Nat} {f : Nat → Nat × Nat} {x : Nat × Nat} (h : HeapAt w B c v m f) (h1 : Below w.heap.size w w1) (hown : w'.ownsRow 0 81 2 v' (m + 1) (plXs f m ++ [.int .i64 (x.1 : Nat), .int .i64 (x.2 : Nat)])) (hg : w1.grownBy w' v.ownBlock) (hat : v'.ownBlock = v.ownBlock ∨ v'.ownBlock = some w1.heap.size) :
    (w'.cell? ⟨B, 5, none⟩ = some v ∧ w'.frozen? ⟨B, 5, none⟩ = false) ∧ HeapAt (w'.setCell ⟨B, 5, none⟩ v') B c v' (m + 1) (putF f m x) ∧ HTurn w (w'.setCell ⟨B, 5, none⟩ v') B v v' := by
  have hB := h.lt
  have e : w'.heap[B]? = w.heap[B]? := (hg.block B (Nat.lt_of_lt_of_le hB h1.size) (fun c => h.ne c.symm)).trans (h1.block B hB)
  have st := e.trans h.st
  have hne : v'.ownBlock ≠ some B := by
    rcases hat with ha | ha
    · rw [ha]; exact h.ne
    · rw [ha]
      intro c
      have c : w1.heap.size = B := by simpa using c
      have := h1.size
      omega
  refine ⟨⟨cell_of_row w' B 5 _ _ (0, 0) st, frozen_of_row w' B 5 _ _ st⟩, ⟨HeapAt.store st, (qv_of (f := putF f m x) hown QV.put.symm).keep fun q hq => Below.heap_setCell _ _ _ _ (fun c => hne (by rw [hq, c])), hne⟩, ?_, ?_⟩
  · refine Aside.setCell ?_ (fun hg => hg.2.1 rfl) _
    exact ⟨hg.os.trans h1.os, hg.tape.trans h1.tape, hg.output.trans h1.output, Nat.le_trans h1.size hg.size, fun g hs => (hg.block g (Nat.lt_of_lt_of_le hs.1 h1.size) (fun c => hs.2.2 c.symm)).trans (h1.block g hs.1)⟩
  · rcases hat with ha | ha
    · exact Or.inl ha
    · exact Or.inr ⟨_, ha, h1.size⟩

set_option maxRecDepth 100000 in
set_option maxHeartbeats 1600000 in
theorem qPush {B m : Nat} {c : Nat → Value} {v : Value} {f : Nat → Nat × Nat} (x : Nat × Nat) (hm : m < 1000000) (w : World) (h : HeapAt w B c v m f) :
    Calls Try.prog 111 #[.pointer (some ⟨B, 5, none⟩), .iface 81 (.agg #[.int .i64 (x.1 : Nat), .int .i64 (x.2 : Nat)])] w fun e w' => (∃ u, e = .returned u) ∧ ∃ v', HeapAt w' B c v' (m + 1) (putF f m x) ∧ HTurn w w' B v v' := by
  have H := hide h
  have c5 := h.cell
  clear h
  obtain ⟨x1, x2⟩ := x
  dsimp only at *
  obtain ⟨i0, hi0, hz0, hz1, hz2⟩ := info_parts infoPlace
  have y1 := hide (((Below.refl w.heap.size w).drew).alloc (Nat.le_refl _) (.cells #[.int .i64 (x1 : Nat), .int .i64 (x2 : Nat)] 81))
  have H1 := hide ((unhide H).below (unhide y1))
  have c5' : (w.alloc (.cells #[.int .i64 (x1 : Nat), .int .i64 (x2 : Nat)] 81)).cell? ⟨B, 5, none⟩ = some v := (unhide H1).cell
  have hnw := hide (new_two w.drew (.int .i64 (x1 : Nat)) (.int .i64 (x2 : Nat)) 81)
  have h1c : Hid (∀ u ∈ [Value.int .i64 (x1 : Nat), Value.int .i64 (x2 : Nat)], u.oneCell' = true) := fun u hu => by
    simp at hu
    rcases hu with rfl | rfl <;> rfl
  go_enter Try.func111, Try.ntmps111
  go_wp2_with fail
  go_region_law (refine step_append_at rfl (.tmp 7) (.tmp 10) 56 rfl 0 81 i0 (.agg #[.int .i64 0, .int .i64 0]) 2 16 Try.underlying56 hi0 hz0 hz1 hz2 rfl (by decide) v m (plXs f m) rfl (unhide H1).qv.own ⟨w.heap.size, 0, none⟩ 1 1 [.int .i64 (x1 : Nat), .int .i64 (x2 : Nat)] rfl rfl (unhide hnw) (unhide h1c) (by unfold maxLen; omega) (by omega) (Nat.zero_le _) ?_
                 intro v' w9 hown' hgrow hat
                 obtain ⟨q', cap', rfl⟩ := own_slice hown'
                 obtain ⟨⟨c9, f9⟩, H9, T9⟩ := (unhide H).push (x := (x1, x2)) (unhide y1) hown' hgrow hat
                 have HH := hide H9
                 have TT := hide T9
                 clear hown' hgrow hat H9 T9)
  all_goals go_end0
  all_goals exact ⟨⟨_, rfl⟩, _, unhide HH, unhide TT⟩

set_option maxRecDepth 100000 in
set_option maxHeartbeats 1600000 in
theorem heapPush {B m : Nat} {c : Nat → Value} {v : Value} {f : Nat → Nat × Nat} (x : Nat × Nat) (hm : m < 1000000) (w : World) (h : HeapAt w B c v m f) :
    Calls Try.prog 70 #[.iface 98 (.pointer (some ⟨B, 5, none⟩)), .iface 81 (.agg #[.int .i64 (x.1 : Nat), .int .i64 (x.2 : Nat)])] w fun e w' => (∃ u, e = .returned u) ∧ ∃ v' f', HeapAt w' B c v' (m + 1) f' ∧ (∀ y, InQ f' (m + 1) y ↔ y = x ∨ InQ f m y) ∧ HTurn w w' B v v' := by
  have k1 := hide (qPush x hm w h)
  have fP := fun n => findPush (w := w) (.pointer (some ⟨B, 5, none⟩)) n
  clear h
  go_enter Try.func70, Try.ntmps70
  go_wp2_with fail
  refine (unhide k1).mono ?_
  rintro e w1 ⟨⟨_, rfl⟩, v1, h1, t1⟩
  have H1 := hide h1
  have T1 := hide t1
  have fL := fun n => findLen h1.cell n
  rcases h1.qv with ⟨_, hm0⟩ | ⟨q, cap, rfl, hq⟩
  · omega
  have z1 : IntKind.i64.wrap (((m + 1 : Nat) : Int) - 1) = (m : Int) := by rw [IntKind.wrap_i64]; omega
  clear h1 t1 k1 fP hq
  go_wp2_with fail
  refine (qLen w1).mono ?_
  rintro e w1' ⟨rfl, hb1⟩
  have T1 := hide ((unhide T1).trans (HTurn.of_below hb1))
  have k2 := hide (heapUp (j := m) (by omega) (by omega) w1' ((unhide H1).below hb1))
  clear hb1
  go_wp2_with fail
  refine (unhide k2).mono ?_
  rintro e w2 ⟨⟨_, rfl⟩, f2, h2, i2, t2⟩
  have HH := hide h2
  have TT := hide ((unhide T1).trans t2)
  have I2 := hide i2
  clear h2 t2 i2
  go_wp2_with fail
  go_end0
  exact ⟨⟨_, rfl⟩, _, f2, unhide HH, fun y => (unhide I2 y).trans inQ_put, unhide TT⟩

set_option maxRecDepth 100000 in
set_option maxHeartbeats 1600000 in
theorem heapPop {B m : Nat} {c : Nat → Value} {v : Value} {f : Nat → Nat × Nat} (hm : m < 1000000) (w : World) (h : HeapAt w B c v (m + 1) f) :
    Calls Try.prog 44 #[.iface 98 (.pointer (some ⟨B, 5, none⟩))] w fun e w' => ∃ x, e = .returned (.iface 81 (.agg #[.int .i64 (x.1 : Nat), .int .i64 (x.2 : Nat)])) ∧ InQ f (m + 1) x ∧ ∃ v' f', HeapAt w' B c v' m f' ∧ ((∀ y, InQ f (m + 1) y → y = x ∨ InQ f' m y) ∧ (∀ y, InQ f' m y → InQ f (m + 1) y)) ∧ HTurn w w' B v v' := by
  rcases h.qv with ⟨_, hm0⟩ | ⟨q, cap, rfl, hq⟩
  · omega
  have H := hide h
  have fL := fun n => findLen h.cell n
  have z1 : IntKind.i64.wrap (((m + 1 : Nat) : Int) - 1) = (m : Int) := by rw [IntKind.wrap_i64]; omega
  clear h hq
  go_enter Try.func44, Try.ntmps44
  go_wp2_with fail
  refine (qLen w).mono ?_
  rintro e w0 ⟨rfl, hb0⟩
  have T0 := hide (HTurn.of_below (B := B) (v := .slice (some ⟨q, 0, none⟩) (m + 1) cap) hb0)
  have H := hide ((unhide H).below hb0)
  have fS := fun n => findSwap (unhide H).cell n
  have k1 := hide (qSwap (cap := cap) (i := 0) (j := m) (by omega) (by omega) w0 (unhide H).row.1)
  clear hb0
  go_wp2_with fail
  refine (unhide k1).mono ?_
  rintro e w1 ⟨⟨_, rfl⟩, hr1, ha1⟩
  obtain ⟨h1, t1⟩ := (unhide H).swap hr1 ha1
  have T1 := hide ((unhide T0).trans t1)
  have k2 := hide (heapDown (n := m) (by omega) (by omega) w1 h1)
  clear H fL fS k1 hr1 ha1 h1 t1
  go_wp2_with fail
  refine (unhide k2).mono ?_
  rintro e w2 ⟨⟨_, rfl⟩, f2, h2, ⟨i2, j2⟩, t2⟩
  have T2 := hide ((unhide T1).trans t2)
  have I2 := hide i2
  have J2 := hide (j2 m (Nat.le_refl _))
  have fP := fun n => findPop (w := w2) (.pointer (some ⟨B, 5, none⟩)) n
  have k3 := hide (qPop (by omega) w2 h2)
  clear T1 k2 h2 i2 j2 t2
  go_wp2_with fail
  refine (unhide k3).mono ?_
  rintro e w3 ⟨rfl, v3, h3, t3⟩
  have H3 := hide h3
  have T3 := hide ((unhide T2).trans t3)
  clear h3 t3 fP k3 T2
  go_wp2_with fail
  go_ret
  have ex : f2 m = f 0 := by
    rw [unhide J2]
    unfold swapF
    by_cases e : m = 0
    · subst e; rfl
    · rw [if_neg e, if_pos rfl]
  refine ⟨f2 m, rfl, ⟨0, by omega, ex.symm⟩, v3, f2, unhide H3, ⟨fun y hy => ?_, fun y hy => ?_⟩, unhide T3⟩
  · have hy := (inQ_swap (i := 0) (j := m) (by omega) (by omega) y).2 hy
    rcases inQ_less hy with e | hy
    · exact Or.inl (e.trans (unhide J2).symm)
    · exact Or.inr ((unhide I2 y).2 hy)
  · exact (inQ_swap (i := 0) (j := m) (by omega) (by omega) y).1 (inQ_more ((unhide I2 y).1 hy))
end Go.Proofs.Ytgbkfmjkemkajaa
