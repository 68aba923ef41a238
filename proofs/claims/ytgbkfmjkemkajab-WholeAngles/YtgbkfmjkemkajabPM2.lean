/- The landed peeling: a line's numbers; a line that has come to one. -/
import Derived.Test.YtgbkfmjkemkajabPM1
namespace Go.Proofs.Ytgbkfmjkemkajab
open Go.RowKit

theorem belowN (B : Nat) (W : World) (k : Nat) : Below B W (W.drewN k) := ⟨rfl, rfl, rfl, Nat.le_refl _, fun _ _ => rfl⟩
theorem asideN (S : Nat → Prop) (W : World) (k : Nat) : Aside S W (W.drewN k) := ⟨rfl, rfl, rfl, Nat.le_refl _, fun _ _ => rfl⟩

section
variable {S : Nat → Prop} {w : World} {n : Nat} {L : List (Int × Int)} {a : Option Addr} {cap g o : Nat} {V : PV} {bo : Nat → Bool} {bk : Nat → Nat → Bool} {v : Value} {m : Nat} {f : Nat → Nat × Nat}

set_option maxRecDepth 100000 in
set_option maxHeartbeats 1600000 in
theorem peelCount {k j : Nat} {many sum : Int} {b' : Nat → Bool} (hk : k < L.length) (hj : j < binN n (dk L k))
    (hs : ∀ i : Nat, i ≠ j → cntL n (dk L k) b' (i : Int) = cntL n (dk L k) (bk k) (i : Int) ∧ sumL n (dk L k) b' (i : Int) = sumL n (dk L k) (bk k) (i : Int))
    (h1 : ((cntL n (dk L k) (bk k) (j : Int) : Nat) : Int) + many = ((cntL n (dk L k) b' (j : Int) : Nat) : Int)) (h2 : ((sumL n (dk L k) (bk k) (j : Int) : Nat) : Int) + sum = ((sumL n (dk L k) b' (j : Int) : Nat) : Int))
    (h3 : cntL n (dk L k) b' (j : Int) ≤ 20000000) (h4 : sumL n (dk L k) b' (j : Int) ≤ 20000000) (w : World) (h : Peel S w n L a cap g o V bo bk v m f) :
    Calls Try.prog 35 #[.pointer (some ⟨V.B, 0, none⟩), .agg #[.int .i64 k, .int .i64 j], .int .i64 many, .int .i64 sum] w fun e w' =>
      (∃ u, e = .returned u) ∧ Peel S w' n L a cap g o V bo (fun i => if i = k then b' else bk i) v m f ∧ Aside S w w' := by
  have y1 := hide (heap_alloc_new w (.cells #[.int .i64 k, .int .i64 j] 58))
  have y2 := hide ((Below.refl w.heap.size w).alloc (Nat.le_refl _) (.cells #[.int .i64 k, .int .i64 j] 58))
  have H1 := hide (h.below (unhide y2))
  have hsS := hide h.sS
  have eL := h.atL (by omega)
  have c3 := (unhide H1).c3
  have c4 := (unhide H1).lines hk
  have c5 := (unhide H1).cnt hk hj
  have c6 := (unhide H1).sum hk hj
  rw [eL] at c3
  have q1 : ((k : Int) < (L.length : Int)) = True := by simp; omega
  have q2 : ((j : Int) < ((binN n (dk L k) : Nat) : Int)) = True := by simp; omega
  have fin := hide (fun (W : World) (hW : Peel S W n L a cap g o V bo bk v m f) => hW.setLine (j := j) (b' := b') hk hs)
  have fz := hide (fun (W : World) (hW : Peel S W n L a cap g o V bo bk v m f) (i : Nat) => show W.frozen? ⟨V.blk (3 + k), i, none⟩ = false by rw [Nat.add_comm]; exact hW.frozen (live3 hk) i)
  have x0 : (w.alloc (.cells #[.int .i64 k, .int .i64 j] 58)).cell? ⟨w.heap.size, 0, none⟩ = some (.int .i64 k) := cell_of_row _ w.heap.size 0 _ _ (0, 0) (unhide y1)
  have x1 : (w.alloc (.cells #[.int .i64 k, .int .i64 j] 58)).cell? ⟨w.heap.size, 1, none⟩ = some (.int .i64 j) := cell_of_row _ w.heap.size 1 _ _ (0, 0) (unhide y1)
  clear h y1 eL hs
  generalize cntL n (dk L k) (bk k) (j : Int) = ct at *
  generalize sumL n (dk L k) (bk k) (j : Int) = su at *
  generalize cntL n (dk L k) b' (j : Int) = ct' at *
  generalize sumL n (dk L k) b' (j : Int) = su' at *
  have z1 : IntKind.i64.wrap ((ct : Int) + many) = (ct' : Int) := by rw [h1, IntKind.wrap_i64]; omega
  have z2 : IntKind.i64.wrap ((su : Int) + sum) = (su' : Int) := by rw [h2, IntKind.wrap_i64]; omega
  clear h1 h2
  have f1 := unhide fz _ (unhide H1) (j * 2)
  have f2 := unhide fz _ (unhide H1) (j * 2 + 1)
  generalize V.blk (3 + k) = q at *
  go_enter Try.func35, Try.ntmps35
  go_wp2_with fail
  generalize w.alloc (.cells #[.int .i64 k, .int .i64 j] 58) = w1 at *
  generalize w.heap.size = p at *
  go_quiet (fail)
  go_wp2_with fail
  go_end0
  obtain ⟨r1, r2⟩ := unhide fin _ ((unhide H1).below (belowN _ w1 nq))
  exact ⟨⟨_, rfl⟩, r1, ((Aside.of_below (unhide y2) (unhide hsS)).trans (asideN S w1 nq)).trans r2⟩

set_option maxRecDepth 100000 in
set_option maxHeartbeats 1600000 in
theorem peelLook {k j : Nat} (hk : k < L.length) (hj : j < binN n (dk L k)) (hm : m < 1000000) (w : World) (h : Peel S w n L a cap g o V bo bk v m f) :
    Calls Try.prog 36 #[.pointer (some ⟨V.B, 0, none⟩), .agg #[.int .i64 k, .int .i64 j]] w fun e w' =>
      (∃ u, e = .returned u) ∧ (∃ v' m' f', Peel S w' n L a cap g o V bo bk v' m' f' ∧ ((cntL n (dk L k) (bk k) (j : Int) = 1 ∧ m' = m + 1 ∧ ∀ y, InQ f' (m + 1) y ↔ y = (k, j) ∨ InQ f m y) ∨ (cntL n (dk L k) (bk k) (j : Int) ≠ 1 ∧ m' = m ∧ f' = f))) ∧ Aside S w w' := by
  have y1 := hide (heap_alloc_new w (.cells #[.int .i64 k, .int .i64 j] 58))
  have y2 := hide ((Below.refl w.heap.size w).alloc (Nat.le_refl _) (.cells #[.int .i64 k, .int .i64 j] 58))
  have H1 := hide (h.below (unhide y2))
  have hsS := hide h.sS
  have eL := h.atL (by omega)
  have c3 := (unhide H1).c3
  have c4 := (unhide H1).lines hk
  have c5 := (unhide H1).cnt hk hj
  rw [eL] at c3
  have q1 : ((k : Int) < (L.length : Int)) = True := by simp; omega
  have q2 : ((j : Int) < ((binN n (dk L k) : Nat) : Int)) = True := by simp; omega
  have x0 : (w.alloc (.cells #[.int .i64 k, .int .i64 j] 58)).cell? ⟨w.heap.size, 0, none⟩ = some (.int .i64 k) := cell_of_row _ w.heap.size 0 _ _ (0, 0) (unhide y1)
  have x1 : (w.alloc (.cells #[.int .i64 k, .int .i64 j] 58)).cell? ⟨w.heap.size, 1, none⟩ = some (.int .i64 j) := cell_of_row _ w.heap.size 1 _ _ (0, 0) (unhide y1)
  clear h y1 eL
  by_cases hc : cntL n (dk L k) (bk k) (j : Int) = 1
  · rw [hc] at c5
    have hc' := hide hc
    clear hc
    have kP := hide (fun (W : World) (hW : Peel S W n L a cap g o V bo bk v m f) => heapPush (k, j) hm W hW.heap)
    dsimp only at kP
    generalize V.blk (3 + k) = q at *
    go_enter Try.func36, Try.ntmps36
    go_wp2_with fail
    generalize w.alloc (.cells #[.int .i64 k, .int .i64 j] 58) = w1 at *
    generalize w.heap.size = p at *
    go_quiet (fail)
    go_wp2_with fail
    have A2 := hide ((Aside.of_below (unhide y2) (unhide hsS)).trans (asideN S w1 nq))
    have H2 := hide ((unhide H1).below (belowN _ w1 nq))
    have e0 : (w1.drewN nq).cell? ⟨p, 0, none⟩ = some (.int .i64 k) := x0
    have e1 : (w1.drewN nq).cell? ⟨p, 1, none⟩ = some (.int .i64 j) := x1
    clear x0 x1 c3 c4 c5 H1 y2
    generalize w1.drewN nq = w2 at *
    have hfn : ∀ f, Fence.wide.fn f = True := fun _ => rfl
    refine (wpIn_wide (n := 0)).1 ?_
    refine region_far 6 mixed (by kernel_rfl) ?_
    simp only [List.take_succ_cons, List.take_zero, List.drop_succ_cons, List.drop_zero]
    repeat (gi_big_quiet_step (fail))
    refine wpQuietIn_nil ?_
    intro _ hw'
    obtain ⟨nq2, rfl⟩ := hw'
    have H3 := hide ((unhide H2).below (belowN _ w2 nq2))
    have A3 := hide ((unhide A2).trans (asideN S w2 nq2))
    clear H2 A2 e0 e1
    generalize w2.drewN nq2 = w3 at *
    have kQ := hide (unhide kP w3 (unhide H3))
    clear kP
    gi_wp2_with fail
    refine ⟨rfl, ?_⟩
    refine (callsIn_wide.2 (unhide kQ)).mono ?_
    rintro e w4 ⟨⟨_, rfl⟩, v4, f4, h4, i4, t4⟩
    have R4 := hide ((unhide H3).turn h4 t4)
    have I4 := hide i4
    clear h4 i4 t4
    gi_wp2_with fail
    go_end0
    exact ⟨⟨_, rfl⟩, ⟨v4, m + 1, f4, (unhide R4).1, Or.inl ⟨unhide hc', rfl, unhide I4⟩⟩, (unhide A3).trans (unhide R4).2⟩
  · have q3 : (((cntL n (dk L k) (bk k) (j : Int) : Nat) : Int) == 1) = false := by simp; omega
    have hc' := hide hc
    clear hc
    generalize V.blk (3 + k) = q at *
    go_enter Try.func36, Try.ntmps36
    go_wp2_with fail
    generalize w.alloc (.cells #[.int .i64 k, .int .i64 j] 58) = w1 at *
    generalize w.heap.size = p at *
    go_quiet (fail)
    go_wp2_with fail
    go_end0
    exact ⟨⟨_, rfl⟩, ⟨v, m, f, (unhide H1).below (belowN _ w1 nq), Or.inr ⟨unhide hc', rfl, rfl⟩⟩, (Aside.of_below (unhide y2) (unhide hsS)).trans (asideN S w1 nq)⟩
end
end Go.Proofs.Ytgbkfmjkemkajab
