/- Package ghost's Make, where it answers a ghost: over what landed. -/
import Derived.Test.YtfddchjonjklkaaGS
namespace Go.Proofs.Ytfddchjonjklkaa
open Go.RowKit Fl
attribute [local go_sem] store_complex

/-- One step's measures. -/
structure StepOk (L : List (Int × Int)) (i : Nat) (P Q : Int) : Prop where
  w1 : 1 ≤ gW (L.take i)
  h1 : 1 ≤ gH (L.take i)
  p : P.natAbs ≤ 16
  q0 : 0 ≤ Q
  q : Q ≤ 16
  w : gW (L.take i) + P.natAbs ≤ 64
  h : gH (L.take i) + Q.toNat ≤ 64
  ew : gW (L.take (i + 1)) = gW (L.take i) + P.natAbs
  eh : gH (L.take (i + 1)) = gH (L.take i) + Q.toNat
  le : ∀ x y, (gh (L.take i) x y).natAbs ≤ 256
  supp : ∀ x y, gh (L.take i) x y ≠ 0 → x < gW (L.take i) ∧ y < gH (L.take i)
  eg : gh (L.take (i + 1)) = gstep (gh (L.take i)) (P, Q)

theorem step_ok {L : List (Int × Int)} (R : Right L) {i : Nat} {P Q : Int} (hd : L[i]? = some (P, Q)) : StepOk L i P Q := by
  obtain ⟨b1, b2, b3⟩ := okD_bounds (R.ok _ (List.mem_of_getElem? hd))
  dsimp only at b1 b2 b3
  have ok' : ∀ d, d ∈ L.take i → okD d.1 d.2 = true := fun d hd => R.ok d (List.mem_of_mem_take hd)
  have s := sum_small ok'
  have p := sum_part R.ok (i + 1)
  have eP := sumP_snoc (L.take i) (P, Q)
  have eQ := sumQ_snoc (L.take i) (P, Q)
  rw [← take_step hd] at eP eQ
  dsimp only at eP eQ
  have hw := R.w64
  have hh := R.h64
  have rw_ := R.w
  have rh := R.h
  have hs := gh_supp (L.take i) (fun e he => (okD_bounds (ok' e he)).2.1)
  refine ⟨?_, ?_, b1, b2, by omega, ?_, ?_, ?_, ?_, fun x y => gh_le8 R i x y, fun x y h => ?_, by rw [take_step hd, gh_snoc]⟩
  · unfold gW; omega
  · unfold gH; omega
  · unfold gW at *; omega
  · unfold gH at *; omega
  · unfold gW; omega
  · unfold gH; omega
  · have := hs x y h
    unfold gW gH
    omega

/-- What the landed step gives on the way. -/
theorem doubledAt {L : List (Int × Int)} (R : Right L) {i : Nat} {P Q : Int} (hd : L[i]? = some (P, Q)) {g c : Nat} (W : World) (hR : Row W g (gW (L.take i) * gH (L.take i)) (ghB (L.take i) (gW (L.take i)))) :
    Calls Try.prog 15 #[.agg #[.int .i64 (gW (L.take i)), .int .i64 (gH (L.take i)), .slice (some ⟨g, 0, none⟩) (gW (L.take i) * gH (L.take i) : Nat) c], .agg #[.int .i64 P, .int .i64 Q]] W fun e w' => ∃ g',
      e = .returned (.agg #[.int .i64 (gW (L.take (i + 1))), .int .i64 (gH (L.take (i + 1))), .slice (some ⟨g', 0, none⟩) (gW (L.take (i + 1)) * gH (L.take (i + 1)) : Nat) (gW (L.take (i + 1)) * gH (L.take (i + 1)) : Nat)]) ∧ W.heap.size ≤ g' ∧
      (Row w' g' (gW (L.take (i + 1)) * gH (L.take (i + 1))) (ghB (L.take (i + 1)) (gW (L.take (i + 1)))) ∧ CapOk w' g' (gW (L.take (i + 1)) * gH (L.take (i + 1))) (gW (L.take (i + 1)) * gH (L.take (i + 1)))) ∧ Below W.heap.size W w' := by
  have s := step_ok R hd
  refine (doubledAny (c := c) s.w1 s.h1 s.p s.q0 s.q s.w s.h s.le s.supp W hR).mono ?_
  rintro e w' ⟨g', rfl, h2, h3, h4⟩
  rw [← s.ew, ← s.eh] at *
  refine ⟨g', rfl, h2, ⟨?_, h3.2⟩, h4⟩
  have := h3.1
  rw [← s.eg] at this
  exact this

/-- What a round of Make keeps. -/
structure MkInv (w0 : World) (bh : Nat) (L : List (Int × Int)) (gl c : Nat) (W : World) : Prop where
  box : W.heap[bh]? = some (.cells #[.int .i64 (gW L), .int .i64 (gH L), .slice (some ⟨gl, 0, none⟩) (gW L * gH L : Nat) c] 26 (0, 0))
  row : Row W gl (gW L * gH L) (ghB L (gW L))
  cap : CapOk W gl (gW L * gH L) c
  below : Below w0.heap.size w0 W

theorem set3box {W : World} {b : Nat} {x y z : Value} (u v s : Value) {t : TypeId} (h : W.heap[b]? = some (.cells #[x, y, z] t (0, 0))) :
    W.cell? ⟨b, 0, none⟩ = some x ∧ W.cell? ⟨b, 1, none⟩ = some y ∧ W.cell? ⟨b, 2, none⟩ = some z ∧ W.frozen? ⟨b, 0, none⟩ = false ∧ W.frozen? ⟨b, 1, none⟩ = false ∧ W.frozen? ⟨b, 2, none⟩ = false ∧
    (((W.setCell ⟨b, 0, none⟩ u).setCell ⟨b, 1, none⟩ v).setCell ⟨b, 2, none⟩ s).heap[b]? = some (.cells #[u, v, s] t (0, 0)) ∧
    (∀ k, k ≠ b → (((W.setCell ⟨b, 0, none⟩ u).setCell ⟨b, 1, none⟩ v).setCell ⟨b, 2, none⟩ s).heap[k]? = W.heap[k]?) ∧
    ∀ {B : Nat} {w : World}, Below B w W → B ≤ b → Below B w (((W.setCell ⟨b, 0, none⟩ u).setCell ⟨b, 1, none⟩ v).setCell ⟨b, 2, none⟩ s) := by
  have e1 := heap_setCell_same W b 0 _ _ u h
  have e2 := heap_setCell_same _ b 1 _ _ v e1
  have e3 := heap_setCell_same _ b 2 _ _ s e2
  refine ⟨?_, ?_, ?_, block_frozen h 0, block_frozen h 1, block_frozen h 2, e3, fun k hk => ?_, fun hb hB => ?_⟩
  · rw [block_cell h]; rfl
  · rw [block_cell h]; rfl
  · rw [block_cell h]; rfl
  · rw [Below.heap_setCell _ _ _ _ hk, Below.heap_setCell _ _ _ _ hk, Below.heap_setCell _ _ _ _ hk]
  · exact ((hb.setCell (p := ⟨b, 0, none⟩) hB u).setCell (p := ⟨b, 1, none⟩) hB v).setCell (p := ⟨b, 2, none⟩) hB s

theorem gW0 : gW [] = 1 := by decide
theorem gH0 : gH [] = 1 := by decide

set_option maxRecDepth 100000 in
set_option maxHeartbeats 4000000 in
theorem gMake {L : List (Int × Int)} {a : Option Addr} {cap g o : Nat} (hE : makeErr L = 0) (hA : All64 L) (w : World) (h : Dirs w a g o L) :
    Calls Try.prog 7 #[.slice a L.length cap] w fun e w' => ∃ g' c, e = .returned (.tuple #[ghostV L g' c, .int .i64 0]) ∧ w.heap.size ≤ g' ∧ (Row w' g' (gW L * gH L) (ghB L (gW L)) ∧ CapOk w' g' (gW L * gH L) c) ∧ Below w.heap.size w w' := by
  have R := right_of hE
  have hlen := R.len
  have e0 := heap_alloc_new w (.cells #[.int .i64 0, .int .i64 0, .slice none 0 0] 26)
  have hb0 := (Below.refl _ w).alloc (Nat.le_refl _) (.cells #[.int .i64 0, .int .i64 0, .slice none 0 0] 26)
  have hs0 : w.heap.size + 1 ≤ (w.alloc (.cells #[.int .i64 0, .int .i64 0, .slice none 0 0] 26)).heap.size := by rw [World.size_alloc]; exact Nat.le_refl _
  have k := gFits (n := 64) (cap := cap) (by omega) hA _ (dirs_below h hb0)
  have hf : fitsS 64 L = (true, 0) := by
    rcases fits64 (L := L) (by omega) with ⟨h1, _⟩ | ⟨_, h2⟩
    · exact absurd hE h1
    · exact h2
  rw [hf] at k
  dsimp only at k
  have k := hide k
  have kD := hide (fun i P Q (hd : L[i]? = some (P, Q)) g c W hR => doubledAt R hd (g := g) (c := c) W hR)
  have hat := hide (fun i (hi : i < L.length) => pairs2_get (L := L) hi)
  have hall : Hid (L.take L.length = L) := List.take_length
  have hD := hide h
  have hb0h := hide hb0
  have e0h := hide e0
  clear e0 hb0 h hE hA hf R
  generalize hNN : L.length = N at *
  have q0 : (8 < (N : Int)) = False := by simp; omega
  have hNNh := hide hNN
  clear hNN
  unfold ghostV
  go_enter Try.func7, Try.ntmps7
  go_wp2_with fail
  generalize w.alloc (.cells #[.int .i64 0, .int .i64 0, .slice none 0 0] 26) = w0 at *
  refine (unhide k).mono ?_
  rintro e w1 ⟨rfl, hb1⟩
  have hB1 := hide hb1
  clear k hb1
  go_wp2_with fail
  have I0 : Hid (MkInv w0 (w1.heap.size + 1) (L.take 0) w1.heap.size 1 ((w1.alloc (.cells #[.complex .f64 4607182418800017408 0] 38)).alloc (.cells #[.int .i64 1, .int .i64 1, .slice (some ⟨w1.heap.size, 0, none⟩) 1 1] 26))) := by
    have s1 : (w1.alloc (.cells #[.complex .f64 4607182418800017408 0] 38)).heap.size = w1.heap.size + 1 := World.size_alloc _ _
    have b1 := heap_alloc_new w1 (.cells #[.complex .f64 4607182418800017408 0] 38)
    have b2 := heap_alloc_new (w1.alloc (.cells #[.complex .f64 4607182418800017408 0] 38)) (.cells #[.int .i64 1, .int .i64 1, .slice (some ⟨w1.heap.size, 0, none⟩) 1 1] 26)
    rw [s1] at b2
    have b3 := (Below.heap_alloc (w1.alloc (.cells #[.complex .f64 4607182418800017408 0] 38)) (.cells #[.int .i64 1, .int .i64 1, .slice (some ⟨w1.heap.size, 0, none⟩) 1 1] 26) w1.heap.size (by omega)).trans b1
    refine ⟨?_, ?_, ?_, ((unhide hB1).alloc (unhide hB1).size _).alloc (by rw [s1]; have := (unhide hB1).size; omega) _⟩
    · rw [List.take_zero, gW0, gH0]
      exact b2
    · rw [List.take_zero, gW0, gH0]
      refine ⟨_, b3, Nat.le_refl _, fun i hi => ?_⟩
      obtain rfl : i = 0 := by omega
      have : ghB [] 1 0 = (4607182418800017408, 0) := by decide +kernel
      rw [this]
      rfl
    · rw [List.take_zero, gW0, gH0]
      exact ⟨_, b3, rfl, Nat.le_refl _, by unfold maxLen; omega⟩
  have hs1 := (unhide hB1).size
  go_loopw [29] (fun iv wr => ∃ i gl c : Nat, i ≤ N ∧ iv = .int .i64 i ∧ w0.heap.size ≤ gl ∧ gl ≠ w1.heap.size + 1 ∧ w1.heap.size + 1 < wr.heap.size ∧ Hid (MkInv w0 (w1.heap.size + 1) (L.take i) gl c wr)) (fun iv _ => N - (intOf iv).toNat)
  case atStart => exact ⟨0, _, _, Nat.zero_le _, rfl, hs1, by omega, by simp, I0⟩
  case round =>
    clear I0
    obtain ⟨i, gl, c, hi, rfl, hgl, hne, hsz, I1⟩ := hrel
    by_cases hiN : i < N
    · have qi : ((i : Int) < (N : Int)) = True := by simp; omega
      obtain ⟨P, Q, hd⟩ := unhide hat i hiN
      have hDr := dirs_below (unhide hD) ((unhide hb0h).trans ((unhide I1).below.mono (by omega)))
      obtain ⟨haa, hgb⟩ := hDr.at_ (by rw [unhide hNNh]; omega)
      obtain ⟨p1, p2⟩ := hDr.cell i _ hd
      dsimp only at p1 p2
      have hba := (Below.refl _ wr).alloc (Nat.le_refl _) (.cells #[.int .i64 P, .int .i64 Q] 34)
      have hsa : (wr.alloc (.cells #[.int .i64 P, .int .i64 Q] 34)).heap.size = wr.heap.size + 1 := World.size_alloc _ _
      have bx := (hba.block _ hsz).trans (unhide I1).box
      have hRa := row_below (unhide I1).row hba (row_lt (unhide I1).row)
      have kC := hide (unhide kD i P Q hd gl c _ hRa)
      have x0 := block_cell bx 0
      have x1 := block_cell bx 1
      have x2 := block_cell bx 2
      simp only [List.getElem?_toArray, List.getElem?_cons_zero, List.getElem?_cons_succ] at x0 x1 x2
      have hBa := hide ((unhide I1).below.trans (hba.mono (unhide I1).below.size))
      have bxh := hide bx
      rw [haa]
      clear hd hDr I1 kD bx hRa hba hat
      generalize gW (L.take i) * gH (L.take i) = Mi at *
      generalize gW (L.take i) = Wi at *
      generalize gH (L.take i) = Hi at *
      go_wp2_with fail
      clear x0 x1 x2 p1 p2
      generalize wr.alloc (.cells #[.int .i64 P, .int .i64 Q] 34) = w2 at *
      refine (unhide kC).mono ?_
      rintro e w3 ⟨g', rfl, hg', hR3, hb3⟩
      have bx3 := (hb3.block _ (by omega)).trans (unhide bxh)
      obtain ⟨x0, x1, x2, y0, y1, y2, z1, z2, z3⟩ := set3box (.int .i64 (gW (L.take (i + 1)))) (.int .i64 (gH (L.take (i + 1)))) (.slice (some ⟨g', 0, none⟩) (gW (L.take (i + 1)) * gH (L.take (i + 1)) : Nat) (gW (L.take (i + 1)) * gH (L.take (i + 1)) : Nat)) bx3
      have I3 : Hid (MkInv w0 (w1.heap.size + 1) (L.take (i + 1)) g' _ _) := ⟨z1, row_keep hR3.1 (z2 g' (by omega)), cap_keep hR3.2 (z2 g' (by omega)), z3 ((unhide hBa).trans (hb3.mono (unhide hBa).size)) (by omega)⟩
      have hs3 := hb3.size
      clear hb3 hR3 bx3 z1 z2 z3 kC bxh
      generalize gW (L.take (i + 1)) * gH (L.take (i + 1)) = Mj at *
      go_wp2_with fail
      exact ⟨⟨i + 1, g', _, hiN, by go_num, by omega, by omega, by simp; omega, I3⟩, by simp [intOf]; omega⟩
    · have qi : ((i : Int) < (N : Int)) = False := by simp; omega
      have e : i = N := by omega
      subst e
      rw [unhide hall] at I1
      have x0 := block_cell (unhide I1).box 0
      have x1 := block_cell (unhide I1).box 1
      have x2 := block_cell (unhide I1).box 2
      simp only [List.getElem?_toArray, List.getElem?_cons_zero, List.getElem?_cons_succ] at x0 x1 x2
      obtain ⟨u0, u1, u2, y0, y1, y2, z1, z2, z3⟩ := set3box (.int .i64 (gW L)) (.int .i64 (gH L)) (.slice (some ⟨gl, 0, none⟩) (gW L * gH L : Nat) c) (((unhide I1).below.block w.heap.size (by omega)).trans (unhide e0h))
      have zh := hide (And.intro z1 (And.intro (row_keep (unhide I1).row (z2 gl (by omega))) (And.intro (cap_keep (unhide I1).cap (z2 gl (by omega))) (z3 ((unhide hb0h).trans ((unhide I1).below.mono (by omega))) (Nat.le_refl _)))))
      clear z1 z2 z3 I1 kD
      generalize hMi : gW L * gH L = Mi at *
      have hMh := hide hMi
      clear hMi
      go_wp2_with fail
      obtain rfl := unhide hMh
      obtain ⟨t1, t2, t3, t4⟩ := unhide zh
      have t5 := block_cell t1 0
      have t6 := block_cell t1 1
      have t7 := block_cell t1 2
      refine bodyPost_ret (results_three_tmp (P := Try.prog) rfl _ _ w.heap.size (.int .i64 (gW L)) (.int .i64 (gH L)) (.slice (some ⟨gl, 0, none⟩) (gW L * gH L : Nat) c) (.int .i64 0) _ rfl rfl t5 t6 t7 Try.underlying26 rfl (by kernel_rfl)) rfl ?_
      exact ⟨gl, c, rfl, by omega, ⟨t2, t3⟩, t4⟩
end Go.Proofs.Ytfddchjonjklkaa
