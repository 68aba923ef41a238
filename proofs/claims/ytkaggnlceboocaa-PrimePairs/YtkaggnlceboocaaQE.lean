/- Two unlike cells lie together on just one line: the walk. -/
import Derived.Test.YtkaggnlceboocaaQC
import Derived.Deep.RegionHeld3
namespace Go.Proofs.Ytkaggnlceboocaa
open Go.RowKit

theorem linePS_none {p : Int} (h : isP p = false) : linePS p 0 0 = ([], 150) := by unfold linePS; rw [if_pos h]
theorem cB_le (f : Nat → Bool) : ∀ k, cB f k ≤ k
  | 0 => Nat.le_refl _
  | k + 1 => by
    have := cB_le f k
    unfold cB
    split <;> omega
theorem sN_le (f : Nat → Nat → Bool) (K : Nat) : ∀ k, sN (fun m => cB (f m) K) k ≤ k * K
  | 0 => by unfold sN; omega
  | k + 1 => by
    have := sN_le f K k
    have := cB_le (f k) K
    unfold sN
    rw [Nat.add_mul]
    omega
theorem hits_le (L : List (Int × Int)) (c d : Int × Int) (k : Nat) : hits L c d k ≤ k := by
  unfold hits
  refine Nat.le_trans (List.countP_le_length ..) ?_
  rw [List.length_take]
  exact Nat.min_le_left _ _

theorem conv_u8 {x : Nat} (h : x ≤ 255) : IntKind.i64.wrap (x : Int) = (x : Int) := by rw [IntKind.wrap_i64]; omega

set_option maxHeartbeats 12800000 in
set_option maxRecDepth 100000 in
theorem pairsPrime (hal : AliveOk) (hI : IsOk 8) (hl : LineOk 6) {p K : Nat} {A0 A1 B0 B1 : Nat} (hp : isP (p : Int) = true) (hK : K = if 31 < p then 31 else p) (a0 : A0 ≤ 255) (a1 : A1 ≤ 255) (b0 : B0 ≤ 255) (b1 : B1 ≤ 255) (w : World) :
    Calls Try.prog 4 #[.int .i64 p, .agg #[.int .u8 A0, .int .u8 A1], .agg #[.int .u8 B0, .int .u8 B1]] w fun e w' => e = .returned (.bool true) ∧ Below w.heap.size w w' := by
  obtain ⟨_, e0, hp1, hp2, hpd⟩ := isP_nat hp
  obtain rfl := Int.ofNat.inj e0
  have hK2 : 2 ≤ K := by rw [hK]; split <;> omega
  have hK3 : K ≤ 31 := by rw [hK]; split <;> omega
  have hKd : noDiv K K = true := by
    rw [hK]
    split
    · decide +kernel
    · exact hpd
  have hKP : isP (K : Int) = true := by rw [isP_mid hK2 (by omega)]; exact hKd
  have kI := hide (fun W => hI (p : Int) W)
  rw [hp] at kI
  have kL := hide (fun (m t : Nat) (hm : m ≤ K) (ht : t < K) W => (by have h := hl (K : Int) m t W; rw [linePS_ok hKP hm ht] at h; exact h : Calls Try.prog 6 #[.int .i64 K, .int .i64 m, .int .i64 t] W fun e w' => ∃ v, e = .returned (.tuple #[v, .int .i64 0]) ∧ Pairs2 w' v (lineP K m t) ∧ Below W.heap.size W w'))
  have hlen := hide (fun m t => lineP_len K m t)
  have c0 := conv_u8 a0
  have c1 := conv_u8 a1
  have c2 := conv_u8 b0
  have c3 := conv_u8 b1
  have r0 := rem_nat A0 K
  have r1 := rem_nat A1 K
  have r2 := rem_nat B0 K
  have r3 := rem_nat B1 K
  have z0 : ((K : Int) == 0) = false := by simp; omega
  have z1 : ¬ (K : Int) = 0 := by omega
  have z2 : (K = 0) = False := by simp; omega
  obtain ⟨C, hC⟩ : ∃ C : Nat × Nat, C = (A0 % K, A1 % K) := ⟨_, rfl⟩
  obtain ⟨D, hD⟩ : ∃ D : Nat × Nat, D = (B0 % K, B1 % K) := ⟨_, rfl⟩
  have hC1 : C.1 < K := by rw [hC]; exact Nat.mod_lt _ (by omega)
  have hC2 : C.2 < K := by rw [hC]; exact Nat.mod_lt _ (by omega)
  have hD1 : D.1 < K := by rw [hD]; exact Nat.mod_lt _ (by omega)
  have hD2 : D.2 < K := by rw [hD]; exact Nat.mod_lt _ (by omega)
  have fin : Hid ((sN (fun m => cB (goodL K C D m) K) (K + 1) = 1) ∨ (C = D ∧ sN (fun m => cB (goodL K C D m) K) (K + 1) = K + 1)) := by
    by_cases e : C = D
    · exact Or.inr ⟨e, by rw [← e]; exact pairs_same hK2 hC1 hC2⟩
    · exact Or.inl (pairs_two hK3 hKd hK2 e hC1 hC2 hD1 hD2)
  rw [show A0 % K = C.1 by rw [hC]] at r0
  rw [show A1 % K = C.2 by rw [hC]] at r1
  rw [show B0 % K = D.1 by rw [hD]] at r2
  rw [show B1 % K = D.2 by rw [hD]] at r3
  obtain ⟨cx, hcx⟩ : ∃ cx : Int, ((C.1 : Nat) : Int) = cx := ⟨_, rfl⟩
  obtain ⟨cy, hcy⟩ : ∃ cy : Int, ((C.2 : Nat) : Int) = cy := ⟨_, rfl⟩
  obtain ⟨dx, hdx⟩ : ∃ dx : Int, ((D.1 : Nat) : Int) = dx := ⟨_, rfl⟩
  obtain ⟨dy, hdy⟩ : ∃ dy : Int, ((D.2 : Nat) : Int) = dy := ⟨_, rfl⟩
  rw [hcx] at r0
  rw [hcy] at r1
  rw [hdx] at r2
  rw [hdy] at r3
  have hcI : Hid (cellI C = (cx, cy)) := by show _ = _; unfold cellI; rw [hcx, hcy]
  have hdI : Hid (cellI D = (dx, dy)) := by show _ = _; unfold cellI; rw [hdx, hdy]
  have hE : Hid (C = D ↔ (cx, cy) = (dx, dy)) := by show _ ↔ _; rw [← unhide hcI, ← unhide hdI]; exact cellI_inj.symm
  clear hcx hcy hdx hdy
  have hal := hide hal
  have hpd' := hide hpd
  have qK : ((31 : Int) < (p : Int)) = (31 < p) := by simp; omega
  clear hC hD hI hl hp hKP hKd hpd e0
  have fct : Hid (∀ w' : World, Below (w.heap.size + 2) ((w.alloc (.cells #[.int .u8 A0, .int .u8 A1] 30)).alloc (.cells #[.int .u8 B0, .int .u8 B1] 30)) w' →
      w'.cell? ⟨w.heap.size, 0, none⟩ = some (.int .u8 A0) ∧ w'.cell? ⟨w.heap.size, 1, none⟩ = some (.int .u8 A1) ∧ w'.cell? ⟨w.heap.size + 1, 0, none⟩ = some (.int .u8 B0) ∧ w'.cell? ⟨w.heap.size + 1, 1, none⟩ = some (.int .u8 B1)) := fun w' h => by
    refine ⟨?_, ?_, ?_, ?_⟩
    all_goals rw [h.cell (by simp)]; simp [go_sem]
  have bb : Hid (Below w.heap.size w ((w.alloc (.cells #[.int .u8 A0, .int .u8 A1] 30)).alloc (.cells #[.int .u8 B0, .int .u8 B1] 30))) := ((Below.refl _ _).alloc (Nat.le_refl _) _).alloc (by simp) _
  have sz : Hid (((w.alloc (.cells #[.int .u8 A0, .int .u8 A1] 30)).alloc (.cells #[.int .u8 B0, .int .u8 B1] 30)).heap.size = w.heap.size + 2) := by show _ = _; simp
  have hgo : ((31 : Int) < (p : Int)) = True ∧ K = 31 ∨ ((31 : Int) < (p : Int)) = False ∧ K = p := by
    by_cases h31 : 31 < p
    · rw [if_pos h31] at hK
      exact Or.inl ⟨by simp; omega, hK⟩
    · rw [if_neg h31] at hK
      exact Or.inr ⟨by simp; omega, hK⟩
  clear hK qK
  rcases hgo with ⟨q31, hK⟩ | ⟨q31, hK⟩
  all_goals
    have hKK := hide hK
    clear hK
    go_enter Try.func4, Try.ntmps4
    go_wp2_with fail
    generalize (w.alloc (.cells #[.int .u8 A0, .int .u8 A1] 30)).alloc (.cells #[.int .u8 B0, .int .u8 B1] 30) = w0 at *
    refine (unhide hal _).mono ?_
    rintro e w1 ⟨rfl, hb1⟩
    have H1 := hide hb1
    clear hb1
    go_wp2_with fail
    refine (unhide kI _).mono ?_
    rintro e w2 ⟨rfl, hb2⟩
    have H2 := hide ((unhide H1).trans (hb2.mono (unhide H1).size))
    clear hb2 H1 kI hal
    go_wp2_with fail
    first
    | rw [show Value.int IntKind.i64 31 = Value.int IntKind.i64 (K : Int) by rw [unhide hKK]; rfl]
    | rw [show Value.int IntKind.i64 (p : Int) = Value.int IntKind.i64 (K : Int) by rw [unhide hKK]]
    have H3 : Hid (Below (w.heap.size + 2) w0 w2) := by rw [← unhide sz]; exact unhide H2
    obtain ⟨x0, x1, x2, x3⟩ := unhide fct w2 (unhide H3)
    have hlt2 : w.heap.size + 2 ≤ w2.heap.size := by have := (unhide H2).size; have := unhide sz; omega
    have al := fun (W : World) (o : Obj) (b i : Nat) (v : Value) (hb : b < W.heap.size) (hc : W.cell? ⟨b, i, none⟩ = some v) => show (W.alloc o).cell? ⟨b, i, none⟩ = some v from (World.cell?_of_block (Below.heap_alloc W o _ hb)).trans hc
    have y0 := al w2 (.cells #[.int .i64 0, .int .i64 0] 28) _ _ _ (by omega) x0
    have y1 := al w2 (.cells #[.int .i64 0, .int .i64 0] 28) _ _ _ (by omega) x1
    have al' := hide al
    clear al
    go_region
    generalize hw3 : (w2.alloc (.cells #[.int .i64 cx, .int .i64 cy] 28)).drew = w3 at *
    have s3 : w3.heap.size = w2.heap.size + 1 := by rw [← hw3]; simp [go_sem]
    have k2 : ∀ b i v, b < w2.heap.size → w2.cell? ⟨b, i, none⟩ = some v → w3.cell? ⟨b, i, none⟩ = some v := fun b i v hb hc => by rw [← hw3]; exact unhide al' w2 _ b i v hb hc
    have x4 := k2 _ _ _ (by omega) x2
    have x5 := k2 _ _ _ (by omega) x3
    have g0 : w3.cell? ⟨w2.heap.size, 0, none⟩ = some (.int .i64 cx) := by rw [← hw3]; simp [go_sem]
    have g1 : w3.cell? ⟨w2.heap.size, 1, none⟩ = some (.int .i64 cy) := by rw [← hw3]; simp [go_sem]
    have b3 : Below w2.heap.size w2 w3 := by rw [← hw3]; exact ((Below.refl _ _).alloc (Nat.le_refl _) _).drew
    have H4 := hide ((unhide bb).trans (((unhide H2).trans (b3.mono (unhide H2).size)).mono (by have := unhide sz; omega)))
    have y4 := unhide al' w3 (.cells #[.int .i64 0, .int .i64 0] 28) _ _ _ (by omega) x4
    have y5 := unhide al' w3 (.cells #[.int .i64 0, .int .i64 0] 28) _ _ _ (by omega) x5
    have G0 := hide g0
    have G1 := hide g1
    clear hw3 k2 x0 x1 x2 x3 y0 y1 b3 g0 g1 H2 H3 bb fct sz
    generalize w2.heap.size = gc at *
    go_wp2_with fail
    go_region
    generalize hw5 : (w3.alloc (.cells #[.int .i64 dx, .int .i64 dy] 28)).drew = w5 at *
    have F5 : Hid (∀ W : World, Below w5.heap.size w5 W → W.cell? ⟨gc, 0, none⟩ = some (.int .i64 cx) ∧ W.cell? ⟨gc, 1, none⟩ = some (.int .i64 cy) ∧ W.cell? ⟨gc + 1, 0, none⟩ = some (.int .i64 dx) ∧ W.cell? ⟨gc + 1, 1, none⟩ = some (.int .i64 dy)) := fun W h => by
      rw [← s3]
      have s5 : w5.heap.size = w3.heap.size + 1 := by rw [← hw5]; simp [go_sem]
      rw [h.cell (p := ⟨gc, 0, none⟩) (by show gc < _; omega), h.cell (p := ⟨gc, 1, none⟩) (by show gc < _; omega), h.cell (p := ⟨w3.heap.size, 0, none⟩) (by show w3.heap.size < _; omega), h.cell (p := ⟨w3.heap.size, 1, none⟩) (by show w3.heap.size < _; omega), ← hw5]
      exact ⟨unhide al' w3 _ _ _ _ (by omega) (unhide G0), unhide al' w3 _ _ _ _ (by omega) (unhide G1), by simp [go_sem], by simp [go_sem]⟩
    have H5 : Hid (Below w.heap.size w w5) := by rw [← hw5]; exact ((unhide H4).alloc (by have := (unhide H4).size; omega) _).drew
    have s3' := hide s3
    clear s3 hw5 G0 G1 x4 x5 y4 y5 al' H4 r0 r1 r2 r3 c0 c1 c2 c3 z0 z1 z2
    go_wp2_with fail
    go_loopw [11, 12] (fun nv mv wr => ∃ m : Nat, m ≤ K + 1 ∧ mv = .int .i64 m ∧ nv = .int .i64 (sN (fun m => cB (goodL K C D m) K) m : Nat) ∧ Hid (Below w5.heap.size w5 wr)) (fun _ mv _ => K + 1 - (intOf mv).toNat)
    case atStart => exact ⟨0, Nat.zero_le _, rfl, rfl, Below.refl _ _⟩
    case round =>
      obtain ⟨m, hm1, rfl, rfl, hB⟩ := hrel
      have hsl := sN_le (goodL K C D) K m
      by_cases hm : m ≤ K
      · have q1 : ((m : Int) ≤ (K : Int)) = True := by simp; omega
        go_wp2_with fail
        go_loopw [11, 13] (fun nv tv wr => ∃ t : Nat, t ≤ K ∧ tv = .int .i64 t ∧ nv = .int .i64 (sN (fun m => cB (goodL K C D m) K) m + cB (goodL K C D m) t : Nat) ∧ Hid (Below w5.heap.size w5 wr)) (fun _ tv _ => K - (intOf tv).toNat)
        case atStart => exact ⟨0, Nat.zero_le _, rfl, rfl, hB⟩
        case round =>
          clear hB
          obtain ⟨t, ht1, rfl, rfl, hB⟩ := hrel
          by_cases ht : t < K
          · have q2 : ((t : Int) < (K : Int)) = True := by simp; omega
            have kl := hide (unhide kL m t hm ht wr)
            go_wp2_with fail
            refine (unhide kl).mono ?_
            rintro e w6 ⟨v, rfl, ⟨a, cp, g, o, rfl, s1, t1⟩, hb6⟩
            have hB6 := hide ((unhide hB).trans (hb6.mono (unhide hB).size))
            have s1 := hide s1
            have t1 := hide t1
            have hlL := unhide hlen m t
            rw [hlL] at s1 ⊢
            clear hb6 kl hB
            generalize hLL : lineP K m t = L at *
            have hLe := hide hLL
            clear hLL
            go_wp2_with fail
            go_loopw [16, 17] (fun cv iv wr => ∃ i : Nat, i ≤ K ∧ iv = .int .i64 i ∧ cv = .int .i64 (hits L (cx, cy) (dx, dy) i : Nat) ∧ Hid (wr.heap = w6.heap) ∧ Hid (Below w5.heap.size w5 wr)) (fun _ iv _ => K - (intOf iv).toNat)
            case atStart => exact ⟨0, Nat.zero_le _, rfl, rfl, rfl, hB6⟩
            case round =>
              clear hB6
              obtain ⟨i, hi1, rfl, rfl, hh, hBr⟩ := hrel
              obtain ⟨g0, g1, g2, g3⟩ := unhide F5 wr (unhide hBr)
              have hhl := hits_le L (cx, cy) (dx, dy) i
              by_cases hi : i < K
              · have q3 : ((i : Int) < (K : Int)) = True := by simp; omega
                obtain ⟨x, y, e1, k1, k2⟩ := at2 (unhide t1) (by rw [hlL]; exact hi)
                have k1 := (cellHeap (unhide hh) _).trans k1
                have k2 := (cellHeap (unhide hh) _).trans k2
                have hst0 := hits_step (c := (cx, cy)) (d := (dx, dy)) e1
                rw [(unhide s1 (by omega)).1]
                have hcs : hitB (cx, cy) (dx, dy) (x, y) = ((decide (x = cx) && decide (y = cy)) || (decide (x = dx) && decide (y = dy))) := by
                  unfold hitB
                  simp [Prod.ext_iff]
                rw [hcs] at hst0
                clear e1
                by_cases u1 : x = cx
                · subst u1
                  by_cases u2 : y = cy
                  · subst u2
                    have hst : hits L (x, y) (dx, dy) (i + 1) = hits L (x, y) (dx, dy) i + 1 := by rw [hst0]; simp
                    have n1 : IntKind.i64.wrap (((hits L (x, y) (dx, dy) i : Nat) : Int) + 1) = ((hits L (x, y) (dx, dy) i : Nat) : Int) + 1 := by rw [IntKind.wrap_i64]; omega
                    have hst1 := hide hst
                    clear hcs hst0 hst
                    go_wp2_with fail
                    go_quiet (fail)
                    go_wp2_with fail
                    have hb := unhide hBr
                    exact ⟨⟨i + 1, hi, by go_num, by rw [unhide hst1]; rfl, unhide hh, ⟨hb.os, hb.tape, hb.output, hb.size, hb.block⟩⟩, by simp [intOf]; omega⟩
                  · have q4 : (y == cy) = false := by simp; exact u2
                    by_cases u3 : x = dx
                    · subst u3
                      by_cases u4 : y = dy
                      · subst u4
                        have hst : hits L (x, cy) (x, y) (i + 1) = hits L (x, cy) (x, y) i + 1 := by rw [hst0]; simp
                        have n1 : IntKind.i64.wrap (((hits L (x, cy) (x, y) i : Nat) : Int) + 1) = ((hits L (x, cy) (x, y) i : Nat) : Int) + 1 := by rw [IntKind.wrap_i64]; omega
                        have hst1 := hide hst
                        clear hcs hst0 hst
                        go_wp2_with fail
                        go_quiet (fail)
                        go_wp2_with fail
                        have hb := unhide hBr
                        exact ⟨⟨i + 1, hi, by go_num, by rw [unhide hst1]; rfl, unhide hh, ⟨hb.os, hb.tape, hb.output, hb.size, hb.block⟩⟩, by simp [intOf]; omega⟩
                      · have q5 : (y == dy) = false := by simp; exact u4
                        have hst : hits L (x, cy) (x, dy) (i + 1) = hits L (x, cy) (x, dy) i := by rw [hst0]; simp [u2, u4]
                        have hst1 := hide hst
                        clear hcs hst0 hst
                        go_wp2_with fail
                        go_quiet (fail)
                        go_wp2_with fail
                        have hb := unhide hBr
                        exact ⟨⟨i + 1, hi, by go_num, by rw [unhide hst1], unhide hh, ⟨hb.os, hb.tape, hb.output, hb.size, hb.block⟩⟩, by simp [intOf]; omega⟩
                    · have q5 : (x == dx) = false := by simp; exact u3
                      have hst : hits L (x, cy) (dx, dy) (i + 1) = hits L (x, cy) (dx, dy) i := by rw [hst0]; simp [u2, u3]
                      have hst1 := hide hst
                      clear hcs hst0 hst
                      go_wp2_with fail
                      go_quiet (fail)
                      go_wp2_with fail
                      have hb := unhide hBr
                      exact ⟨⟨i + 1, hi, by go_num, by rw [unhide hst1], unhide hh, ⟨hb.os, hb.tape, hb.output, hb.size, hb.block⟩⟩, by simp [intOf]; omega⟩
                · have q4 : (x == cx) = false := by simp; exact u1
                  by_cases u3 : x = dx
                  · subst u3
                    by_cases u4 : y = dy
                    · subst u4
                      have hst : hits L (cx, cy) (x, y) (i + 1) = hits L (cx, cy) (x, y) i + 1 := by rw [hst0]; simp
                      have n1 : IntKind.i64.wrap (((hits L (cx, cy) (x, y) i : Nat) : Int) + 1) = ((hits L (cx, cy) (x, y) i : Nat) : Int) + 1 := by rw [IntKind.wrap_i64]; omega
                      have hst1 := hide hst
                      clear hcs hst0 hst
                      go_wp2_with fail
                      go_quiet (fail)
                      go_wp2_with fail
                      have hb := unhide hBr
                      exact ⟨⟨i + 1, hi, by go_num, by rw [unhide hst1]; rfl, unhide hh, ⟨hb.os, hb.tape, hb.output, hb.size, hb.block⟩⟩, by simp [intOf]; omega⟩
                    · have q5 : (y == dy) = false := by simp; exact u4
                      have hst : hits L (cx, cy) (x, dy) (i + 1) = hits L (cx, cy) (x, dy) i := by rw [hst0]; simp [u1, u4]
                      have hst1 := hide hst
                      clear hcs hst0 hst
                      go_wp2_with fail
                      go_quiet (fail)
                      go_wp2_with fail
                      have hb := unhide hBr
                      exact ⟨⟨i + 1, hi, by go_num, by rw [unhide hst1], unhide hh, ⟨hb.os, hb.tape, hb.output, hb.size, hb.block⟩⟩, by simp [intOf]; omega⟩
                  · have q5 : (x == dx) = false := by simp; exact u3
                    have hst : hits L (cx, cy) (dx, dy) (i + 1) = hits L (cx, cy) (dx, dy) i := by rw [hst0]; simp [u1, u3]
                    have hst1 := hide hst
                    clear hcs hst0 hst
                    go_wp2_with fail
                    go_quiet (fail)
                    go_wp2_with fail
                    have hb := unhide hBr
                    exact ⟨⟨i + 1, hi, by go_num, by rw [unhide hst1], unhide hh, ⟨hb.os, hb.tape, hb.output, hb.size, hb.block⟩⟩, by simp [intOf]; omega⟩
              · have q3 : ((i : Int) < (K : Int)) = False := by simp; omega
                have e : i = K := by omega
                have hgd : goodL K C D m t = goodB (decide ((cx, cy) = (dx, dy))) (hits L (cx, cy) (dx, dy) i) := by
                  unfold goodL
                  rw [unhide hcI, unhide hdI, unhide hLe, e]
                  congr 1
                  exact decide_eq_decide.2 (unhide hE)
                have hcb0 : cB (goodL K C D m) (t + 1) = cB (goodL K C D m) t + if goodL K C D m t = true then 1 else 0 := rfl
                have hcl := cB_le (goodL K C D m) t
                have hmK : m * K ≤ 31 * 31 := Nat.mul_le_mul (by omega) hK3
                rw [hgd] at hcb0
                generalize hits L (cx, cy) (dx, dy) i = h at *
                have n1 : IntKind.i64.wrap (((sN (fun m => cB (goodL K C D m) K) m : Nat) : Int) + ((cB (goodL K C D m) t : Nat) : Int) + 1) = ((sN (fun m => cB (goodL K C D m) K) m : Nat) : Int) + ((cB (goodL K C D m) t : Nat) : Int) + 1 := by rw [IntKind.wrap_i64]; omega
                clear e
                by_cases v1 : h = 2
                · subst v1
                  have hcb : cB (goodL K C D m) (t + 1) = cB (goodL K C D m) t + 1 := by rw [hcb0]; unfold goodB; simp
                  have hcb1 := hide hcb
                  clear hgd hcb0 hcb
                  go_wp2_with fail
                  exact ⟨⟨t + 1, by omega, by go_num, by rw [unhide hcb1, ← Nat.add_assoc]; rfl, hBr⟩, by simp [intOf]; omega⟩
                · have q4 : ((h : Int) == 2) = false := by simp; omega
                  by_cases v2 : cx = dx
                  · subst v2
                    by_cases v3 : cy = dy
                    · subst v3
                      by_cases v4 : h = 1
                      · subst v4
                        have hcb : cB (goodL K C D m) (t + 1) = cB (goodL K C D m) t + 1 := by rw [hcb0]; unfold goodB; simp
                        have hcb1 := hide hcb
                        clear hgd hcb0 hcb
                        go_wp2_with fail
                        exact ⟨⟨t + 1, by omega, by go_num, by rw [unhide hcb1, ← Nat.add_assoc]; rfl, hBr⟩, by simp [intOf]; omega⟩
                      · have q5 : ((h : Int) == 1) = false := by simp; omega
                        have hcb : cB (goodL K C D m) (t + 1) = cB (goodL K C D m) t := by rw [hcb0]; unfold goodB; simp [v1, v4]
                        have hcb1 := hide hcb
                        have v1' := hide v1
                        have v4' := hide v4
                        clear v1 v4
                        clear hgd hcb0 hcb
                        go_wp2_with fail
                        exact ⟨⟨t + 1, by omega, by go_num, by rw [unhide hcb1]; rfl, hBr⟩, by simp [intOf]; omega⟩
                    · have q5 : (cy == dy) = false := by simp; exact v3
                      have hcb : cB (goodL K C D m) (t + 1) = cB (goodL K C D m) t := by rw [hcb0]; unfold goodB; simp [v1, v3]
                      have hcb1 := hide hcb
                      have v1' := hide v1
                      clear v1
                      clear hgd hcb0 hcb
                      go_wp2_with fail
                      exact ⟨⟨t + 1, by omega, by go_num, by rw [unhide hcb1]; rfl, hBr⟩, by simp [intOf]; omega⟩
                  · have q5 : (cx == dx) = false := by simp; exact v2
                    have hcb : cB (goodL K C D m) (t + 1) = cB (goodL K C D m) t := by rw [hcb0]; unfold goodB; simp [v1, v2]
                    have hcb1 := hide hcb
                    have v1' := hide v1
                    clear v1
                    clear hgd hcb0 hcb
                    go_wp2_with fail
                    exact ⟨⟨t + 1, by omega, by go_num, by rw [unhide hcb1]; rfl, hBr⟩, by simp [intOf]; omega⟩
          · have q2 : ((t : Int) < (K : Int)) = False := by simp; omega
            have e : t = K := by omega
            have hsn : Hid (sN (fun m => cB (goodL K C D m) K) (m + 1) = sN (fun m => cB (goodL K C D m) K) m + cB (goodL K C D m) t) := by
              show _ = _
              rw [e]
              rfl
            have e' := hide e
            clear e
            go_wp2_with fail
            exact ⟨⟨m + 1, by omega, by go_num, by rw [unhide hsn], hB⟩, by simp [intOf]; omega⟩
      · have q1 : ((m : Int) ≤ (K : Int)) = False := by simp; omega
        have e : m = K + 1 := by omega
        obtain ⟨g0, g1, g2, g3⟩ := unhide F5 wr (unhide hB)
        have hend := hide ((unhide H5).trans ((unhide hB).mono (unhide H5).size))
        have fi := unhide fin
        rw [← e] at fi
        have hfi : Hid ((sN (fun m => cB (goodL K C D m) K) m = 1) ∨ ((cx, cy) = (dx, dy) ∧ sN (fun m => cB (goodL K C D m) K) m = K + 1)) := by
          rcases fi with h | ⟨h, h'⟩
          · exact Or.inl h
          · exact Or.inr ⟨(unhide hE).1 h, h'.trans e⟩
        have nK : IntKind.i64.wrap ((K : Int) + 1) = (K : Int) + 1 := by rw [IntKind.wrap_i64]; omega
        clear fi e fin
        generalize sN (fun m => cB (goodL K C D m) K) m = S0 at *
        rcases unhide hfi with h | ⟨h, h'⟩
        · subst h
          clear hfi
          go_wp2_with fail
          go_ret
          exact ⟨rfl, unhide hend⟩
        · obtain ⟨rfl, rfl⟩ : cx = dx ∧ cy = dy := by simpa using h
          subst h'
          have q5 : (((K + 1 : Nat) : Int) == 1) = false := by simp; omega
          clear hfi h
          go_wp2_with fail
          go_ret
          exact ⟨rfl, unhide hend⟩
end Go.Proofs.Ytkaggnlceboocaa
