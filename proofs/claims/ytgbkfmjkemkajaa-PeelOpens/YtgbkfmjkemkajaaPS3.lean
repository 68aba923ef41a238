/- The document's start: the walk. -/
import Derived.Test.YtgbkfmjkemkajaaPS2
import Derived.Test.YtgbkfmjkemkajaaPB6
import Derived.Deep.OwnRows
namespace Go.Proofs.Ytgbkfmjkemkajaa
open Go.RowKit
attribute [local go_sem] storeCx

theorem ft5 (k : Nat) : FT (5 + 2 * k) = 3 := by
  rw [Nat.add_comm]
  show (if 2 * k % 2 = 0 then _ else _) = _
  rw [if_pos (by omega)]
theorem ft6 (k : Nat) : FT (6 + 2 * k) = 38 := by
  rw [show 6 + 2 * k = 2 * k + 1 + 5 by omega]
  show (if (2 * k + 1) % 2 = 0 then _ else _) = _
  rw [if_neg (by omega)]
theorem vrow_new (w : World) (z : Value) (n : Nat) (t : TypeId) : VRow (w.alloc (.cells (madeCells #[z] n) t)) t w.heap.size n (fun _ => z) := by
  have e : (madeCells #[z] n).toList.length = n := by rw [toList_madeCells_one, List.length_replicate]
  refine ⟨_, heap_alloc_new w _, by rw [Array.length_toList] at e; omega, fun i hi => ?_⟩
  have := made_get (z := z) hi
  simpa using this

def V0 (p q M : Nat) : BV := { blk := fun r => if r = 0 then p else q, cO := M, aR := none, aC := none, aY := none, cR := 0, cC := 0, cY := 0 }

theorem home_none (live : Nat → Prop) (blk : Nat → Nat) (r : Nat) : Home (.slice none 0 0) live blk r := fun b hb => by simp [Value.ownBlock] at hb

theorem Gr.start {w wr : World} {n : Nat} {L : List (Int × Int)} {a : Option Addr} {cap p : Nat} (hp : w.heap.size < p) (hR : VRow wr 4 w.heap.size (n * n) (fun _ => .bool true))
    (hS : wr.heap[p]? = some (.cells #[.int .i64 n, .slice (some ⟨w.heap.size, 0, none⟩) (n * n) (n * n), .slice none 0 0, .slice none 0 0, .slice none 0 0, .slice a L.length cap] 68 (0, 0))) (hB : Below w.heap.size w wr) :
    Gr w wr n L a cap (V0 p w.heap.size (n * n)) 0 := by
  have two : ∀ r, LK 0 r → r = 0 ∨ r = 1 := fun r hr => by unfold LK at hr; omega
  refine ⟨⟨⟨fun r hr => ?_, fun r hr => ?_, fun r s hr hs e => ?_⟩, Or.inl (by omega), rfl, home_none _ _ _, home_none _ _ _, home_none _ _ _, rfl, rfl, rfl, World.ownsRow_nil _ _ _ _, World.ownsRow_nil _ _ _ _, World.ownsRow_nil _ _ _ _, hB⟩, fun h => by omega, fun h => by omega, fun h => by omega⟩
  · rcases two r hr with rfl | rfl
    · refine ⟨_, hS, Nat.le_refl _, fun i hi => ?_⟩
      have hi : i < 6 := hi
      match i, hi with
      | 0, _ => rfl
      | 1, _ => rfl
      | 2, _ => rfl
      | 3, _ => rfl
      | 4, _ => rfl
      | 5, _ => rfl
    · exact hR
  · rcases two r hr with rfl | rfl
    · exact Nat.le_of_lt hp
    · exact Nat.le_refl _
  · rcases two r hr with rfl | rfl <;> rcases two s hs with rfl | rfl
    · rfl
    · exfalso
      have e : p = w.heap.size := e
      omega
    · exfalso
      have e : w.heap.size = p := e
      omega
    · rfl

set_option maxRecDepth 100000 in
set_option maxHeartbeats 6400000 in
theorem startOk : StartOk := by
  intro n L a cap g o w hn h64 hL ho hD
  obtain ⟨i0, hi0, hz0, hz1, hz2⟩ := info_parts infoBool
  obtain ⟨i1, hi1, hy0, hy1, hy2⟩ := info_parts infoInt
  obtain ⟨i2, hi2, hx0, hx1, hx2⟩ := info_parts infoCx
  obtain ⟨i3, hi3, hv0, hv1, hv2⟩ := info_parts infoLI
  obtain ⟨i4, hi4, hu0, hu1, hu2⟩ := info_parts infoLC
  obtain ⟨M, hM⟩ : ∃ M, n * n = M := ⟨_, rfl⟩
  have hM2 : M ≤ 4096 := by rw [← hM]; exact Nat.mul_le_mul h64 h64
  have mI : (n : Int) * (n : Int) = (M : Int) := by rw [← hM]; push_cast; rfl
  have m1 : IntKind.i64.wrap ((n : Int) * (n : Int)) = (M : Int) := by rw [mI, IntKind.wrap_i64]; omega
  have HD := hide hD
  have HM := hide hM
  clear hD hM mI
  go_enter Try.func19, Try.ntmps19
  go_wp2_with (first
    | (at_make; refine wpList_make_full _ rfl (.tmp 17) (.tmp 17) 24 rfl w.heap.size 4 i0 (.bool false) 1 Try.underlying24 hi0 hz0 hz1 .i64 .i64 M M M rfl rfl rfl rfl ?c1 ?c2 ?c3 ?_))
  case c1 => rw [hz2]; omega
  case c2 => unfold maxLen; omega
  case c3 => exact Nat.le_refl _
  intro w1 hown1 hg1
  have R1 := hide (vrow_made hown1 (fun i hi => made_get hi))
  have B1 := hide (below_grown0 hg1)
  clear hown1 hg1
  go_wp2_with fail
  have hp : w.heap.size < w1.heap.size := vrow_lt (unhide R1)
  have hst := hide (heap_alloc_new w1 (.cells #[.int .i64 n, .slice (some ⟨w.heap.size, 0, none⟩) M M, .slice none 0 0, .slice none 0 0, .slice none 0 0, .slice a L.length cap] 68))
  have hB2 := hide (((unhide B1).alloc (Nat.le_of_lt hp) (.cells #[.int .i64 n, .slice (some ⟨w.heap.size, 0, none⟩) M M, .slice none 0 0, .slice none 0 0, .slice none 0 0, .slice a L.length cap] 68)))
  have R2 := hide (vrow_keep (unhide R1) (Below.heap_alloc w1 (.cells #[.int .i64 n, .slice (some ⟨w.heap.size, 0, none⟩) M M, .slice none 0 0, .slice none 0 0, .slice none 0 0, .slice a L.length cap] 68) _ hp))
  clear R1 B1
  generalize w1.alloc (.cells #[.int .i64 n, .slice (some ⟨w.heap.size, 0, none⟩) M M, .slice none 0 0, .slice none 0 0, .slice none 0 0, .slice a L.length cap] 68) = w2 at *
  generalize w1.heap.size = p at *
  generalize hq : w.heap.size = q at *
  go_loopw [6] (fun iv wr => ∃ i : Nat, i ≤ M ∧ iv = .int .i64 i ∧ Hid (VRow wr 4 q M (fun j => .bool (decide (j < i)))) ∧ Hid (wr.heap[p]? = some (.cells #[.int .i64 n, .slice (some ⟨q, 0, none⟩) M M, .slice none 0 0, .slice none 0 0, .slice none 0 0, .slice a L.length cap] 68 (0, 0))) ∧ Hid (Below q w wr)) (fun iv _ => M - (intOf iv).toNat)
  case atStart => exact ⟨0, Nat.zero_le _, rfl, vrow_ext (unhide R2) (fun i hi => by simp), hst, hB2⟩
  case round =>
    clear R2 hst hB2
    obtain ⟨i, hi, rfl, hR, hS, hB⟩ := hrel
    by_cases hiM : i < M
    · have q1 : ((i : Int) < (M : Int)) = True := by simp; omega
      have c1 : wr.cell? ⟨p, 1, none⟩ = some (.slice (some ⟨q, 0, none⟩) M M) := cell_of_row wr p 1 _ _ (0, 0) (unhide hS)
      have c2 := vrow_at (unhide hR) hiM
      have f2 := vrow_frozen (unhide hR) i
      have R3 : Hid (VRow (wr.setCell ⟨q, i, none⟩ (.bool true)) 4 q M (fun j => .bool (decide (j < i + 1)))) := vrow_ext (vrow_set (unhide hR) i (.bool true)) fun j hj => by
        by_cases e : j = i
        · rw [if_pos e]; simp; omega
        · rw [if_neg e]; simp; omega
      have hS3 : Hid ((wr.setCell ⟨q, i, none⟩ (.bool true)).heap[p]? = some (.cells #[.int .i64 n, .slice (some ⟨q, 0, none⟩) M M, .slice none 0 0, .slice none 0 0, .slice none 0 0, .slice a L.length cap] 68 (0, 0))) := (Below.heap_setCell _ _ _ _ (by show p ≠ q; omega)).trans (unhide hS)
      have hB3 := hide ((unhide hB).setCell (p := ⟨q, i, none⟩) (Nat.le_refl _) (.bool true))
      clear hR hS hB
      go_wp2_with fail
      exact ⟨⟨i + 1, by omega, by go_num, R3, hS3, hB3⟩, by simp [intOf]; omega⟩
    · have q1 : ((i : Int) < (M : Int)) = False := by simp; omega
      have e : i = M := by omega
      have G0 : Hid (Gr w wr n L a cap (V0 p q (n * n)) 0) := by
        have hR' := unhide hR
        have hS' := unhide hS
        have hB' := unhide hB
        rw [← unhide HM] at hR' hS'
        rw [← hq] at hR' hS' hB' hp ⊢
        exact Gr.start hp (vrow_ext hR' fun j hj => by simp [e, ← unhide HM, hj]) hS' hB'
      clear hR hS hB e
      go_wp2_with fail
      go_loopw [7] (fun kv wr => ∃ (k : Nat) (V : BV), k ≤ L.length ∧ kv = .int .i64 k ∧ V.blk 0 = p ∧ Hid (Gr w wr n L a cap V k)) (fun kv _ => L.length - (intOf kv).toNat)
      case atStart => exact ⟨0, _, Nat.zero_le _, rfl, rfl, G0⟩
      case round =>
        clear G0
        obtain ⟨k, V, hk, rfl, hV, G⟩ := hrel
        by_cases hkL : k < L.length
        · have q2 : ((k : Int) < (L.length : Int)) = True := by simp; omega
          have hDr := dirs_below (unhide HD) (unhide G).gs.bel
          obtain ⟨haa, hgb⟩ := hDr.at_ (by omega)
          subst haa
          have hd := dk_at hkL
          have hok := ho _ (dk_mem hkL)
          obtain ⟨p1, p2⟩ := hDr.cell k _ hd
          obtain ⟨o1, o2, o3⟩ := okD_bounds hok
          have kb := hide (fun (W : World) => binsAny (n := (n : Int)) (a := dk L k) ⟨by unfold I64; omega, by unfold I64; omega⟩ W)
          unfold dirV at kb
          rw [binN_eq hn h64 hok] at kb
          dsimp only at kb
          have hbn := binN_le h64 hok
          have hB0 := hide (unhide G).gs.bel
          have hlt := (unhide G).gs.lt
          have hHD := hide hd
          have hbd := hide (fun (j : Nat) (hj : j < n * n) => line_bounds (d := dk L k) hn h64 hok hj)
          have hl := hide (fun (j : Nat) (hj : j < n * n) (W : World) c0 c5 hDW hpW => boardLine (p := p) (a := some ⟨g, o, none⟩) (cap := cap) (g := g) (o := o) hn h64 hL hj (unhide hHD) hok W c0 c5 hDW hpW)
          have hok' := hide hok
          clear hDr hd hok
          go_wp2_with fail
          refine (unhide kb _).mono ?_
          rintro e w3 ⟨rfl, hb3⟩
          have B3 := hide hb3
          clear hb3 kb
          go_wp2_with (first
            | (at_make; refine wpList_make_full _ rfl (.tmp 50) (.tmp 50) 53 rfl w3.heap.size 3 i1 (.int .i64 0) 1 Try.underlying53 hi1 hy0 hy1 .i64 .i64 (binN n (dk L k)) (binN n (dk L k)) (binN n (dk L k)) rfl rfl rfl rfl ?c1 ?c2 ?c3 ?_))
          case c1 => rw [hy2]; omega
          case c2 => unfold maxLen; omega
          case c3 => exact Nat.le_refl _
          intro w4 hown4 hg4
          have R4 : Hid (VRow w4 3 w3.heap.size (binN n (dk L k)) (fun j => .int .i64 (cntB (onB n (dk L k) allB (j : Int)) 0 : Nat))) := vrow_made hown4 (fun i hi => made_get hi)
          have B4 := hide (below_grown0 hg4)
          clear hown4 hg4 p1 p2
          have hBe : Hid (∀ wx : World, Below w3.heap.size w3 wx → Below wr.heap.size wr wx) := fun wx h => (unhide B3).trans (h.mono (unhide B3).size)
          have h35 : wr.heap.size ≤ w3.heap.size := (unhide B3).size
          have hAdd := hide (fun (wx : World) (f : Nat → Value) (hBx : Below w3.heap.size w3 wx) (hRx : VRow wx 3 w3.heap.size (binN n (dk L k)) f) => (unhide G).gs.add (r := 5 + 2 * k) (b := w3.heap.size) (m := binN n (dk L k)) (f := f) (by omega) (unhide hBe _ hBx) (by rw [ft5]; exact hRx) h35)
          generalize hb5 : w3.heap.size = b5 at *
          generalize hbN : binN n (dk L k) = bn at *
          go_wp2_with fail
          go_loopw [11] (fun iv wx => ∃ i : Nat, i ≤ M ∧ iv = .int .i64 i ∧ Hid (VRow wx 3 b5 bn (fun j => .int .i64 (cntB (onB n (dk L k) allB (j : Int)) i : Nat))) ∧ Hid (Below b5 w3 wx)) (fun iv _ => M - (intOf iv).toNat)
          case atStart => exact ⟨0, Nat.zero_le _, rfl, R4, B4⟩
          case round =>
            clear R4 B4
            obtain ⟨i, hi, rfl, hR, hBx⟩ := hrel
            have hGx := hide ((unhide G).gs.below (unhide hBe _ (unhide hBx)))
            by_cases hiM : i < M
            · have q3 : ((i : Int) < (M : Int)) = True := by simp; omega
              obtain ⟨q', hq', eq'⟩ := unhide hbd i (by rw [unhide HM]; exact hiM)
              have x0 := (unhide hGx).cell (i := 0) (by omega)
              have x5 := (unhide hGx).cell (i := 5) (by omega)
              rw [hV] at x0 x5
              have hpx := (unhide hGx).lt
              rw [hV] at hpx
              have kl := hide (unhide hl i (by rw [unhide HM]; exact hiM) _ x0 x5 (dirs_below (unhide HD) (unhide hGx).bel) hpx)
              rw [eq'] at kl
              have hbs : b5 ≤ wr.heap.size := by have := (unhide hBx).size; omega
              clear x0 x5 hpx hGx
              go_wp2_with fail
              refine (unhide kl).mono ?_
              rintro e w5 ⟨rfl, hb⟩
              have R5 := vrow_keep (unhide hR) (hb.block _ (vrow_lt (unhide hR)))
              have B5 := (unhide hBx).trans (hb.mono hbs)
              have c5 := vrow_at R5 hq'
              have f5 := vrow_frozen R5 q'
              have hcl : cntB (onB n (dk L k) allB (q' : Int)) i ≤ i := cnt_le _ _
              have hn1 : IntKind.i64.wrap (((cntB (onB n (dk L k) allB (q' : Int)) i : Nat) : Int) + 1) = ((cntB (onB n (dk L k) allB (q' : Int)) i + 1 : Nat) : Int) := by rw [IntKind.wrap_i64]; omega
              have R6 : Hid (VRow (w5.setCell ⟨b5, q', none⟩ (.int .i64 (cntB (onB n (dk L k) allB (q' : Int)) i + 1 : Nat))) 3 b5 bn (fun j => .int .i64 (cntB (onB n (dk L k) allB (j : Int)) (i + 1) : Nat))) := vrow_ext (vrow_set R5 q' _) fun j hj => by
                rw [cnt_next eq' j]
                by_cases e : j = q'
                · rw [if_pos e, if_pos e, e]
                · rw [if_neg e, if_neg e]
                  rfl
              have B6 := hide (B5.setCell (p := ⟨b5, q', none⟩) (Nat.le_refl _) (.int .i64 (cntB (onB n (dk L k) allB (q' : Int)) i + 1 : Nat)))
              have q4 : ((q' : Int) < (bn : Int)) = True := by simp; omega
              clear kl hb R5 B5 hR hBx eq'
              generalize cntB (onB n (dk L k) allB (q' : Int)) i = cn at *
              go_wp2_with fail
              exact ⟨⟨i + 1, by omega, by go_num, R6, B6⟩, by simp [intOf]; omega⟩
            · have q3 : ((i : Int) < (M : Int)) = False := by simp; omega
              have e : i = M := by omega
              rw [e] at hR
              have c0 := hide (fun (j : Nat) (hj : j < bn) => vrow_at (unhide hR) hj)
              have hcl : Hid (∀ j : Nat, cntB (onB n (dk L k) allB (j : Int)) M ≤ M) := fun j => cnt_le _ _
              have G3 := hide (unhide hAdd wr _ (unhide hBx) (unhide hR))
              clear e hR hBx hGx hAdd hBe hl hbd
              go_wp2_with fail
              go_loopw [12, 13] (fun rv iv wx => ∃ i : Nat, i ≤ bn ∧ iv = .int .i64 i ∧ rv = .int .i64 (cntB (fun j => decide (cntB (onB n (dk L k) allB (j : Int)) M = 1)) i : Nat) ∧ wr = wx) (fun _ iv _ => bn - (intOf iv).toNat)
              case atStart => exact ⟨0, Nat.zero_le _, rfl, rfl, rfl⟩
              case round =>
                obtain ⟨i, hi, rfl, rfl, rfl⟩ := hrel
                by_cases hib : i < bn
                · have q4 : ((i : Int) < (bn : Int)) = True := by simp; omega
                  have ci := unhide c0 i hib
                  have hle := unhide hcl i
                  have hst := cnt_step (fun j => decide (cntB (onB n (dk L k) allB (j : Int)) M = 1)) i
                  have hrl : cntB (fun j => decide (cntB (onB n (dk L k) allB (j : Int)) M = 1)) i ≤ i := cnt_le _ _
                  generalize hr' : cntB (fun j => decide (cntB (onB n (dk L k) allB (j : Int)) M = 1)) (i + 1) = r' at *
                  have hr2 := hide hr'
                  clear hr'
                  generalize cntB (fun j => decide (cntB (onB n (dk L k) allB (j : Int)) M = 1)) i = r at *
                  generalize cntB (onB n (dk L k) allB (i : Int)) M = ct at *
                  by_cases hc : ct = 1
                  · subst hc
                    have er : r' = r + 1 := by rw [hst]; simp
                    have n1 : IntKind.i64.wrap ((r : Int) + 1) = (r' : Int) := by rw [IntKind.wrap_i64, er]; omega
                    have hst' := hide er
                    clear hst er
                    go_wp2_with fail
                    exact ⟨⟨i + 1, by omega, by go_num, by rw [unhide hr2], trivial⟩, by simp [intOf]; omega⟩
                  · have q5 : ((ct : Int) == 1) = false := by simp; omega
                    have er : r' = r := by rw [hst]; simp [hc]
                    subst er
                    have hc' := hide hc
                    clear hc hst
                    go_wp2_with fail
                    exact ⟨⟨i + 1, by omega, by go_num, by rw [unhide hr2], trivial⟩, by simp [intOf]; omega⟩
                · have q4 : ((i : Int) < (bn : Int)) = False := by simp; omega
                  have e : i = bn := by omega
                  rw [e]
                  have hrl : cntB (fun j => decide (cntB (onB n (dk L k) allB (j : Int)) M = 1)) bn ≤ bn := cnt_le _ _
                  have e4 : Hid ((Value.int .i64 ((cntB (fun j => decide (cntB (onB n (dk L k) allB (j : Int)) M = 1)) bn : Nat) : Int)) = .int .i64 ((rdy n (dk L k) allB (binN n (dk L k)) : Nat) : Int)) := by
                    show _ = _
                    unfold rdy cntL
                    rw [unhide HM, hbN]
                  have e5 : Hid (∀ j, j < bn → (fun j : Nat => Value.int .i64 ((cntB (onB n (dk L k) allB (j : Int)) M : Nat) : Int)) j = .int .i64 ((cntL n (dk L k) allB (j : Int) : Nat) : Int)) := fun j _ => by
                    unfold cntL
                    rw [unhide HM]
                  generalize cntB (fun j => decide (cntB (onB n (dk L k) allB (j : Int)) M = 1)) bn = rd at *
                  generalize (fun j : Nat => Value.int .i64 ((cntB (onB n (dk L k) allB (j : Int)) M : Nat) : Int)) = f5 at *
                  have s0 : Hid (w.heap.size ≤ wr.heap.size) := (unhide G3).bel.size
                  have hqh := hide hq
                  have hbN' := hide hbN
                  have hb5' := hide hb5
                  clear e hi q4 hib c0 hcl hq hbN hb5
                  have d0 : updP V.blk (5 + 2 * k) b5 0 = p := (updP_ne _ _ (by omega)).trans hV
                  have c3 := (unhide G3).cell (i := 3) (by omega)
                  rw [d0, (unhide G3).fC] at c3
                  have d0' := hide d0
                  clear d0
                  have G4 := hide ((unhide G3).below ((Below.refl _ wr).alloc (Nat.le_refl _) (.cells #[.slice (some ⟨b5, 0, none⟩) bn bn] 53)))
                  clear G3
                  go_wp2_with (first
                    | (at_builtin; refine wpList_append_own_at _ rfl (.tmp 84) (.tmp 86) 66 rfl w.heap.size 53 i3 (.slice none 0 0) 1 24 Try.underlying66 hi3 hv0 hv1 hv2 rfl (by decide) _ _ _ rfl (unhide G4).oC ⟨wr.heap.size, 0, none⟩ 1 1 [.slice (some ⟨b5, 0, none⟩) bn bn] rfl rfl (cell_one_new _ _ _) ?c2 ?c3 ?c4 ?c5 ?_))
                  case c2 => intro u hu; simp at hu; subst hu; rfl
                  case c3 => unfold maxLen; omega
                  case c4 => omega
                  case c5 => have := unhide s0; simp; omega
                  intro v' w5 hown' hgrow _ hat
                  obtain ⟨f3, c3', bC, cC, rfl, G5⟩ := (unhide G4).appC hown' (by omega) (pick_get _ _ _) hgrow (by rw [World.size_alloc]; exact hat)
                  rw [unhide d0'] at f3 c3' G5
                  have G5 := hide G5
                  clear hown' hgrow hat G4
                  have d1 : updP (updP V.blk (5 + 2 * k) b5) 3 bC 0 = p := (updP_ne _ _ (by omega)).trans (unhide d0')
                  have c4 := (unhide G5).cell (i := 4) (by omega)
                  rw [d1, (unhide G5).fY] at c4
                  have c4 : w5.cell? ⟨p, 4, none⟩ = some (.slice V.aY k V.cY) := by simpa [go_sem] using c4
                  have d1' := hide d1
                  clear d1 c3
                  have s1 : Hid (w.heap.size ≤ w5.heap.size) := by
                    have := (unhide G5).bel.size
                    rwa [World.size_setCell] at this
                  have hnw : Hid (∀ j u, [Value.int .i64 (rd : Int)][j]? = some u → ((w5.setCell ⟨p, 3, none⟩ (.slice (some ⟨bC, 0, none⟩) (k + 1) cC)).alloc (.cells #[.int .i64 (rd : Int)] 3)).cell? ((⟨w5.heap.size, 0, none⟩ : Addr).add j) = some u) := by
                    have := cell_one_new (w5.setCell ⟨p, 3, none⟩ (.slice (some ⟨bC, 0, none⟩) (k + 1) cC)) (.int .i64 (rd : Int)) 3
                    rwa [World.size_setCell] at this
                  have G6 := hide ((unhide G5).below ((Below.refl _ _).alloc (Nat.le_refl _) (.cells #[.int .i64 (rd : Int)] 3)))
                  clear G5
                  go_wp2_with (first
                    | (at_builtin; refine wpList_append_own_at _ rfl (.tmp 94) (.tmp 96) 53 rfl w.heap.size 3 i1 (.int .i64 0) 1 8 Try.underlying53 hi1 hy0 hy1 hy2 rfl (by decide) _ _ _ rfl (unhide G6).oY ⟨w5.heap.size, 0, none⟩ 1 1 [.int .i64 (rd : Int)] rfl rfl (unhide hnw) ?c2 ?c3 ?c4 ?c5 ?_))
                  case c2 => intro u hu; simp at hu; subst hu; rfl
                  case c3 => unfold maxLen; omega
                  case c4 => omega
                  case c5 => have := unhide s1; simp; omega
                  intro v' w7 hown' hgrow _ hat
                  obtain ⟨f4, c4, bY, cY, rfl, G7⟩ := (unhide G6).appY hown' (by omega) (pick_get _ _ _) hgrow (by rw [World.size_alloc, World.size_setCell]; exact hat)
                  rw [unhide d1'] at f4 c4 G7
                  have G7 := hide G7
                  clear hown' hgrow hat G6
                  have d2 : updP (updP (updP V.blk (5 + 2 * k) b5) 3 bC) 4 bY 0 = p := (updP_ne _ _ (by omega)).trans (unhide d1')
                  go_wp2_with fail
                  clear f4 c4
                  generalize w7.setCell ⟨p, 4, none⟩ (.slice (some ⟨bY, 0, none⟩) (k + 1) cY) = w8 at *
                  have c2 := (unhide G7).cell (i := 2) (by omega)
                  rw [d2, (unhide G7).fR] at c2
                  have hp8 := (unhide G7).lt
                  rw [d2] at hp8
                  have hmk := run_make_row' (P := Try.prog) 39 38 (.complex .f64 0 0) 16 Try.underlying39 infoCx rfl .i64 .i64 bn (by omega) (by omega)
                  have c2b : (w8.alloc (.cells (madeCells #[.complex .f64 0 0] bn) 38)).cell? ⟨p, 2, none⟩ = some (.slice V.aR k V.cR) := (World.cell?_of_block (Below.heap_alloc w8 _ _ hp8)).trans c2
                  have c2c : ((w8.alloc (.cells (madeCells #[.complex .f64 0 0] bn) 38)).alloc (.cells #[.slice (some ⟨w8.heap.size, 0, none⟩) bn bn] 39)).cell? ⟨p, 2, none⟩ = some (.slice V.aR k V.cR) := (World.cell?_of_block (Below.heap_alloc (w8.alloc (.cells (madeCells #[.complex .f64 0 0] bn) 38)) _ _ (by rw [World.size_alloc]; show p < _; omega))).trans c2b
                  have G8 := hide ((unhide G7).add (r := 6 + 2 * k) (w' := w8.drew.alloc (.cells (madeCells #[.complex .f64 0 0] bn) 38)) (b := w8.heap.size) (m := bn) (f := fun _ => .complex .f64 0 0) (by omega) (((Below.refl _ w8).drew).alloc (Nat.le_refl _) _) (by rw [ft6]; exact vrow_new w8.drew _ _ _) (Nat.le_refl _))
                  have G9 := hide ((unhide G8).below ((Below.refl _ _).alloc (Nat.le_refl _) (.cells #[.slice (some ⟨w8.heap.size, 0, none⟩) bn bn] 39)))
                  have s2 : Hid (w.heap.size ≤ ((w8.drew.alloc (.cells (madeCells #[.complex .f64 0 0] bn) 38)).alloc (.cells #[.slice (some ⟨w8.heap.size, 0, none⟩) bn bn] 39)).heap.size) := (unhide G9).bel.size
                  have hnw2 : Hid (∀ j u, [Value.slice (some ⟨w8.heap.size, 0, none⟩) bn bn][j]? = some u → ((w8.drew.alloc (.cells (madeCells #[.complex .f64 0 0] bn) 38)).alloc (.cells #[.slice (some ⟨w8.heap.size, 0, none⟩) bn bn] 39)).cell? ((⟨w8.heap.size + 1, 0, none⟩ : Addr).add j) = some u) := by
                    have := cell_one_new (w8.drew.alloc (.cells (madeCells #[.complex .f64 0 0] bn) 38)) (.slice (some ⟨w8.heap.size, 0, none⟩) bn bn) 39
                    rwa [World.size_alloc] at this
                  have h1c : Hid (∀ u ∈ [Value.slice (some ⟨w8.heap.size, 0, none⟩) bn bn], u.oneCell' = true) := fun u hu => by simp at hu; subst hu; rfl
                  have d3 : Hid (updP (updP (updP (updP V.blk (5 + 2 * k) b5) 3 bC) 4 bY) (6 + 2 * k) w8.heap.size 0 = p) := (updP_ne _ _ (by omega)).trans d2
                  clear d2 G7 G8 hnw
                  go_region_law (refine step_append_at rfl (.tmp 104) (.tmp 107) 65 rfl w.heap.size 39 i4 (.slice none 0 0) 1 24 Try.underlying65 hi4 hu0 hu1 hu2 rfl (by decide) (.slice V.aR k V.cR) k (xsF (FB n L (some ⟨g, o, none⟩) cap V allB allK 2) k) rfl (unhide G9).oR ⟨w8.heap.size + 1, 0, none⟩ 1 1 [.slice (some ⟨w8.heap.size, 0, none⟩) bn bn] rfl rfl (unhide hnw2) (unhide h1c) (by unfold maxLen; omega) (by omega) (unhide s2) ?_
                                 intro v' w9 hown' hgrow hat
                                 obtain ⟨f2, c2', bR, cR, rfl, G10⟩ := (unhide G9).appR hown' (by omega) (pick_get _ _ _) hgrow hat
                                 rw [unhide d3] at f2 c2' G10
                                 have hfin : Hid (∃ V', V'.blk 0 = p ∧ Gr w (w9.setCell ⟨p, 2, none⟩ (.slice (some ⟨bR, 0, none⟩) (k + 1) cR)) n L (some ⟨g, o, none⟩) cap V' (k + 1)) := by
                                   rw [← unhide hbN'] at G10
                                   refine ⟨_, ?_, Gr.next rfl rfl (unhide e4) (fun i hi => unhide e5 i (by rw [← unhide hbN']; exact hi)) (fun _ _ => rfl) G10⟩
                                   show updP (updP (updP (updP (updP V.blk (5 + 2 * k) b5) 3 bC) 4 bY) (6 + 2 * k) w8.heap.size) 2 bR 0 = p
                                   rw [updP_ne _ _ (show (0 : Nat) ≠ 2 by omega)]
                                   exact unhide d3
                                 clear hown' hgrow hat G9 G10)
                  all_goals go_wp2_with fail
                  all_goals obtain ⟨V', hV2, GG⟩ := unhide hfin
                  all_goals exact ⟨⟨k + 1, V', by omega, by go_num, hV2, GG⟩, by simp [intOf]; omega⟩
        · have q2 : ((k : Int) < (L.length : Int)) = False := by simp; omega
          have e : k = L.length := by omega
          rw [e] at G
          have hB := hide ((unhide G).board (unhide HD))
          have hB2 := hide (unhide G).gs.bel
          have hV' := hide hV
          clear e hV G
          go_wp2_with fail
          go_ret
          exact ⟨V, by rw [unhide hV']; rfl, unhide hB, unhide hB2⟩
end Go.Proofs.Ytgbkfmjkemkajaa
