/- Any file is read as the document says: the walk. -/
import Derived.Test.YtpmbgjoilfdkaaaVM
namespace Go.Proofs.Ytpmbgjoilfdkaaa
open Go.RowKit Fl Ieee

/-- What was copied. -/
def Given (w1 W : World) (v : Value) (L : List Nat) : Prop := ∃ a c g, v = .slice a L.length c ∧ BAt W a g 0 L ∧ (a = none → c = 0) ∧ L.length ≤ c ∧ Below w1.heap.size w1 W

theorem below_trans {a b c : World} (h1 : Below a.heap.size a b) (h2 : Below b.heap.size b c) : Below a.heap.size a c := h1.trans (h2.mono h1.size)
theorem gt_keep {L : List Nat} {i : Int} {w w' : World} {r : Value} {e : Int} (h : GtA L i w r e) (hb : Below w.heap.size w w') : GtA L i w' r e := by
  obtain ⟨c, S, P, hE, ⟨hp, i1, i2, he, gz, cz, hr, hR, h64⟩ | h⟩ := h
  · exact ⟨c, S, P, hE, .inl ⟨hp, i1, i2, he, gz, cz, hr, row_below hR hb (row_lt hR), h64⟩⟩
  · exact ⟨c, S, P, hE, .inr h⟩

set_option maxRecDepth 100000 in
set_option maxHeartbeats 12800000 in
theorem readsWalk (hS : SlicesOk 5) (hG : GetOk 7) (hC : CutOk 9) {a : Option Addr} {g o cap : Nat} {L : List Nat} (i : Int) (hlen : L.length ≤ 140737488355328) (w : World) (h : BAt w a g o L) (hnil : a = none → cap = 0) (hcap : L.length ≤ cap)
    (hal : Calls Try.prog 4 #[] w fun e w' => e = .returned (.bool true) ∧ Below w.heap.size w w') :
    Calls Try.prog 3 #[.slice a L.length cap, .int .i64 i] w fun e w' => e = .returned (.bool true) ∧ Below w.heap.size w w' := by
  obtain ⟨i0, hi0, hz0, hz1, hz2⟩ := info_parts infoB
  have kA := hide hal
  have H := hide h
  have hL := hide (bL_len L)
  have hN := hide hnil
  clear hal h hnil
  go_enter Try.func3, Try.ntmps3
  go_wp2_with fail
  refine (unhide kA).mono ?_
  rintro e w1 ⟨rfl, hb1⟩
  have B1 := hide hb1
  have H1 := hide (bat_keep (unhide H) hb1)
  clear hb1 kA
  have hown0 := hide (World.ownsRow_lit (base := w1.heap.size) (e := 5) (size := 1) w1 #[] 0 (Nat.le_refl _) (Nat.zero_le _) rfl)
  go_upto_region 3 with fail
  go_cut [5] (fun v wx => Hid (Given w1 wx v L))
  case first =>
    cases a with
    | none =>
      have hl0 : L.length = 0 := by
        by_cases c : 0 < L.length
        · have := ((unhide H1).at_ c).1
          cases this
        · omega
      obtain rfl := unhide hN rfl
      have eL : L = [] := List.eq_nil_of_length_eq_zero hl0
      subst eL
      go_wp2_with (first
        | (at_builtin; refine wpList_append_own_none rfl (.tmp 20) (.tmp 21) 22 rfl w1.heap.size 5 i0 1 Try.underlying22 hi0 _ 0 _ rfl (unhide hown0) rfl ?_))
      go_wp2_with fail
      go_meet
      exact ⟨some ⟨w1.heap.size, 0, none⟩, 0, 0, rfl, bat_nil rfl, (fun e => by cases e), Nat.le_refl 0, (Below.refl _ _).alloc (Nat.le_refl _) _⟩
    | some ad =>
      have hnews := hide (news_bytes (bat_keep (unhide H1) ((Below.refl _ w1).alloc (Nat.le_refl _) (.cells #[] 5))) rfl)
      have hone := hide (bL_one L)
      go_wp2_with (first
        | (at_builtin; refine wpList_append_own _ rfl (.tmp 20) (.tmp 21) 22 rfl w1.heap.size 5 i0 (.int .u8 0) 1 1 Try.underlying22 hi0 hz0 hz1 hz2 rfl (by decide) _ 0 _ rfl (unhide hown0) ad L.length cap (bL L) rfl (by rw [bL_len, Nat.mul_one]) (unhide hnews) (unhide hone) ?c3 ?c4 ?c5 ?_))
      case c3 => unfold maxLen; omega
      case c4 => omega
      case c5 => simp
      intro v' w2 hown' hgrow _
      have bw : Below w1.heap.size w1 w2 := ((Below.refl _ _).alloc (Nat.le_refl _) _).grown hgrow (by simp) (fun k hk => by cases hk; exact Nat.le_refl _)
      have hown' : w2.ownsRow w1.heap.size 5 1 v' L.length (bL L) := hown'
      obtain ⟨a2, c2, g2, rfl, hb2, hn2, hc2⟩ := bat_own2 hown' (unhide H1).lt
      have GV : Hid (Given w1 w2 (.slice a2 L.length c2) L) := ⟨a2, c2, g2, rfl, hb2, hn2, hc2, bw⟩
      clear hgrow hnews hone hown' hb2 hn2 hc2 bw
      go_wp2_with fail
      go_meet
      exact GV
  case rest =>
    obtain ⟨a2, c2, g2, rfl, hb2, hn2, hc2, bw⟩ := unhide hcut
    obtain ⟨w2, hw2⟩ : ∃ W, W = wc := ⟨_, rfl⟩
    subst hw2
    have B2 := hide ((unhide B1).trans (bw.mono (unhide B1).size))
    have H2 := hide (bat_keep (unhide H1) bw)
    have G2 := hide hb2
    have N2 := hide hn2
    have C2 := hide hc2
    have CF := hide hcap
    clear hcut hb2 hn2 hc2 bw hown0 H1 B1 hcap H
    have k1 := hide (fun (W : World) (hb : BAt W a2 g2 0 L) => sl_ans hS (cap := c2) W hb (unhide N2) (unhide C2) hlen)
    have k2 := hide (fun (W : World) (hb : BAt W a g o L) => sl_ans refSlices (cap := cap) W hb (unhide hN) (unhide CF) hlen)
    have k3 := hide (fun (W : World) (hb : BAt W a2 g2 0 L) => gt_ans hG (cap := c2) i W hb (unhide N2) (unhide C2) hlen)
    have k4 := hide (fun (W : World) (hb : BAt W a g o L) => gt_ans refGet (cap := cap) i W hb (unhide hN) (unhide CF) hlen)
    have k5 := hide (fun (W : World) (hb : BAt W a2 g2 0 L) => ct_ans hC (cap := c2) W hb (unhide N2) (unhide C2) hlen)
    have k6 := hide (fun (W : World) (hb : BAt W a g o L) => ct_ans refCutC (cap := cap) W hb (unhide hN) (unhide CF) hlen)
    have k7 := hide (fun (W : World) (hb : BAt W a2 g2 0 L) => run_strAny (cap := c2) hb)
    have k8 := hide (fun (W : World) (hb : BAt W a g o L) => run_strAny (cap := cap) hb)
    clear N2 C2 CF hN hL
    generalize hm : L.length = m at *
    go_wp2_with fail
    refine (unhide k1 _ (unhide G2)).mono ?_
    rintro e w3 ⟨a3, c3, p3, e3, rfl, A3, hb3⟩
    have A3 := hide A3
    have B3 := hide (below_trans (unhide B2) hb3)
    have H3 := hide (bat_keep (unhide H2) hb3)
    have G3 := hide (bat_keep (unhide G2) hb3)
    clear hb3 k1 B2 H2 G2
    go_wp2_with fail
    refine (unhide k2 _ (unhide H3)).mono ?_
    rintro e w4 ⟨a4, c4, p4, e4, rfl, A4, hb4⟩
    have A4 := hide A4
    have B4 := hide (below_trans (unhide B3) hb4)
    have H4 := hide (bat_keep (unhide H3) hb4)
    have G4 := hide (bat_keep (unhide G3) hb4)
    have F3 := hide hb4
    clear hb4 k2 B3 H3 G3
    go_wp2_with fail
    refine (unhide k3 _ (unhide G4)).mono ?_
    rintro e w5 ⟨n5, b5, l5, d5, e5, rfl, A5, hb5⟩
    have bx5 : Below w5.heap.size w5 (w5.alloc (.cells #[.int .i64 n5, .slice b5 l5 d5] 30)) := (Below.refl _ _).alloc (Nat.le_refl _) _
    have z5 : (w5.alloc (.cells #[.int .i64 n5, .slice b5 l5 d5] 30)).heap[w5.heap.size]? = some (.cells #[.int .i64 n5, .slice b5 l5 d5] 30 (0, 0)) := heap_alloc_new w5 _
    have s5 : w5.heap.size < (w5.alloc (.cells #[.int .i64 n5, .slice b5 l5 d5] 30)).heap.size := by rw [World.size_alloc]; omega
    have B5 := hide (below_trans (unhide B4) (below_trans hb5 bx5))
    have H5 := hide (bat_keep (unhide H4) (below_trans hb5 bx5))
    have G5 := hide (bat_keep (unhide G4) (below_trans hb5 bx5))
    have F4 := hide (below_trans hb5 bx5)
    have A5 := hide (gt_keep A5 bx5)
    have Z5 := hide z5
    clear hb5 k3 B4 H4 G4 bx5 z5
    go_wp2_with fail
    generalize w5.alloc (.cells #[.int .i64 n5, .slice b5 l5 d5] 30) = v5 at *
    generalize w5.heap.size = X5 at *
    refine (unhide k4 _ (unhide H5)).mono ?_
    rintro e w6 ⟨n6, b6, l6, d6, e6, rfl, A6, hb6⟩
    have bx6 : Below w6.heap.size w6 (w6.alloc (.cells #[.int .i64 n6, .slice b6 l6 d6] 30)) := (Below.refl _ _).alloc (Nat.le_refl _) _
    have z6 : (w6.alloc (.cells #[.int .i64 n6, .slice b6 l6 d6] 30)).heap[w6.heap.size]? = some (.cells #[.int .i64 n6, .slice b6 l6 d6] 30 (0, 0)) := heap_alloc_new w6 _
    have s6 : w6.heap.size < (w6.alloc (.cells #[.int .i64 n6, .slice b6 l6 d6] 30)).heap.size := by rw [World.size_alloc]; omega
    have B6 := hide (below_trans (unhide B5) (below_trans hb6 bx6))
    have H6 := hide (bat_keep (unhide H5) (below_trans hb6 bx6))
    have G6 := hide (bat_keep (unhide G5) (below_trans hb6 bx6))
    have F5b := hide (below_trans hb6 bx6)
    have A6 := hide (gt_keep A6 bx6)
    have Z6 := hide z6
    clear hb6 k4 B5 H5 G5 bx6 z6
    go_wp2_with fail
    generalize w6.alloc (.cells #[.int .i64 n6, .slice b6 l6 d6] 30) = v6 at *
    generalize w6.heap.size = X6 at *
    refine (unhide k5 _ (unhide G6)).mono ?_
    rintro e w7 ⟨c7, p7, rfl, A7, hb7⟩
    have A7 := hide A7
    have B7 := hide (below_trans (unhide B6) hb7)
    have H7 := hide (bat_keep (unhide H6) hb7)
    have G7 := hide (bat_keep (unhide G6) hb7)
    have F7 := hide hb7
    clear hb7 k5 B6 H6 G6
    go_wp2_with fail
    refine (unhide k6 _ (unhide H7)).mono ?_
    rintro e w8 ⟨c8, p8, rfl, A8, hb8⟩
    have B8 := hide (below_trans (unhide B7) hb8)
    have H8 := hide (bat_keep (unhide H7) hb8)
    have G8 := hide (bat_keep (unhide G7) hb8)
    have F8 := below_trans (unhide F7) hb8
    have F58 := below_trans (unhide F5b) F8
    have F48 := below_trans (unhide F4) F58
    have F38 := below_trans (unhide F3) F48
    obtain ⟨rfl, rfl⟩ := ct_same (unhide A7) A8
    obtain ⟨rfl, rfl, hc64, kS⟩ := sl_same (unhide A3) (unhide A4) F38 F48
    have KS := hide (kS p3 p4)
    have KB : Hid (∀ W : World, Below w8.heap.size w8 W → e5 = e6 ∧ Calls Try.prog 12 #[.agg #[.int .i64 n5, .slice b5 l5 d5], .agg #[.int .i64 n6, .slice b6 l6 d6]] W fun x w' => x = .returned (.bool true) ∧ Below W.heap.size W w') := fun W hb => gt_same (unhide A5) (unhide A6) (below_trans F58 hb) (below_trans F8 hb)
    obtain ⟨rfl, _⟩ := unhide KB w8 (Below.refl _ _)
    have C5 : Hid (∀ W : World, Below w8.heap.size w8 W → W.cell? ⟨X5, 0, none⟩ = some (.int .i64 n5) ∧ W.cell? ⟨X5, 1, none⟩ = some (.slice b5 l5 d5) ∧ W.cell? ⟨X6, 0, none⟩ = some (.int .i64 n6) ∧ W.cell? ⟨X6, 1, none⟩ = some (.slice b6 l6 d6)) := fun W hb => by
      have e5 : W.heap[X5]? = some (.cells #[.int .i64 n5, .slice b5 l5 d5] 30 (0, 0)) := by
        rw [(below_trans F58 hb).block X5 s5]
        exact unhide Z5
      have e6 : W.heap[X6]? = some (.cells #[.int .i64 n6, .slice b6 l6 d6] 30 (0, 0)) := by
        rw [(below_trans F8 hb).block X6 s6]
        exact unhide Z6
      exact ⟨(cells_two e5).1, (cells_two e5).2.1, (cells_two e6).1, (cells_two e6).2.1⟩
    clear hb8 A3 A4 A5 A6 A7 A8 kS F3 F4 F5b F7 F8 F38 F48 F58 Z5 Z6 H7 G7 B7 k6 s5 s6
    go_wp2_with fail
    refine (unhide KS).mono ?_
    rintro e w9 ⟨rfl, hb9⟩
    have B9 := hide (below_trans (unhide B8) hb9)
    have H9 := hide (bat_keep (unhide H8) hb9)
    have G9 := hide (bat_keep (unhide G8) hb9)
    obtain ⟨x0, x1, y0, y1⟩ := unhide C5 w9 hb9
    have KB9 := hide (unhide KB w9 hb9).2
    clear hb9 KS KB C5 B8 H8 G8
    go_wp2_with fail
    refine (unhide KB9).mono ?_
    rintro e w10 ⟨rfl, hb10⟩
    have B10 := hide (below_trans (unhide B9) hb10)
    have t1 := unhide k7 w10 (bat_keep (unhide G9) hb10)
    have t2 := unhide k8 w10 (bat_keep (unhide H9) hb10)
    clear hb10 KB9 x0 x1 y0 y1 B9 H9 G9 k7 k8
    generalize strB L = SL at *
    have ec : (SL.toList == SL.toList) = true := by simp
    go_wp2_with fail
    go_ret
    exact ⟨rfl, unhide B10⟩
end Go.Proofs.Ytpmbgjoilfdkaaa
