/- The library's Grow of nil and Concat of three slices of bytes, the first of them nil. -/
import Derived.Test.YtpmbgjoilfdkaaaXH
import Derived.Lib.AppendZeros
namespace Go.Proofs.Ytpmbgjoilfdkaaa
open Go.RowKit Fl Ieee

theorem own_grown {w : World} {n : Nat} {c : Nat} (hn : n ≤ c) (hc : c ≤ maxLen) : (w.drew.alloc (.cells (Builtin.zeroCells (Value.int .u8 0).cells n ++ Builtin.zeroCells (Value.int .u8 0).cells (c - n)) 5)).ownsRow w.heap.size 5 1 (.slice (some ⟨w.heap.size, 0, none⟩) 0 c) 0 (bL []) := by
  refine ⟨rfl, .inr ⟨w.heap.size, c, _, rfl, Nat.le_refl _, heap_alloc_new w.drew _, Nat.zero_le _, hc, ?_, rfl⟩⟩
  simp [Builtin.zeroCells, Value.cells]
  omega

set_option maxRecDepth 100000 in
set_option maxHeartbeats 1600000 in
theorem progGrow {n : Nat} (h1 : 1 ≤ n) (h2 : n ≤ 700000) (w : World) : Calls Try.prog 28 #[.slice none 0 0, .int .i64 n] w fun r w' => ∃ c, r = .returned (.slice (some ⟨w.heap.size, 0, none⟩) 0 c) ∧ w'.ownsRow w.heap.size 5 1 (.slice (some ⟨w.heap.size, 0, none⟩) 0 c) 0 (bL []) ∧ Below w.heap.size w w' := by
  obtain ⟨i0, hi0, hz0, hz1, hz2⟩ := info_parts infoB
  have hr := hide (Lib.run_append_nil_zeros w 22 3 22 5 i0 (.int .u8 0) .i64 .i64 Try.underlying22 Try.underlying3 hi0 hz0 n (by omega) (by omega) (by omega) (by rw [hz2]; omega))
  have hO := hide (own_grown (w := w) (grownCap_ge w n 0 5) (grownCap_le_maxLen w n 0 5 (by unfold maxLen; omega)))
  have hB : Hid (Below w.heap.size w (w.drew.alloc (.cells (Builtin.zeroCells (Value.int .u8 0).cells n ++ Builtin.zeroCells (Value.int .u8 0).cells (grownCap w n 0 5 - n)) 5))) := (Below.refl w.heap.size w).drew.alloc (Nat.le_refl _) _
  generalize (w.drew.alloc (.cells (Builtin.zeroCells (Value.int .u8 0).cells n ++ Builtin.zeroCells (Value.int .u8 0).cells (grownCap w n 0 5 - n)) 5)) = W1 at *
  have hcn := grownCap_ge w n 0 5
  generalize grownCap w n 0 5 = C at *
  have q1 : ((n : Int) < 0) = False := by simp
  have q2 : ((0 : Int) < (n : Int)) = True := by simp; omega
  have q3 : (0 < n) = True := by simp; omega
  have q4 : IntKind.i64.wrap (n : Int) = (n : Int) := by rw [IntKind.wrap_i64]; omega
  have q5 : (C = 0) = False := by simp; omega
  go_enter Try.func28, Try.ntmps28
  go_wp2_with (first | (at_builtin; refine Lib.wpList_append_run _ rfl (.tmp 20) (.tmp 21) 22 3 rfl _ _ rfl rfl _ _ (unhide hr) ?_))
  go_wp2_with fail
  go_ret
  exact ⟨C, rfl, unhide hO, unhide hB⟩

theorem append_none_run (w : World) (g : Nat) (c : Nat) (ty : TypeId) : (Builtin.append_ #[22, 22] ty #[.slice (some ⟨g, 0, none⟩) 0 c, .slice none 0 0]).run Try.prog w = .ok (.slice (some ⟨g, 0, none⟩) 0 c) w := by
  simp [Builtin.append_, go_sem]
theorem three_cells {W : World} {s : Nat} {a b c : Value} {t : TypeId} (h : W.heap[s]? = some (.cells #[a, b, c] t (0, 0))) : W.cell? ⟨s, 0, none⟩ = some a ∧ W.cell? ⟨s, 1, none⟩ = some b ∧ W.cell? ⟨s, 2, none⟩ = some c :=
  ⟨by simp [World.cell?, h], by simp [World.cell?, h], by simp [World.cell?, h]⟩

set_option maxRecDepth 100000 in
set_option maxHeartbeats 6400000 in
theorem progConcat {G gh ch gb cb : Nat} {H bs : List Nat} (hH : H.length = 8) (hl : bs.length ≤ 600001) (w : World) (hG : w.heap[G]? = some (.cells #[.slice none 0 0, .slice (some ⟨gh, 0, none⟩) 8 ch, .slice (some ⟨gb, 0, none⟩) bs.length cb] 22 (0, 0))) (hh : BAt w (some ⟨gh, 0, none⟩) gh 0 H) (hb : BAt w (some ⟨gb, 0, none⟩) gb 0 bs) :
    Calls Try.prog 20 #[.slice (some ⟨G, 0, none⟩) 3 3] w fun r w' => ∃ v, r = .returned v ∧ w'.ownsRow w.heap.size 5 1 v (8 + bs.length) (bL (H ++ bs)) ∧ Below w.heap.size w w' := by
  obtain ⟨i0, hi0, hz0, hz1, hz2⟩ := info_parts infoB
  have HG := hide hG
  have TH := hide hh
  have TB := hide hb
  obtain ⟨c0, c1, c2⟩ := three_cells hG
  have eH : Hid ((bL H).length = 8 * 1) := by show _ = _; rw [bL_len, hH]
  have eB : Hid ((bL bs).length = bs.length * 1) := by show _ = _; rw [bL_len, Nat.mul_one]
  generalize hm : bs.length = m at *
  obtain ⟨E, hE⟩ : ∃ E, E = 8 + m := ⟨_, rfl⟩
  have e1 : (8 : Int) + (m : Int) = (E : Int) := by omega
  have e2 : IntKind.i64.wrap (E : Int) = (E : Int) := by rw [IntKind.wrap_i64]; omega
  have e3 : ((E : Int) < 0) = False := by simp
  have kG := hide (progGrow (n := E) (by omega) (by omega) w)
  rw [← hE]
  have HE := hide hE
  clear hG hh hb hm hE
  go_enter Try.func20, Try.ntmps20
  go_wp2_with fail
  go_loopw [3, 11] (fun sv iv wr => w = wr ∧ ((iv = .int .i64 0 ∧ sv = .int .i64 0) ∨ (iv = .int .i64 1 ∧ sv = .int .i64 0) ∨ (iv = .int .i64 2 ∧ sv = .int .i64 8) ∨ (iv = .int .i64 3 ∧ sv = .int .i64 (E : Nat)))) (fun _ iv _ => 3 - (intOf iv).toNat)
  case atStart => exact ⟨rfl, .inl ⟨rfl, rfl⟩⟩
  case round =>
    obtain ⟨rfl, hrel⟩ := hrel
    rcases hrel with ⟨rfl, rfl⟩ | ⟨rfl, rfl⟩ | ⟨rfl, rfl⟩ | ⟨rfl, rfl⟩
    · go_wp2_with fail
      exact ⟨⟨trivial, .inr (.inl ⟨rfl, rfl⟩)⟩, by simp [intOf]⟩
    · go_wp2_with fail
      exact ⟨⟨trivial, .inr (.inr (.inl ⟨rfl, rfl⟩))⟩, by simp [intOf]⟩
    · go_wp2_with fail
      exact ⟨⟨trivial, .inr (.inr (.inr ⟨rfl, rfl⟩))⟩, by simp [intOf]⟩
    · go_wp2_with fail
      refine (unhide kG).mono ?_
      rintro e w1 ⟨C, rfl, hO, hb1⟩
      have O1 := hide hO
      have B1 := hide hb1
      clear hO hb1 kG c0 c1 c2
      go_wp2_with fail
      go_loopw [6, 27] (fun nv iv wr => Hid (Below w.heap.size w wr) ∧ ((iv = .int .i64 0 ∧ nv = .slice (some ⟨w.heap.size, 0, none⟩) 0 C ∧ Hid (wr.ownsRow w.heap.size 5 1 nv 0 (bL []))) ∨ (iv = .int .i64 1 ∧ nv = .slice (some ⟨w.heap.size, 0, none⟩) 0 C ∧ Hid (wr.ownsRow w.heap.size 5 1 nv 0 (bL []))) ∨ (iv = .int .i64 2 ∧ Hid (wr.ownsRow w.heap.size 5 1 nv 8 (bL H))) ∨ (iv = .int .i64 3 ∧ Hid (wr.ownsRow w.heap.size 5 1 nv E (bL (H ++ bs)))))) (fun _ iv _ => 3 - (intOf iv).toNat)
      case atStart => exact ⟨B1, .inl ⟨rfl, rfl, O1⟩⟩
      case round =>
        obtain ⟨hBe, hrel⟩ := hrel
        have swr : w.heap.size ≤ wr.heap.size := (unhide hBe).size
        have gr : wr.heap[G]? = some (.cells #[.slice none 0 0, .slice (some ⟨gh, 0, none⟩) 8 ch, .slice (some ⟨gb, 0, none⟩) m cb] 22 (0, 0)) := by
          rw [(unhide hBe).block _ (Array.getElem?_eq_some_iff.1 (unhide HG)).1]
          exact unhide HG
        obtain ⟨c0, c1, c2⟩ := three_cells gr
        have th := hide (news_bytes (bat_keep (unhide TH) (unhide hBe)) rfl)
        have tb := hide (news_bytes (bat_keep (unhide TB) (unhide hBe)) rfl)
        have oh := hide (bL_one H)
        have ob := hide (bL_one bs)
        clear gr
        rcases hrel with ⟨rfl, rfl, hO⟩ | ⟨rfl, rfl, hO⟩ | ⟨rfl, hO⟩ | ⟨rfl, hO⟩
        · go_wp2_with (first | (at_builtin; refine Lib.wpList_append_run _ rfl (.tmp 31) (.tmp 32) 22 22 rfl _ _ rfl rfl _ _ (append_none_run _ _ _ _) ?_))
          go_wp2_with fail
          exact ⟨⟨hBe, .inr (.inl ⟨rfl, rfl, hO⟩)⟩, by simp [intOf]⟩
        · go_wp2_with (first
            | (at_builtin; refine wpList_append_own _ rfl (.tmp 31) (.tmp 32) 22 rfl w.heap.size 5 i0 (.int .u8 0) 1 1 Try.underlying22 hi0 hz0 hz1 hz2 rfl (by decide) _ 0 _ rfl (unhide hO) ⟨gh, 0, none⟩ 8 ch (bL H) rfl (unhide eH) (unhide th) (unhide oh) ?c3 ?c4 ?c5 ?_))
          case c3 => unfold maxLen; omega
          case c4 => omega
          case c5 => exact swr
          intro v' w4 hown' hgrow _
          have B4 : Hid (Below w.heap.size w w4) := (unhide hBe).grown hgrow swr (fun k hk => ((unhide hO).lt k hk).1)
          have O4 : Hid (w4.ownsRow w.heap.size 5 1 v' 8 (bL H)) := hown'
          clear hown' hgrow
          go_wp2_with fail
          exact ⟨⟨B4, .inr (.inr (.inl ⟨rfl, O4⟩))⟩, by simp [intOf]⟩
        · go_wp2_with (first
            | (at_builtin; refine wpList_append_own _ rfl (.tmp 31) (.tmp 32) 22 rfl w.heap.size 5 i0 (.int .u8 0) 1 1 Try.underlying22 hi0 hz0 hz1 hz2 rfl (by decide) _ 8 _ rfl (unhide hO) ⟨gb, 0, none⟩ m cb (bL bs) rfl (unhide eB) (unhide tb) (unhide ob) ?c3 ?c4 ?c5 ?_))
          case c3 => unfold maxLen; omega
          case c4 => omega
          case c5 => exact swr
          intro v' w4 hown' hgrow _
          have B4 : Hid (Below w.heap.size w w4) := (unhide hBe).grown hgrow swr (fun k hk => ((unhide hO).lt k hk).1)
          have O4 : Hid (w4.ownsRow w.heap.size 5 1 v' E (bL (H ++ bs))) := by
            rw [← bL_app, unhide HE]
            exact hown'
          clear hown' hgrow
          go_wp2_with fail
          exact ⟨⟨B4, .inr (.inr (.inr ⟨rfl, O4⟩))⟩, by simp [intOf]⟩
        · go_wp2_with fail
          go_ret
          exact ⟨_, rfl, unhide hO, unhide hBe⟩
end Go.Proofs.Ytpmbgjoilfdkaaa
