/- The program's parts, read from words. -/
import Derived.Test.YtfklhipjccempaaLH
import Derived.Test.YtfklhipjccempaaLJ
import Derived.Test.YtfklhipjccempaaKV2
namespace Go.Proofs.Ytfklhipjccempaa
open Go.RowKit Fl Ieee
attribute [local go_sem] store_complex

/-- What is told of bytes that are words. -/
def PartsPost (w : World) (E M : Nat) (l : Nat) (Q : Nat → Nat × Nat → Prop) (r : Ending) (w' : World) : Prop :=
  ((l = E ∧ ∃ gz f, r = .returned (.tuple #[.slice (some ⟨gz, 0, none⟩) M M, .bool true]) ∧ Row w' gz M f ∧ w.heap.size ≤ gz ∧ ∀ j, j < M → Q j (f j)) ∨ (l ≠ E ∧ r = .returned (.tuple #[.slice none 0 0, .bool false]))) ∧ Below w.heap.size w w'

theorem below_drewN' {B d : Nat} {w w' : World} (h : Below B w w') : Below B w (w'.drewN d) := ⟨h.os, h.tape, h.output, h.size, h.block⟩
theorem bat_drew1 {w : World} {a : Option Addr} {g o d : Nat} {L : List Nat} (h : BAt w a g o L) : BAt (w.drewN d) a g o L := ⟨h.lt, h.at_, h.cell⟩
theorem upd_all {f : Nat → Nat × Nat} {Q : Nat → Nat × Nat → Prop} {i : Nat} {c : Nat × Nat} (h : ∀ j, j < i → Q j (f j)) (hc : Q i c) : ∀ j, j < i + 1 → Q j (upd f i c j) := fun j hj => by
  unfold upd
  by_cases e : j = i
  · rw [if_pos e, e]; exact hc
  · rw [if_neg e]; exact h j (by omega)

set_option maxRecDepth 100000 in
set_option maxHeartbeats 6400000 in
theorem readParts64 {a : Option Addr} {g o c l M : Nat} {K : List Nat} (hM : M ≤ 4096) (hl : l = K.length) (hc : l ≤ c) (w : World) (h : BAt w a g o K) :
    Calls Try.prog 23 #[.slice a l c, .int .i64 M, .func (.func 12) #[] #[]] w (PartsPost w (16 * M) M l fun j c => c = (numB K (16 * j) 8, numB K (16 * j + 8) 8)) := by
  have H := hide h
  have HL := hide hl
  have k := hide bytesOf64
  have kf := from31
  obtain ⟨D, hD⟩ : ∃ D, D = 2 * M := ⟨_, rfl⟩
  obtain ⟨E, hE⟩ : ∃ E, E = 16 * M := ⟨_, rfl⟩
  have n1 : (2 : Int) * (M : Int) = (D : Int) := by omega
  have n2 : IntKind.i64.wrap (D : Int) = (D : Int) := by rw [IntKind.wrap_i64]; omega
  have n3 : (D : Int) * 8 = (E : Int) := by omega
  have n4 : IntKind.i64.wrap (E : Int) = (E : Int) := by rw [IntKind.wrap_i64]; omega
  obtain ⟨i0, hi0, hz0, hz1, hz2⟩ := info_parts infoC
  have HE := hide hE
  rw [← hE]
  clear hD hE h hl
  by_cases hlE : l = E
  · have q0 : ((l : Int) != (E : Int)) = false := by rw [hlE]; simp
    have HLE := hide hlE
    clear hlE
    go_enter Try.func23, Try.ntmps23
    go_wp2_with fail
    refine (unhide k _).mono ?_
    rintro e w' ⟨rfl, hw⟩
    obtain rfl := hw.symm
    go_wp2_with (first
      | (at_make; refine wpList_make_full _ rfl (.tmp 19) (.tmp 19) 24 rfl w.heap.size 34 i0 (.complex .f64 0 0) 1 Try.underlying24 hi0 hz0 hz1 .i64 .i64 M M M rfl rfl rfl rfl ?c1 ?c2 ?c3 ?_))
    case c1 => rw [hz2]; omega
    case c2 => unfold maxLen; omega
    case c3 => simp
    intro W2 hown2 hg2
    have hT : Hid (Row W2 w.heap.size M (fun _ => (0, 0))) := row_made hown2 (fun _ => (0, 0)) (fun i hi => zeros_get M i hi) (fun _ _ => rfl)
    have hb2 := hide (grown_below hg2)
    clear hown2 hg2 k
    go_wp2_with fail
    go_loopw [0, 23] (fun fv iv wr => ∃ (i : Nat) (a1 : Option Addr) (l1 c1 : Nat) (f : Nat → Nat × Nat), i ≤ M ∧ fv = .slice a1 l1 c1 ∧ iv = .int .i64 i ∧ l1 ≤ c1 ∧ Hid (l1 + 16 * i = l) ∧ Hid (∀ W, BAt W a g o K → BAt W a1 g (o + 16 * i) (K.drop (16 * i))) ∧ Hid (Row wr w.heap.size M f) ∧ Hid (∀ j, j < i → f j = (numB K (16 * j) 8, numB K (16 * j + 8) 8)) ∧ Hid (Below w.heap.size w wr)) (fun _ iv _ => M - (intOf iv).toNat)
    case atStart => exact ⟨0, a, l, c, fun _ => (0, 0), Nat.zero_le _, rfl, rfl, hc, rfl, fun W hW => hW, hT, fun j hj => absurd hj (Nat.not_lt_zero j), hb2⟩
    case round =>
      clear hT hb2
      obtain ⟨i, a1, l1, c1, f, hi, rfl, rfl, hc1, hl1, hF, hR, hQ, hBe⟩ := hrel
      by_cases hic : i < M
      · have q1 : ((i : Int) < (M : Int)) = True := by simp; omega
        have hE2 := unhide HE
        have hLE2 := unhide HLE
        have hLl := unhide HL
        have hl1e := unhide hl1
        have hl16 : 16 ≤ l1 := by omega
        have hl2 : Hid (l1 - 8 - 8 + 16 * (i + 1) = l) := by show _ = _; omega
        have d1 : l1 = (K.drop (16 * i)).length := by rw [List.length_drop]; omega
        have b1 := unhide hF wr (bat_keep (unhide H) (unhide hBe))
        have k1 := hide (readWord64 (c := c1) d1 (by omega) hc1 wr b1)
        have e1 : numB (K.drop (16 * i)) 0 8 = numB K (16 * i) 8 := by rw [numB_drop, Nat.add_zero]
        have e2 : numB ((K.drop (16 * i)).drop 8) 0 8 = numB K (16 * i + 8) 8 := by rw [numB_drop, numB_drop, Nat.add_zero]
        have k2 : Hid (∀ (a2 : Option Addr) (W : World), (∀ W, BAt W a1 g (o + 16 * i) (K.drop (16 * i)) → BAt W a2 g (o + 16 * i + 8) ((K.drop (16 * i)).drop 8)) → BAt W a g o K → Calls Try.prog 37 #[.slice a2 (l1 - 8) (c1 - 8)] W fun r w' => ∃ a' d, r = .returned (.tuple #[.int .u64 (numB K (16 * i + 8) 8), .slice a' (l1 - 8 - 8) (c1 - 8 - 8)]) ∧ (∀ W, BAt W a2 g (o + 16 * i + 8) ((K.drop (16 * i)).drop 8) → BAt W a' g (o + 16 * i + 8 + 8) (((K.drop (16 * i)).drop 8).drop 8)) ∧ w' = W.drewN d) := by
          intro a2 W h2 hW
          have := readWord64 (c := c1 - 8) (l := l1 - 8) (K := (K.drop (16 * i)).drop 8) (by rw [List.length_drop]; omega) (by omega) (by omega) W (h2 W (unhide hF W hW))
          rw [e2] at this
          exact this
        rw [e1] at k1
        have hx1 : numB K (16 * i) 8 < 18446744073709551616 := numB_lt (unhide H).lt _ 8
        have hx2 : numB K (16 * i + 8) 8 < 18446744073709551616 := numB_lt (unhide H).lt _ 8
        have hQ2 : Hid (∀ j, j < i + 1 → upd f i (numB K (16 * i) 8, numB K (16 * i + 8) 8) j = (numB K (16 * j) 8, numB K (16 * j + 8) 8)) := upd_all (Q := fun j c => c = (numB K (16 * j) 8, numB K (16 * j + 8) 8)) (unhide hQ) rfl
        generalize numB K (16 * i) 8 = x1 at *
        generalize numB K (16 * i + 8) 8 = x2 at *
        clear hQ b1 e1 e2 d1 hE2 hLE2 hLl hl1e hl1
        go_wp2_with fail
        refine (unhide k1).mono ?_
        rintro e w3 ⟨a3, d3, rfl, h3, rfl⟩
        have H3 := hide h3
        have k2' := hide (unhide k2 a3 (wr.drewN d3) h3 (bat_drew1 (bat_keep (unhide H) (unhide hBe))))
        clear h3 k1 k2
        go_wp2_with fail
        refine (unhide k2').mono ?_
        rintro e w4 ⟨a4, d4, rfl, h4, rfl⟩
        have F4 : Hid (∀ W, BAt W a g o K → BAt W a4 g (o + 16 * (i + 1)) (K.drop (16 * (i + 1)))) := fun W hW => by
          have := h4 W (unhide H3 W (unhide hF W hW))
          rw [List.drop_drop, List.drop_drop] at this
          rw [show 16 * (i + 1) = 16 * i + (8 + 8) by omega, show o + (16 * i + (8 + 8)) = o + 16 * i + 8 + 8 by omega, show 16 * i + (8 + 8) = 16 * i + 8 + 8 by omega]
          exact this
        have R4 : Hid (Row ((wr.drewN d3).drewN d4) w.heap.size M f) := unhide hR
        have B4 : Hid (Below w.heap.size w ((wr.drewN d3).drewN d4)) := below_drewN' (below_drewN' (unhide hBe))
        clear h4 k2' H3 hF hR hBe
        generalize (wr.drewN d3).drewN d4 = w4 at *
        have c0 := row_at (unhide R4) hic
        have f0 := row_frozen (unhide R4) i
        have R5 := hide (row_set (unhide R4) i (x1, x2))
        have B5 : Hid (Below w.heap.size w (w4.setCell ⟨w.heap.size, i, none⟩ (cv (x1, x2)))) := (unhide B4).setCell (Nat.le_refl _) _
        unfold cv at c0 R5 B5
        clear R4 B4
        go_wp2_with fail
        go_roundw
        case rel => exact ⟨i + 1, a4, l1 - 8 - 8, c1 - 8 - 8, _, hic, rfl, by go_num, by omega, hl2, F4, R5, hQ2, B5⟩
        case measure => simp [intOf]; omega
      · have q1 : ((i : Int) < (M : Int)) = False := by simp; omega
        have e : i = M := by omega
        subst e
        clear hF
        go_wp2_with fail
        go_ret2
        exact ⟨.inl ⟨unhide HLE, _, f, rfl, unhide hR, Nat.le_refl _, unhide hQ⟩, unhide hBe⟩
  · have q0 : ((l : Int) != (E : Int)) = true := by rw [bne_iff_ne]; omega
    go_enter Try.func23, Try.ntmps23
    go_wp2_with fail
    refine (unhide k _).mono ?_
    rintro e w' ⟨rfl, hw⟩
    obtain rfl := hw.symm
    go_wp2_with fail
    go_ret2
    exact ⟨.inr ⟨hlE, rfl⟩, Below.refl _ _⟩
theorem run_wide1 (x : Nat) (w : World) : ∃ r d, (convert 43 39 (.float .f32 x)).run Try.prog w = .ok (.float .f64 r) (w.drewN d) ∧ WideOk x r := by
  obtain ⟨r, d, e, h⟩ := conv_wide (P := Try.prog) x w
  refine ⟨r, d, ?_, wide_lt h, wide_or h⟩
  simp [convert, run_underlying Try.underlying43, run_underlying Try.underlying39, e]
set_option maxHeartbeats 800000 in
theorem wideOf (x : Nat) (w : World) : Calls Try.prog 25 #[.int .u32 x] w fun r w' => ∃ y d, r = .returned (.float .f64 y) ∧ WideOk x y ∧ w' = w.drewN d := by
  obtain ⟨y, d, e, h⟩ := run_wide1 x w
  have k := from32n
  have Y := hide h
  clear h
  go_enter Try.func25, Try.ntmps25
  go_wp2
  go_ret
  exact ⟨y, d, rfl, unhide Y, rfl⟩

set_option maxRecDepth 100000 in
set_option maxHeartbeats 6400000 in
theorem readParts32 {a : Option Addr} {g o c l M : Nat} {K : List Nat} (hM : M ≤ 4096) (hl : l = K.length) (hc : l ≤ c) (w : World) (h : BAt w a g o K) :
    Calls Try.prog 24 #[.slice a l c, .int .i64 M, .func (.func 25) #[] #[]] w (PartsPost w (8 * M) M l fun j c => WideOk (numB K (8 * j) 4) c.1 ∧ WideOk (numB K (8 * j + 4) 4) c.2) := by
  have H := hide h
  have HL := hide hl
  have k := hide bytesOf32
  have kv := hide wideOf
  obtain ⟨D, hD⟩ : ∃ D, D = 2 * M := ⟨_, rfl⟩
  obtain ⟨E, hE⟩ : ∃ E, E = 8 * M := ⟨_, rfl⟩
  have n1 : (2 : Int) * (M : Int) = (D : Int) := by omega
  have n2 : IntKind.i64.wrap (D : Int) = (D : Int) := by rw [IntKind.wrap_i64]; omega
  have n3 : (D : Int) * 4 = (E : Int) := by omega
  have n4 : IntKind.i64.wrap (E : Int) = (E : Int) := by rw [IntKind.wrap_i64]; omega
  obtain ⟨i0, hi0, hz0, hz1, hz2⟩ := info_parts infoC
  have HE := hide hE
  rw [← hE]
  clear hD hE h hl
  by_cases hlE : l = E
  · have q0 : ((l : Int) != (E : Int)) = false := by rw [hlE]; simp
    have HLE := hide hlE
    clear hlE
    go_enter Try.func24, Try.ntmps24
    go_wp2_with fail
    refine (unhide k _).mono ?_
    rintro e w' ⟨rfl, hw⟩
    obtain rfl := hw.symm
    go_wp2_with (first
      | (at_make; refine wpList_make_full _ rfl (.tmp 19) (.tmp 19) 24 rfl w.heap.size 34 i0 (.complex .f64 0 0) 1 Try.underlying24 hi0 hz0 hz1 .i64 .i64 M M M rfl rfl rfl rfl ?c1 ?c2 ?c3 ?_))
    case c1 => rw [hz2]; omega
    case c2 => unfold maxLen; omega
    case c3 => simp
    intro W2 hown2 hg2
    have hT : Hid (Row W2 w.heap.size M (fun _ => (0, 0))) := row_made hown2 (fun _ => (0, 0)) (fun i hi => zeros_get M i hi) (fun _ _ => rfl)
    have hb2 := hide (grown_below hg2)
    clear hown2 hg2 k
    go_wp2_with fail
    go_loopw [0, 23] (fun fv iv wr => ∃ (i : Nat) (a1 : Option Addr) (l1 c1 : Nat) (f : Nat → Nat × Nat), i ≤ M ∧ fv = .slice a1 l1 c1 ∧ iv = .int .i64 i ∧ l1 ≤ c1 ∧ Hid (l1 + 8 * i = l) ∧ Hid (∀ W, BAt W a g o K → BAt W a1 g (o + 8 * i) (K.drop (8 * i))) ∧ Hid (Row wr w.heap.size M f) ∧ Hid (∀ j, j < i → WideOk (numB K (8 * j) 4) (f j).1 ∧ WideOk (numB K (8 * j + 4) 4) (f j).2) ∧ Hid (Below w.heap.size w wr)) (fun _ iv _ => M - (intOf iv).toNat)
    case atStart => exact ⟨0, a, l, c, fun _ => (0, 0), Nat.zero_le _, rfl, rfl, hc, rfl, fun W hW => hW, hT, fun j hj => absurd hj (Nat.not_lt_zero j), hb2⟩
    case round =>
      clear hT hb2
      obtain ⟨i, a1, l1, c1, f, hi, rfl, rfl, hc1, hl1, hF, hR, hQ, hBe⟩ := hrel
      by_cases hic : i < M
      · have q1 : ((i : Int) < (M : Int)) = True := by simp; omega
        have hE2 := unhide HE
        have hLE2 := unhide HLE
        have hLl := unhide HL
        have hl1e := unhide hl1
        have hl16 : 8 ≤ l1 := by omega
        have hl2 : Hid (l1 - 4 - 4 + 8 * (i + 1) = l) := by show _ = _; omega
        have d1 : l1 = (K.drop (8 * i)).length := by rw [List.length_drop]; omega
        have b1 := unhide hF wr (bat_keep (unhide H) (unhide hBe))
        have k1 := hide (readWord32 (c := c1) d1 (by omega) hc1 wr b1)
        have e1 : numB (K.drop (8 * i)) 0 4 = numB K (8 * i) 4 := by rw [numB_drop, Nat.add_zero]
        have e2 : numB ((K.drop (8 * i)).drop 4) 0 4 = numB K (8 * i + 4) 4 := by rw [numB_drop, numB_drop, Nat.add_zero]
        have k2 : Hid (∀ (a2 : Option Addr) (W : World), (∀ W, BAt W a1 g (o + 8 * i) (K.drop (8 * i)) → BAt W a2 g (o + 8 * i + 4) ((K.drop (8 * i)).drop 4)) → BAt W a g o K → Calls Try.prog 39 #[.slice a2 (l1 - 4) (c1 - 4)] W fun r w' => ∃ a' d, r = .returned (.tuple #[.int .u32 (numB K (8 * i + 4) 4), .slice a' (l1 - 4 - 4) (c1 - 4 - 4)]) ∧ (∀ W, BAt W a2 g (o + 8 * i + 4) ((K.drop (8 * i)).drop 4) → BAt W a' g (o + 8 * i + 4 + 4) (((K.drop (8 * i)).drop 4).drop 4)) ∧ w' = W.drewN d) := by
          intro a2 W h2 hW
          have := readWord32 (c := c1 - 4) (l := l1 - 4) (K := (K.drop (8 * i)).drop 4) (by rw [List.length_drop]; omega) (by omega) (by omega) W (h2 W (unhide hF W hW))
          rw [e2] at this
          exact this
        rw [e1] at k1
        have hx1 : numB K (8 * i) 4 < 4294967296 := numB_lt (unhide H).lt _ 4
        have hx2 : numB K (8 * i + 4) 4 < 4294967296 := numB_lt (unhide H).lt _ 4
        have hQ2 : Hid (∀ c : Nat × Nat, WideOk (numB K (8 * i) 4) c.1 → WideOk (numB K (8 * i + 4) 4) c.2 → ∀ j, j < i + 1 → WideOk (numB K (8 * j) 4) (upd f i c j).1 ∧ WideOk (numB K (8 * j + 4) 4) (upd f i c j).2) := fun c h1 h2 => upd_all (Q := fun j c => WideOk (numB K (8 * j) 4) c.1 ∧ WideOk (numB K (8 * j + 4) 4) c.2) (unhide hQ) ⟨h1, h2⟩
        generalize numB K (8 * i) 4 = x1 at *
        generalize numB K (8 * i + 4) 4 = x2 at *
        clear hQ b1 e1 e2 d1 hE2 hLE2 hLl hl1e hl1
        go_wp2_with fail
        refine (unhide k1).mono ?_
        rintro e w3 ⟨a3, d3, rfl, h3, rfl⟩
        have H3 := hide h3
        have k2' := hide (unhide k2 a3 (wr.drewN d3) h3 (bat_drew1 (bat_keep (unhide H) (unhide hBe))))
        clear h3 k1 k2
        go_wp2_with fail
        refine (unhide k2').mono ?_
        rintro e w4 ⟨a4, d4, rfl, h4, rfl⟩
        have F4 : Hid (∀ W, BAt W a g o K → BAt W a4 g (o + 8 * (i + 1)) (K.drop (8 * (i + 1)))) := fun W hW => by
          have := h4 W (unhide H3 W (unhide hF W hW))
          rw [List.drop_drop, List.drop_drop] at this
          rw [show 8 * (i + 1) = 8 * i + (4 + 4) by omega, show o + (8 * i + (4 + 4)) = o + 8 * i + 4 + 4 by omega, show 8 * i + (4 + 4) = 8 * i + 4 + 4 by omega]
          exact this
        have R4 : Hid (Row ((wr.drewN d3).drewN d4) w.heap.size M f) := unhide hR
        have B4 : Hid (Below w.heap.size w ((wr.drewN d3).drewN d4)) := below_drewN' (below_drewN' (unhide hBe))
        clear h4 k2' H3 hF hR hBe
        generalize (wr.drewN d3).drewN d4 = w4 at *
        go_wp2_with fail
        refine (unhide kv _ _).mono ?_
        rintro e w5 ⟨y1, d5, rfl, h5, rfl⟩
        have Y1 := hide h5
        clear h5
        go_wp2_with fail
        refine (unhide kv _ _).mono ?_
        rintro e w6 ⟨y2, d6, rfl, h6, rfl⟩
        have R6 : Hid (Row ((w4.drewN d5).drewN d6) w.heap.size M f) := unhide R4
        have B6 : Hid (Below w.heap.size w ((w4.drewN d5).drewN d6)) := below_drewN' (below_drewN' (unhide B4))
        have Q6 := hide (unhide hQ2 (y1, y2) (unhide Y1) h6)
        clear h6 Y1 R4 B4 hQ2
        generalize (w4.drewN d5).drewN d6 = w6 at *
        have c0 := row_at (unhide R6) hic
        have f0 := row_frozen (unhide R6) i
        have R5 := hide (row_set (unhide R6) i (y1, y2))
        have B5 : Hid (Below w.heap.size w (w6.setCell ⟨w.heap.size, i, none⟩ (cv (y1, y2)))) := (unhide B6).setCell (Nat.le_refl _) _
        unfold cv at c0 R5 B5
        clear R6 B6
        go_wp2_with fail
        go_roundw
        case rel => exact ⟨i + 1, a4, l1 - 4 - 4, c1 - 4 - 4, _, hic, rfl, by go_num, by omega, hl2, F4, R5, Q6, B5⟩
        case measure => simp [intOf]; omega
      · have q1 : ((i : Int) < (M : Int)) = False := by simp; omega
        have e : i = M := by omega
        subst e
        clear hF
        go_wp2_with fail
        go_ret2
        exact ⟨.inl ⟨unhide HLE, _, f, rfl, unhide hR, Nat.le_refl _, unhide hQ⟩, unhide hBe⟩
  · have q0 : ((l : Int) != (E : Int)) = true := by rw [bne_iff_ne]; omega
    go_enter Try.func24, Try.ntmps24
    go_wp2_with fail
    refine (unhide k _).mono ?_
    rintro e w' ⟨rfl, hw⟩
    obtain rfl := hw.symm
    go_wp2_with fail
    go_ret2
    exact ⟨.inr ⟨hlE, rfl⟩, Below.refl _ _⟩
end Go.Proofs.Ytfklhipjccempaa
