/- The program's Unpack and Pack. -/
import Derived.Test.YtpmbgjoilfdkaaaLN
import Derived.Test.YtpmbgjoilfdkaaaLG
import Derived.Test.YtpmbgjoilfdkaaaKI
import Derived.Test.YtpmbgjoilfdkaaaKPK
namespace Go.Proofs.Ytpmbgjoilfdkaaa
open Go.RowKit Fl Ieee

set_option maxRecDepth 100000 in
set_option maxHeartbeats 800000 in
theorem bytesEqual {w : World} {a b : Option Addr} {g o c g' o' c' : Nat} {K L : List Nat} (hK : BAt w a g o K) (hL : BAt w b g' o' L) :
    Calls Try.prog 33 #[.slice a K.length c, .slice b L.length c'] w fun r w' => r = .returned (.bool (decide (K = L))) ∧ w' = w := by
  have e1 := run_strAny (cap := c) hK
  have e2 := run_strAny (cap := c') hL
  have ec := str_same (mem_getD hK.lt) (mem_getD hL.lt)
  generalize hS1 : strB K = S1 at *
  generalize hS2 : strB L = S2 at *
  clear hS1 hS2 hK hL
  generalize decide (K = L) = D at *
  generalize K.length = k at *
  generalize L.length = l at *
  go_enter Try.func33, Try.ntmps33
  go_wp2_with fail
  go_ret
  exact ⟨rfl, rfl⟩

theorem bat_own3 {w : World} {B g c : Nat} {L : List Nat} (h : w.ownsRow B 5 1 (.slice (some ⟨g, 0, none⟩) L.length c) L.length (bL L)) (hl : ∀ y ∈ L, y < 256) : BAt w (some ⟨g, 0, none⟩) g 0 L := by
  refine ⟨fun i => ?_, fun _ => ⟨rfl, (h.lt g rfl).2⟩, fun i hi => own_cellsB h i hi⟩
  by_cases c : i < L.length
  · have : L.getD i 0 = L[i] := by simp [c]
    rw [this]
    exact hl _ (List.getElem_mem c)
  · rw [getD_out c]
    decide

theorem box2_cells {W : World} {s : Nat} {a b : Value} {t : TypeId} (h : W.heap[s]? = some (.cells #[a, b] t (0, 0))) : W.cell? ⟨s, 0, none⟩ = some a ∧ W.cell? ⟨s, 1, none⟩ = some b ∧ W.frozen? ⟨s, 0, none⟩ = false ∧ W.frozen? ⟨s, 1, none⟩ = false :=
  ⟨by simp [World.cell?, h], by simp [World.cell?, h], by simp [World.frozen?, h], by simp [World.frozen?, h]⟩
theorem rd_no {L : List Nat} {f : Nat → Nat × Nat} {aw : Nat} (h : Rd L f) (hs : Sh (side L) (side L * side L) f aw) (hn : byL aw (side L) (side L * side L) f ≠ L) : ∀ f', ¬ Good L f' := fun f' hg => by
  have e := h.1 f' hg
  obtain ⟨_, _, b, hb, hl⟩ := hg
  obtain rfl := sh_one hs (sh_congr e hb)
  rw [byL_congr e] at hn
  exact hn hl

set_option maxRecDepth 100000 in
set_option maxHeartbeats 6400000 in
theorem progUnpack : UnpOk 32 := by
  intro a g o c L w hc hbig h
  have r0 : (w.alloc (.cells #[.int .i64 0, .slice none 0 0] 30)).heap[w.heap.size]? = some (.cells #[.int .i64 0, .slice none 0 0] 30 (0, 0)) := heap_alloc_new w _
  have bel0 : Below w.heap.size w (w.alloc (.cells #[.int .i64 0, .slice none 0 0] 30)) := (Below.refl _ _).alloc (Nat.le_refl _) _
  have s1 : w.heap.size < (w.alloc (.cells #[.int .i64 0, .slice none 0 0] 30)).heap.size := (Array.getElem?_eq_some_iff.1 r0).1
  have k1 := hide (readOk (c := c) hc hbig (w.alloc (.cells #[.int .i64 0, .slice none 0 0] 30)) (bat_keep h bel0))
  have H := hide h
  have R0 := hide r0
  have B0 := hide bel0
  clear r0 bel0 h hc hbig
  go_enter Try.func32, Try.ntmps32
  go_wp2_with fail
  generalize w.alloc (.cells #[.int .i64 0, .slice none 0 0] 30) = W1 at *
  refine (unhide k1).mono ?_
  rintro e W2 ⟨⟨gz, f, rfl, hR, hgz, hbs, hRd, hn64⟩ | ⟨hno, x, rfl⟩, hb2⟩
  · have B2 := hide ((unhide B0).trans (hb2.mono (unhide B0).size))
    have hs2 : w.heap.size < W2.heap.size := Nat.lt_of_lt_of_le s1 hb2.size
    have hM2 : side L * side L ≤ 4096 := Nat.mul_le_mul hn64 hn64
    have RD := hide hRd
    obtain ⟨n, hn⟩ : ∃ n, n = side L := ⟨_, rfl⟩
    obtain ⟨M, hM⟩ : ∃ M, M = side L * side L := ⟨_, rfl⟩
    have HN := hide hn
    have HM := hide hM
    unfold fieldV
    rw [← hM, ← hn]
    rw [← hM] at hR hbs hM2
    rw [← hn] at hn64
    clear hM hn hRd
    have r2 : (W2.alloc (.cells #[.int .i64 n, .slice (some ⟨gz, 0, none⟩) M M] 30)).heap[w.heap.size]? = some (.cells #[.int .i64 0, .slice none 0 0] 30 (0, 0)) := by
      rw [Below.heap_alloc _ _ _ hs2, hb2.block _ s1]
      exact unhide R0
    have x2 : (W2.alloc (.cells #[.int .i64 n, .slice (some ⟨gz, 0, none⟩) M M] 30)).heap[W2.heap.size]? = some (.cells #[.int .i64 n, .slice (some ⟨gz, 0, none⟩) M M] 30 (0, 0)) := heap_alloc_new _ _
    have B3 := hide ((unhide B2).alloc (unhide B2).size (.cells #[.int .i64 n, .slice (some ⟨gz, 0, none⟩) M M] 30))
    have R3 : Row (W2.alloc (.cells #[.int .i64 n, .slice (some ⟨gz, 0, none⟩) M M] 30)) gz M f := row_keep hR (Below.heap_alloc _ _ _ (row_lt hR))
    have s3 : W2.heap.size < (W2.alloc (.cells #[.int .i64 n, .slice (some ⟨gz, 0, none⟩) M M] 30)).heap.size := by rw [World.size_alloc]; omega
    have k2 := hide (progShort n gz M M f _ hn64 hM2 hbs R3)
    unfold fieldV at k2
    obtain ⟨x20, x21, x22, x23⟩ := box2_cells x2
    have RX := hide R3
    have X2 := hide x2
    have R2 := hide r2
    clear k1 hR hbs hb2 B2 R3 r2 x2
    go_wp2_with fail
    generalize W2.alloc (.cells #[.int .i64 n, .slice (some ⟨gz, 0, none⟩) M M] 30) = W3 at *
    refine (unhide k2).mono ?_
    rintro e W4 ⟨aw, g4, c4, rfl, hSh, hOwn, hb4⟩
    have hcan := sh_can hSh
    have B4 := hide ((unhide B3).trans (hb4.mono (unhide B3).size))
    have k3 := hide (bytesEqual (c := c4) (c' := c) (bat_own3 hOwn (by_lt hcan.1 hcan.2 hn64)) (bat_keep (unhide H) (unhide B4)))
    have r4 : W4.heap[w.heap.size]? = some (.cells #[.int .i64 0, .slice none 0 0] 30 (0, 0)) := by rw [hb4.block _ (by omega)]; exact unhide R2
    have x4 : W4.heap[W2.heap.size]? = some (.cells #[.int .i64 n, .slice (some ⟨gz, 0, none⟩) M M] 30 (0, 0)) := by rw [hb4.block _ s3]; exact unhide X2
    have RX4 := hide (row_keep (unhide RX) (hb4.block gz (row_lt (unhide RX))))
    have SH := hide hSh
    obtain ⟨y0, y1, y2, y3⟩ := box2_cells x4
    obtain ⟨z0, z1, z2, z3⟩ := box2_cells r4
    have R4 := hide r4
    have hgw : w.heap.size < gz := Nat.lt_of_lt_of_le s1 hgz
    clear hOwn hb4 hSh k2 hcan B3 x4 r4 x20 x21 x22 x23 X2 R2 RX
    go_wp2_with fail
    refine (unhide k3).mono ?_
    rintro e W5 ⟨rfl, hw5⟩
    obtain rfl := hw5.symm
    clear k3
    by_cases hq : byL aw n M f = L
    · have dq : decide (byL aw n M f = L) = true := decide_eq_true hq
      rw [dq]
      have HQ := hide hq
      clear dq hq
      go_wp2_with fail
      obtain ⟨t1, t2, t3, t4⟩ := two_set (unhide R4) (.int .i64 n) (.slice (some ⟨gz, 0, none⟩) M M)
      refine bodyPost_ret (results_two_tmp (P := Try.prog) rfl _ _ w.heap.size (.int .i64 n) (.slice (some ⟨gz, 0, none⟩) M M) (.int .i64 0) _ rfl rfl t1 t2 Try.underlying30 rfl (by kernel_rfl)) rfl ?_
      have hG : Good L f := (unhide RD).2 aw (by rw [← unhide HM, ← unhide HN]; exact unhide SH) (by rw [← unhide HM, ← unhide HN]; exact unhide HQ)
      refine ⟨.inl ⟨f, gz, M, hG, ?_, ?_, by omega⟩, ((unhide B4).setCell (Nat.le_refl _) _).setCell (Nat.le_refl _) _⟩
      · unfold fieldV
        rw [← unhide HM, ← unhide HN]
      · rw [← unhide HM]
        exact row_keep (unhide RX4) (t3 gz (by omega))
    · have dq : decide (byL aw n M f = L) = false := decide_eq_false hq
      rw [dq]
      have NO : Hid (∀ f', ¬ Good L f') := rd_no (unhide RD) (aw := aw) (by rw [← unhide HM, ← unhide HN]; exact unhide SH) (by rw [← unhide HM, ← unhide HN]; exact hq)
      clear dq hq
      go_wp2_with fail
      obtain ⟨t1, t2, t3, t4⟩ := two_set (unhide R4) (.int .i64 0) (.slice none 0 0)
      refine bodyPost_ret (results_two_tmp (P := Try.prog) rfl _ _ w.heap.size (.int .i64 0) (.slice none 0 0) (.int .i64 210) _ rfl rfl t1 t2 Try.underlying30 rfl (by kernel_rfl)) rfl ?_
      exact ⟨.inr ⟨unhide NO, rfl⟩, ((unhide B4).setCell (Nat.le_refl _) _).setCell (Nat.le_refl _) _⟩
  · have B2 := hide ((unhide B0).trans (hb2.mono (unhide B0).size))
    have NO := hide hno
    have r2 : (W2.alloc (.cells #[.int .i64 x, .slice none 0 0] 30)).heap[w.heap.size]? = some (.cells #[.int .i64 0, .slice none 0 0] 30 (0, 0)) := by
      rw [Below.heap_alloc _ _ _ (Nat.lt_of_lt_of_le s1 hb2.size), hb2.block _ s1]
      exact unhide R0
    have B3 := hide ((unhide B2).alloc (unhide B2).size (.cells #[.int .i64 x, .slice none 0 0] 30))
    obtain ⟨z0, z1, z2, z3⟩ := box2_cells r2
    have R2 := hide r2
    clear hno hb2 B2 k1 r2
    go_wp2_with fail
    obtain ⟨t1, t2, t3, t4⟩ := two_set (unhide R2) (.int .i64 0) (.slice none 0 0)
    refine bodyPost_ret (results_two_tmp (P := Try.prog) rfl _ _ w.heap.size (.int .i64 0) (.slice none 0 0) (.int .i64 210) _ rfl rfl t1 t2 Try.underlying30 rfl (by kernel_rfl)) rfl ?_
    exact ⟨.inr ⟨unhide NO, rfl⟩, ((unhide B3).setCell (Nat.le_refl _) _).setCell (Nat.le_refl _) _⟩

set_option maxRecDepth 100000 in
set_option maxHeartbeats 1600000 in
theorem isFieldOk {n g c : Nat} (h1 : 1 ≤ n) (h2 : n ≤ 64) (w : World) : Calls Try.prog 38 #[fieldV n g (n * n) c] w fun r w' => r = .returned (.bool true) ∧ Below w.heap.size w w' := by
  obtain ⟨M, hM⟩ : ∃ M, M = n * n := ⟨_, rfl⟩
  have nn : (n : Int) * (n : Int) = (M : Int) := by rw [hM, Int.natCast_mul]
  have hM2 : M ≤ 4096 := by rw [hM]; exact Nat.mul_le_mul h2 h2
  have nw : IntKind.i64.wrap ((n : Int) * (n : Int)) = (M : Int) := by rw [nn, IntKind.wrap_i64]; omega
  have ks := hide (isSideOk n)
  unfold fieldV
  rw [← hM]
  clear hM
  go_enter Try.func38, Try.ntmps38
  go_wp2_with fail
  refine (unhide ks _).mono ?_
  rintro e w1 ⟨t, rfl, ht, hw⟩
  obtain rfl := hw.symm
  obtain rfl : t = true := ht.2 ⟨h1, h2⟩
  clear ht ks
  go_wp2_with fail
  go_ret
  exact ⟨rfl, (Below.refl _ _).alloc (Nat.le_refl _) _⟩

set_option maxRecDepth 100000 in
set_option maxHeartbeats 1600000 in
theorem progPack : PackOk 26 := by
  intro n g c f w h1 h2 hb hR
  have hm : n * n ≤ 4096 := Nat.mul_le_mul h2 h2
  have kR := hide (fun W => isFieldOk (g := g) (c := c) h1 h2 W)
  have kS := hide (fun (W : World) hr => progShort n g (n * n) c f W h2 hm hb hr)
  have RX := hide hR
  clear hR hb
  unfold fieldV at *
  generalize hM : n * n = M at *
  go_enter Try.func26, Try.ntmps26
  go_wp2_with fail
  refine (unhide kR _).mono ?_
  rintro e w1 ⟨rfl, hb1⟩
  have s0 : (w.alloc (.cells #[.int .i64 n, .slice (some ⟨g, 0, none⟩) M c] 30)).heap.size = w.heap.size + 1 := World.size_alloc _ _
  rw [s0] at hb1
  have BX : Hid (Below (w.heap.size + 1) (box w n g M c) w1) := hb1
  obtain ⟨b1, b2⟩ := box_cells (unhide BX)
  have k2 := hide (unhide kS w1 (box_row (unhide BX) (unhide RX)))
  have hs : w.heap.size ≤ w1.heap.size := (box_below (unhide BX)).size
  clear hb1 kS kR
  go_wp2_with fail
  refine (unhide k2).mono ?_
  rintro e w2 ⟨a, g', c', rfl, hSh, hown, hb2⟩
  have B2 := hide ((box_below (unhide BX)).trans (hb2.mono hs))
  have O2 := hide (own_less hown hs)
  have S2 := hide hSh
  clear hown hb2 k2 hSh
  go_wp2_with fail
  go_ret2
  exact ⟨a, g', c', rfl, unhide S2, unhide O2, unhide B2⟩
end Go.Proofs.Ytpmbgjoilfdkaaa
