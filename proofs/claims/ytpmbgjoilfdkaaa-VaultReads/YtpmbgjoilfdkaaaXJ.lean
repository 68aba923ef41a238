/- Whatever bytes and whatever number come in, VaultReads returns true, and both read behind the call as they did: no condition. (The program: Add of a file without slices, the fixed fact, then the statement.) -/
import Derived.Test.YtpmbgjoilfdkaaaXI
import Derived.Test.YtpmbgjoilfdkaaaVA1
import Derived.Test.YtpmbgjoilfdkaaaVReads
import Derived.Deep.DeepCutAuto
import Derived.Deep.RegionHeld3
namespace Go.Proofs.Ytpmbgjoilfdkaaa
open Go.RowKit Fl Ieee

theorem slices_nil (w : World) : Calls Try.prog 5 #[.slice none 0 0] w fun r w' => ∃ a cap, r = .returned (.tuple #[.slice a 0 cap, .int .i64 0]) ∧ Below w.heap.size w w' := by
  refine (progSlices none 0 0 0 [] w (bat_nil rfl) (fun _ => rfl) (Nat.le_refl _) (by decide)).mono ?_
  rintro r w' ⟨c, S, P, hE, hor, hB⟩
  have hc : c = 0 := by
    rcases Nat.eq_zero_or_pos c with h | h
    · exact h
    · obtain ⟨k, h1, _⟩ := hE.cuts.step 0 h
      have := h1.len
      rw [List.length_drop] at this
      simp at this
  subst hc
  rcases hor with ⟨_, a, g, o, cap, G, rfl, _⟩ | ⟨h, _⟩
  · exact ⟨a, cap, rfl, hB⟩
  · exact absurd hE.cuts.zero h
theorem last_held {V W : World} {a : Option Addr} {cap : Nat} {A B : Prop} (hs : A ∧ B ∧ Hid (Below V.heap.size V W)) : Calls Try.prog 19 #[.slice a 0 cap] W fun r w' => r = .returned (.agg #[.int .i64 0, .slice none 0 0]) ∧ Hid (Below V.heap.size V w') := by
  refine (progLast (w := W) (a := a) (l := 0) (cap := cap) (prev := none) (.inl ⟨rfl, rfl⟩)).mono ?_
  rintro r w' ⟨n, a', m, c, rfl, hA, hb⟩
  have hh : Hid (Below V.heap.size V w') := (unhide hs.2.2).trans (hb.mono (unhide hs.2.2).size)
  rcases hA with ⟨rfl, rfl, rfl, rfl, _⟩ | ⟨p, g, _, _, h, _⟩
  · exact ⟨rfl, hh⟩
  · cases h
theorem body_held {V W : World} {n g c : Nat} {f : Nat → Nat × Nat} {A B : Prop} (h1 : 1 ≤ n) (h2 : n ≤ 64) (hf : Hid (Bits n f)) (hR : Hid (Row V g (n * n) f)) (hs : A ∧ B ∧ Hid (Below V.heap.size V W)) :
    Calls Try.prog 18 #[.agg #[.int .i64 (n : Nat), .slice (some ⟨g, 0, none⟩) (n * n) c], .agg #[.int .i64 0, .slice none 0 0]] W fun r w' => ∃ (bs : List Nat) (g' c' : Nat), r = .returned (.tuple #[.slice (some ⟨g', 0, none⟩) bs.length c', .int .i64 0]) ∧ Hid (BodyIs none n f bs) ∧ bs.length ≤ 600001 ∧ Hid (∀ y ∈ bs, y < 256) ∧ Hid (BAt w' (some ⟨g', 0, none⟩) g' 0 bs) ∧ Hid (Below V.heap.size V w') := by
  have hb := unhide hs.2.2
  refine (progBody (g := g) (c := c) (n' := 0) (m := 0) (c' := 0) (a := none) (prev := none) h1 h2 (unhide hf) W (row_below (unhide hR) hb (row_lt (unhide hR))) (.inl ⟨rfl, rfl, rfl, rfl, rfl⟩)).mono ?_
  rintro r w' ⟨bs, g', c', rfl, hBI, h256, _, hl2, hO, hbw⟩
  exact ⟨bs, g', c', rfl, hBI, hl2, h256, bat_of_own hO h256, hb.trans (hbw.mono hb.size)⟩

set_option maxRecDepth 100000 in
set_option maxHeartbeats 12800000 in
theorem progAdd : AddOk 13 := by
  intro n g c f w h1 h2 hf hR
  have b1 : Below w.heap.size w (w.alloc (.cells #[.int .i64 (n : Nat), .slice (some ⟨g, 0, none⟩) (n * n) c] 30)) := (Below.refl _ _).alloc (Nat.le_refl _) _
  have r1 : (w.alloc (.cells #[.int .i64 (n : Nat), .slice (some ⟨g, 0, none⟩) (n * n) c] 30)).heap[w.heap.size]? = some (.cells #[.int .i64 (n : Nat), .slice (some ⟨g, 0, none⟩) (n * n) c] 30 (0, 0)) := heap_alloc_new w _
  have HF := hide hf
  have R1 := hide (row_below hR b1 (row_lt hR))
  have BX := hide r1
  have BL := hide b1
  have s1 : w.heap.size < (w.alloc (.cells #[.int .i64 (n : Nat), .slice (some ⟨g, 0, none⟩) (n * n) c] 30)).heap.size := (Array.getElem?_eq_some_iff.1 r1).1
  have kS := hide slices_nil
  clear hR hf b1 r1
  unfold fieldV at *
  go_enter Try.func13, Try.ntmps13
  go_wp2_with fail
  generalize w.alloc (.cells #[.int .i64 (n : Nat), .slice (some ⟨g, 0, none⟩) (n * n) c] 30) = W1 at *
  with_reducible refine (unhide kS _).mono ?_
  rintro e V ⟨a, cap, rfl, hb⟩
  have R2 := hide (row_below (unhide R1) hb (row_lt (unhide R1)))
  have B2 := hide ((unhide BL).trans (hb.mono (unhide BL).size))
  have x2 : V.heap[w.heap.size]? = some (.cells #[.int .i64 (n : Nat), .slice (some ⟨g, 0, none⟩) (n * n) c] 30 (0, 0)) := by rw [hb.block _ s1]; exact unhide BX
  have s2 := (Array.getElem?_eq_some_iff.1 x2).1
  obtain ⟨x0, x1, _, _⟩ := box2_cells x2
  have FC : Hid (∀ W : World, Below V.heap.size V W → W.cell? ⟨w.heap.size, 0, none⟩ = some (.int .i64 (n : Nat)) ∧ W.cell? ⟨w.heap.size, 1, none⟩ = some (.slice (some ⟨g, 0, none⟩) (n * n) c) ∧ Hid (Below V.heap.size V W)) := fun W hb =>
    ⟨(hb.cell (p := ⟨w.heap.size, 0, none⟩) s2).trans x0, (hb.cell (p := ⟨w.heap.size, 1, none⟩) s2).trans x1, hb⟩
  clear hb kS R1 BL BX x2
  go_wp2_with fail
  go_cut [7, 8] (fun ev bv wx => ev = .int .i64 0 ∧ ∃ (bs : List Nat) (g' c' : Nat), bv = .slice (some ⟨g', 0, none⟩) bs.length c' ∧ bs.length ≤ 600001 ∧ Hid (BodyIs none n f bs) ∧ Hid (∀ y ∈ bs, y < 256) ∧ Hid (BAt wx (some ⟨g', 0, none⟩) g' 0 bs) ∧ Hid (Below V.heap.size V wx))
  case first =>
    go_region_held3 (fun W => W.cell? ⟨w.heap.size, 0, none⟩ = some (.int .i64 (n : Nat)) ∧ W.cell? ⟨w.heap.size, 1, none⟩ = some (.slice (some ⟨g, 0, none⟩) (n * n) c) ∧ Hid (Below V.heap.size V W))
      (first | exact unhide FC _ (unhide hv2) | exact unhide FC _ (unhide hv2).drew | exact unhide FC _ (unhide hv1) | exact unhide FC _ (unhide hv1).drew | exact unhide FC _ (Below.refl _ _) | exact unhide FC _ (Below.refl _ _).drew | go_keep)
      (first
      | (go_at_call 19; with_reducible refine (last_held (by assumption)).mono ?_; rintro e W1 ⟨rfl, hv1⟩)
      | (go_at_call 18; with_reducible refine (body_held h1 h2 HF R2 (by assumption)).mono ?_; rintro e W2 ⟨bs, g', c', rfl, hBI, hl2, h256, hT, hv2⟩))
    go_wp2_with fail
    go_meet
    exact ⟨rfl, bs, g', c', rfl, hl2, hBI, h256, hT, hv2⟩
  case rest =>
    obtain ⟨rfl, bs, g5, c5, rfl, hl, BI, Y5, T5, BV⟩ := hcut
    have B5 := hide ((unhide B2).trans ((unhide BV).mono (unhide B2).size))
    have kH := hide (progHead (c := c5) hl wc (unhide T5))
    have eH : Hid ((highL bs.length 4 ++ highL (sumB bs bs.length) 4).length = 8) := by show _ = _; rw [List.length_append, highL_len, highL_len]
    have eR : Hid (recL bs = (highL bs.length 4 ++ highL (sumB bs bs.length) 4) ++ bs) := by show _ = _; unfold recL; rfl
    have hlt : Hid (∀ y ∈ highL bs.length 4 ++ highL (sumB bs bs.length) 4, y < 256) := fun y hy => by
      rcases List.mem_append.1 hy with h | h
      · exact high_lt h
      · exact high_lt h
    generalize highL bs.length 4 ++ highL (sumB bs bs.length) 4 = H at *
    have kC := hide (fun (G gh ch : Nat) (W : World) hG hh hb => progConcat (G := G) (gh := gh) (ch := ch) (gb := g5) (cb := c5) (unhide eH) hl W hG hh hb)
    obtain ⟨m, hm⟩ : ∃ m, m = bs.length := ⟨_, rfl⟩
    have HM := hide hm
    rw [← hm] at hl kH kC ⊢
    clear hm BV B2 FC R2 HF x0 x1
    obtain ⟨E, hE⟩ : ∃ E, E = 8 + m := ⟨_, rfl⟩
    have e1 : (8 : Int) + (m : Int) = (E : Int) := by omega
    have e2 : IntKind.i64.wrap (E : Int) = (E : Int) := by rw [IntKind.wrap_i64]; omega
    have e3 : ((1048576 : Int) < (E : Int)) = False := by simp; omega
    have e4 : (1048576 < E) = False := by simp; omega
    have HE := hide hE
    clear hE
    go_wp2_with fail
    with_reducible refine (unhide kH).mono ?_
    rintro e w5 ⟨v5, rfl, hO, hb⟩
    obtain ⟨gh, ch, rfl⟩ := own_slice hO (by decide)
    have TH : Hid (BAt w5 (some ⟨gh, 0, none⟩) gh 0 H) := by
      have h := hO
      rw [← unhide eH] at h
      exact bat_of_own h (unhide hlt)
    have B6 := hide ((unhide B5).trans (hb.mono (unhide B5).size))
    have T6 := hide (bat_keep (unhide T5) hb)
    have ba : Below w5.heap.size w5 (w5.alloc (.cells #[.slice none 0 0, .slice (some ⟨gh, 0, none⟩) 8 ch, .slice (some ⟨g5, 0, none⟩) m c5] 22)) := (Below.refl _ _).alloc (Nat.le_refl _) _
    have kC2 := hide (unhide kC w5.heap.size gh ch _ (heap_alloc_new w5 (.cells #[.slice none 0 0, .slice (some ⟨gh, 0, none⟩) 8 ch, .slice (some ⟨g5, 0, none⟩) m c5] 22)) (bat_keep (unhide TH) ba) (bat_keep (unhide T6) ba))
    have B7 := hide ((unhide B6).trans (ba.mono (unhide B6).size))
    clear hO hb ba kH kC B5 B6 T5 T6 TH
    go_wp2_with fail
    with_reducible refine (unhide kC2).mono ?_
    rintro e w8 ⟨v8, rfl, hO, hb⟩
    have B8 := hide ((unhide B7).trans (hb.mono (unhide B7).size))
    have O8 := hide hO
    have hcap : Hid (∃ g8 c8, v8 = .slice (some ⟨g8, 0, none⟩) (8 + m) c8 ∧ 8 + m ≤ c8) := by
      rcases hO.2 with ⟨_, h⟩ | ⟨g8, c8, cur, h3, _, _, h4, _⟩
      · omega
      · exact ⟨g8, c8, h3, h4⟩
    obtain ⟨g8, c8, rfl, hc8⟩ := unhide hcap
    clear hO hb kC2 B7 hcap
    go_wp2_with fail
    go_ret2
    have e5 : (recL bs).length = 8 + m := by rw [recL_len, ← unhide HM]
    refine ⟨bs, g8, c8, by rw [e5]; rfl, unhide BI, ?_, by rw [e5]; exact hc8, unhide B8⟩
    have h := unhide O8
    rw [← unhide eR, ← e5] at h
    exact bat_of_own h (recL_lt (unhide Y5))
theorem progSumOk : SumOk 14 := by
  intro a g o c L w hl h
  refine (progSum hl w h).mono ?_
  rintro r w' ⟨rfl, rfl⟩
  exact ⟨rfl, Below.refl _ _⟩

/-- VaultReads, over what landed. -/
theorem proved : Rows.VaultReadsSaid := provedReads (alive22 progAdd progCut progSumOk) progSlices progGet progCut
#print axioms proved
end Go.Proofs.Ytpmbgjoilfdkaaa
