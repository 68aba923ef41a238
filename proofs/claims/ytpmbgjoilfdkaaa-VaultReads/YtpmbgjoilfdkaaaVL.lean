/- The document's Cut, Slices, Get; two lists of slices held against each other. -/
import Derived.Test.YtpmbgjoilfdkaaaVK
namespace Go.Proofs.Ytpmbgjoilfdkaaa
open Go.RowKit Fl Ieee

/-- A list of slices, wherever it lies. -/
structure GAt (w : World) (a : Option Addr) (g o c : Nat) (S : Nat → Sli) (G : Nat → Nat × Nat) : Prop where
  at_ : 0 < c → a = some ⟨g, o, none⟩ ∧ g < w.heap.size
  cell : ∀ i, i < c → w.cell? ⟨g, o + i * 2, none⟩ = some (.int .i64 ((S i).1 : Nat)) ∧ w.cell? ⟨g, o + i * 2 + 1, none⟩ = some (.slice (some ⟨(G i).1, 0, none⟩) ((S i).1 * (S i).1) (G i).2)
  row : ∀ i, i < c → Row w (G i).1 ((S i).1 * (S i).1) (S i).2
  sz : ∀ i, i < c → (S i).1 ≤ 64
theorem gat_keep {w w' : World} {a : Option Addr} {g o c : Nat} {S : Nat → Sli} {G : Nat → Nat × Nat} (h : GAt w a g o c S G) (hb : Below w.heap.size w w') : GAt w' a g o c S G := by
  refine ⟨fun hc => ⟨(h.at_ hc).1, Nat.lt_of_lt_of_le (h.at_ hc).2 hb.size⟩, fun i hi => ?_, fun i hi => row_below (h.row i hi) hb (row_lt (h.row i hi)), h.sz⟩
  have hg := (h.at_ (by omega)).2
  exact ⟨(hb.cell (p := ⟨g, o + i * 2, none⟩) hg).trans (h.cell i hi).1, (hb.cell (p := ⟨g, o + i * 2 + 1, none⟩) hg).trans (h.cell i hi).2⟩
theorem grids_at {w : World} {B c cap : Nat} {a : Option Addr} {S : Nat → Sli} {G : Nat → Nat × Nat} (h : Grids w B (.slice a c cap) c S G) : ∃ g, GAt w a g 0 c S G := by
  rcases Nat.eq_zero_or_pos c with rfl | hc
  · exact ⟨0, fun hc => absurd hc (Nat.not_lt_zero 0), fun i hi => absurd hi (Nat.not_lt_zero i), fun i hi => absurd hi (Nat.not_lt_zero i), fun i hi => absurd hi (Nat.not_lt_zero i)⟩
  · obtain ⟨g, e, _, hg, _, _⟩ := grids_cell h hc
    refine ⟨g, fun _ => ⟨e, hg⟩, fun i hi => ?_, h.row, fun i hi => (h.sz i hi).2.1⟩
    obtain ⟨g', e', _, _, h1, h2⟩ := grids_cell h hi
    rw [e] at e'
    cases e'
    rw [Nat.zero_add]
    exact ⟨h1, h2⟩

/-- What is asked of Cut, Slices, Get. -/
def CutPost (L : List Nat) (w : World) (r : Ending) (w' : World) : Prop := ∃ (c : Nat) (S : Nat → Sli) (P : Nat → Nat), CutEnd L c S P ∧ r = .returned (.tuple #[.int .i64 (c : Nat), .int .i64 (P c : Nat)]) ∧ Below w.heap.size w w'
def CutOk (fn : Nat) : Prop := ∀ (a : Option Addr) (g o cap : Nat) (L : List Nat) (w : World), BAt w a g o L → (a = none → cap = 0) → L.length ≤ cap → L.length ≤ 140737488355328 → Calls Try.prog fn #[.slice a L.length cap] w (CutPost L w)
def SlicesPost (L : List Nat) (w : World) (r : Ending) (w' : World) : Prop := ∃ (c : Nat) (S : Nat → Sli) (P : Nat → Nat), CutEnd L c S P ∧
  ((P c = L.length ∧ ∃ a g o cap G, r = .returned (.tuple #[.slice a c cap, .int .i64 0]) ∧ GAt w' a g o c S G) ∨ (P c ≠ L.length ∧ ∃ a cap, r = .returned (.tuple #[.slice a 0 cap, .int .i64 220]))) ∧ Below w.heap.size w w'
def SlicesOk (fn : Nat) : Prop := ∀ (a : Option Addr) (g o cap : Nat) (L : List Nat) (w : World), BAt w a g o L → (a = none → cap = 0) → L.length ≤ cap → L.length ≤ 140737488355328 → Calls Try.prog fn #[.slice a L.length cap] w (SlicesPost L w)
def GetPost (L : List Nat) (i : Int) (w : World) (r : Ending) (w' : World) : Prop := ∃ (c : Nat) (S : Nat → Sli) (P : Nat → Nat), CutEnd L c S P ∧
  ((P c = L.length ∧ 0 ≤ i ∧ i < (c : Int) ∧ ∃ gz cz, r = .returned (.tuple #[fieldV (S i.toNat).1 gz ((S i.toNat).1 * (S i.toNat).1) cz, .int .i64 0]) ∧ Row w' gz ((S i.toNat).1 * (S i.toNat).1) (S i.toNat).2 ∧ (S i.toNat).1 ≤ 64) ∨
   (P c = L.length ∧ ¬ (0 ≤ i ∧ i < (c : Int)) ∧ r = .returned (.tuple #[noneV, .int .i64 1])) ∨
   (P c ≠ L.length ∧ r = .returned (.tuple #[noneV, .int .i64 220]))) ∧ Below w.heap.size w w'
def GetOk (fn : Nat) : Prop := ∀ (a : Option Addr) (g o cap : Nat) (L : List Nat) (i : Int) (w : World), BAt w a g o L → (a = none → cap = 0) → L.length ≤ cap → L.length ≤ 140737488355328 → Calls Try.prog fn #[.slice a L.length cap, .int .i64 i] w (GetPost L i w)

set_option maxRecDepth 100000 in
set_option maxHeartbeats 1600000 in
theorem refCutC : CutOk 10 := by
  intro a g o cap L w h hn hc hb
  have k := hide (refCut a g o cap L w h hn hc hb)
  clear h hn hc hb
  generalize hm : L.length = m at *
  go_enter Try.func10, Try.ntmps10
  go_wp2_with fail
  refine (unhide k).mono ?_
  rintro e w2 ⟨c, S, P, G, a', cp, rfl, hE, hG, hB⟩
  have E := hide hE
  have B := hide hB
  clear hE hG hB k
  generalize hp : P c = p at *
  have HP := hide hp
  clear hp
  go_wp2_with fail
  go_ret2
  exact ⟨c, S, P, unhide E, by rw [unhide HP]; rfl, unhide B⟩

set_option maxRecDepth 100000 in
set_option maxHeartbeats 1600000 in
theorem refSlices : SlicesOk 6 := by
  intro a g o cap L w h hn hc hb
  have k := hide (refCut a g o cap L w h hn hc hb)
  clear h hn hc
  generalize hm : L.length = m at *
  have HM := hide hm
  clear hm
  go_enter Try.func6, Try.ntmps6
  go_wp2_with fail
  refine (unhide k).mono ?_
  rintro e w2 ⟨c, S, P, G, a', cp, rfl, hE, hG, hB⟩
  have E := hide hE
  have B := hide hB
  have GG := hide (grids_at hG)
  clear hE hG hB k
  generalize hp : P c = p at *
  have HP := hide hp
  clear hp
  by_cases hpm : p = m
  · subst hpm
    go_wp2_with fail
    go_ret2
    obtain ⟨g', hg⟩ := unhide GG
    exact ⟨c, S, P, unhide E, .inl ⟨by rw [unhide HP, unhide HM], a', g', 0, cp, G, rfl, hg⟩, unhide B⟩
  · have q1 : ((p : Int) = (m : Int)) = False := by simp; omega
    have q2 : (p = m) = False := by simp; omega
    have q3 : ((p : Int) != (m : Int)) = true := by simp; omega
    go_wp2_with fail
    go_ret2
    exact ⟨c, S, P, unhide E, .inr ⟨by rw [unhide HP, unhide HM]; exact hpm, none, 0, rfl⟩, unhide B⟩
theorem gat_index {w : World} {a : Option Addr} {g o c : Nat} {S : Nat → Sli} {G : Nat → Nat × Nat} (h : GAt w a g o c S G) {i : Nat} (hi : i < c) : a = some ⟨g, o, none⟩ ∧ g < w.heap.size ∧ w.cell? ⟨g, o + i * 2, none⟩ = some (.int .i64 ((S i).1 : Nat)) ∧ w.cell? ⟨g, o + i * 2 + 1, none⟩ = some (.slice (some ⟨(G i).1, 0, none⟩) ((S i).1 * (S i).1) (G i).2) :=
  ⟨(h.at_ (by omega)).1, (h.at_ (by omega)).2, (h.cell i hi).1, (h.cell i hi).2⟩

theorem row_ne {W : World} {g m s : Nat} {f : Nat → Nat × Nat} {cs : Array Value} (h : Row W g m f) (hs : W.heap[s]? = some (.cells cs 30 (0, 0))) : g ≠ s := by
  rintro rfl
  obtain ⟨cur, h1, _⟩ := h
  rw [hs] at h1
  cases h1

set_option maxRecDepth 100000 in
set_option maxHeartbeats 3200000 in
theorem refGet : GetOk 8 := by
  intro a g o cap L i w h hn hc hb
  have bel1 : Below w.heap.size w (w.alloc (.cells #[.int .i64 0, .slice none 0 0] 30)) := (Below.refl _ _).alloc (Nat.le_refl _) _
  have r1 : (w.alloc (.cells #[.int .i64 0, .slice none 0 0] 30)).heap[w.heap.size]? = some (.cells #[.int .i64 0, .slice none 0 0] 30 (0, 0)) := heap_alloc_new w _
  have s1 : (w.alloc (.cells #[.int .i64 0, .slice none 0 0] 30)).heap.size = w.heap.size + 1 := World.size_alloc _ _
  have k := hide (refSlices a g o cap L _ (bat_keep h bel1) hn hc hb)
  clear h hn hc
  generalize hm : L.length = m at *
  go_enter Try.func8, Try.ntmps8
  go_wp2_with fail
  refine (unhide k).mono ?_
  rintro e w2 ⟨c, S, P, hE, hor, hB⟩
  have z2 : w2.heap[w.heap.size]? = some (.cells #[.int .i64 0, .slice none 0 0] 30 (0, 0)) := by rw [hB.block _ (by omega)]; exact r1
  have R2 := hide z2
  obtain ⟨y0, y1, y2, y3⟩ := cells_two z2
  have B2 := hide (bel1.trans (hB.mono bel1.size))
  have E := hide hE
  clear z2 hB bel1 r1 hE k
  rcases hor with ⟨hp, a', g', o', cp, G, rfl, hG⟩ | ⟨hp, a', cp, rfl⟩
  · have HP := hide hp
    have GG := hide hG
    clear hp hG
    by_cases hi0 : i < 0
    · have q1 : (i < 0) = True := by simp; omega
      have NI : Hid (¬ (0 ≤ i ∧ i < (c : Int))) := by show ¬ _; omega
      go_wp2_with fail
      obtain ⟨t1, t2, t3, t4⟩ := two_set (unhide R2) (.int .i64 0) (.slice none 0 0)
      refine bodyPost_ret (results_two_tmp (P := Try.prog) rfl _ _ w.heap.size (.int .i64 0) (.slice none 0 0) (.int .i64 1) _ rfl rfl t1 t2 Try.underlying30 rfl (by kernel_rfl)) rfl ?_
      exact ⟨c, S, P, unhide E, .inr (.inl ⟨unhide HP, unhide NI, rfl⟩), ((unhide B2).setCell (Nat.le_refl _) _).setCell (Nat.le_refl _) _⟩
    · have q1 : (i < 0) = False := by simp; omega
      have q1' : 0 ≤ i := by omega
      by_cases hic : (c : Int) ≤ i
      · have q2 : ((c : Int) ≤ i) = True := by simp; omega
        have q3 : (i < (c : Int)) = False := by simp; omega
        have NI : Hid (¬ (0 ≤ i ∧ i < (c : Int))) := by show ¬ _; omega
        go_wp2_with fail
        obtain ⟨t1, t2, t3, t4⟩ := two_set (unhide R2) (.int .i64 0) (.slice none 0 0)
        refine bodyPost_ret (results_two_tmp (P := Try.prog) rfl _ _ w.heap.size (.int .i64 0) (.slice none 0 0) (.int .i64 1) _ rfl rfl t1 t2 Try.underlying30 rfl (by kernel_rfl)) rfl ?_
        exact ⟨c, S, P, unhide E, .inr (.inl ⟨unhide HP, unhide NI, rfl⟩), ((unhide B2).setCell (Nat.le_refl _) _).setCell (Nat.le_refl _) _⟩
      · obtain ⟨j, rfl⟩ : ∃ j : Nat, i = (j : Int) := ⟨i.toNat, by omega⟩
        have hjc : j < c := by omega
        have q2 : ((c : Int) ≤ (j : Int)) = False := by simp; omega
        have q2' : (c ≤ j) = False := by simp; omega
        have q3 : (j : Int) < (c : Int) := by omega
        have q3' : (j < c) = True := by simp; omega
        obtain ⟨rfl, hg, d1, d2⟩ := gat_index (unhide GG) hjc
        have hr := (unhide GG).row j hjc
        have hs := (unhide GG).sz j hjc
        have RJ := hide hr
        have CI : Hid (∃ s : Sli, s = S j) := ⟨_, rfl⟩
        obtain ⟨s, hsj⟩ := unhide CI
        have HS := hide hsj
        rw [← hsj] at d1 d2 hs RJ
        obtain ⟨n, f⟩ := s
        clear hr hsj CI
        dsimp only at d1 d2 hs RJ
        generalize (G j).1 = gj at *
        generalize (G j).2 = cj at *
        go_wp2_with fail
        obtain ⟨t1, t2, t3, t4⟩ := two_set (unhide R2) (.int .i64 n) (.slice (some ⟨gj, 0, none⟩) (n * n) cj)
        refine bodyPost_ret (results_two_tmp (P := Try.prog) rfl _ _ w.heap.size (.int .i64 n) (.slice (some ⟨gj, 0, none⟩) (n * n) cj) (.int .i64 0) _ rfl rfl t1 t2 Try.underlying30 rfl (by kernel_rfl)) rfl ?_
        have eS : S (Int.toNat (j : Int)) = (n, f) := by rw [Int.toNat_natCast]; exact (unhide HS).symm
        refine ⟨c, S, P, unhide E, .inl ⟨unhide HP, q1', q3, gj, cj, ?_, ?_, ?_⟩, ((unhide B2).setCell (Nat.le_refl _) _).setCell (Nat.le_refl _) _⟩
        · rw [eS]
          rfl
        · rw [eS]
          exact row_keep (unhide RJ) (t3 gj (row_ne (unhide RJ) (unhide R2)))
        · rw [eS]
          exact hs
  · have HP := hide hp
    clear hp
    go_wp2_with fail
    obtain ⟨t1, t2, t3, t4⟩ := two_set (unhide R2) (.int .i64 0) (.slice none 0 0)
    refine bodyPost_ret (results_two_tmp (P := Try.prog) rfl _ _ w.heap.size (.int .i64 0) (.slice none 0 0) (.int .i64 220) _ rfl rfl t1 t2 Try.underlying30 rfl (by kernel_rfl)) rfl ?_
    exact ⟨c, S, P, unhide E, .inr (.inr ⟨unhide HP, rfl⟩), ((unhide B2).setCell (Nat.le_refl _) _).setCell (Nat.le_refl _) _⟩

set_option maxRecDepth 100000 in
set_option maxHeartbeats 6400000 in
theorem sameGrids {a a' : Option Addr} {g o g' o' c cap cap' : Nat} {S S' : Nat → Sli} {G G' : Nat → Nat × Nat} (hc : c ≤ 64) (he : ∀ j, j < c → (S' j).1 = (S j).1 ∧ ∀ m, m < (S j).1 * (S j).1 → (S' j).2 m = (S j).2 m) (w : World) (h1 : GAt w a g o c S G) (h2 : GAt w a' g' o' c S' G') :
    Calls Try.prog 11 #[.slice a c cap, .slice a' c cap'] w fun r w' => r = .returned (.bool true) ∧ Below w.heap.size w w' := by
  have A1 := hide h1
  have A2 := hide h2
  have HE := hide he
  clear h1 h2 he
  go_enter Try.func11, Try.ntmps11
  go_wp2_with fail
  go_loopw [5] (fun iv wr => ∃ i : Nat, i ≤ c ∧ iv = .int .i64 i ∧ Hid (Below w.heap.size w wr)) (fun iv _ => c - (intOf iv).toNat)
  case atStart => exact ⟨0, Nat.zero_le _, rfl, Below.refl _ _⟩
  case round =>
    obtain ⟨i, hi, rfl, hB⟩ := hrel
    by_cases hic : i < c
    · have q1 : ((i : Int) < (c : Int)) = True := by simp; omega
      have q1' : (i < c) = True := by simp; omega
      have q2 : (0 : Int) ≤ (i : Int) := by omega
      have q3 : (i : Int) < (c : Int) := by omega
      have G1 := gat_keep (unhide A1) (unhide hB)
      have G2 := gat_keep (unhide A2) (unhide hB)
      obtain ⟨rfl, hg1, d1, d2⟩ := gat_index G1 hic
      obtain ⟨rfl, hg2, d3, d4⟩ := gat_index G2 hic
      obtain ⟨e1, e2⟩ := unhide HE i hic
      have hm : (S i).1 * (S i).1 ≤ 4096 := Nat.mul_le_mul (G1.sz i hic) (G1.sz i hic)
      have r2 := G2.row i hic
      rw [e1] at d3 d4 r2
      have kS := hide (sameRows (n := (S i).1) (c := (G i).2) (c' := (G' i).2) hm e2 wr.drew (G1.row i hic) r2)
      unfold fieldV at kS
      generalize (S i).1 * (S i).1 = M at *
      generalize (S i).1 = n at *
      generalize (G i).1 = b1 at *
      generalize (G i).2 = b2 at *
      generalize (G' i).1 = b3 at *
      generalize (G' i).2 = b4 at *
      clear G1 G2 r2 e1 e2
      go_wp2_with fail
      go_region_with (first | (go_at_call 12; refine (unhide kS).mono ?_; rintro e w2 ⟨rfl, hb2⟩
                               have hb3 : Hid (Below wr.heap.size wr w2) := ⟨hb2.os, hb2.tape, hb2.output, hb2.size, hb2.block⟩
                               clear hb2))
      all_goals go_wp2_with fail
      all_goals exact ⟨⟨i + 1, hic, by go_num, (unhide hB).trans ((unhide hb3).mono (unhide hB).size)⟩, by simp [intOf]; omega⟩
    · have q1 : ((i : Int) < (c : Int)) = False := by simp; omega
      have q1' : (i < c) = False := by simp; omega
      go_wp2_with fail
      go_ret
      exact ⟨rfl, unhide hB⟩
end Go.Proofs.Ytpmbgjoilfdkaaa
