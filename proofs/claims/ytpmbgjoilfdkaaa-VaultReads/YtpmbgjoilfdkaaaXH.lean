/- The program's Cut, Slices, Get. -/
import Derived.Test.YtpmbgjoilfdkaaaXG
import Derived.Test.YtpmbgjoilfdkaaaVL
namespace Go.Proofs.Ytpmbgjoilfdkaaa
open Go.RowKit Fl Ieee

set_option maxRecDepth 100000 in
set_option maxHeartbeats 6400000 in
theorem walkNil (a : Option Addr) (cap : Nat) (w : World) (hn : a = none → cap = 0) : Calls Try.prog 15 #[.slice a 0 cap] w (CutsPost [] w) := by
  have hE : Hid (CutEnd [] 0 (fun _ => (0, fun _ => (0, 0))) (fun _ => 0)) := ⟨cuts_zero _ _, by decide, .inr fun n f k h => absurd (next_nil h (by decide)) id⟩
  have hpost : Hid (∀ a' cp, (a' = none ∧ cp = 0) → CutsPost [] w (.returned (.tuple #[.slice a' 0 cp, .int .i64 0])) w) := by
    rintro a' cp ⟨rfl, rfl⟩
    exact ⟨0, _, _, fun _ => (0, 0), none, 0, rfl, unhide hE, grids_nil _ _ _ _, Below.refl _ _⟩
  have m1 : (0 : Int) ≤ (cap : Int) := by omega
  cases a with
  | none =>
    obtain rfl := hn rfl
    go_enter_defers Try.func15, Try.ntmps15
    go_wp2_with fail
    go_loopw [2, 3, 4] (fun lv sv rv wr => ∃ ra rc, lv = .slice none 0 0 ∧ sv = .int .i64 0 ∧ rv = .slice ra 0 rc ∧ w = wr) (fun _ _ _ _ => 0)
    case atStart => exact ⟨_, _, rfl, rfl, rfl, rfl⟩
    case round =>
      obtain ⟨ra, rc, rfl, rfl, rfl, rfl⟩ := hrel
      go_wp2_with fail
      refine leaves_cons (f := 22) (args := #[]) (by simp) (by simp [go_sem]) ?_
      refine (catch_idle _).mono ?_
      rintro e u' w'' ⟨rfl, rfl, rfl⟩
      refine ⟨_, results_tmp2 rfl _ _ _, ?_⟩
      exact unhide hpost _ _ ⟨rfl, rfl⟩
  | some ad =>
    go_enter_defers Try.func15, Try.ntmps15
    go_wp2_with fail
    go_loopw [2, 3, 4] (fun lv sv rv wr => ∃ ra rc, lv = .slice none 0 0 ∧ sv = .int .i64 0 ∧ rv = .slice ra 0 rc ∧ w = wr) (fun _ _ _ _ => 0)
    case atStart => exact ⟨_, _, rfl, rfl, rfl, rfl⟩
    case round =>
      obtain ⟨ra, rc, rfl, rfl, rfl, rfl⟩ := hrel
      go_wp2_with fail
      refine leaves_cons (f := 22) (args := #[]) (by simp) (by simp [go_sem]) ?_
      refine (catch_idle _).mono ?_
      rintro e u' w'' ⟨rfl, rfl, rfl⟩
      refine ⟨_, results_tmp2 rfl _ _ _, ?_⟩
      exact unhide hpost _ _ ⟨rfl, rfl⟩
theorem progCuts : CutsOk 15 := by
  intro a g o cap L w h hn hc hb
  rcases Nat.eq_zero_or_pos L.length with h0 | h0
  · obtain rfl := List.eq_nil_of_length_eq_zero h0
    exact walkNil a cap w hn
  · obtain ⟨rfl, _⟩ := h.at_ h0
    exact walkSome w h hc hb

set_option maxRecDepth 100000 in
set_option maxHeartbeats 1600000 in
theorem progCut : CutOk 9 := by
  intro a g o cap L w h hn hc hb
  have k := hide (progCuts a g o cap L w h hn hc hb)
  clear h hn hc hb
  generalize hm : L.length = m at *
  go_enter Try.func9, Try.ntmps9
  go_wp2_with fail
  refine (unhide k).mono ?_
  rintro e w2 ⟨c, S, P, G, a', cp, rfl, hE, hG, hB⟩
  have E := hide hE
  have B := hide hB
  clear hE hG hB k
  generalize hp : P c = p at *
  have HP := hide hp
  clear hp
  go_wp2_with fail
  go_ret2
  exact ⟨c, S, P, unhide E, by rw [unhide HP]; rfl, unhide B⟩

set_option maxRecDepth 100000 in
set_option maxHeartbeats 1600000 in
theorem progSlices : SlicesOk 5 := by
  intro a g o cap L w h hn hc hb
  have k := hide (progCuts a g o cap L w h hn hc hb)
  clear h hn hc
  generalize hm : L.length = m at *
  have HM := hide hm
  clear hm
  go_enter Try.func5, Try.ntmps5
  go_wp2_with fail
  refine (unhide k).mono ?_
  rintro e w2 ⟨c, S, P, G, a', cp, rfl, hE, hG, hB⟩
  have E := hide hE
  have B := hide hB
  have GG := hide (grids_at hG)
  clear hE hG hB k
  generalize hp : P c = p at *
  have HP := hide hp
  clear hp
  by_cases hpm : p = m
  · subst hpm
    go_wp2_with fail
    go_ret2
    obtain ⟨g', hg⟩ := unhide GG
    exact ⟨c, S, P, unhide E, .inl ⟨by rw [unhide HP, unhide HM], a', g', 0, cp, G, rfl, hg⟩, unhide B⟩
  · have q1 : ((p : Int) = (m : Int)) = False := by simp; omega
    have q2 : (p = m) = False := by simp; omega
    have q3 : ((p : Int) != (m : Int)) = true := by simp; omega
    go_wp2_with fail
    go_ret2
    exact ⟨c, S, P, unhide E, .inr ⟨by rw [unhide HP, unhide HM]; exact hpm, none, 0, rfl⟩, unhide B⟩
set_option maxRecDepth 100000 in
set_option maxHeartbeats 3200000 in
theorem progGet : GetOk 7 := by
  intro a g o cap L i w h hn hc hb
  have bel1 : Below w.heap.size w (w.alloc (.cells #[.int .i64 0, .slice none 0 0] 30)) := (Below.refl _ _).alloc (Nat.le_refl _) _
  have r1 : (w.alloc (.cells #[.int .i64 0, .slice none 0 0] 30)).heap[w.heap.size]? = some (.cells #[.int .i64 0, .slice none 0 0] 30 (0, 0)) := heap_alloc_new w _
  have s1 : (w.alloc (.cells #[.int .i64 0, .slice none 0 0] 30)).heap.size = w.heap.size + 1 := World.size_alloc _ _
  have k := hide (progSlices a g o cap L _ (bat_keep h bel1) hn hc hb)
  clear h hn hc
  generalize hm : L.length = m at *
  go_enter Try.func7, Try.ntmps7
  go_wp2_with fail
  refine (unhide k).mono ?_
  rintro e w2 ⟨c, S, P, hE, hor, hB⟩
  have z2 : w2.heap[w.heap.size]? = some (.cells #[.int .i64 0, .slice none 0 0] 30 (0, 0)) := by rw [hB.block _ (by omega)]; exact r1
  have R2 := hide z2
  obtain ⟨y0, y1, y2, y3⟩ := cells_two z2
  have B2 := hide (bel1.trans (hB.mono bel1.size))
  have E := hide hE
  clear z2 hB bel1 r1 hE k
  rcases hor with ⟨hp, a', g', o', cp, G, rfl, hG⟩ | ⟨hp, a', cp, rfl⟩
  · have HP := hide hp
    have GG := hide hG
    clear hp hG
    by_cases hi0 : i < 0
    · have q1 : (i < 0) = True := by simp; omega
      have NI : Hid (¬ (0 ≤ i ∧ i < (c : Int))) := by show ¬ _; omega
      go_wp2_with fail
      obtain ⟨t1, t2, t3, t4⟩ := two_set (unhide R2) (.int .i64 0) (.slice none 0 0)
      refine bodyPost_ret (results_two_tmp (P := Try.prog) rfl _ _ w.heap.size (.int .i64 0) (.slice none 0 0) (.int .i64 1) _ rfl rfl t1 t2 Try.underlying30 rfl (by kernel_rfl)) rfl ?_
      exact ⟨c, S, P, unhide E, .inr (.inl ⟨unhide HP, unhide NI, rfl⟩), ((unhide B2).setCell (Nat.le_refl _) _).setCell (Nat.le_refl _) _⟩
    · have q1 : (i < 0) = False := by simp; omega
      have q1' : 0 ≤ i := by omega
      by_cases hic : (c : Int) ≤ i
      · have q2 : ((c : Int) ≤ i) = True := by simp; omega
        have q3 : (i < (c : Int)) = False := by simp; omega
        have NI : Hid (¬ (0 ≤ i ∧ i < (c : Int))) := by show ¬ _; omega
        go_wp2_with fail
        obtain ⟨t1, t2, t3, t4⟩ := two_set (unhide R2) (.int .i64 0) (.slice none 0 0)
        refine bodyPost_ret (results_two_tmp (P := Try.prog) rfl _ _ w.heap.size (.int .i64 0) (.slice none 0 0) (.int .i64 1) _ rfl rfl t1 t2 Try.underlying30 rfl (by kernel_rfl)) rfl ?_
        exact ⟨c, S, P, unhide E, .inr (.inl ⟨unhide HP, unhide NI, rfl⟩), ((unhide B2).setCell (Nat.le_refl _) _).setCell (Nat.le_refl _) _⟩
      · obtain ⟨j, rfl⟩ : ∃ j : Nat, i = (j : Int) := ⟨i.toNat, by omega⟩
        have hjc : j < c := by omega
        have q2 : ((c : Int) ≤ (j : Int)) = False := by simp; omega
        have q2' : (c ≤ j) = False := by simp; omega
        have q3 : (j : Int) < (c : Int) := by omega
        have q3' : (j < c) = True := by simp; omega
        obtain ⟨rfl, hg, d1, d2⟩ := gat_index (unhide GG) hjc
        have hr := (unhide GG).row j hjc
        have hs := (unhide GG).sz j hjc
        have RJ := hide hr
        have CI : Hid (∃ s : Sli, s = S j) := ⟨_, rfl⟩
        obtain ⟨s, hsj⟩ := unhide CI
        have HS := hide hsj
        rw [← hsj] at d1 d2 hs RJ
        obtain ⟨n, f⟩ := s
        clear hr hsj CI
        dsimp only at d1 d2 hs RJ
        generalize (G j).1 = gj at *
        generalize (G j).2 = cj at *
        go_wp2_with fail
        obtain ⟨t1, t2, t3, t4⟩ := two_set (unhide R2) (.int .i64 n) (.slice (some ⟨gj, 0, none⟩) (n * n) cj)
        refine bodyPost_ret (results_two_tmp (P := Try.prog) rfl _ _ w.heap.size (.int .i64 n) (.slice (some ⟨gj, 0, none⟩) (n * n) cj) (.int .i64 0) _ rfl rfl t1 t2 Try.underlying30 rfl (by kernel_rfl)) rfl ?_
        have eS : S (Int.toNat (j : Int)) = (n, f) := by rw [Int.toNat_natCast]; exact (unhide HS).symm
        refine ⟨c, S, P, unhide E, .inl ⟨unhide HP, q1', q3, gj, cj, ?_, ?_, ?_⟩, ((unhide B2).setCell (Nat.le_refl _) _).setCell (Nat.le_refl _) _⟩
        · rw [eS]
          rfl
        · rw [eS]
          exact row_keep (unhide RJ) (t3 gj (row_ne (unhide RJ) (unhide R2)))
        · rw [eS]
          exact hs
  · have HP := hide hp
    clear hp
    go_wp2_with fail
    obtain ⟨t1, t2, t3, t4⟩ := two_set (unhide R2) (.int .i64 0) (.slice none 0 0)
    refine bodyPost_ret (results_two_tmp (P := Try.prog) rfl _ _ w.heap.size (.int .i64 0) (.slice none 0 0) (.int .i64 220) _ rfl rfl t1 t2 Try.underlying30 rfl (by kernel_rfl)) rfl ?_
    exact ⟨c, S, P, unhide E, .inr (.inr ⟨unhide HP, rfl⟩), ((unhide B2).setCell (Nat.le_refl _) _).setCell (Nat.le_refl _) _⟩

end Go.Proofs.Ytpmbgjoilfdkaaa
