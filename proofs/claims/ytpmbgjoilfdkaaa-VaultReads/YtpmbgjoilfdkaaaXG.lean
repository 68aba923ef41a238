/- The program's walk over a file. -/
import Derived.Test.YtpmbgjoilfdkaaaXF
import Derived.Test.YtpmbgjoilfdkaaaVK
namespace Go.Proofs.Ytpmbgjoilfdkaaa
open Go.RowKit Fl Ieee

theorem next_alike {prev : Option Sli} {B B' : List Nat} {n k : Nat} {f : Nat → Nat × Nat} (h : NextIs prev B n f k) (hl : k ≤ B'.length) (e : B'.take k = B.take k) : NextIs prev B' n f k := by
  have hk := h.num
  have hlo := h.lo
  have e4 : numB B' 0 4 = numB B 0 4 := by rw [← numB_take (L := B') (p := k) 4 (by omega), e, numB_take 4 (by omega)]
  have e8 : B'.getD 8 0 = B.getD 8 0 := by rw [← getD_take (L := B') (n := k) (by omega), e, getD_take (by omega)]
  have inn : ∀ K : List Nat, numB K 0 4 = numB B 0 4 → inner K = (K.take k).drop 9 := fun K hK => by
    unfold inner
    rw [hK, List.drop_take]
    congr 1
    omega
  have ei : inner B' = inner B := by rw [inn B' e4, inn B rfl, e]
  refine ⟨by omega, by rw [e4]; exact hk, by rw [e4]; exact hlo, by rw [e4]; omega, ?_, ?_⟩
  · unfold ReadIs
    rw [ei, e8]
    exact h.read
  · rw [e]
    exact h.form
theorem next_long {prev : Option Sli} {R : List Nat} {n k q : Nat} {f : Nat → Nat × Nat} (h : NextIs prev (R.take q) n f k) : NextIs prev R n f k := by
  have hl := next_le h
  rw [List.length_take] at hl
  refine next_alike h (by omega) ?_
  rw [List.take_take, Nat.min_eq_left (by omega)]
theorem next_short {prev : Option Sli} {R : List Nat} {n k q : Nat} {f : Nat → Nat × Nat} (h : NextIs prev R n f k) (hq : k ≤ q) : NextIs prev (R.take q) n f k := by
  have hl := next_le h
  refine next_alike h (by rw [List.length_take]; omega) ?_
  rw [List.take_take, Nat.min_eq_left hq]
theorem fin_of {prev : Option Sli} {R : List Nat} {p q : Nat} (h : ∀ n f k, ¬ NextIs prev (R.take q) n f k) (hk : ∀ k, k ≤ R.length → p + k ≤ 1048576 → k ≤ q) : ∀ n f k, NextIs prev R n f k → 1048576 < p + k := fun n f k hn => by
  by_cases c : p + k ≤ 1048576
  · exact absurd (next_short hn (hk k (next_le hn) c)) (h n f k)
  · omega
theorem bat_take {W : World} {g o q : Nat} {L : List Nat} (h : BAt W (some ⟨g, o, none⟩) g o L) : BAt W (some ⟨g, o, none⟩) g (o + 0) ((L.drop 0).take q) := by
  rw [List.drop_zero, Nat.add_zero]
  refine ⟨fun i => ?_, fun hp => ⟨rfl, (h.at_ (by rw [List.length_take] at hp; omega)).2⟩, fun i hi => ?_⟩
  · by_cases c : i < q
    · rw [getD_take c]; exact h.lt i
    · rw [getD_out (by rw [List.length_take]; omega)]; decide
  · rw [List.length_take] at hi
    rw [getD_take (by omega)]
    exact h.cell i (by omega)

set_option maxRecDepth 100000 in
set_option maxHeartbeats 12800000 in
theorem walkSome {g o cap : Nat} {L : List Nat} (w : World) (hB : BAt w (some ⟨g, o, none⟩) g o L) (hcap : L.length ≤ cap) (hbig : L.length ≤ 140737488355328) : Calls Try.prog 15 #[.slice (some ⟨g, o, none⟩) L.length cap] w (CutsPost L w) := by
  have BX := hide hB
  obtain ⟨i0, hi0, hz0, hz1, hz2⟩ := info_parts infoG3
  clear hB
  obtain ⟨m, hm⟩ : ∃ m, m = L.length := ⟨_, rfl⟩
  rw [← hm] at hcap hbig ⊢
  have HM := hide hm
  clear hm
  have m1 : (m : Int) ≤ (cap : Int) := by omega
  by_cases hmm : m ≤ 1048576
  · obtain ⟨M, hM⟩ : ∃ M, M = m := ⟨_, rfl⟩
    have HMM : Hid (M = min m 1048576) := by show _ = _; omega
    have hMc : M ≤ cap := by omega
    have hM20 : M ≤ 1048576 := by omega
    have HMN := hide hM
    have m2 : ((1048576 : Int) < (m : Int)) = False := by simp; omega
    have m3 : ((m : Int) ≤ 1048576) = True := by simp; omega
    have m4 : (m ≤ 1048576) = True := by simp; omega
    have m5 : (1048576 < m) = False := by simp; omega
    clear hM
    go_enter_defers Try.func15, Try.ntmps15
    go_wp2_with fail
    go_loopw [2, 3, 4] (fun lv sv rv wr => ∃ (c p q rc : Nat) (S : Nat → Sli) (P : Nat → Nat) (G : Nat → Nat × Nat) (a ra : Option Addr) (cp : Nat), c ≤ 64 ∧ p + q = M ∧ lv = .slice a c cp ∧ sv = .int .i64 (p : Nat) ∧ rv = .slice ra q rc ∧ q ≤ rc ∧ Hid (p = P c) ∧ Hid (Cuts L c S P) ∧ Hid (Grids wr w.heap.size (.slice a c cp) c S G) ∧ Hid (∀ W, BAt W (some ⟨g, o, none⟩) g o L → BAt W ra g (o + p) ((L.drop p).take q)) ∧ Hid (Below w.heap.size w wr)) (fun lv _ _ _ => 64 - lenOf lv)
    case atStart => exact ⟨0, 0, M, cap, fun _ => (0, fun _ => (0, 0)), fun _ => 0, fun _ => (0, 0), none, _, 0, by decide, by omega, rfl, rfl, by rw [unhide HMN], hMc, rfl, cuts_zero _ _, grids_nil _ _ _ _, fun W h => bat_take h, Below.refl _ _⟩
    case round =>
      obtain ⟨c, p, q, rc, S, P, G, a, ra, cp, hc, hpq, rfl, rfl, rfl, hqc, hP, hC, hG, hBR, hBW⟩ := hrel
      have swr : w.heap.size ≤ wr.heap.size := (unhide hBW).size
      have lRq : Hid (((L.drop p).take q).length = q) := by show _ = _; rw [List.length_take, List.length_drop]; have := unhide HM; have := unhide HMM; omega
      have FI0 : Hid ((∀ n f k, ¬ NextIs (prevOf S c) ((L.drop p).take q) n f k) → ∀ n f k, NextIs (prevOf S c) (L.drop p) n f k → 1048576 < p + k) := fun h => fin_of h (fun k h1 h2 => by rw [List.length_drop] at h1; have := unhide HM; have := unhide HMM; omega)
      by_cases hq0 : q = 0
      · have FI : Hid (∀ n f k, NextIs (prevOf S c) (L.drop p) n f k → 1048576 < p + k) := unhide FI0 (fun n f k h => next_nil h (by rw [unhide lRq]; omega))
        subst hq0
        go_wp2_with fail
        refine leaves_cons (f := 22) (args := #[]) (by simp) (by simp [go_sem]) ?_
        refine (catch_idle _).mono ?_
        rintro e u' w'' ⟨rfl, rfl, rfl⟩
        refine ⟨_, results_tmp2 rfl _ _ _, ?_⟩
        exact cut_post (unhide hP) (unhide hC) hc (.inr (unhide FI)) (unhide hG) (unhide hBW)
      · have z1 : ((0 : Int) < (q : Int)) = True := by simp; omega
        have z2 : (0 < q) = True := by simp; omega
        by_cases hc64 : c < 64
        · have q1 : ((c : Int) < 64) = True := by simp; omega
          have q2 : (c < 64) = True := by simp; omega
          have BXR := hide (unhide hBR wr (bat_keep (unhide BX) (unhide hBW)))
          have hra : ra = some ⟨g, o + p, none⟩ := ((unhide BXR).at_ (by rw [unhide lRq]; omega)).1
          subst hra
          have kB := hide (progReadBody (cb := rc) (unhide lRq).symm hqc (by omega) wr (unhide BXR))
          have LA := hide (grids_last (unhide hG) hc)
          obtain ⟨B, hBB⟩ : ∃ B, B = (L.drop p).take q := ⟨_, rfl⟩
          rw [← hBB] at kB BXR lRq FI0
          have HB := hide hBB
          clear hBB
          go_wp2_with fail
          with_reducible refine (unhide kB).mono ?_
          rintro e w2 ⟨⟨hok, ab, cb, x, rfl, hx, hxc, hab⟩ | ⟨hno, rfl⟩, hb⟩
          · have HK := hide hok
            have HX := hide hx
            have B2 := hide ((unhide hBW).trans (hb.mono swr))
            have G2 := hide (grids_keep (unhide hG) hb)
            have kL := hide (progLast (cap := cp) (last_keep (unhide LA) hb))
            have BXB := hide (hab w2 (bat_keep (unhide BXR) hb))
            have hxq : x + 8 ≤ q := by have h1 := hok.2.1; rw [unhide lRq] at h1; rw [hx, bodyB_len hok.2.1]; exact h1
            have hxn : Hid (8 + numB B 0 4 = 8 + x) := by show _ = _; rw [hx, bodyB_len hok.2.1]
            clear hok hx hab hb kB LA hG hBW
            go_wp2_with fail
            with_reducible refine (unhide kL).mono ?_
            rintro e w3 ⟨n1, a1, m1, c1, rfl, hA, hb⟩
            have B3 := hide ((unhide B2).trans (hb.mono (unhide B2).size))
            have G3 := hide (grids_keep (unhide G2) hb)
            have kR := hide (progRead (cb := cb) (unhide HX) hxc (by omega) w3 (bat_keep (unhide BXB) hb) hA)
            clear hA hb kL B2 G2 BXB
            go_wp2_with fail
            with_reducible refine (unhide kR).mono ?_
            rintro e w4 ⟨⟨n, f, gz, cz, hS, rfl, hRz, hgz, h1, h2, hbt⟩ | ⟨hno, rfl⟩, hb⟩
            · have NX0 : NextIs (prevOf S c) B n f (8 + numB B 0 4) := next_of (unhide BXR).lt (unhide HK).2.1 (unhide HK).2.2 hS
              obtain ⟨k, hk⟩ : ∃ k, k = 8 + x := ⟨_, rfl⟩
              obtain ⟨s, hs⟩ : ∃ s, s = p + k := ⟨_, rfl⟩
              obtain ⟨q', hq'⟩ : ∃ q', q' + k = q := ⟨q - k, by omega⟩
              obtain ⟨rc', hrc'⟩ : ∃ rc', rc' + k = rc := ⟨rc - k, by omega⟩
              have NX : Hid (NextIs (prevOf S c) (L.drop p) n f k) := by
                rw [unhide hxn, ← hk, unhide HB] at NX0
                exact next_long NX0
              have t0 : (8 : Int) + (x : Int) = (k : Int) := by omega
              have t0' : IntKind.i64.wrap (k : Int) = (k : Int) := by rw [IntKind.wrap_i64]; omega
              have t1 : (p : Int) + (k : Int) = (s : Int) := by omega
              have t2 : IntKind.i64.wrap (s : Int) = (s : Int) := by rw [IntKind.wrap_i64]; omega
              have t3 : q - k = q' := by omega
              have t4 : rc - k = rc' := by omega
              have t5 : (k : Int) ≤ (q : Int) := by omega
              have t6 : (q : Int) ≤ (rc : Int) := by omega
              have t7 : (0 : Int) ≤ (k : Int) := by omega
              have hs20 : s ≤ 1048576 := by have := unhide HMM; omega
              have sw4 : w.heap.size ≤ w4.heap.size := Nat.le_trans (unhide B3).size hb.size
              have bd : Below w4.heap.size w4 (w4.alloc (.cells #[.int .i64 (n : Nat), .slice (some ⟨gz, 0, none⟩) (n * n) cz] 30)) := (Below.refl _ _).alloc (Nat.le_refl _) _
              have G4 := hide (grids_keep (grids_keep (unhide G3) hb) bd)
              have R4 := hide (row_below hRz bd (row_lt hRz))
              have B4 := hide (((unhide B3).trans (hb.mono (unhide B3).size)).trans (bd.mono sw4))
              have CP : Hid (Cuts L (c + 1) (setS S c (n, f)) (setS P (c + 1) s) ∧ setS P (c + 1) s (c + 1) = s) := by
                have h3 := hs
                have h4 := unhide hP
                subst h3 h4
                exact cuts_push (unhide hC) (unhide NX) hs20
              have BR' : Hid (∀ W b, BAt W (some ⟨g, o, none⟩) g o L → (b = if rc = k then some ⟨g, o + p, none⟩ else some ⟨g, o + p + k, none⟩) → BAt W b g (o + s) ((L.drop s).take q')) := by
                intro W b hW hb'
                have h := bat_rest (p := k) (c := rc) (unhide hBR W hW) (by rw [← unhide HB, unhide lRq]; exact hqc) (by rw [← unhide HB, unhide lRq]; omega) hb'
                rw [List.drop_take, List.drop_drop, Nat.add_assoc, ← hs, t3] at h
                exact h
              have hnews := hide (two_news (W := w4) (.int .i64 (n : Nat)) (.slice (some ⟨gz, 0, none⟩) (n * n) cz) 30)
              have hone := hide (two_one (x := .int .i64 (n : Nat)) (y := .slice (some ⟨gz, 0, none⟩) (n * n) cz) rfl rfl)
              have O4 := hide (unhide G4).own
              have HT := hide hbt
              have hgz4 : w.heap.size ≤ gz := Nat.le_trans (unhide B3).size hgz
              have hsM : s + q' = M := by omega
              have hq'c : q' ≤ rc' := by omega
              clear hS hRz hgz hb bd NX0 hs hk hq' hrc' kR B3 G3 hBR hbt hC hP
              go_wp2_with (first
                | (at_builtin; refine wpList_append_own _ rfl (.tmp 21) (.tmp 26) 24 rfl w.heap.size 30 i0 (.agg #[.int .i64 0, .slice none 0 0]) 2 32 Try.underlying24 hi0 hz0 hz1 hz2 rfl (by decide) _ c _ rfl (unhide O4) ⟨w4.heap.size, 0, none⟩ 1 1 [.int .i64 (n : Nat), .slice (some ⟨gz, 0, none⟩) (n * n) cz] rfl rfl (unhide hnews) (unhide hone) ?c3 ?c4 ?c5 ?_))
              case c3 => unfold maxLen; omega
              case c4 => omega
              case c5 => simp; omega
              intro v' w5 hown' hgrow _
              have G5 := hide (grids_push (unhide G4) (unhide R4) hgz4 ⟨h1, h2, unhide HT⟩ hown' hgrow)
              have B5 : Hid (Below w.heap.size w w5) := (unhide B4).grown hgrow (by simp; omega) (fun k hk => ((unhide O4).lt k hk).1)
              obtain ⟨a5, c5, rfl⟩ := own_sliceG (unhide G5).own
              clear hown' hgrow hnews hone O4 G4 B4 R4
              by_cases hrk : rc = k
              · go_wp2_with fail
                exact ⟨⟨c + 1, s, q', 0, _, _, _, a5, _, c5, by omega, hsM, rfl, rfl, rfl, by omega, (unhide CP).2.symm, (unhide CP).1, G5, fun W h => unhide BR' W _ h (by rw [if_pos hrk]), B5⟩, by show 64 - (c + 1) < 64 - c; omega⟩
              · have hrk' : (rc = k) = False := by simp; omega
                go_wp2_with fail
                exact ⟨⟨c + 1, s, q', rc', _, _, _, a5, _, c5, by omega, hsM, rfl, rfl, rfl, hq'c, (unhide CP).2.symm, (unhide CP).1, G5, fun W h => unhide BR' W _ h (by rw [if_neg hrk]), B5⟩, by show 64 - (c + 1) < 64 - c; omega⟩
            · have FI : Hid (∀ n f k, NextIs (prevOf S c) (L.drop p) n f k → 1048576 < p + k) := unhide FI0 (fun n f k h => hno n f (next_is h).2.2.2)
              have B4 := hide ((unhide B3).trans (hb.mono (unhide B3).size))
              have G4 := hide (grids_keep (unhide G3) hb)
              clear hb kR hno B3 G3
              unfold tornP
              go_wp2_with fail
              refine leaves_cons (f := 22) (args := #[]) (by simp) (by simp [go_sem]) ?_
              refine (catch_torn [] _).mono ?_
              rintro e u' w'' ⟨rfl, rfl, rfl⟩
              have ba := (Below.refl w4.heap.size w4).alloc (Nat.le_refl _) (.cells #[] 53)
              have hpost := cut_post (unhide hP) (unhide hC) hc (.inr (unhide FI)) (grids_keep (unhide G4) ba) ((unhide B4).trans (ba.mono (unhide B4).size))
              simp [Leaves, settle, results, Try.results15, go_sem]
              exact hpost
          · have FI : Hid (∀ n f k, NextIs (prevOf S c) (L.drop p) n f k → 1048576 < p + k) := unhide FI0 (fun n f k h => hno ⟨(next_is h).1, (next_is h).2.1, (next_is h).2.2.1⟩)
            have B2 := hide ((unhide hBW).trans (hb.mono swr))
            have G2 := hide (grids_keep (unhide hG) hb)
            clear hb kB hno
            unfold tornP
            go_wp2_with fail
            refine leaves_cons (f := 22) (args := #[]) (by simp) (by simp [go_sem]) ?_
            refine (catch_torn [] _).mono ?_
            rintro e u' w'' ⟨rfl, rfl, rfl⟩
            have ba := (Below.refl w2.heap.size w2).alloc (Nat.le_refl _) (.cells #[] 53)
            have hpost := cut_post (unhide hP) (unhide hC) hc (.inr (unhide FI)) (grids_keep (unhide G2) ba) ((unhide B2).trans (ba.mono (unhide B2).size))
            simp [Leaves, settle, results, Try.results15, go_sem]
            exact hpost
        · have q1 : ((c : Int) < 64) = False := by simp; omega
          have q2 : (c < 64) = False := by simp; omega
          go_wp2_with fail
          refine leaves_cons (f := 22) (args := #[]) (by simp) (by simp [go_sem]) ?_
          refine (catch_idle _).mono ?_
          rintro e u' w'' ⟨rfl, rfl, rfl⟩
          refine ⟨_, results_tmp2 rfl _ _ _, ?_⟩
          exact cut_post (unhide hP) (unhide hC) hc (.inl (by omega)) (unhide hG) (unhide hBW)
  · obtain ⟨M, hM⟩ : ∃ M, M = 1048576 := ⟨_, rfl⟩
    have HMM : Hid (M = min m 1048576) := by show _ = _; omega
    have hMc : M ≤ cap := by omega
    have hM20 : M ≤ 1048576 := by omega
    have HMN := hide hM
    have m2 : ((1048576 : Int) < (m : Int)) = True := by simp; omega
    have m3 : ((m : Int) ≤ 1048576) = False := by simp; omega
    have m4 : (m ≤ 1048576) = False := by simp; omega
    have m5 : (1048576 < m) = True := by simp; omega
    have m6 : (1048576 : Int) ≤ (cap : Int) := by omega
    clear hM
    go_enter_defers Try.func15, Try.ntmps15
    go_wp2_with fail
    go_loopw [2, 3, 4] (fun lv sv rv wr => ∃ (c p q rc : Nat) (S : Nat → Sli) (P : Nat → Nat) (G : Nat → Nat × Nat) (a ra : Option Addr) (cp : Nat), c ≤ 64 ∧ p + q = M ∧ lv = .slice a c cp ∧ sv = .int .i64 (p : Nat) ∧ rv = .slice ra q rc ∧ q ≤ rc ∧ Hid (p = P c) ∧ Hid (Cuts L c S P) ∧ Hid (Grids wr w.heap.size (.slice a c cp) c S G) ∧ Hid (∀ W, BAt W (some ⟨g, o, none⟩) g o L → BAt W ra g (o + p) ((L.drop p).take q)) ∧ Hid (Below w.heap.size w wr)) (fun lv _ _ _ => 64 - lenOf lv)
    case atStart => exact ⟨0, 0, M, cap, fun _ => (0, fun _ => (0, 0)), fun _ => 0, fun _ => (0, 0), none, _, 0, by decide, by omega, rfl, rfl, by rw [unhide HMN], hMc, rfl, cuts_zero _ _, grids_nil _ _ _ _, fun W h => bat_take h, Below.refl _ _⟩
    case round =>
      obtain ⟨c, p, q, rc, S, P, G, a, ra, cp, hc, hpq, rfl, rfl, rfl, hqc, hP, hC, hG, hBR, hBW⟩ := hrel
      have swr : w.heap.size ≤ wr.heap.size := (unhide hBW).size
      have lRq : Hid (((L.drop p).take q).length = q) := by show _ = _; rw [List.length_take, List.length_drop]; have := unhide HM; have := unhide HMM; omega
      have FI0 : Hid ((∀ n f k, ¬ NextIs (prevOf S c) ((L.drop p).take q) n f k) → ∀ n f k, NextIs (prevOf S c) (L.drop p) n f k → 1048576 < p + k) := fun h => fin_of h (fun k h1 h2 => by rw [List.length_drop] at h1; have := unhide HM; have := unhide HMM; omega)
      by_cases hq0 : q = 0
      · have FI : Hid (∀ n f k, NextIs (prevOf S c) (L.drop p) n f k → 1048576 < p + k) := unhide FI0 (fun n f k h => next_nil h (by rw [unhide lRq]; omega))
        subst hq0
        go_wp2_with fail
        refine leaves_cons (f := 22) (args := #[]) (by simp) (by simp [go_sem]) ?_
        refine (catch_idle _).mono ?_
        rintro e u' w'' ⟨rfl, rfl, rfl⟩
        refine ⟨_, results_tmp2 rfl _ _ _, ?_⟩
        exact cut_post (unhide hP) (unhide hC) hc (.inr (unhide FI)) (unhide hG) (unhide hBW)
      · have z1 : ((0 : Int) < (q : Int)) = True := by simp; omega
        have z2 : (0 < q) = True := by simp; omega
        by_cases hc64 : c < 64
        · have q1 : ((c : Int) < 64) = True := by simp; omega
          have q2 : (c < 64) = True := by simp; omega
          have BXR := hide (unhide hBR wr (bat_keep (unhide BX) (unhide hBW)))
          have hra : ra = some ⟨g, o + p, none⟩ := ((unhide BXR).at_ (by rw [unhide lRq]; omega)).1
          subst hra
          have kB := hide (progReadBody (cb := rc) (unhide lRq).symm hqc (by omega) wr (unhide BXR))
          have LA := hide (grids_last (unhide hG) hc)
          obtain ⟨B, hBB⟩ : ∃ B, B = (L.drop p).take q := ⟨_, rfl⟩
          rw [← hBB] at kB BXR lRq FI0
          have HB := hide hBB
          clear hBB
          go_wp2_with fail
          with_reducible refine (unhide kB).mono ?_
          rintro e w2 ⟨⟨hok, ab, cb, x, rfl, hx, hxc, hab⟩ | ⟨hno, rfl⟩, hb⟩
          · have HK := hide hok
            have HX := hide hx
            have B2 := hide ((unhide hBW).trans (hb.mono swr))
            have G2 := hide (grids_keep (unhide hG) hb)
            have kL := hide (progLast (cap := cp) (last_keep (unhide LA) hb))
            have BXB := hide (hab w2 (bat_keep (unhide BXR) hb))
            have hxq : x + 8 ≤ q := by have h1 := hok.2.1; rw [unhide lRq] at h1; rw [hx, bodyB_len hok.2.1]; exact h1
            have hxn : Hid (8 + numB B 0 4 = 8 + x) := by show _ = _; rw [hx, bodyB_len hok.2.1]
            clear hok hx hab hb kB LA hG hBW
            go_wp2_with fail
            with_reducible refine (unhide kL).mono ?_
            rintro e w3 ⟨n1, a1, m1, c1, rfl, hA, hb⟩
            have B3 := hide ((unhide B2).trans (hb.mono (unhide B2).size))
            have G3 := hide (grids_keep (unhide G2) hb)
            have kR := hide (progRead (cb := cb) (unhide HX) hxc (by omega) w3 (bat_keep (unhide BXB) hb) hA)
            clear hA hb kL B2 G2 BXB
            go_wp2_with fail
            with_reducible refine (unhide kR).mono ?_
            rintro e w4 ⟨⟨n, f, gz, cz, hS, rfl, hRz, hgz, h1, h2, hbt⟩ | ⟨hno, rfl⟩, hb⟩
            · have NX0 : NextIs (prevOf S c) B n f (8 + numB B 0 4) := next_of (unhide BXR).lt (unhide HK).2.1 (unhide HK).2.2 hS
              obtain ⟨k, hk⟩ : ∃ k, k = 8 + x := ⟨_, rfl⟩
              obtain ⟨s, hs⟩ : ∃ s, s = p + k := ⟨_, rfl⟩
              obtain ⟨q', hq'⟩ : ∃ q', q' + k = q := ⟨q - k, by omega⟩
              obtain ⟨rc', hrc'⟩ : ∃ rc', rc' + k = rc := ⟨rc - k, by omega⟩
              have NX : Hid (NextIs (prevOf S c) (L.drop p) n f k) := by
                rw [unhide hxn, ← hk, unhide HB] at NX0
                exact next_long NX0
              have t0 : (8 : Int) + (x : Int) = (k : Int) := by omega
              have t0' : IntKind.i64.wrap (k : Int) = (k : Int) := by rw [IntKind.wrap_i64]; omega
              have t1 : (p : Int) + (k : Int) = (s : Int) := by omega
              have t2 : IntKind.i64.wrap (s : Int) = (s : Int) := by rw [IntKind.wrap_i64]; omega
              have t3 : q - k = q' := by omega
              have t4 : rc - k = rc' := by omega
              have t5 : (k : Int) ≤ (q : Int) := by omega
              have t6 : (q : Int) ≤ (rc : Int) := by omega
              have t7 : (0 : Int) ≤ (k : Int) := by omega
              have hs20 : s ≤ 1048576 := by have := unhide HMM; omega
              have sw4 : w.heap.size ≤ w4.heap.size := Nat.le_trans (unhide B3).size hb.size
              have bd : Below w4.heap.size w4 (w4.alloc (.cells #[.int .i64 (n : Nat), .slice (some ⟨gz, 0, none⟩) (n * n) cz] 30)) := (Below.refl _ _).alloc (Nat.le_refl _) _
              have G4 := hide (grids_keep (grids_keep (unhide G3) hb) bd)
              have R4 := hide (row_below hRz bd (row_lt hRz))
              have B4 := hide (((unhide B3).trans (hb.mono (unhide B3).size)).trans (bd.mono sw4))
              have CP : Hid (Cuts L (c + 1) (setS S c (n, f)) (setS P (c + 1) s) ∧ setS P (c + 1) s (c + 1) = s) := by
                have h3 := hs
                have h4 := unhide hP
                subst h3 h4
                exact cuts_push (unhide hC) (unhide NX) hs20
              have BR' : Hid (∀ W b, BAt W (some ⟨g, o, none⟩) g o L → (b = if rc = k then some ⟨g, o + p, none⟩ else some ⟨g, o + p + k, none⟩) → BAt W b g (o + s) ((L.drop s).take q')) := by
                intro W b hW hb'
                have h := bat_rest (p := k) (c := rc) (unhide hBR W hW) (by rw [← unhide HB, unhide lRq]; exact hqc) (by rw [← unhide HB, unhide lRq]; omega) hb'
                rw [List.drop_take, List.drop_drop, Nat.add_assoc, ← hs, t3] at h
                exact h
              have hnews := hide (two_news (W := w4) (.int .i64 (n : Nat)) (.slice (some ⟨gz, 0, none⟩) (n * n) cz) 30)
              have hone := hide (two_one (x := .int .i64 (n : Nat)) (y := .slice (some ⟨gz, 0, none⟩) (n * n) cz) rfl rfl)
              have O4 := hide (unhide G4).own
              have HT := hide hbt
              have hgz4 : w.heap.size ≤ gz := Nat.le_trans (unhide B3).size hgz
              have hsM : s + q' = M := by omega
              have hq'c : q' ≤ rc' := by omega
              clear hS hRz hgz hb bd NX0 hs hk hq' hrc' kR B3 G3 hBR hbt hC hP
              go_wp2_with (first
                | (at_builtin; refine wpList_append_own _ rfl (.tmp 21) (.tmp 26) 24 rfl w.heap.size 30 i0 (.agg #[.int .i64 0, .slice none 0 0]) 2 32 Try.underlying24 hi0 hz0 hz1 hz2 rfl (by decide) _ c _ rfl (unhide O4) ⟨w4.heap.size, 0, none⟩ 1 1 [.int .i64 (n : Nat), .slice (some ⟨gz, 0, none⟩) (n * n) cz] rfl rfl (unhide hnews) (unhide hone) ?c3 ?c4 ?c5 ?_))
              case c3 => unfold maxLen; omega
              case c4 => omega
              case c5 => simp; omega
              intro v' w5 hown' hgrow _
              have G5 := hide (grids_push (unhide G4) (unhide R4) hgz4 ⟨h1, h2, unhide HT⟩ hown' hgrow)
              have B5 : Hid (Below w.heap.size w w5) := (unhide B4).grown hgrow (by simp; omega) (fun k hk => ((unhide O4).lt k hk).1)
              obtain ⟨a5, c5, rfl⟩ := own_sliceG (unhide G5).own
              clear hown' hgrow hnews hone O4 G4 B4 R4
              by_cases hrk : rc = k
              · go_wp2_with fail
                exact ⟨⟨c + 1, s, q', 0, _, _, _, a5, _, c5, by omega, hsM, rfl, rfl, rfl, by omega, (unhide CP).2.symm, (unhide CP).1, G5, fun W h => unhide BR' W _ h (by rw [if_pos hrk]), B5⟩, by show 64 - (c + 1) < 64 - c; omega⟩
              · have hrk' : (rc = k) = False := by simp; omega
                go_wp2_with fail
                exact ⟨⟨c + 1, s, q', rc', _, _, _, a5, _, c5, by omega, hsM, rfl, rfl, rfl, hq'c, (unhide CP).2.symm, (unhide CP).1, G5, fun W h => unhide BR' W _ h (by rw [if_neg hrk]), B5⟩, by show 64 - (c + 1) < 64 - c; omega⟩
            · have FI : Hid (∀ n f k, NextIs (prevOf S c) (L.drop p) n f k → 1048576 < p + k) := unhide FI0 (fun n f k h => hno n f (next_is h).2.2.2)
              have B4 := hide ((unhide B3).trans (hb.mono (unhide B3).size))
              have G4 := hide (grids_keep (unhide G3) hb)
              clear hb kR hno B3 G3
              unfold tornP
              go_wp2_with fail
              refine leaves_cons (f := 22) (args := #[]) (by simp) (by simp [go_sem]) ?_
              refine (catch_torn [] _).mono ?_
              rintro e u' w'' ⟨rfl, rfl, rfl⟩
              have ba := (Below.refl w4.heap.size w4).alloc (Nat.le_refl _) (.cells #[] 53)
              have hpost := cut_post (unhide hP) (unhide hC) hc (.inr (unhide FI)) (grids_keep (unhide G4) ba) ((unhide B4).trans (ba.mono (unhide B4).size))
              simp [Leaves, settle, results, Try.results15, go_sem]
              exact hpost
          · have FI : Hid (∀ n f k, NextIs (prevOf S c) (L.drop p) n f k → 1048576 < p + k) := unhide FI0 (fun n f k h => hno ⟨(next_is h).1, (next_is h).2.1, (next_is h).2.2.1⟩)
            have B2 := hide ((unhide hBW).trans (hb.mono swr))
            have G2 := hide (grids_keep (unhide hG) hb)
            clear hb kB hno
            unfold tornP
            go_wp2_with fail
            refine leaves_cons (f := 22) (args := #[]) (by simp) (by simp [go_sem]) ?_
            refine (catch_torn [] _).mono ?_
            rintro e u' w'' ⟨rfl, rfl, rfl⟩
            have ba := (Below.refl w2.heap.size w2).alloc (Nat.le_refl _) (.cells #[] 53)
            have hpost := cut_post (unhide hP) (unhide hC) hc (.inr (unhide FI)) (grids_keep (unhide G2) ba) ((unhide B2).trans (ba.mono (unhide B2).size))
            simp [Leaves, settle, results, Try.results15, go_sem]
            exact hpost
        · have q1 : ((c : Int) < 64) = False := by simp; omega
          have q2 : (c < 64) = False := by simp; omega
          go_wp2_with fail
          refine leaves_cons (f := 22) (args := #[]) (by simp) (by simp [go_sem]) ?_
          refine (catch_idle _).mono ?_
          rintro e u' w'' ⟨rfl, rfl, rfl⟩
          refine ⟨_, results_tmp2 rfl _ _ _, ?_⟩
          exact cut_post (unhide hP) (unhide hC) hc (.inl (by omega)) (unhide hG) (unhide hBW)
end Go.Proofs.Ytpmbgjoilfdkaaa
