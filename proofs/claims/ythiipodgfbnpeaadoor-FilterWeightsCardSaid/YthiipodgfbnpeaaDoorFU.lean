/- The document's weights. -/
import Derived.Test.YthiipodgfbnpeaaDoorFV
import Derived.Laws.AppendOwn
namespace Go.Proofs.YthiipodgfbnpeaaDoor
open Go.RowKit

theorem infoF : (Tryd.prog.info? 29).map (fun i => (i.zero, i.size, i.bytes)) = some (some (.float .f64 0), 1, 8) := by kernel_rfl

def wV (kind s : Nat) (k : Nat) : Value := .float .f64 (wT kind (k * s))
def wL (kind s n : Nat) : List Value := (List.range n).map (wV kind s)
theorem wL_snoc (kind s n : Nat) : wL kind s (n + 1) = wL kind s n ++ [wV kind s n] := by unfold wL; rw [List.range_succ, List.map_append]; rfl
theorem wL_len (kind s n : Nat) : (wL kind s n).length = n := by unfold wL; simp
theorem wL_at {kind s n i : Nat} (h : i < n) : (wL kind s n)[i]? = some (wV kind s i) := by unfold wL; simp [h]

/-- A row of weights. -/
def WRow (w : World) (g n : Nat) (f : Nat → Value) : Prop := ∃ cur : Array Value, w.heap[g]? = some (.cells cur 29 (0, 0)) ∧ n ≤ cur.size ∧ ∀ i, i < n → cur[i]? = some (f i)

def wErr (n : Int) : Int := if bits .and .i64 n (n - 1) = 0 ∧ 1 ≤ n ∧ n ≤ 4096 then 160 else 30
def WeightsBad (f : Nat) : Prop := ∀ (n kind : Int) (w : World), (Wrong n ∨ kind < 1 ∨ 3 < kind) →
  Calls Tryd.prog f #[.int .i64 n, .int .i64 kind] w fun r w' => r = .returned (.tuple #[.slice none 0 0, .int .i64 (wErr n)]) ∧ Below w.heap.size w w'
def WeightsGood (f : Nat) : Prop := ∀ (n s kind : Nat) (w : World), Ord n s → 1 ≤ kind → kind ≤ 3 → Calls Tryd.prog f #[.int .i64 n, .int .i64 kind] w fun r w' =>
  ∃ g c, r = .returned (.tuple #[.slice (some ⟨g, 0, none⟩) n c, .int .i64 0]) ∧ w.heap.size ≤ g ∧ WRow w' g n (wV kind s) ∧ Below w.heap.size w w'

theorem one_newF (w : World) (x : Value) (t : TypeId) : ∀ j u, [x][j]? = some u → (w.alloc (.cells #[x] t)).cell? ((⟨w.heap.size, 0, none⟩ : Addr).add j) = some u := by
  intro j u hj
  match j, hj with
  | 0, hj =>
    simp at hj
    subst hj
    simp [Addr.add]

theorem wrow_own {w : World} {B n : Nat} {v : Value} {kind s : Nat} (hn : 1 ≤ n) (h : w.ownsRow B 29 1 v n (wL kind s n)) : ∃ g c, v = .slice (some ⟨g, 0, none⟩) n c ∧ B ≤ g ∧ WRow w g n (wV kind s) := by
  rcases h.2 with ⟨_, h2⟩ | ⟨g, cap, cur, h1, hb, hg, hnc, hcm, hcs, htake⟩
  · omega
  · refine ⟨g, cap, h1, hb, cur, hg, by omega, fun i hi => ?_⟩
    have h3 := wL_at (kind := kind) (s := s) hi
    rw [← htake, List.getElem?_take, if_pos (by omega)] at h3
    simpa using h3

set_option maxHeartbeats 6400000 in
theorem refWeightsGood : WeightsGood 7 := by
  intro n s kind w hO hk1 hk3
  obtain ⟨i0, hi0, hz0, hz1, hz2⟩ := info_parts infoF
  have hc := hide (length_yes hO)
  have hT := hide (refTable_yes hO)
  obtain ⟨hn2, hn1⟩ := ord_le hO
  have hms := ord_mul hO
  have q1 : ((kind : Int) < 1) = False := by simp; omega
  have q2 : ((3 : Int) < (kind : Int)) = False := by simp; omega
  have H := hide hO
  clear hO
  go_enter Tryd.func7, Tryd.ntmps7
  go_wp2_with fail
  refine (unhide hc _).mono ?_
  rintro e w0 ⟨rfl, hw⟩
  obtain rfl := hw.symm
  go_wp2_with fail
  refine (unhide hT _).mono ?_
  rintro e w1 ⟨gt, rfl, hgt, hTab, hb1⟩
  have B1 := hide hb1
  have TT := hide hTab
  clear hb1 hTab hT hc
  go_wp2_with fail
  go_loopw [8, 9] (fun lv kv wr => ∃ k : Nat, k ≤ n ∧ kv = .int .i64 k ∧ Hid (wr.ownsRow w1.heap.size 29 1 lv k (wL kind s k)) ∧ Hid (Below w1.heap.size w1 wr)) (fun _ kv _ => n - (intOf kv).toNat)
  case atStart => exact ⟨0, Nat.zero_le _, rfl, World.ownsRow_nil _ _ _ _, Below.refl _ _⟩
  case round =>
    obtain ⟨k, hk, rfl, hOw, hB⟩ := hrel
    by_cases hkn : k < n
    · have q3 : ((k : Int) < (n : Int)) = True := by simp; omega
      obtain ⟨e1, e2⟩ := less_ok (unhide H) hkn
      have hr := ramp_ok (unhide H) e2
      rw [e1] at hr
      have hs0 : 0 < s := by
        rcases Nat.eq_zero_or_pos s with h | h
        · rw [h] at hms; omega
        · exact h
      have hKs : k * s < 4096 := by rw [← hms]; exact Nat.mul_lt_mul_of_pos_right hkn hs0
      have hbs : w1.heap.size ≤ wr.heap.size := (unhide hB).size
      have n3 : IntKind.i64.wrap ((n : Int) - (k : Int)) = ((n - k : Nat) : Int) := by rw [IntKind.wrap_i64]; omega
      have hcl : (wr.cell? ⟨gt, k, none⟩ = some (val s k)) := ((unhide hB).cell (p := ⟨gt, k, none⟩) (tab_lt (unhide TT))).trans (tab_cell (unhide TT) (Nat.le_refl _) hkn)
      unfold val at hcl
      obtain ⟨fa, fb, h1, h2, h3⟩ := soft_parts hKs
      have hw1 : wT 1 (k * s) = oneB := rfl
      have hw2 : wT 2 (k * s) = rT (lessT (k * s)) := rfl
      generalize (full (k * s)).1 = x1 at *
      generalize (full (k * s)).2 = x2 at *
      generalize hX3 : wT 3 (k * s) = X3 at h3
      generalize rT (lessT (k * s)) = X2 at *
      have hh : (n - k < k ∧ floatBits .quo .f64 (floatOfInt .f64 ((n - k : Nat) : Int)) (floatOfInt .f64 (n : Int)) = some X2) ∨ (¬ n - k < k ∧ floatBits .quo .f64 (floatOfInt .f64 (k : Int)) (floatOfInt .f64 (n : Int)) = some X2) := by
        by_cases c0 : n - k < k
        · rw [Nat.min_eq_right (by omega)] at hr
          exact Or.inl ⟨c0, hr⟩
        · rw [Nat.min_eq_left (by omega)] at hr
          exact Or.inr ⟨c0, hr⟩
      clear hr
      have q5 : kind = 1 ∨ kind = 2 ∨ kind = 3 := by omega
      rcases hh with ⟨c0, hr⟩ | ⟨c0, hr⟩
      all_goals
        have kr := fun (W : World) t => run_float_arith (P := Tryd.prog) W .quo t .f64 _ _ _ hr
        rcases q5 with c1 | c1 | c1
        · subst c1
          have hX := hw1
          clear kr h1 h2 h3 hcl c0 hX3 hw2
          unfold oneB at hX
          have hv : Hid (wL 1 s (k + 1) = wL 1 s k ++ [.float .f64 4607182418800017408]) := by
            show _ = _
            rw [wL_snoc]
            unfold wV
            rw [hX]
          clear hX hr e1 e2
          go_wp2_with (first
            | (at_builtin; refine wpList_append_own _ rfl (.tmp 52) (.tmp 54) 23 rfl w1.heap.size 29 i0 (.float .f64 0) 1 8 Tryd.underlying23 hi0 hz0 hz1 hz2 rfl (by decide) _ _ _ rfl ((unhide hOw).alloc _) ⟨wr.heap.size, 0, none⟩ 1 1 [.float .f64 4607182418800017408] rfl rfl (one_newF _ _ _) ?c2 ?c3 ?c4 ?c5 ?_))
          case c2 => intro u hu; simp at hu; subst hu; rfl
          case c3 => unfold maxLen; omega
          case c4 => omega
          case c5 => simp; omega
          intro v' w2 hown' hgrow _
          have hB3 : Hid (Below w1.heap.size w1 w2) := ((unhide hB).alloc hbs _).grown hgrow (by simp; omega) (fun j hj => ((unhide hOw).lt j hj).1)
          have hO3 : Hid (w2.ownsRow w1.heap.size 29 1 v' (k + 1) (wL 1 s (k + 1))) := by
            rw [unhide hv]
            exact hown'
          clear hown' hgrow
          go_wp2_with fail
          go_roundw
          case rel => exact ⟨_, _, _, _, _, _, _, _, _, _, _, _, _, _, _, _, _, _, _, _, _, _, _, _, _, _, _, _, _, _, _, _, _, _, ⟨k + 1, hkn, by go_num, hO3, hB3⟩, rfl⟩
          case measure => simp [intOf]; omega
        · subst c1
          have hX := hw2
          clear h1 h2 h3 hcl hX3 hw1
          have hv : Hid (wL 2 s (k + 1) = wL 2 s k ++ [.float .f64 X2]) := by
            show _ = _
            rw [wL_snoc]
            unfold wV
            rw [hX]
          clear hX hr e1 e2
          go_wp2_with (first
            | (at_builtin; refine wpList_append_own _ rfl (.tmp 52) (.tmp 54) 23 rfl w1.heap.size 29 i0 (.float .f64 0) 1 8 Tryd.underlying23 hi0 hz0 hz1 hz2 rfl (by decide) _ _ _ rfl ((unhide hOw).alloc _) ⟨wr.heap.size, 0, none⟩ 1 1 [.float .f64 X2] rfl rfl (one_newF _ _ _) ?c2 ?c3 ?c4 ?c5 ?_))
          case c2 => intro u hu; simp at hu; subst hu; rfl
          case c3 => unfold maxLen; omega
          case c4 => omega
          case c5 => simp; omega
          intro v' w2 hown' hgrow _
          have hB3 : Hid (Below w1.heap.size w1 w2) := ((unhide hB).alloc hbs _).grown hgrow (by simp; omega) (fun j hj => ((unhide hOw).lt j hj).1)
          have hO3 : Hid (w2.ownsRow w1.heap.size 29 1 v' (k + 1) (wL 2 s (k + 1))) := by
            rw [unhide hv]
            exact hown'
          clear hown' hgrow
          go_wp2_with fail
          go_roundw
          case rel => exact ⟨_, _, _, _, _, _, _, _, _, _, _, _, _, _, _, _, _, _, _, _, _, _, _, _, _, _, _, _, _, _, _, _, _, _, ⟨k + 1, hkn, by go_num, hO3, hB3⟩, rfl⟩
          case measure => simp [intOf]; omega
        · subst c1
          have hX := hX3
          unfold oneB at h1
          unfold halfOne at h2
          have ka := fun (W : World) t => run_float_arith (P := Tryd.prog) W .add t .f64 _ _ _ h1
          have kb := fun (W : World) t => run_float_arith (P := Tryd.prog) W .mul t .f64 _ _ _ h2
          have kc := fun (W : World) t => run_float_arith (P := Tryd.prog) W .mul t .f64 _ _ _ h3
          clear h1 h2 h3 hw1 hw2 hX3
          have hv : Hid (wL 3 s (k + 1) = wL 3 s k ++ [.float .f64 X3]) := by
            show _ = _
            rw [wL_snoc]
            unfold wV
            rw [hX]
          clear hX hr e1 e2
          go_wp2_with (first
            | (at_builtin; refine wpList_append_own _ rfl (.tmp 52) (.tmp 54) 23 rfl w1.heap.size 29 i0 (.float .f64 0) 1 8 Tryd.underlying23 hi0 hz0 hz1 hz2 rfl (by decide) _ _ _ rfl ((unhide hOw).alloc _) ⟨wr.heap.size, 0, none⟩ 1 1 [.float .f64 X3] rfl rfl (one_newF _ _ _) ?c2 ?c3 ?c4 ?c5 ?_))
          case c2 => intro u hu; simp at hu; subst hu; rfl
          case c3 => unfold maxLen; omega
          case c4 => omega
          case c5 => simp; omega
          intro v' w2 hown' hgrow _
          have hB3 : Hid (Below w1.heap.size w1 w2) := ((unhide hB).alloc hbs _).grown hgrow (by simp; omega) (fun j hj => ((unhide hOw).lt j hj).1)
          have hO3 : Hid (w2.ownsRow w1.heap.size 29 1 v' (k + 1) (wL 3 s (k + 1))) := by
            rw [unhide hv]
            exact hown'
          clear hown' hgrow
          go_wp2_with fail
          go_roundw
          case rel => exact ⟨_, _, _, _, _, _, _, _, _, _, _, _, _, _, _, _, _, _, _, _, _, _, _, _, _, _, _, _, _, _, _, _, _, _, ⟨k + 1, hkn, by go_num, hO3, hB3⟩, rfl⟩
          case measure => simp [intOf]; omega
    · have q3 : ((k : Int) < (n : Int)) = False := by simp; omega
      have e : k = n := by omega
      rw [e] at hOw
      have hfin := hide (wrow_own hn1 (unhide hOw))
      have hB2 : Hid (Below w.heap.size w wr) := (unhide B1).trans ((unhide hB).mono (unhide B1).size)
      have hs1 : Hid (w.heap.size ≤ w1.heap.size) := (unhide B1).size
      have e' := hide e
      clear e hOw
      go_wp2_with fail
      go_ret2
      obtain ⟨g, c, hv, hg, hr⟩ := unhide hfin
      exact ⟨g, c, by rw [← hv]; rfl, Nat.le_trans (unhide hs1) hg, hr, unhide hB2⟩
end Go.Proofs.YthiipodgfbnpeaaDoor
