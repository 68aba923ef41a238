/- Package prime's own Line. -/
import Derived.Test.YtkaggnlceboocaaQI
namespace Go.Proofs.Ytkaggnlceboocaa
open Go.RowKit

/-- The cell number k of a line. -/
def onP (p m t k : Nat) : Nat × Nat := if m = p then (t, k) else (k, (m * k + t) % p)

theorem lineP_at {p m t k : Nat} (hk : k < p) : (lineP p m t)[k]? = some (((onP p m t k).1 : Int), ((onP p m t k).2 : Int)) := by
  unfold lineP onP
  split <;> simp [hk]

set_option maxHeartbeats 1600000 in
theorem onLineAny {N M T K : Nat} (hN : 1 ≤ N) (hN2 : N ≤ 61) (hM : M ≤ N) (hT : T < N) (hK : K < N) (w : World) :
    Calls Try.prog 10 #[.int .i64 N, .int .i64 M, .int .i64 T, .int .i64 K] w fun e w' => e = .returned (.agg #[.int .i64 (onP N M T K).1, .int .i64 (onP N M T K).2]) ∧ Below w.heap.size w w' := by
  unfold onP
  by_cases c : M = N
  · rw [if_pos c]
    have q1 : ((M : Int) == (N : Int)) = true := by simp; omega
    clear c
    go_enter Try.func10, Try.ntmps10
    go_wp2_with fail
    have x2 := heap_alloc_new w (.cells #[.int .i64 T, .int .i64 K] 28)
    refine bodyPost_ret (results_two (P := Try.prog) rfl _ _ w.heap.size (.int .i64 T) (.int .i64 K) _ rfl (by rw [cell_of_row _ _ 0 _ _ (0, 0) x2]; rfl) (by rw [cell_of_row _ _ 1 _ _ (0, 0) x2]; rfl) Try.underlying28 rfl (by kernel_rfl)) rfl ?_
    exact ⟨rfl, (Below.refl w.heap.size w).alloc (Nat.le_refl _) _⟩
  · rw [if_neg c]
    have q1 : ((M : Int) == (N : Int)) = false := by simp; omega
    have mx : M * K ≤ 61 * 61 := Nat.mul_le_mul (by omega) (by omega)
    have n1 : IntKind.i64.wrap ((M : Int) * (K : Int)) = ((M * K : Nat) : Int) := by
      rw [← Int.natCast_mul, IntKind.wrap_i64]; omega
    have n2 : IntKind.i64.wrap (((M * K : Nat) : Int) + (T : Int)) = ((M * K + T : Nat) : Int) := by rw [IntKind.wrap_i64]; omega
    have n3 := rem_nat (M * K + T) N
    have z0 : ((N : Int) == 0) = false := by simp; omega
    have z1 : ¬ (N : Int) = 0 := by omega
    have z2 : (N = 0) = False := by simp; omega
    generalize (M * K + T) % N = rr at *
    generalize M * K + T = mt at *
    generalize M * K = mm at *
    clear c
    go_enter Try.func10, Try.ntmps10
    go_wp2_with fail
    have x2 := heap_alloc_new w (.cells #[.int .i64 K, .int .i64 rr] 28)
    refine bodyPost_ret (results_two (P := Try.prog) rfl _ _ w.heap.size (.int .i64 K) (.int .i64 rr) _ rfl (by rw [cell_of_row _ _ 0 _ _ (0, 0) x2]; rfl) (by rw [cell_of_row _ _ 1 _ _ (0, 0) x2]; rfl) Try.underlying28 rfl (by kernel_rfl)) rfl ?_
    exact ⟨rfl, (Below.refl w.heap.size w).alloc (Nat.le_refl _) _⟩

theorem owns_keep {w w' : World} {B g n c s : Nat} {t : TypeId} {xs : List Value} (h : w.ownsRow B t s (.slice (some ⟨g, 0, none⟩) n c) n xs) (hb : w'.heap[g]? = w.heap[g]?) : w'.ownsRow B t s (.slice (some ⟨g, 0, none⟩) n c) n xs := by
  obtain ⟨h1, h2⟩ := h
  refine ⟨h1, ?_⟩
  rcases h2 with ⟨h2, _⟩ | ⟨g', cap, cur, h2, h3, h4, h5⟩
  · simp at h2
  · have e : g = g' := by
      simp only [Value.slice.injEq, Option.some.injEq, Addr.mk.injEq, and_true, true_and] at h2
      exact h2.1
    subst e
    exact Or.inr ⟨g, cap, cur, h2, h3, hb.trans h4, h5⟩

set_option maxRecDepth 100000 in
set_option maxHeartbeats 6400000 in
theorem primeLine : LineOk 6 := by
  intro p m t w
  have kI := hide (fun W => primeIsAny p W)
  by_cases h1 : isP p = false
  · have e : linePS p m t = ([], 150) := by unfold linePS; rw [if_pos h1]
    rw [e]
    rw [h1] at kI
    clear e h1
    go_enter Try.func6, Try.ntmps6
    go_wp2_with fail
    refine (unhide kI _).mono ?_
    rintro e w1 ⟨rfl, hw⟩
    obtain rfl := hw.symm
    go_wp2_with fail
    go_ret2
    exact ⟨_, rfl, pairs2_none _, Below.refl _ _⟩
  · have h1 : isP p = true := by simpa using h1
    by_cases h2 : m < 0 ∨ p < m ∨ t < 0 ∨ p ≤ t
    · have e : linePS p m t = ([], 1) := by unfold linePS; rw [if_neg (by rw [h1]; simp), if_pos h2]
      rw [e]
      rw [h1] at kI
      have hd : (m < 0) = True ∨ ((m < 0) = False ∧ (p < m) = True) ∨ ((m < 0) = False ∧ (p < m) = False ∧ (t < 0) = True) ∨ ((m < 0) = False ∧ (p < m) = False ∧ (t < 0) = False ∧ (p ≤ t) = True) := by
        by_cases c1 : m < 0
        · exact Or.inl (by simp [c1])
        · by_cases c2 : p < m
          · exact Or.inr (Or.inl ⟨by simp [c1], by simp [c2]⟩)
          · by_cases c3 : t < 0
            · exact Or.inr (Or.inr (Or.inl ⟨by simp [c1], by simp [c2], by simp [c3]⟩))
            · exact Or.inr (Or.inr (Or.inr ⟨by simp [c1], by simp [c2], by simp [c3], by simp; omega⟩))
      clear e h1 h2
      rcases hd with d1 | ⟨d1, d2⟩ | ⟨d1, d2, d3⟩ | ⟨d1, d2, d3, d4⟩
      all_goals
        go_enter Try.func6, Try.ntmps6
        go_wp2_with fail
        refine (unhide kI _).mono ?_
        rintro e w1 ⟨rfl, hw⟩
        obtain rfl := hw.symm
        go_wp2_with fail
        go_ret2
        exact ⟨_, rfl, pairs2_none _, Below.refl _ _⟩
    · obtain ⟨N, rfl, hN1, hN2, _⟩ := isP_nat h1
      obtain ⟨M, rfl⟩ : ∃ M : Nat, m = M := ⟨m.toNat, by omega⟩
      obtain ⟨T, rfl⟩ : ∃ T : Nat, t = T := ⟨t.toNat, by omega⟩
      have hM : M ≤ N := by omega
      have hT : T < N := by omega
      rw [linePS_ok h1 hM hT]
      rw [h1] at kI
      have d1 : ((M : Int) < 0) = False := by simp
      have d2 : ((N : Int) < (M : Int)) = False := by simp; omega
      have d3 : ((T : Int) < 0) = False := by simp
      have d4 : ((N : Int) ≤ (T : Int)) = False := by simp; omega
      have kO := hide (fun K (hK : K < N) W => onLineAny (N := N) (M := M) (T := T) (K := K) (by omega) hN2 hM hT hK W)
      have hat := hide (fun k (hk : k < N) => lineP_at (p := N) (m := M) (t := T) hk)
      have hlen := hide (lineP_len N M T)
      obtain ⟨i0, hi0, hz0, hz1, hz2⟩ := info_parts infoCell
      generalize onP N M T = on at *
      generalize lineP N M T = LL at *
      clear h1 h2
      go_enter Try.func6, Try.ntmps6
      go_wp2_with fail
      refine (unhide kI _).mono ?_
      rintro e w1 ⟨rfl, hw⟩
      obtain rfl := hw.symm
      clear kI
      go_wp2_with (first
        | (at_make; refine wpList_make_full _ rfl (.tmp 29) (.tmp 29) 23 rfl w.heap.size 28 i0 (.agg #[.int .i64 0, .int .i64 0]) 2 Try.underlying23 hi0 hz0 hz1 .i64 .i64 N N N rfl rfl rfl rfl ?c1 ?c2 ?c3 ?_))
      case c1 => rw [hz2]; omega
      case c2 => unfold maxLen; omega
      case c3 => exact Nat.le_refl _
      intro w2 hown2 hg2
      have hB2 : Hid (Below w.heap.size w w2) := (Below.refl _ _).grown hg2 (Nat.le_refl _) (fun k hk => by cases hk)
      have hO2 := hide hown2
      clear hown2 hg2
      generalize (madeCells (Value.agg #[Value.int IntKind.i64 0, Value.int IntKind.i64 0]).cells (N * 2)).toList = xs0 at hO2
      go_wp2_with fail
      go_loopw [32] (fun ix wr => ∃ (x : Nat) (xs : List Value), x ≤ N ∧ ix = .int .i64 x ∧ Hid (wr.ownsRow w.heap.size 28 2 (.slice (some ⟨w.heap.size, 0, none⟩) N N) N xs) ∧ Hid (∀ j, j < x → xs[j * 2]? = some (.int .i64 (on j).1) ∧ xs[j * 2 + 1]? = some (.int .i64 (on j).2)) ∧ Hid (Below w.heap.size w wr)) (fun ix _ => N - (intOf ix).toNat)
      case atStart => exact ⟨0, _, Nat.zero_le _, rfl, hO2, fun j hj => absurd hj (by omega), hB2⟩
      case round =>
        clear hO2 hB2
        obtain ⟨x, xs, hx, rfl, hO, hF, hB⟩ := hrel
        by_cases hc : x < N
        · have qq : ((x : Int) < (N : Int)) = True := by simp; omega
          have kx := hide (unhide kO x hc wr)
          generalize hon : on x = ox at kx
          obtain ⟨a, b⟩ := ox
          dsimp only at kx
          clear kO
          go_wp2_with fail
          refine (unhide kx).mono ?_
          rintro e w3 ⟨rfl, hb3⟩
          have hO3 := hide (owns_keep (unhide hO) (hb3.block _ ((unhide hO).lt w.heap.size rfl).2))
          have hB3 := hide ((unhide hB).trans (hb3.mono (unhide hB).size))
          clear hO hB hb3 kx
          have hl := (unhide hO3).1
          have c1 : w3.cell? ⟨w.heap.size, x * 2, none⟩ = some xs[x * 2] := ((unhide hO3).cellAt _ (by omega)).trans (List.getElem?_eq_getElem (by omega))
          have c2 : w3.cell? ⟨w.heap.size, x * 2 + 1, none⟩ = some xs[x * 2 + 1] := ((unhide hO3).cellAt _ (by omega)).trans (List.getElem?_eq_getElem (by omega))
          have z1 : w3.frozen? ⟨w.heap.size, x * 2, none⟩ = false := (unhide hO3).frozenAt _
          have z2 : w3.frozen? ⟨w.heap.size, x * 2 + 1, none⟩ = false := (unhide hO3).frozenAt _
          have hi2' : (0 : Int) ≤ (x : Int) := by omega
          have hO6 := hide (((unhide hO3).stored (x * 2) (.int .i64 a)).1.stored (x * 2 + 1) (.int .i64 b)).1
          have hB6 := hide (((unhide hB3).setCell (show _ ≤ (⟨w.heap.size, x * 2, none⟩ : Addr).block from Nat.le_refl _) (.int .i64 a)).setCell (show _ ≤ (⟨w.heap.size, x * 2 + 1, none⟩ : Addr).block from Nat.le_refl _) (.int .i64 b))
          have hF6 : Hid (∀ j, j < x + 1 → ((xs.set (x * 2) (.int .i64 a)).set (x * 2 + 1) (.int .i64 b))[j * 2]? = some (.int .i64 (on j).1) ∧ ((xs.set (x * 2) (.int .i64 a)).set (x * 2 + 1) (.int .i64 b))[j * 2 + 1]? = some (.int .i64 (on j).2)) := by
            intro j hj
            by_cases e : j = x
            · subst e
              rw [hon]
              refine ⟨?_, ?_⟩
              · rw [List.getElem?_set_ne (by omega), List.getElem?_set_self (by omega)]
              · rw [List.getElem?_set_self (by rw [List.length_set]; omega)]
            · obtain ⟨f1, f2⟩ := unhide hF j (by omega)
              refine ⟨?_, ?_⟩
              · rw [List.getElem?_set_ne (by omega), List.getElem?_set_ne (by omega)]
                exact f1
              · rw [List.getElem?_set_ne (by omega), List.getElem?_set_ne (by omega)]
                exact f2
          generalize xs[x * 2] = y1 at c1
          generalize xs[x * 2 + 1] = y2 at c2
          clear hO3 hF hB3 hl hon
          go_wp2_with fail
          exact ⟨⟨x + 1, _, hc, by go_num, hO6, hF6, hB6⟩, by simp [intOf]; omega⟩
        · have qq : ((x : Int) < (N : Int)) = False := by simp; omega
          have e : x = N := by omega
          subst e
          have hP : Hid (Pairs2 wr (.slice (some ⟨w.heap.size, 0, none⟩) x x) LL) := by
            refine ⟨some ⟨w.heap.size, 0, none⟩, x, w.heap.size, 0, by rw [unhide hlen], fun hl => ⟨rfl, ((unhide hO).lt w.heap.size rfl).2⟩, fun i c hi => ?_⟩
            have hi2 : i < x := by
              have := (List.getElem?_eq_some_iff.1 hi).1
              rw [unhide hlen] at this
              exact this
            rw [unhide hat i hi2] at hi
            obtain rfl := Option.some.inj hi
            obtain ⟨f1, f2⟩ := unhide hF i hi2
            rw [Nat.zero_add]
            exact ⟨((unhide hO).cellAt _ (by omega)).trans f1, ((unhide hO).cellAt _ (by omega)).trans f2⟩
          clear hO hF hat hlen kO
          go_wp2_with fail
          go_ret2
          exact ⟨_, rfl, unhide hP, unhide hB⟩
end Go.Proofs.Ytkaggnlceboocaa
