/- Copies of lists; the document's Run without projections. -/
import Derived.Test.YthdoophjcjlklaaBV
import Derived.Lib.AppendZeros
namespace Go.Proofs.Ythdoophjcjlklaa
open Go.RowKit Go.Shelf

theorem copy_none_run (w : World) (g : Nat) (cap : Nat) (ty : TypeId) : (Builtin.append_ #[22, 22] ty #[.slice (some ⟨g, 0, none⟩) 0 0, .slice none 0 cap]).run Try.prog w = .ok (.slice (some ⟨g, 0, none⟩) 0 0) w := by
  simp [Builtin.append_, go_sem]

/-- A list that is new: what lies in it, above a mark. -/
def NewI (base : Nat) (w : World) (v : Value) (L : List Int) : Prop := ∃ a g cap, v = .slice a L.length cap ∧ IntsAt w a g 0 L ∧ (0 < L.length → base ≤ g)
theorem NewI.ints {base : Nat} {w : World} {v : Value} {L : List Int} (h : NewI base w v L) : Ints w v L := by
  obtain ⟨a, g, cap, h1, h2, _⟩ := h
  exact ⟨a, cap, g, 0, h1, h2⟩
theorem NewI.below {base : Nat} {w w' : World} {v : Value} {L : List Int} (h : NewI base w v L) (hb : Below w.heap.size w w') : NewI base w' v L := by
  obtain ⟨a, g, cap, h1, h2, h3⟩ := h
  exact ⟨a, g, cap, h1, h2.below hb, h3⟩
theorem newI_empty {base : Nat} {w : World} {a : Option Addr} {cap : Nat} {L : List Int} (hl : L.length = 0) : NewI base w (.slice a 0 cap) L := by
  refine ⟨a, 0, cap, by rw [hl], ⟨fun c => by omega, fun i c hc => ?_⟩, fun c => by omega⟩
  have := (List.getElem?_eq_some_iff.1 hc).1
  omega

theorem newI_own {w : World} {B : Nat} {v : Value} {L : List Int} (h : w.ownsRow B 3 1 v L.length (intsV L)) : NewI B w v L := by
  rcases h.2 with ⟨rfl, h0⟩ | ⟨g, cap, cur, rfl, hb, hg, hnc, hcm, hcs, htake⟩
  · exact newI_empty h0
  · have hlt := (Array.getElem?_eq_some_iff.1 hg).1
    refine ⟨_, g, cap, rfl, ⟨fun _ => ⟨rfl, hlt⟩, fun i c hi => ?_⟩, fun _ => hb⟩
    have hil := (List.getElem?_eq_some_iff.1 hi).1
    have e : (intsV L)[i]? = some (.int .i64 c) := by unfold intsV; rw [List.getElem?_map, hi]; rfl
    rw [← htake, List.getElem?_take, if_pos (by omega)] at e
    rw [Nat.zero_add]
    simp [World.cell?, hg]
    simpa using e

/-- The step append([]int{}, l...), l nil or not. -/
theorem wpList_copy_ints {ops : Array Oper} {rest : List Oper} {o : Oper} {a : Act} {Q : Exit → Act → World → Prop} (hgd : o.guard = none) (s x : Operand) (w1 : World)
    (ho : o.op = .call { callee := .builtin .append, args := #[s, x], argTypes := #[22, 22] })
    (hs : a.eval s = .slice (some ⟨w1.heap.size, 0, none⟩) 0 0) {ad : Option Addr} {cap g f : Nat} {L : List Int} (hx : a.eval x = .slice ad L.length cap) (hD : IntsAt w1 ad g f L) (hN : L.length * 8 ≤ 140737488351232)
    (h : ∀ v' w', NewI w1.heap.size w' v' L → Below w1.heap.size w1 w' → wpList Try.prog ops Q rest (a.put o.dst v') w') :
    wpList Try.prog ops Q (o :: rest) a (w1.alloc (.cells #[] 3)) := by
  obtain ⟨i0, hi0, hz0, hz1, hz2⟩ := info_parts infoInt
  have hb0 : Below w1.heap.size w1 (w1.alloc (.cells #[] 3)) := (Below.refl _ _).alloc (Nat.le_refl _) _
  have own0 : (w1.alloc (.cells #[] 3)).ownsRow w1.heap.size 3 1 (.slice (some ⟨w1.heap.size, 0, none⟩) 0 0) 0 [] := ⟨rfl, Or.inr ⟨w1.heap.size, 0, #[], rfl, Nat.le_refl _, heap_alloc_new w1 _, Nat.le_refl _, Nat.zero_le _, rfl, rfl⟩⟩
  match ad, hx, hD with
  | none, hx, hD =>
    have hl : L.length = 0 := by
      rcases Nat.eq_zero_or_pos L.length with hz | hz
      · exact hz
      · exact absurd (hD.at_ hz).1 (by simp)
    rw [hl] at hx
    exact Lib.wpList_append_run _ hgd s x _ _ ho _ _ hs hx _ _ (copy_none_run _ _ _ _) (h _ _ (newI_empty hl) hb0)
  | some ad, hx, hD =>
    have hnews : ∀ j u, (intsV L)[j]? = some u → (w1.alloc (.cells #[] 3)).cell? (ad.add j) = some u := by
      intro j u hj
      have hl : 0 < L.length := by
        have := (List.getElem?_eq_some_iff.1 hj).1
        simp [intsV] at this
        omega
      obtain ⟨e, _⟩ := hD.at_ hl
      obtain rfl : ad = ⟨g, f, none⟩ := by injection e
      exact intsV_news (hD.below hb0) j u hj
    refine wpList_append_own _ hgd s x 22 ho w1.heap.size 3 i0 (.int .i64 0) 1 8 Try.underlying22 hi0 hz0 hz1 hz2 rfl (by decide) _ 0 _ hs own0 ad L.length cap (intsV L) hx (by simp [intsV]) hnews (intsV_one L) (by unfold maxLen; omega) (by omega) (by simp) ?_
    intro v' w2 hown' hgrow _
    have hown2 : w2.ownsRow w1.heap.size 3 1 v' L.length (intsV L) := by simpa using hown'
    have hb2 := hb0.grown hgrow (by simp) (fun k hk => by cases hk; exact Nat.le_refl _)
    exact h _ _ (newI_own hown2) hb2

set_option maxHeartbeats 800000 in
theorem copiedOk {u : Value} {L : List Int} (hN : L.length * 8 ≤ 140737488351232) (w : World) (hu : Ints w u L) :
    Calls Try.prog 19 #[u] w fun e w' => ∃ x, e = .returned x ∧ NewI w.heap.size w' x L ∧ Below w.heap.size w w' := by
  obtain ⟨a, cap, g, o, rfl, h⟩ := hu
  have h := hide h
  go_enter Try.func19, Try.ntmps19
  go_wp2_with (first
    | (at_builtin; refine wpList_copy_ints rfl (.tmp 3) (.tmp 4) w rfl rfl rfl (unhide h) hN ?_))
  intro v' w2 hI hb
  have hI := hide hI
  have hb := hide hb
  go_wp2_with fail
  go_ret
  exact ⟨_, rfl, unhide hI, unhide hb⟩

set_option maxRecDepth 100000 in
set_option maxHeartbeats 1600000 in
theorem refLevels {u : Value} {L : List Int} {n M : Nat} (h16 : n ≤ 16) (hM : n * n = M) (hL : L.length ≤ 9223372036854775807) (w : World) (hu : Ints w u L) :
    Calls Try.prog 49 #[.int .i64 n, u] w fun e w' => e = .returned (.bool (levS M L)) ∧ w' = w := by
  obtain ⟨a, cap, g, o, rfl, h⟩ := hu
  have s1 := hide h.at_
  have t1 := hide (fun i (hi : i < L.length) => h.get hi)
  have m1 : wrap64 ((n : Int) * (n : Int)) = (M : Int) := by
    have : n * n ≤ 16 * 16 := Nat.mul_le_mul h16 h16
    rw [← Int.natCast_mul, hM]
    exact IntWalk.wrap64_in _ ⟨by omega, by omega⟩
  have vL : Hid (levS M L = (decide (L.length = M) && lvOk L)) := rfl
  have hno : Hid (∀ k, k < L.length → noLv (L.getD k 0) = true → lvOk L = false) := fun k hk h => by
    unfold lvOk
    exact List.all_eq_false.2 ⟨k, List.mem_range.2 hk, by rw [h]; simp⟩
  have hyes : Hid ((∀ k, k < L.length → noLv (L.getD k 0) = false) → lvOk L = true) := fun h => by
    unfold lvOk
    refine List.all_eq_true.2 fun k hk => ?_
    rw [h k (List.mem_range.1 hk)]
    rfl
  clear h hM
  rw [unhide vL]
  clear vL
  generalize lvOk L = bL at *
  generalize L.length = m at *
  go_enter Try.func49, Try.ntmps49
  go_wp2_with fail
  go_loopw [5] (fun kv wr => ∃ k : Nat, k ≤ m ∧ kv = .int .i64 k ∧ Hid (∀ i, i < k → noLv (L.getD i 0) = false) ∧ w = wr) (fun kv _ => m - (intOf kv).toNat)
  case atStart => exact ⟨0, Nat.zero_le _, rfl, fun i hi => by omega, rfl⟩
  case round =>
    obtain ⟨k, hk, rfl, hn, rfl⟩ := hrel
    by_cases c : k < m
    · have q1 : ((k : Int) < (m : Int)) = True := by simp; omega
      obtain ⟨rfl, l1⟩ := unhide s1 (by omega)
      have c1 := unhide t1 k c
      have hn2 : Hid (noLv (L.getD k 0) = false → ∀ i, i < k + 1 → noLv (L.getD i 0) = false) := fun h i hi => by
        by_cases e : i = k
        · subst e
          exact h
        · exact unhide hn i (by omega)
      have hy := hide (unhide hno k c)
      clear hn
      have hv : Hid (noLv (L.getD k 0) = (decide (L.getD k 0 < 0) || decide (255 < L.getD k 0))) := rfl
      generalize noLv (L.getD k 0) = bv at *
      generalize L.getD k 0 = x at *
      have hd : ((x < 0) = True ∧ bv = true) ∨ ((x < 0) = False ∧ (255 < x) = True ∧ bv = true) ∨ ((x < 0) = False ∧ (255 < x) = False ∧ bv = false) := by
        rw [unhide hv]
        by_cases c1 : x < 0
        · exact Or.inl ⟨by simp [c1], by simp [c1]⟩
        · by_cases c2 : 255 < x
          · exact Or.inr (Or.inl ⟨by simp; omega, by simp [c2], by simp [c2]⟩)
          · exact Or.inr (Or.inr ⟨by simp; omega, by simp; omega, by simp; omega⟩)
      clear hv
      rcases hd with ⟨d1, rfl⟩ | ⟨d1, d2, rfl⟩ | ⟨d1, d2, rfl⟩
      · have hb : Hid (bL = false) := unhide hy (by simp)
        go_wp2_with fail
        go_ret
        exact ⟨by rw [unhide hb]; simp, rfl⟩
      · have hb : Hid (bL = false) := unhide hy (by simp)
        go_wp2_with fail
        go_ret
        exact ⟨by rw [unhide hb]; simp, rfl⟩
      · have hn3 := hide (unhide hn2 (by simp))
        go_wp2_with fail
        exact ⟨⟨k + 1, by omega, by go_num, hn3, trivial⟩, by simp [intOf]; omega⟩
    · have q1 : ((k : Int) < (m : Int)) = False := by simp; omega
      obtain rfl : k = m := by omega
      have hb : Hid (bL = true) := unhide hyes (unhide hn)
      by_cases e : k = M
      · subst e
        have hr : Hid ((decide (k = k) && bL) = true) := by show _ = _; rw [unhide hb]; simp
        go_wp2_with fail
        go_ret
        exact ⟨by first | rfl | (rw [unhide hr]; rfl) | (rw [unhide hb]; simp), rfl⟩
      · have q2 : (k = M) = False := by simp [e]
        have hr : Hid ((decide (k = M) && bL) = false) := by show _ = _; simp [e]
        go_wp2_with fail
        go_ret
        exact ⟨by rw [unhide hr]; simp; omega, rfl⟩
end Go.Proofs.Ythdoophjcjlklaa
