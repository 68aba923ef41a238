/- The landed look at lists of levels. -/
import Derived.Test.YthbghcebcahlnaaBM
import Derived.Shelf.Abstract
namespace Go.Proofs.Ythbghcebcahlnaa
open Go.RowKit Go.Shelf

def noLv (v : Int) : Bool := decide (v < 0) || decide (255 < v)
set_option maxHeartbeats 400000 in
theorem isNoLevelAny (v : Int) (w : World) : Calls (barP Try.prog) 65 #[.int .i64 v] w fun e w' => e = .returned (.bool (noLv v)) ∧ w' = w := by
  have hd : ((v < 0) = True ∧ noLv v = true) ∨ ((v < 0) = False ∧ (255 < v) = True ∧ noLv v = true) ∨ ((v < 0) = False ∧ (255 < v) = False ∧ noLv v = false) := by
    unfold noLv
    by_cases c1 : v < 0
    · exact Or.inl ⟨by simp [c1], by simp [c1]⟩
    · by_cases c2 : 255 < v
      · exact Or.inr (Or.inl ⟨by simp; omega, by simp [c2], by simp [c2]⟩)
      · exact Or.inr (Or.inr ⟨by simp; omega, by simp; omega, by simp; omega⟩)
  rcases hd with ⟨d1, d3⟩ | ⟨d1, d2, d3⟩ | ⟨d1, d2, d3⟩
  all_goals rw [d3]
  all_goals clear d3
  all_goals
    go_enter Bar.func65, Bar.ntmps65
    go_wp2_with fail
    go_ret
    exact ⟨rfl, rfl⟩

set_option maxRecDepth 100000 in
set_option maxHeartbeats 1600000 in
theorem idxInts {a : Option Addr} {cap g o : Nat} {L : List Int} (hL : L.length ≤ 4096) (w : World) (h : IntsAt w a g o L) :
    Calls (barP Try.prog) 84 #[.slice a L.length cap, .func (.func 65) #[] #[]] w fun e w' => ∃ r : Int, e = .returned (.int .i64 r) ∧ ((r = -1 ∧ ∀ k, k < L.length → noLv (L.getD k 0) = false) ∨ (0 ≤ r ∧ ∃ k, k < L.length ∧ noLv (L.getD k 0) = true)) ∧ w' = w := by
  have s1 := hide h.at_
  have t1 := hide (fun i (hi : i < L.length) => h.get hi)
  have kN := hide isNoLevelAny
  clear h
  generalize L.length = m at *
  go_enter Bar.func84, Bar.ntmps84
  go_wp2_with fail
  go_loopw [8] (fun kv wr => ∃ k : Nat, k ≤ m ∧ kv = .int .i64 k ∧ Hid (∀ i, i < k → noLv (L.getD i 0) = false) ∧ w = wr) (fun kv _ => m - (intOf kv).toNat)
  case atStart => exact ⟨0, Nat.zero_le _, rfl, fun i hi => by omega, rfl⟩
  case round =>
    obtain ⟨k, hk, rfl, hn, rfl⟩ := hrel
    by_cases c : k < m
    · have q1 : ((k : Int) < (m : Int)) = True := by simp; omega
      obtain ⟨rfl, l1⟩ := unhide s1 (by omega)
      have c1 := unhide t1 k c
      have k1 := hide (unhide kN (L.getD k 0) w)
      have hn2 : Hid (noLv (L.getD k 0) = false → ∀ i, i < k + 1 → noLv (L.getD i 0) = false) := fun h i hi => by
        by_cases e : i = k
        · subst e
          exact h
        · exact unhide hn i (by omega)
      have hy : Hid (noLv (L.getD k 0) = true → ∃ k, k < m ∧ noLv (L.getD k 0) = true) := fun h => ⟨k, c, h⟩
      clear hn
      generalize hbv : noLv (L.getD k 0) = bv at *
      replace hbv := hide hbv
      generalize L.getD k 0 = x at *
      go_wp2_with fail
      refine (unhide k1).mono ?_
      rintro e w1 ⟨rfl, rfl⟩
      clear k1
      rcases (by cases bv <;> simp : bv = true ∨ bv = false) with rfl | rfl
      · go_wp2_with fail
        go_ret
        exact ⟨_, rfl, Or.inr ⟨by omega, unhide hy (by simp)⟩, rfl⟩
      · have hn3 := hide (unhide hn2 (by simp))
        go_wp2_with fail
        exact ⟨⟨k + 1, by omega, by go_num, hn3, trivial⟩, by simp [intOf]; omega⟩
    · have q1 : ((k : Int) < (m : Int)) = False := by simp; omega
      obtain rfl : k = m := by omega
      go_wp2_with fail
      go_ret
      exact ⟨_, rfl, Or.inl ⟨rfl, unhide hn⟩, rfl⟩

/-- A list of so many levels. -/
def lvOk (L : List Int) : Bool := (List.range L.length).all fun k => !noLv (L.getD k 0)
set_option maxHeartbeats 800000 in
theorem containsInts {a : Option Addr} {cap g o : Nat} {L : List Int} (hL : L.length ≤ 4096) (w : World) (h : IntsAt w a g o L) :
    Calls (barP Try.prog) 64 #[.slice a L.length cap, .func (.func 65) #[] #[]] w fun e w' => e = .returned (.bool (!lvOk L)) ∧ w' = w := by
  have k1 := hide (idxInts (cap := cap) hL w h)
  clear h
  go_enter Bar.func64, Bar.ntmps64
  go_wp2_with fail
  refine (unhide k1).mono ?_
  rintro e w1 ⟨r, rfl, hr, rfl⟩
  have hd : ((0 ≤ r) = True ∧ lvOk L = false) ∨ ((0 ≤ r) = False ∧ lvOk L = true) := by
    unfold lvOk
    rcases hr with ⟨e, h⟩ | ⟨e, k, h1, h2⟩
    · right
      refine ⟨by simp; omega, List.all_eq_true.2 fun k hk => ?_⟩
      rw [h k (List.mem_range.1 hk)]
      rfl
    · left
      refine ⟨by simp; omega, List.all_eq_false.2 ⟨k, List.mem_range.2 h1, by rw [h2]; simp⟩⟩
  clear k1 hr
  rcases hd with ⟨d1, d2⟩ | ⟨d1, d2⟩
  all_goals
    replace d2 := hide d2
    go_wp2_with fail
    go_ret
    exact ⟨by rw [unhide d2]; rfl, rfl⟩

def levS (M : Nat) (L : List Int) : Bool := decide (L.length = M) && lvOk L

set_option maxRecDepth 100000 in
set_option maxHeartbeats 3200000 in
theorem areLevelsOk {q M : Nat} {u v : Value} {A B : List Int} (hM : M ≤ 4096) (w : World) (hu : Ints w u A) (hv : Ints w v B) (c0 : w.cell? ⟨q, 0, none⟩ = some u) (c1 : w.cell? ⟨q, 1, none⟩ = some v) :
    Calls (barP Try.prog) 33 #[.int .i64 M, .slice (some ⟨q, 0, none⟩) 2 2] w fun e w' => e = .returned (.bool (levS M A && levS M B)) ∧ w' = w := by
  obtain ⟨a1, cap1, g1, o1, rfl, h1⟩ := hu
  obtain ⟨a2, cap2, g2, o2, rfl, h2⟩ := hv
  have kA := hide (fun (e : A.length = M) => containsInts (cap := cap1) (by omega) w h1)
  have kB := hide (fun (e : B.length = M) => containsInts (cap := cap2) (by omega) w h2)
  have vA : Hid (levS M A = (decide (A.length = M) && lvOk A)) := rfl
  have vB : Hid (levS M B = (decide (B.length = M) && lvOk B)) := rfl
  clear h1 h2
  generalize lvOk A = bA at *
  generalize lvOk B = bB at *
  generalize A.length = m1 at *
  generalize B.length = m2 at *
  rw [unhide vA, unhide vB]
  clear vA vB
  go_enter Bar.func33, Bar.ntmps33
  go_wp2_with fail
  go_loopw [9] (fun kv wr => ∃ k : Nat, k ≤ 2 ∧ kv = .int .i64 k ∧ Hid (1 ≤ k → (decide (m1 = M) && bA) = true) ∧ Hid (2 ≤ k → (decide (m2 = M) && bB) = true) ∧ w = wr) (fun kv _ => 2 - (intOf kv).toNat)
  case atStart => exact ⟨0, Nat.zero_le _, rfl, fun h => by omega, fun h => by omega, rfl⟩
  case round =>
    obtain ⟨k, hk, rfl, hA, hB, rfl⟩ := hrel
    rcases (by omega : k = 0 ∨ k = 1 ∨ k = 2) with rfl | rfl | rfl
    · by_cases e : m1 = M
      · subst e
        have k1 := hide (unhide kA rfl)
        go_wp2_with fail
        refine (unhide k1).mono ?_
        rintro e w1 ⟨rfl, rfl⟩
        clear k1
        rcases (by cases bA <;> simp : bA = true ∨ bA = false) with rfl | rfl
        · go_wp2_with fail
          exact ⟨⟨1, by omega, rfl, fun _ => by simp, fun h => by omega, trivial⟩, by simp [intOf]⟩
        · go_wp2_with fail
          go_ret
          exact ⟨by first | rfl | simp, rfl⟩
      · have q1 : (m1 = M) = False := by simp [e]
        have hf : Hid ((decide (m1 = M) && bA && (decide (m2 = M) && bB)) = false) := by show _ = _; simp [e]
        go_wp2_with fail
        go_ret
        exact ⟨by rw [unhide hf]; rfl, rfl⟩
    · by_cases e : m2 = M
      · subst e
        have k1 := hide (unhide kB rfl)
        go_wp2_with fail
        refine (unhide k1).mono ?_
        rintro e w1 ⟨rfl, rfl⟩
        clear k1
        rcases (by cases bB <;> simp : bB = true ∨ bB = false) with rfl | rfl
        · go_wp2_with fail
          exact ⟨⟨2, by omega, rfl, fun _ => unhide hA (by omega), fun _ => by simp, trivial⟩, by simp [intOf]⟩
        · go_wp2_with fail
          go_ret
          exact ⟨by first | rfl | simp, rfl⟩
      · have q1 : (m2 = M) = False := by simp [e]
        have hf : Hid ((decide (m1 = M) && bA && (decide (m2 = M) && bB)) = false) := by show _ = _; simp [e]
        go_wp2_with fail
        go_ret
        exact ⟨by rw [unhide hf]; rfl, rfl⟩
    · have hA := hide (unhide hA (by omega))
      have hB := hide (unhide hB (by omega))
      go_wp2_with fail
      go_ret
      exact ⟨by rw [unhide hA, unhide hB]; rfl, rfl⟩

theorem not_nilI (a : Addr) (m c : Nat) (w : World) : (binOp .eql 35 (.slice (some a) m c) (.slice none 0 0)).run (barP Try.prog) w = .ok (.bool false) w := by kernel_rfl

/-- The values of a list. -/
def intsV (L : List Int) : List Value := L.map (.int .i64)
theorem intsV_get {L : List Int} {i : Nat} (hi : i < L.length) : (intsV L)[i]? = some (.int .i64 (L.getD i 0)) := by
  unfold intsV
  rw [List.getElem?_map, List.getD_eq_getElem?_getD, List.getElem?_eq_getElem hi]
  rfl
theorem intsV_news {w : World} {g o : Nat} {L : List Int} (h : IntsAt w (some ⟨g, o, none⟩) g o L) : ∀ j u, (intsV L)[j]? = some u → w.cell? ((⟨g, o, none⟩ : Addr).add j) = some u := fun j u hu => by
  have hj : j < L.length := by
    have := (List.getElem?_eq_some_iff.1 hu).1
    simpa [intsV] using this
  rw [intsV_get hj] at hu
  obtain rfl := Option.some.inj hu
  have e : (⟨g, o, none⟩ : Addr).add j = ⟨g, o + j, none⟩ := by unfold Addr.add; split <;> simp_all
  rw [e]
  exact h.get hj
theorem intsV_one (L : List Int) : ∀ u ∈ intsV L, u.oneCell' = true := fun u hu => by
  unfold intsV at hu
  obtain ⟨j, _, rfl⟩ := List.mem_map.1 hu
  rfl
theorem irow_own {w : World} {B g c : Nat} {L : List Int} (hl : 1 ≤ L.length) (h : w.ownsRow B 3 1 (.slice (some ⟨g, 0, none⟩) L.length c) L.length (intsV L)) : B ≤ g ∧ IRow w g L.length (fun i => L.getD i 0) := by
  rcases h.2 with ⟨_, h0⟩ | ⟨g', c', cur, h1, hg', hh, hn, hc, hs, ht⟩
  · omega
  · simp only [Value.slice.injEq, Option.some.injEq, Addr.mk.injEq, and_true, true_and] at h1
    obtain ⟨rfl, rfl⟩ := h1
    refine ⟨hg', cur, hh, by omega, fun i hi => ?_⟩
    have h3 := intsV_get hi
    rw [← ht, List.getElem?_take, if_pos (by omega)] at h3
    simpa using h3

set_option maxRecDepth 100000 in
set_option maxHeartbeats 1600000 in
theorem cloneInts {a : Option Addr} {cap g o : Nat} {L : List Int} (h1 : 1 ≤ L.length) (hm : L.length ≤ 4096) (w : World) (h : IntsAt w a g o L) :
    Calls (barP Try.prog) 19 #[.slice a L.length cap] w fun e w' => ∃ g' c', e = .returned (.slice (some ⟨g', 0, none⟩) L.length c') ∧ w.heap.size ≤ g' ∧ IRow w' g' L.length (fun i => L.getD i 0) ∧ w'.ownsRow w.heap.size 3 1 (.slice (some ⟨g', 0, none⟩) L.length c') L.length (intsV L) ∧ Below w.heap.size w w' := by
  obtain ⟨rfl, hlt⟩ := h.at_ (by omega)
  obtain ⟨i2, hi2, hx0, hx1, hx2⟩ := info_parts infoInt
  have y1 := (Below.refl w.heap.size w).alloc (Nat.le_refl _) (.cells #[] 3)
  have own0 : (w.alloc (.cells #[] 3)).ownsRow w.heap.size 3 1 (.slice (some ⟨w.heap.size, 0, none⟩) 0 0) 0 [] := ⟨rfl, Or.inr ⟨w.heap.size, 0, #[], rfl, Nat.le_refl _, heap_alloc_new w _, Nat.le_refl _, Nat.zero_le _, rfl, rfl⟩⟩
  have hnews := hide (intsV_news (h.below y1))
  have h1c := hide (intsV_one L)
  have hl : (intsV L).length = L.length * 1 := by simp [intsV]
  have hio := hide (fun (w' : World) (g c : Nat) => irow_own (w := w') (B := w.heap.size) (g := g) (c := c) h1)
  have y1 := hide y1
  have hnn := not_nilI ⟨g, o, none⟩ L.length cap
  clear h
  go_enter Bar.func19, Bar.ntmps19
  go_wp2_with (first
    | (at_builtin; refine wpList_append_own_at _ rfl (.tmp 5) (.tmp 6) 35 rfl w.heap.size 3 i2 (.int .i64 0) 1 8 Bar.underlying35 hi2 hx0 hx1 hx2 rfl (by decide) _ _ _ rfl own0 ⟨g, o, none⟩ L.length cap (intsV L) rfl hl (unhide hnews) (unhide h1c) ?c3 ?c4 ?c5 ?_))
  case c3 => unfold maxLen; omega
  case c4 => omega
  case c5 => simp
  intro v' w5 hown' hgrow _ hat
  replace hown' : w5.ownsRow w.heap.size 3 1 v' L.length (intsV L) := by simpa using hown'
  have hb5 : Below w.heap.size w w5 := (unhide y1).grown hgrow (by rw [World.size_alloc]; omega) (fun q hq => by
    have : q = w.heap.size := by simpa [Value.ownBlock] using hq.symm
    omega)
  have hown2 := hown'
  rcases hown2.2 with ⟨_, h0⟩ | ⟨g', c', cur, rfl, hg', hh, hn, hc, hs, ht⟩
  · omega
  obtain ⟨hge, hrow⟩ := unhide hio w5 g' c' hown'
  have R5 := hide hrow
  have O5 := hide hown'
  have B5 := hide hb5
  clear hown' hown2 hgrow hat hh hs ht hb5 hio
  go_wp2_with fail
  go_ret
  exact ⟨g', c', rfl, hg', unhide R5, unhide O5, unhide B5⟩
end Go.Proofs.Ythbghcebcahlnaa
