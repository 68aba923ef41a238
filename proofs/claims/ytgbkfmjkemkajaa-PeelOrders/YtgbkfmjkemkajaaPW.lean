/- What the statements of peeling ask of Open and Left; two lists of bools alike; where directions determine every grid no cell stays open: the statement's own walk. -/
import Derived.Test.YtgbkfmjkemkajaaM3
import Derived.Test.YtgbkfmjkemkajaaM4
namespace Go.Proofs.Ytgbkfmjkemkajaa
open Go.RowKit

def openErr (n : Int) (L : List (Int × Int)) : Int := if n < 1 ∨ 64 < n then 1 else if 64 < L.length then 2 else twiceS L

/-- A row of bools. -/
def BRow (w : World) (g n : Nat) (b : Nat → Bool) : Prop := ∃ cur : Array Value, w.heap[g]? = some (.cells cur 4 (0, 0)) ∧ n ≤ cur.size ∧ ∀ i, i < n → cur[i]? = some (.bool (b i))
theorem brow_at {w : World} {g n : Nat} {b : Nat → Bool} (h : BRow w g n b) {i : Nat} (hi : i < n) : w.cell? ⟨g, i, none⟩ = some (.bool (b i)) := by
  obtain ⟨cur, h1, h2, h3⟩ := h
  rw [cell_of_row w g i cur _ (0, 0) h1]
  exact h3 i hi
theorem brow_frozen {w : World} {g n : Nat} {b : Nat → Bool} (h : BRow w g n b) (i : Nat) : w.frozen? ⟨g, i, none⟩ = false := by
  obtain ⟨cur, h1, h2, h3⟩ := h
  exact frozen_of_row w g i cur _ h1
theorem brow_lt {w : World} {g n : Nat} {b : Nat → Bool} (h : BRow w g n b) : g < w.heap.size := by
  obtain ⟨cur, h1, h2, h3⟩ := h
  exact (Array.getElem?_eq_some_iff.1 h1).1
theorem brow_keep {w w' : World} {g n : Nat} {b : Nat → Bool} (h : BRow w g n b) (hb : w'.heap[g]? = w.heap[g]?) : BRow w' g n b := by
  obtain ⟨cur, h1, h2, h3⟩ := h
  exact ⟨cur, by rw [hb]; exact h1, h2, h3⟩
theorem brow_below {w w' : World} {g n B : Nat} {b : Nat → Bool} (h : BRow w g n b) (hg : Below B w w') (hr : g < B) : BRow w' g n b := brow_keep h (hg.block g hr)
theorem brow_set {w : World} {g n : Nat} {b : Nat → Bool} (h : BRow w g n b) (k : Nat) (v : Bool) : BRow (w.setCell ⟨g, k, none⟩ (.bool v)) g n (fun i => if i = k then v else b i) := by
  obtain ⟨cur, h1, h2, h3⟩ := h
  refine ⟨cur.setIfInBounds k (.bool v), heap_setCell_same w g k cur _ _ h1, by simpa using h2, fun i hi => ?_⟩
  dsimp only
  by_cases c : i = k
  · subst c
    rw [if_pos rfl, Array.getElem?_setIfInBounds_self_of_lt (by omega)]
  · rw [if_neg c, Array.getElem?_setIfInBounds_ne (by omega)]
    exact h3 i hi

def AliveOk : Prop := ∀ w : World, Calls Try.prog 6 #[] w fun e w' => e = .returned (.bool true) ∧ Below w.heap.size w w'
def OpenBad (F : Nat) : Prop := ∀ (n : Int) (L : List (Int × Int)) (a : Option Addr) (cap g o : Nat) (w : World), L.length ≤ 9223372036854775807 → All64 L → Dirs w a g o L → openErr n L ≠ 0 →
  Calls Try.prog F #[.int .i64 n, .slice a L.length cap] w fun e w' => e = .returned (.tuple #[.slice none 0 0, .int .i64 (openErr n L)]) ∧ Below w.heap.size w w'
def OpenGood (F : Nat) : Prop := ∀ (n : Nat) (L : List (Int × Int)) (a : Option Addr) (cap g o : Nat) (w : World), All64 L → Dirs w a g o L → openErr n L = 0 →
  Calls Try.prog F #[.int .i64 n, .slice a L.length cap] w fun e w' => ∃ g' c b, e = .returned (.tuple #[.slice (some ⟨g', 0, none⟩) (n * n : Nat) c, .int .i64 0]) ∧ w.heap.size ≤ g' ∧ BRow w' g' (n * n) b ∧ Final n L b ∧ Below w.heap.size w w'
def LeftBad (F : Nat) : Prop := ∀ (n : Int) (L : List (Int × Int)) (a : Option Addr) (cap g o : Nat) (w : World), L.length ≤ 9223372036854775807 → All64 L → Dirs w a g o L → openErr n L ≠ 0 →
  Calls Try.prog F #[.int .i64 n, .slice a L.length cap] w fun e w' => e = .returned (.tuple #[.int .i64 0, .int .i64 (openErr n L)]) ∧ Below w.heap.size w w'
def LeftGood (F : Nat) : Prop := ∀ (n : Nat) (L : List (Int × Int)) (a : Option Addr) (cap g o : Nat) (w : World), All64 L → Dirs w a g o L → openErr n L = 0 →
  Calls Try.prog F #[.int .i64 n, .slice a L.length cap] w fun e w' => ∃ b, e = .returned (.tuple #[.int .i64 (cntB b (n * n) : Nat), .int .i64 0]) ∧ Final n L b ∧ Below w.heap.size w w'

structure Sound (n : Nat) (L : List (Int × Int)) : Prop where
  n1 : 1 ≤ n
  n64 : n ≤ 64
  len : L.length ≤ 64
  twice : twiceS L = 0
  ok : ∀ d, d ∈ L → okD d.1 d.2 = true
  nodup : L.Nodup

theorem sound_of {n : Int} {L : List (Int × Int)} (h : openErr n L = 0) : ∃ m : Nat, n = (m : Int) ∧ Sound m L := by
  unfold openErr at h
  by_cases c1 : n < 1 ∨ 64 < n
  · rw [if_pos c1] at h; cases h
  · rw [if_neg c1] at h
    by_cases c2 : 64 < L.length
    · rw [if_pos c2] at h; cases h
    · rw [if_neg c2] at h
      obtain ⟨g1, g2, _⟩ := twice_good h
      exact ⟨n.toNat, by omega, by omega, by omega, by omega, h, g1, g2⟩

set_option maxRecDepth 100000 in
set_option maxHeartbeats 3200000 in
theorem peelKatzWalk (hAl : AliveOk) (hLB : LeftBad 9) (hLG : LeftGood 9) {n : Int} {L : List (Int × Int)} {a : Option Addr} {cap g o : Nat} (hN : L.length ≤ 9223372036854775807) (hA : All64 L) (w : World) (h : Dirs w a g o L) :
    Calls Try.prog 4 #[.int .i64 n, .slice a L.length cap] w fun e w' => e = .returned (.bool true) ∧ Below w.heap.size w w' := by
  have kA := hide hAl
  have kK := hide (fun (W : World) (hb : Below w.heap.size w W) => dirKatz (n := n) (cap := cap) hN hA W (dirs_below h hb))
  by_cases hE : openErr n L = 0
  · obtain ⟨m, rfl, S⟩ := sound_of hE
    have kL := hide (fun (W : World) (hb : Below w.heap.size w W) => hLG m L a cap g o W hA (dirs_below h hb) hE)
    have hk : katzS (m : Int) L = (decide ((m : Int) ≤ sumP L ∨ (m : Int) ≤ sumQ L), 0) := by
      unfold katzS
      rw [if_neg (by have := S.n1; have := S.n64; omega), S.twice, if_neg (fun h => h rfl)]
    rw [hk] at kK
    have hnone := hide (fun b (hb : Final m L b) (hk : (m : Int) ≤ sumP L ∨ (m : Int) ≤ sumQ L) => cnt_none (b := b) (k := m * m) fun i hi => final_katz S.n1 hb S.ok S.nodup hk i hi)
    clear hk hE h hA S hLG hLB hAl
    generalize L.length = N at *
    dsimp only at kK
    by_cases c : (m : Int) ≤ sumP L ∨ (m : Int) ≤ sumQ L
    · rw [decide_eq_true c] at kK
      have hnone := hide (fun b (hb : Final m L b) => unhide hnone b hb c)
      clear c
      go_enter Try.func4, Try.ntmps4
      go_wp2_with fail
      refine (unhide kA w).mono ?_
      rintro e w1 ⟨rfl, hb1⟩
      have B1 := hide hb1
      clear hb1
      go_wp2_with fail
      refine (unhide kL w1 (unhide B1)).mono ?_
      rintro e w2 ⟨b, rfl, hF, hb2⟩
      rw [unhide hnone b hF]
      have B2 := hide ((unhide B1).trans (hb2.mono (unhide B1).size))
      clear hb2 hF
      go_wp2_with fail
      refine (unhide kK w2 (unhide B2)).mono ?_
      rintro e w3 ⟨rfl, hb3⟩
      have B3 := hide ((unhide B2).trans (hb3.mono (unhide B2).size))
      clear hb3
      go_wp2_with fail
      go_ret
      exact ⟨rfl, unhide B3⟩
    · rw [decide_eq_false c] at kK
      clear c hnone
      go_enter Try.func4, Try.ntmps4
      go_wp2_with fail
      refine (unhide kA w).mono ?_
      rintro e w1 ⟨rfl, hb1⟩
      have B1 := hide hb1
      clear hb1
      go_wp2_with fail
      refine (unhide kL w1 (unhide B1)).mono ?_
      rintro e w2 ⟨b, rfl, hF, hb2⟩
      have B2 := hide ((unhide B1).trans (hb2.mono (unhide B1).size))
      clear hb2 hF
      go_wp2_with fail
      refine (unhide kK w2 (unhide B2)).mono ?_
      rintro e w3 ⟨rfl, hb3⟩
      have B3 := hide ((unhide B2).trans (hb3.mono (unhide B2).size))
      clear hb3
      go_wp2_with fail
      go_ret
      exact ⟨rfl, unhide B3⟩
  · have kL := hide (fun (W : World) (hb : Below w.heap.size w W) => hLB n L a cap g o W hN hA (dirs_below h hb) hE)
    generalize openErr n L = er at *
    generalize katzS n L = s at *
    obtain ⟨s1, s2⟩ := s
    dsimp only at kK
    have q1 : (er != 0) = true := by simp; exact hE
    clear h hA hLG hLB hAl
    generalize L.length = N at *
    go_enter Try.func4, Try.ntmps4
    go_wp2_with fail
    refine (unhide kA w).mono ?_
    rintro e w1 ⟨rfl, hb1⟩
    have B1 := hide hb1
    clear hb1
    go_wp2_with fail
    refine (unhide kL w1 (unhide B1)).mono ?_
    rintro e w2 ⟨rfl, hb2⟩
    have B2 := hide ((unhide B1).trans (hb2.mono (unhide B1).size))
    clear hb2
    go_wp2_with fail
    refine (unhide kK w2 (unhide B2)).mono ?_
    rintro e w3 ⟨rfl, hb3⟩
    have B3 := hide ((unhide B2).trans (hb3.mono (unhide B2).size))
    clear hb3
    go_wp2_with fail
    go_ret
    exact ⟨rfl, unhide B3⟩

set_option maxHeartbeats 1600000 in
theorem sameOpenAny {n ga gb ca cb : Nat} {b b' : Nat → Bool} (w : World) (hA : BRow w ga n b) (hB : BRow w gb n b') (he : ∀ i, i < n → b i = b' i) (hn : n ≤ 4096) :
    Calls Try.prog 11 #[.slice (some ⟨ga, 0, none⟩) n ca, .slice (some ⟨gb, 0, none⟩) n cb] w fun e w' => e = .returned (.bool true) ∧ Below w.heap.size w w' := by
  have cA := hide fun i (hi : i < n) => brow_at hA hi
  have cB := hide fun i (hi : i < n) => brow_at hB hi
  have he := hide he
  clear hA hB
  go_enter Try.func11, Try.ntmps11
  go_wp2_with fail
  go_loopw [5] (fun iv wr => ∃ i : Nat, i ≤ n ∧ iv = .int .i64 i ∧ Hid (wr.heap = w.heap) ∧ Hid (Below w.heap.size w wr)) (fun iv _ => n - (intOf iv).toNat)
  case atStart => exact ⟨0, Nat.zero_le _, rfl, rfl, Below.refl _ _⟩
  case round =>
    obtain ⟨i, hi, rfl, hh, hB⟩ := hrel
    by_cases hc : i < n
    · have q1 : ((i : Int) < (n : Int)) = True := by simp; omega
      have c1 := (cell_heap (unhide hh) _).trans (unhide cA i hc)
      have c2 := (cell_heap (unhide hh) _).trans (unhide cB i hc)
      rw [← unhide he i hc] at c2
      generalize b i = v at c1 c2
      go_wp2_with fail
      go_quiet (fail)
      go_wp2_with fail
      exact ⟨⟨i + 1, by omega, by go_num, unhide hh, ⟨(unhide hB).os, (unhide hB).tape, (unhide hB).output, (unhide hB).size, (unhide hB).block⟩⟩, by simp [intOf]; omega⟩
    · have e : i = n := by omega
      subst e
      have q1 : ((i : Int) < (i : Int)) = False := by simp
      go_wp2_with fail
      go_ret
      exact ⟨rfl, unhide hB⟩
end Go.Proofs.Ytgbkfmjkemkajaa
