/- The library sort at directions, by the program's own Cmp. -/
import Derived.Test.YtgbkfmjkemkajabDSh
import Derived.Test.YtgbkfmjkemkajabDS
namespace Go.Proofs.Ytgbkfmjkemkajab
open Go.RowKit

/-- A direction in its one form. -/
abbrev OkDir := {d : Int × Int // okD d.1 d.2 = true}
theorem ok_one : okD 1 0 = true := by decide +kernel
def cfD (x y : OkDir) : Int := cmpS x.1 y.1
def encD (x : OkDir) : List Value := [.int .i64 x.1.1, .int .i64 x.1.2]

theorem ltD (x y : OkDir) : ltOf cfD x y = decide (0 < crossS x.1 y.1) := by
  unfold ltOf cfD
  rw [cmpS_ok x.2 y.2]
  by_cases c : 0 < crossS x.1 y.1
  · rw [if_pos c]
    simp [c]
  · rw [if_neg c]
    by_cases c2 : crossS x.1 y.1 < 0
    · rw [if_pos c2]
      simp [c]
    · rw [if_neg c2]
      simp [c]

theorem cross_self (a : Int × Int) : crossS a a = 0 := by
  unfold crossS
  rw [Int.mul_comm a.2 a.1]
  omega

theorem ltD_irrefl (x : OkDir) : ltOf cfD x x = false := by rw [ltD, cross_self]; rfl
theorem ltD_trans (x y z : OkDir) (h1 : ltOf cfD x y = true) (h2 : ltOf cfD y z = true) : ltOf cfD x z = true := by
  rw [ltD, decide_eq_true_eq] at *
  have := cross_on x.2 y.2 z.2 (by omega) (by omega)
  omega
theorem ltD_ntrans (x y z : OkDir) (h1 : ltOf cfD x y = false) (h2 : ltOf cfD y z = false) : ltOf cfD x z = false := by
  rw [ltD, decide_eq_false_iff_not] at *
  have s1 := cross_swap x.1 y.1
  have s2 := cross_swap y.1 z.1
  have s3 := cross_swap x.1 z.1
  have := cross_on z.2 y.2 x.2 (by omega) (by omega)
  omega
theorem swoD : Sort.SWO (ltOf cfD) := ⟨ltD_irrefl, ltD_trans, ltD_ntrans⟩

theorem allD_one (x y : OkDir) (h1 : ltOf cfD x y = false) (h2 : ltOf cfD y x = false) : x = y := by
  rw [ltD, decide_eq_false_iff_not] at *
  have s1 := cross_swap x.1 y.1
  exact Subtype.ext (cross_zero x.2 y.2 (by omega))

theorem dir64_ok {d : Int × Int} (h : okD d.1 d.2 = true) : Dir64 d := by
  have := okD_bounds h
  exact ⟨by unfold I64; omega, by unfold I64; omega⟩

theorem grows_grow {w w' : World} (h : Grows w w') : ∃ q os, w' = Sort.grow (w.drewN q) os := by
  refine ⟨w'.drawn - w.drawn, w'.heap.extract w.heap.size w'.heap.size, ?_⟩
  have h1 : w'.heap = w.heap ++ w'.heap.extract w.heap.size w'.heap.size := by
    apply Array.ext_getElem?
    intro k
    rw [Array.getElem?_append]
    by_cases c : k < w.heap.size
    · rw [if_pos c]
      exact h.below.block k c
    · rw [if_neg c, Array.getElem?_extract]
      by_cases c2 : k < w'.heap.size
      · rw [if_pos (by omega)]
        congr 1
        omega
      · rw [if_neg (by omega)]
        exact Array.getElem?_eq_none (by omega)
  have h2 := h.drawn
  have h3 := h.below.os
  have h4 := h.below.tape
  have h5 := h.below.output
  cases w' with
  | mk heap tape drawn os output =>
    cases w with
    | mk heap0 tape0 drawn0 os0 output0 =>
      dsimp only at h1 h2 h3 h4 h5
      subst h3 h4 h5
      unfold Sort.grow World.drewN
      dsimp only
      rw [← h1]
      congr 1
      omega

theorem take_putD (cur F : Array Value) (h : F.size ≤ cur.size) : (Sort.putCells id 0 F cur).toList.take F.size = F.toList := by
  apply List.ext_getElem?
  intro j
  by_cases hj : j < F.size
  · rw [List.getElem?_take_of_lt hj, Array.getElem?_toList]
    simp [Sort.putCells, hj, show j < cur.size by omega]
  · rw [List.getElem?_take_eq_none (by omega), List.getElem?_eq_none (by simp; omega)]

section
variable [Inhabited OkDir]

theorem cmpLays (blk off size : Nat) (w : World) : CmpLays Try.prog 10 #[] encD 2 cfD blk off size w :=
  fun _ _ _ _ x y => (dirCmpG (dir64_ok x.2) (dir64_ok y.2) _).mono fun _ _ h => ⟨h.1, grows_grow h.2⟩

theorem flatK_flat2 (d : Array OkDir) : (Sort.flatK encD 2 d).toList = flat2 (d.toList.map Subtype.val) := by
  apply List.ext_getElem?
  intro t
  by_cases c : t < d.size * 2
  · have hi : t / 2 < d.size := by omega
    have e1 : (Sort.flatK encD 2 d).toList[t]? = some ((encD d[t / 2]!)[t % 2]!) := by
      rw [Array.getElem?_toList, Array.getElem?_eq_getElem (by rw [Sort.size_flatK]; exact c)]
      have := Sort.get_flatK encD 2 d t c
      rw [getElem!_pos _ t (by rw [Sort.size_flatK]; exact c)] at this
      rw [this]
    have e2 : (d.toList.map Subtype.val)[t / 2]? = some (d[t / 2]!).1 := by
      rw [List.getElem?_map, Array.getElem?_toList, Array.getElem?_eq_getElem hi, getElem!_pos d _ hi]
      rfl
    obtain ⟨f1, f2⟩ := flat2_get e2
    rw [e1]
    rcases Nat.mod_two_eq_zero_or_one t with h | h
    · rw [h, show t = t / 2 * 2 by omega, f1]
      rw [show t / 2 * 2 / 2 = t / 2 by omega]
      rfl
    · rw [h, show t = t / 2 * 2 + 1 by omega, f2]
      rw [show (t / 2 * 2 + 1) / 2 = t / 2 by omega]
      rfl
  · rw [List.getElem?_eq_none (by rw [Array.length_toList, Sort.size_flatK]; omega), List.getElem?_eq_none (by rw [flat2_length, List.length_map, Array.length_toList]; omega)]

theorem holdsD {w : World} {base g cap : Nat} {d : Array OkDir} (h : w.ownsRow base 31 2 (.slice (some ⟨g, 0, none⟩) d.size cap) d.size (flat2 (d.toList.map Subtype.val))) : Sort.HoldsK encD 2 w g 0 d := by
  intro j hj
  rw [Sort.size_flatK] at hj
  have hx := (List.getElem?_eq_getElem (l := (Sort.flatK encD 2 d).toList) (i := j) (by rw [Array.length_toList, Sort.size_flatK]; exact hj))
  refine ⟨?_, h.frozenAt _⟩
  rw [Nat.zero_add, h.cellAt j (by omega), ← flatK_flat2, hx, getElem!_pos _ j (by rw [Sort.size_flatK]; exact hj)]
  rfl

theorem grownD {w : World} {g n : Nat} {os : Array Obj} (d : Array OkDir) : w.grownBy (sortWorldK encD 2 w g 0 n d os) (some g) := by
  unfold sortWorldK Sort.putRowK
  refine ⟨rfl, rfl, rfl, by simp, fun k hk hne => ?_⟩
  rw [Sort.heap_grow_old _ _ (by simpa using hk)]
  have : g ≠ k := fun e => hne (by rw [e])
  simp [Sort.putRow, Sort.mapBlock, Sort.ahead, Array.getElem?_modify, this]

theorem ownsD {w : World} {base g cap n : Nat} {os : Array Obj} {d d' : Array OkDir} (hs : d'.size = d.size) (h : w.ownsRow base 31 2 (.slice (some ⟨g, 0, none⟩) d.size cap) d.size (flat2 (d.toList.map Subtype.val))) :
    (sortWorldK encD 2 w g 0 n d' os).ownsRow base 31 2 (.slice (some ⟨g, 0, none⟩) d.size cap) d.size (flat2 (d'.toList.map Subtype.val)) := by
  rcases h.2 with ⟨h0, _⟩ | ⟨g', cap', cur, hv, hg, hb, hn, hcap, hsz, _⟩
  · cases h0
  · cases hv
    have hg2 : g < w.heap.size := (Array.getElem?_eq_some_iff.1 hb).1
    refine ⟨by rw [flat2_length, List.length_map, Array.length_toList, hs], .inr ⟨g, cap, Sort.putCells id 0 (Sort.flatK encD 2 d') cur, rfl, hg, ?_, hn, hcap, by simp [Sort.putCells, hsz], ?_⟩⟩
    · unfold sortWorldK Sort.putRowK
      rw [Sort.heap_grow_old _ _ (by simpa using hg2)]
      simp [Sort.putRow, Sort.mapBlock, Sort.ahead, Array.getElem?_modify, hb, Sort.onCells]
    · have e : d.size * 2 = (Sort.flatK encD 2 d').size := by rw [Sort.size_flatK, hs]
      rw [e, take_putD _ _ (by rw [Sort.size_flatK, hs, hsz]; omega), flatK_flat2]
end
end Go.Proofs.Ytgbkfmjkemkajab
