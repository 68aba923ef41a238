/- Whole numbers out of any numbers; lists that are owned. -/
import Derived.Test.YthiipodgfbnpeaaDoorSA
namespace Go.Proofs.YthiipodgfbnpeaaDoor
open Go.RowKit Fl

/-- What stands in the numbers that came in: N pairs of int32. -/
structure Pairs (w : World) (g o N : Nat) (p : Nat → Int × Int) : Prop where
  one : ∀ i, i < N → w.cell? ⟨g, o + i * 2, none⟩ = some (.int .i32 (p i).1)
  two : ∀ i, i < N → w.cell? ⟨g, o + i * 2 + 1, none⟩ = some (.int .i32 (p i).2)
  lt : 0 < N → g < w.heap.size

structure Small32 (N : Nat) (p : Nat → Int × Int) : Prop where
  one : ∀ i, i < N → -2147483648 ≤ (p i).1 ∧ (p i).1 ≤ 2147483647
  two : ∀ i, i < N → -2147483648 ≤ (p i).2 ∧ (p i).2 ≤ 2147483647

/-- The numbers of the list: those that came in shifted, 0 behind them. -/
def wv (N : Nat) (p : Nat → Int × Int) (i : Nat) : Int × Int := if i < N then ((p i).1 / 2048, (p i).2 / 2048) else (0, 0)

def wx (N : Nat) (p : Nat → Int × Int) (i : Nat) : Nat × Nat := (floatOfInt .f64 (wv N p i).1, floatOfInt .f64 (wv N p i).2)

def wxTo (N : Nat) (p : Nat → Int × Int) (k i : Nat) : Nat × Nat := if i < k then wx N p i else (0, 0)

theorem fo_zero : floatOfInt .f64 0 = 0 := by decide +kernel

theorem wx_out {N i : Nat} {p : Nat → Int × Int} (h : ¬ i < N) : wx N p i = (0, 0) := by
  unfold wx wv
  rw [if_neg h]
  show (floatOfInt .f64 0, floatOfInt .f64 0) = _
  rw [fo_zero]

theorem fo_lt (n : Int) : floatOfInt .f64 n < 18446744073709551616 := of_decide_eq_true (floatOfInt_wf .f64 n)

theorem ints_wx {N n : Nat} {p : Nat → Int × Int} (h : Small32 N p) : Ints n (wx N p) (wv N p) := by
  have le : ∀ j, (wv N p j).1.natAbs ≤ 1048576 ∧ (wv N p j).2.natAbs ≤ 1048576 := by
    intro j
    unfold wv
    by_cases c : j < N
    · rw [if_pos c]
      have h1 := h.one j c
      have h2 := h.two j c
      show ((p j).1 / 2048).natAbs ≤ _ ∧ ((p j).2 / 2048).natAbs ≤ _
      omega
    · rw [if_neg c]
      exact ⟨by decide, by decide⟩
  exact ⟨fun j _ => ⟨iv_ofInt _ (by have := (le j).1; omega), iv_ofInt _ (by have := (le j).2; omega)⟩, fun j _ => le j, fun j _ => ⟨fo_lt _, fo_lt _⟩⟩

theorem wxTo_step (N : Nat) (p : Nat → Int × Int) (k i : Nat) : upd (wxTo N p k) k (wx N p k) i = wxTo N p (k + 1) i := by
  unfold upd wxTo
  by_cases e : i = k
  · subst e
    rw [if_pos rfl, if_pos (by omega)]
  · rw [if_neg e]
    by_cases e2 : i < k
    · rw [if_pos e2, if_pos (by omega)]
    · rw [if_neg e2, if_neg (by omega)]

theorem wxTo_out {N k : Nat} {p : Nat → Int × Int} (hk : ¬ k < N) (i : Nat) : wxTo N p k i = wx N p i := by
  unfold wxTo
  by_cases e : i < k
  · rw [if_pos e]
  · rw [if_neg e, wx_out (by omega)]

def vals (n : Nat) (f : Nat → Nat × Nat) : List Value := (List.range n).map fun i => cv (f i)

theorem vals_length (n : Nat) (f : Nat → Nat × Nat) : (vals n f).length = n := by unfold vals; simp

theorem vals_get {n i : Nat} (f : Nat → Nat × Nat) (h : i < n) : (vals n f)[i]? = some (cv (f i)) := by
  unfold vals
  simp [h]

theorem vals_lt {n i : Nat} {f : Nat → Nat × Nat} {u : Value} (h : (vals n f)[i]? = some u) : i < n ∧ u = cv (f i) := by
  have hi : i < n := by
    have := (List.getElem?_eq_some_iff.1 h).1
    rwa [vals_length] at this
  rw [vals_get f hi] at h
  exact ⟨hi, (Option.some.inj h).symm⟩

/-- What an owned list is: a row. -/
theorem row_owned {w : World} {B n : Nat} {v : Value} {xs : List Value} {f : Nat → Nat × Nat} (h : w.ownsRow B 33 1 v n xs) (hn : 1 ≤ n) (hx : ∀ i, i < n → xs[i]? = some (cv (f i))) :
    ∃ g cap, v = .slice (some ⟨g, 0, none⟩) n cap ∧ n ≤ cap ∧ B ≤ g ∧ Row w g n f := by
  rcases h.2 with ⟨_, h'⟩ | ⟨g, cap, cur, rfl, hb, hg, hnc, _, hcs, htake⟩
  · omega
  · refine ⟨g, cap, rfl, hnc, hb, cur, hg, by omega, fun i hi => ?_⟩
    have h3 := hx i hi
    rw [← htake, List.getElem?_take, if_pos (by omega)] at h3
    simpa using h3

theorem addr_add (g j : Nat) : (⟨g, 0, none⟩ : Addr).add j = ⟨g, j, none⟩ := by unfold Addr.add; split <;> simp_all
end Go.Proofs.YthiipodgfbnpeaaDoor
