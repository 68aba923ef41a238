/- The landed settle. Lists of pairs; the program's own slope. The program's own row, Line. The landed linesOf: the lines of projections that were looked at. -/
import Derived.Test.YtfnbcpeipoobkaaGreatM35
import Derived.Test.YtfnbcpeipoobkaaGreatM23
import Derived.Test.YtfnbcpeipoobkaaGreatM31
namespace Go.Proofs.YtfnbcpeipoobkaaGreat
open Go.RowKit

end Go.Proofs.YtfnbcpeipoobkaaGreat

namespace Go.Proofs.YtfnbcpeipoobkaaGreat
open Go.RowKit

/-- A slice of pairs of ints, wherever it lies. -/
def Pairs2 (w : World) (v : Value) (L : List (Int × Int)) : Prop := ∃ (a : Option Addr) (cap g o : Nat), v = .slice a L.length cap ∧ (0 < L.length → a = some ⟨g, o, none⟩ ∧ g < w.heap.size) ∧
  ∀ i c, L[i]? = some c → w.cell? ⟨g, o + i * 2, none⟩ = some (.int .i64 c.1) ∧ w.cell? ⟨g, o + i * 2 + 1, none⟩ = some (.int .i64 c.2)

theorem pairs2_below {w w' : World} {v : Value} {L : List (Int × Int)} (h : Pairs2 w v L) (hb : Below w.heap.size w w') : Pairs2 w' v L := by
  obtain ⟨a, cap, g, o, h1, h2, h3⟩ := h
  refine ⟨a, cap, g, o, h1, fun hl => ⟨(h2 hl).1, Nat.lt_of_lt_of_le (h2 hl).2 hb.size⟩, fun i c hi => ?_⟩
  have hl : 0 < L.length := by
    have := (List.getElem?_eq_some_iff.1 hi).1
    omega
  exact ⟨(hb.cell (h2 hl).2).trans (h3 i c hi).1, (hb.cell (h2 hl).2).trans (h3 i c hi).2⟩

theorem flat2_get {L : List (Int × Int)} {i : Nat} {c : Int × Int} (h : L[i]? = some c) : (flat2 L)[i * 2]? = some (.int .i64 c.1) ∧ (flat2 L)[i * 2 + 1]? = some (.int .i64 c.2) := by
  induction L generalizing i with
  | nil => simp at h
  | cons a l ih =>
    have e : flat2 (a :: l) = .int .i64 a.1 :: .int .i64 a.2 :: flat2 l := by
      unfold flat2
      rfl
    rw [e]
    cases i with
    | zero =>
      simp at h
      subst h
      exact ⟨rfl, rfl⟩
    | succ i =>
      simp at h
      have := ih h
      rw [show (i + 1) * 2 = i * 2 + 2 by omega]
      exact this

theorem pairs2_owns {w : World} {B : Nat} {v : Value} {L : List (Int × Int)} (h : w.ownsRow B 79 2 v L.length (flat2 L)) : Pairs2 w v L := by
  rcases h.2 with ⟨h1, h2⟩ | ⟨g, cap, cur, h1, h2, h3, h4, h5, h6, h7⟩
  · refine ⟨none, 0, 0, 0, by rw [h2]; exact h1, fun hl => by omega, fun i c hi => ?_⟩
    have := (List.getElem?_eq_some_iff.1 hi).1
    omega
  · refine ⟨_, cap, g, 0, h1, fun _ => ⟨rfl, (Array.getElem?_eq_some_iff.1 h3).1⟩, fun i c hi => ?_⟩
    have hlt := (List.getElem?_eq_some_iff.1 hi).1
    obtain ⟨f1, f2⟩ := flat2_get hi
    rw [← h7, List.getElem?_take, if_pos (by omega)] at f1 f2
    rw [Nat.zero_add]
    refine ⟨?_, ?_⟩
    · simp [World.cell?, h3]
      simpa using f1
    · simp [World.cell?, h3]
      simpa using f2


/-- The cells of a row that lie on a line. -/
def rowL (P Q st bin : Int) (y k : Nat) : List (Int × Int) := ((List.range k).filter fun (x : Nat) => decide (Q * (x : Int) - P * (y : Int) + st = bin)).map fun (x : Nat) => ((x : Int), (y : Int))

theorem row_part (P Q st bin : Int) (n y : Nat) : ∀ k, k ≤ n → lineL P Q st bin n (y * n + k) = lineL P Q st bin n (y * n) ++ rowL P Q st bin y k
  | 0, _ => by
    unfold rowL
    simp
  | k + 1, h => by
    have ih := row_part P Q st bin n y k (by omega)
    by_cases c : Q * (k : Int) - P * (y : Int) + st = bin
    · rw [lineL_yes (by omega) c, ih, List.append_assoc]
      congr 1
      unfold rowL
      rw [List.range_succ, List.filter_append, List.map_append]
      simp [c]
    · rw [lineL_no (by omega) c, ih]
      congr 1
      unfold rowL
      rw [List.range_succ, List.filter_append, List.map_append]
      simp [c]

theorem row_next (P Q st bin : Int) (n y : Nat) : lineL P Q st bin n ((y + 1) * n) = lineL P Q st bin n (y * n) ++ rowL P Q st bin y n := by
  rw [Nat.succ_mul]
  exact row_part P Q st bin n y n (Nat.le_refl _)

theorem filter_one (p : Nat → Bool) (x0 : Nat) (h : ∀ x, p x = decide (x = x0)) : ∀ n, (List.range n).filter p = if x0 < n then [x0] else []
  | 0 => by simp
  | n + 1 => by
    rw [List.range_succ, List.filter_append, filter_one p x0 h n]
    by_cases c : x0 < n
    · rw [if_pos c, if_pos (by omega)]
      have : p n = false := by rw [h]; exact decide_eq_false (by omega)
      simp [this]
    · rw [if_neg c]
      by_cases c2 : n = x0
      · subst c2
        have : p n = true := by rw [h]; exact decide_eq_true rfl
        rw [if_pos (by omega)]
        simp [this]
      · have : p n = false := by rw [h]; exact decide_eq_false c2
        rw [if_neg (by omega)]
        simp [this]

theorem row_one {P Q st bin : Int} {n y x0 : Nat} (hQ : 0 < Q) (hx : x0 < n) (h : Q * (x0 : Int) = bin - st + P * (y : Int)) : rowL P Q st bin y n = [((x0 : Int), (y : Int))] := by
  unfold rowL
  rw [filter_one _ x0 (fun x => ?_), if_pos hx]
  · rfl
  · refine decide_eq_decide.2 ⟨fun e => ?_, fun e => ?_⟩
    · have e2 : Q * (x : Int) = Q * (x0 : Int) := by omega
      have := Int.eq_of_mul_eq_mul_left (by omega) e2
      omega
    · subst e
      omega

theorem row_none {P Q st bin : Int} {n y : Nat} (h : ∀ x : Nat, x < n → Q * (x : Int) ≠ bin - st + P * (y : Int)) : rowL P Q st bin y n = [] := by
  unfold rowL
  rw [List.map_eq_nil_iff, List.filter_eq_nil_iff]
  intro x hx
  have := h x (List.mem_range.1 hx)
  simp only [decide_eq_true_eq]
  omega

theorem slope_yes {P Q st bin s : Int} {n y : Nat} (hQ : 0 < Q) (hs : s = bin - st + P * (y : Int)) (h0 : s.tmod Q = 0) (h1 : 0 ≤ s.tdiv Q) (h2 : s.tdiv Q < n) :
    lineL P Q st bin n ((y + 1) * n) = lineL P Q st bin n (y * n) ++ [(s.tdiv Q, (y : Int))] := by
  have e := Int.mul_tdiv_add_tmod s Q
  rw [h0, Int.add_zero] at e
  have ex : ((s.tdiv Q).toNat : Int) = s.tdiv Q := Int.toNat_of_nonneg h1
  rw [row_next, row_one (x0 := (s.tdiv Q).toNat) hQ (by omega) (by rw [ex, e, hs]), ex]
theorem slope_no {P Q st bin s : Int} {n y : Nat} (hQ : 0 < Q) (hs : s = bin - st + P * (y : Int)) (h : s.tmod Q ≠ 0 ∨ ¬ (0 ≤ s.tdiv Q ∧ s.tdiv Q < n)) :
    lineL P Q st bin n ((y + 1) * n) = lineL P Q st bin n (y * n) := by
  rw [row_next, row_none, List.append_nil]
  intro x hx e
  rw [← hs] at e
  rcases h with h | h
  · apply h
    rw [← e]
    exact Int.mul_tmod_right _ _
  · apply h
    rw [← e, Int.mul_tdiv_cancel_left _ (by omega : Q ≠ 0)]
    omega

end Go.Proofs.YtfnbcpeipoobkaaGreat

namespace Go.Proofs.YtfnbcpeipoobkaaGreat
open Go.RowKit

theorem row_flat {st bin : Int} {y k : Nat} : rowL 1 0 st bin y k = if st - bin = (y : Int) then (List.range k).map fun (x : Nat) => ((x : Int), (y : Int)) else [] := by
  unfold rowL
  by_cases c : st - bin = (y : Int)
  · rw [if_pos c, List.filter_eq_self.2]
    intro x _
    simp only [decide_eq_true_eq]
    omega
  · rw [if_neg c, List.map_eq_nil_iff, List.filter_eq_nil_iff]
    intro x _
    simp only [decide_eq_true_eq]
    omega

theorem flat_line {st bin : Int} {N y0 : Nat} (h : st - bin = (y0 : Int)) (hy : y0 < N) : lineL 1 0 st bin N (N * N) = (List.range N).map fun (x : Nat) => ((x : Int), (y0 : Int)) := by
  have key : ∀ j, j ≤ N → lineL 1 0 st bin N (j * N) = if y0 < j then (List.range N).map fun (x : Nat) => ((x : Int), (y0 : Int)) else [] := by
    intro j
    induction j with
    | zero =>
      intro _
      rw [Nat.zero_mul, lineL_zero, if_neg (by omega)]
    | succ j ih =>
      intro hj
      rw [row_next, ih (by omega), row_flat]
      by_cases c : y0 < j
      · rw [if_pos c, if_neg (by omega), if_pos (by omega), List.append_nil]
      · rw [if_neg c]
        by_cases c2 : y0 = j
        · subst c2
          rw [if_pos h, if_pos (by omega), List.nil_append]
        · rw [if_neg (by omega), if_neg (by omega), List.nil_append]
  rw [key N (Nat.le_refl _), if_pos hy]

theorem pairs2_nil (w : World) : Pairs2 w (.slice none 0 0) [] := ⟨none, 0, 0, 0, rfl, fun h => absurd h (by simp), fun i c h => by simp at h⟩

theorem okD_flat {P : Int} (h : okD P 0 = true) : P = 1 := (okD_form h).2.1 rfl

end Go.Proofs.YtfnbcpeipoobkaaGreat

namespace Go.Proofs.YtfnbcpeipoobkaaGreat
open Go.RowKit

/-- A projection in memory, its bins as bits and as whole numbers. -/
structure PD where
  d : Int × Int
  gb : Nat
  cb : Nat
  nb : Nat
  z : Nat → Nat × Nat
  iz : Nat → Int
def p0 : PD := ⟨(0, 0), 0, 0, 0, fun _ => (0, 0), fun _ => 0⟩
structure ProjsAt (w : World) (gq : Nat) (ps : List PD) : Prop where
  lt : gq < w.heap.size
  cells : ∀ i, i < ps.length → w.cell? ⟨gq, i * 3, none⟩ = some (.int .i64 (ps.getD i p0).d.1) ∧ w.cell? ⟨gq, i * 3 + 1, none⟩ = some (.int .i64 (ps.getD i p0).d.2) ∧ w.cell? ⟨gq, i * 3 + 2, none⟩ = some (.slice (some ⟨(ps.getD i p0).gb, 0, none⟩) (ps.getD i p0).nb (ps.getD i p0).cb)
  bins : ∀ i, i < ps.length → VRow w 28 (ps.getD i p0).gb (ps.getD i p0).nb (fun j => .complex .f64 ((ps.getD i p0).z j).1 ((ps.getD i p0).z j).2)
theorem ProjsAt.below {w w' : World} {gq : Nat} {ps : List PD} (h : ProjsAt w gq ps) (hb : Below w.heap.size w w') : ProjsAt w' gq ps :=
  ⟨Nat.lt_of_lt_of_le h.lt hb.size, fun i hi => ⟨(hb.cell (p := ⟨gq, i * 3, none⟩) h.lt).trans (h.cells i hi).1, (hb.cell (p := ⟨gq, i * 3 + 1, none⟩) h.lt).trans (h.cells i hi).2.1, (hb.cell (p := ⟨gq, i * 3 + 2, none⟩) h.lt).trans (h.cells i hi).2.2⟩,
    fun i hi => vrow_keep (h.bins i hi) (hb.block _ (vrow_lt (h.bins i hi)))⟩

/-- Where the cells of a line stand. -/
def cellsS (n : Int) (d : Int × Int) (j : Nat) : List (Int × Int) := (lineS n d (j : Int)).1
def placesS (n : Int) (d : Int × Int) (j : Nat) : List Nat := (cellsS n d j).map fun c => (c.2 * n + c.1).toNat
def pairS (n : Int) (p : PD) (j : Nat) : List Nat × Int := (placesS n p.d j, p.iz j)
def allS' (n : Int) (p : PD) : List (List Nat × Int) := (List.range p.nb).map (pairS n p)
/-- What is there behind so many projections and so many bins of the next. -/
def lk (n : Int) (ps : List PD) (i j : Nat) : List (List Nat × Int) := (ps.take i).flatMap (allS' n) ++ (List.range j).map (pairS n (ps.getD i p0))
theorem lk_bin (n : Int) (ps : List PD) (i j : Nat) : lk n ps i (j + 1) = lk n ps i j ++ [pairS n (ps.getD i p0) j] := by
  unfold lk
  rw [List.range_succ, List.map_append, List.append_assoc]
  rfl
theorem lk_next (n : Int) (ps : List PD) {i : Nat} (hi : i < ps.length) : lk n ps (i + 1) 0 = lk n ps i (ps.getD i p0).nb := by
  unfold lk
  rw [List.take_add_one, List.flatMap_append]
  have e : ps[i]? = some (ps.getD i p0) := by rw [List.getD_eq_getElem?_getD, List.getElem?_eq_getElem hi]; rfl
  rw [e]
  simp [allS']

def pr (l : LineD) : List Nat × Int := (l.P, l.b)
def flatL (ls : List LineD) : List Value := ls.flatMap fun l => [placesV l.gp l.cp l.P, .int .i64 l.b]
theorem flatL_snoc (ls : List LineD) (l : LineD) : flatL (ls ++ [l]) = flatL ls ++ [placesV l.gp l.cp l.P, .int .i64 l.b] := by simp [flatL]

theorem own_stay {w w' : World} {base : Nat} {e : TypeId} {size n : Nat} {v : Value} {xs : List Value} (h : w.ownsRow base e size v n xs) (hk : ∀ b, v.ownBlock = some b → w'.heap[b]? = w.heap[b]?) : w'.ownsRow base e size v n xs := by
  refine ⟨h.1, ?_⟩
  rcases h.2 with hn | ⟨g, cap, cur, rfl, hb, hg, rest⟩
  · exact .inl hn
  · exact .inr ⟨g, cap, cur, rfl, hb, (hk g rfl).trans hg, rest⟩
/-- What is asked of the numbers: all by kernel reckoning at one input. -/
structure Sound (n : Nat) (ps : List PD) : Prop where
  n16 : n ≤ 16
  few : ps.length ≤ 64
  bins : ∀ i, i < ps.length → (ps.getD i p0).nb ≤ 512 ∧ Dir64 (ps.getD i p0).d
  size : ∀ i j, i < ps.length → j < (ps.getD i p0).nb → (cellsS n (ps.getD i p0).d j).length ≤ 256
  cell : ∀ i j k, i < ps.length → j < (ps.getD i p0).nb → k < (cellsS n (ps.getD i p0).d j).length →
    wrap64 (wrap64 (((cellsS n (ps.getD i p0).d j).getD k (0, 0)).2 * (n : Int)) + ((cellsS n (ps.getD i p0).d j).getD k (0, 0)).1) = (((placesS n (ps.getD i p0).d j).getD k 0 : Nat) : Int)
  conv : ∀ i j, i < ps.length → j < (ps.getD i p0).nb → ∀ W : World, (convert 29 3 (.float .f64 ((ps.getD i p0).z j).1)).run (barP Tryz.prog) W = .ok (.int .i64 ((ps.getD i p0).iz j)) W

theorem placesS_len (n : Int) (d : Int × Int) (j : Nat) : (placesS n d j).length = (cellsS n d j).length := by simp [placesS]

end Go.Proofs.YtfnbcpeipoobkaaGreat
