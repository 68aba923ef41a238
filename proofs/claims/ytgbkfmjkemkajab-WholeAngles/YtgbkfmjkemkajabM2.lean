/- The document's own Line. Lists of pairs; the program's own slope. The program's own row, Line. The document's own Twice: the first error of a list of directions. The document's own Katz: sums of steps. -/
import Derived.Test.YtgbkfmjkemkajabM1
import Derived.Laws.AppendOwn
import Derived.Laws.OwnMore
import Derived.OwnWalk
import Derived.Deep.Onto
import Derived.BigQuiet
namespace Go.Proofs.Ytgbkfmjkemkajab
open Go.RowKit

/-- Pairs of ints, cell by cell. -/
def flat2 (L : List (Int × Int)) : List Value := L.flatMap fun c => [.int .i64 c.1, .int .i64 c.2]
theorem flat2_length (L : List (Int × Int)) : (flat2 L).length = L.length * 2 := by
  unfold flat2
  induction L with
  | nil => rfl
  | cons a l ih => simp [List.flatMap_cons, ih]; omega
theorem flat2_snoc (L : List (Int × Int)) (x y : Int) : flat2 (L ++ [(x, y)]) = flat2 L ++ [.int .i64 x, .int .i64 y] := by
  unfold flat2
  simp [List.flatMap_append]

/-- The cells of a line, of the first k cells of a grid of side n, row by row. -/
def onLine (P Q st bin : Int) (n i : Nat) : Bool := decide (Q * ((i % n : Nat) : Int) - P * ((i / n : Nat) : Int) + st = bin)
def lineL (P Q st bin : Int) (n k : Nat) : List (Int × Int) := ((List.range k).filter (onLine P Q st bin n)).map fun i => (((i % n : Nat) : Int), ((i / n : Nat) : Int))

theorem lineL_zero (P Q st bin : Int) (n : Nat) : lineL P Q st bin n 0 = [] := rfl
theorem place_div {n y x : Nat} (hx : x < n) : (y * n + x) / n = y ∧ (y * n + x) % n = x := by
  constructor
  · rw [Nat.mul_comm, Nat.mul_add_div (by omega), Nat.div_eq_of_lt hx, Nat.add_zero]
  · rw [Nat.mul_comm, Nat.mul_add_mod, Nat.mod_eq_of_lt hx]
theorem lineL_yes {P Q st bin : Int} {n y x : Nat} (hx : x < n) (h : Q * (x : Int) - P * (y : Int) + st = bin) : lineL P Q st bin n (y * n + (x + 1)) = lineL P Q st bin n (y * n + x) ++ [((x : Int), (y : Int))] := by
  obtain ⟨e1, e2⟩ := place_div (y := y) hx
  unfold lineL
  rw [← Nat.add_assoc, List.range_succ, List.filter_append, List.map_append]
  have : onLine P Q st bin n (y * n + x) = true := by
    unfold onLine
    rw [e1, e2]
    exact decide_eq_true h
  have h2 : List.filter (onLine P Q st bin n) [y * n + x] = [y * n + x] := by simp [this]
  rw [h2]
  show _ ++ [((((y * n + x) % n : Nat) : Int), (((y * n + x) / n : Nat) : Int))] = _
  rw [e1, e2]
theorem lineL_no {P Q st bin : Int} {n y x : Nat} (hx : x < n) (h : ¬ Q * (x : Int) - P * (y : Int) + st = bin) : lineL P Q st bin n (y * n + (x + 1)) = lineL P Q st bin n (y * n + x) := by
  obtain ⟨e1, e2⟩ := place_div (y := y) hx
  unfold lineL
  rw [← Nat.add_assoc, List.range_succ, List.filter_append, List.map_append]
  have : onLine P Q st bin n (y * n + x) = false := by
    unfold onLine
    rw [e1, e2]
    exact decide_eq_false h
  simp [this]
theorem lineL_len (P Q st bin : Int) (n k : Nat) : (lineL P Q st bin n k).length ≤ k := by
  unfold lineL
  rw [List.length_map]
  exact Nat.le_trans (List.length_filter_le _ _) (by simp)

def lineS (n : Int) (a : Int × Int) (bin : Int) : List (Int × Int) × Int :=
  if (binsS n a).2 ≠ 0 then ([], (binsS n a).2) else if bin < 0 ∨ (binsS n a).1 ≤ bin then ([], 1) else (lineL a.1 a.2 (startS n a) bin n.toNat (n.toNat * n.toNat), 0)

theorem owns_below {w w' : World} {base : Nat} {e : TypeId} {size : Nat} {v : Value} {n : Nat} {xs : List Value} (h : w.ownsRow base e size v n xs) (hb : Below w.heap.size w w') : w'.ownsRow base e size v n xs := by
  have hg : w.grownBy w' none := ⟨hb.os, hb.tape, hb.output, hb.size, fun k hk _ => hb.block k hk⟩
  by_cases c : v.ownBlock = none
  · exact h.kept hg (Or.inl c)
  · exact h.kept hg (Or.inr c)

theorem info_parts {e : TypeId} {z : Value} {s b : Nat} (h : (Try.prog.info? e).map (fun i => (i.zero, i.size, i.bytes)) = some (some z, s, b)) : ∃ i, Try.prog.info? e = some i ∧ i.zero = some z ∧ i.size = s ∧ i.bytes = b := by
  cases hq : Try.prog.info? e with
  | none => rw [hq] at h; cases h
  | some i =>
    rw [hq] at h
    simp at h
    exact ⟨i, rfl, h.1, h.2.1, h.2.2⟩
theorem news_two (w : World) (x y : Value) (t : TypeId) : ∀ j u, [x, y][j]? = some u → (w.alloc (.cells #[x, y] t)).cell? ((⟨w.heap.size, 0, none⟩ : Addr).add j) = some u := by
  intro j u hj
  rw [addr_add]
  match j, hj with
  | 0, hj => simp at hj; subst hj; simp [go_sem]
  | 1, hj => simp at hj; subst hj; simp [go_sem]

end Go.Proofs.Ytgbkfmjkemkajab

namespace Go.Proofs.Ytgbkfmjkemkajab
open Go.RowKit

/-- A slice of pairs of ints, wherever it lies. -/
def Pairs2 (w : World) (v : Value) (L : List (Int × Int)) : Prop := ∃ (a : Option Addr) (cap g o : Nat), v = .slice a L.length cap ∧ (0 < L.length → a = some ⟨g, o, none⟩ ∧ g < w.heap.size) ∧
  ∀ i c, L[i]? = some c → w.cell? ⟨g, o + i * 2, none⟩ = some (.int .i64 c.1) ∧ w.cell? ⟨g, o + i * 2 + 1, none⟩ = some (.int .i64 c.2)

theorem pairs2_below {w w' : World} {v : Value} {L : List (Int × Int)} (h : Pairs2 w v L) (hb : Below w.heap.size w w') : Pairs2 w' v L := by
  obtain ⟨a, cap, g, o, h1, h2, h3⟩ := h
  refine ⟨a, cap, g, o, h1, fun hl => ⟨(h2 hl).1, Nat.lt_of_lt_of_le (h2 hl).2 hb.size⟩, fun i c hi => ?_⟩
  have hl : 0 < L.length := by
    have := (List.getElem?_eq_some_iff.1 hi).1
    omega
  exact ⟨(hb.cell (h2 hl).2).trans (h3 i c hi).1, (hb.cell (h2 hl).2).trans (h3 i c hi).2⟩

theorem flat2_get {L : List (Int × Int)} {i : Nat} {c : Int × Int} (h : L[i]? = some c) : (flat2 L)[i * 2]? = some (.int .i64 c.1) ∧ (flat2 L)[i * 2 + 1]? = some (.int .i64 c.2) := by
  induction L generalizing i with
  | nil => simp at h
  | cons a l ih =>
    have e : flat2 (a :: l) = .int .i64 a.1 :: .int .i64 a.2 :: flat2 l := by
      unfold flat2
      rfl
    rw [e]
    cases i with
    | zero =>
      simp at h
      subst h
      exact ⟨rfl, rfl⟩
    | succ i =>
      simp at h
      have := ih h
      rw [show (i + 1) * 2 = i * 2 + 2 by omega]
      exact this

/-- The cells of a row that lie on a line. -/
def rowL (P Q st bin : Int) (y k : Nat) : List (Int × Int) := ((List.range k).filter fun (x : Nat) => decide (Q * (x : Int) - P * (y : Int) + st = bin)).map fun (x : Nat) => ((x : Int), (y : Int))

theorem row_part (P Q st bin : Int) (n y : Nat) : ∀ k, k ≤ n → lineL P Q st bin n (y * n + k) = lineL P Q st bin n (y * n) ++ rowL P Q st bin y k
  | 0, _ => by
    unfold rowL
    simp
  | k + 1, h => by
    have ih := row_part P Q st bin n y k (by omega)
    by_cases c : Q * (k : Int) - P * (y : Int) + st = bin
    · rw [lineL_yes (by omega) c, ih, List.append_assoc]
      congr 1
      unfold rowL
      rw [List.range_succ, List.filter_append, List.map_append]
      simp [c]
    · rw [lineL_no (by omega) c, ih]
      congr 1
      unfold rowL
      rw [List.range_succ, List.filter_append, List.map_append]
      simp [c]

theorem row_next (P Q st bin : Int) (n y : Nat) : lineL P Q st bin n ((y + 1) * n) = lineL P Q st bin n (y * n) ++ rowL P Q st bin y n := by
  rw [Nat.succ_mul]
  exact row_part P Q st bin n y n (Nat.le_refl _)

theorem filter_one (p : Nat → Bool) (x0 : Nat) (h : ∀ x, p x = decide (x = x0)) : ∀ n, (List.range n).filter p = if x0 < n then [x0] else []
  | 0 => by simp
  | n + 1 => by
    rw [List.range_succ, List.filter_append, filter_one p x0 h n]
    by_cases c : x0 < n
    · rw [if_pos c, if_pos (by omega)]
      have : p n = false := by rw [h]; exact decide_eq_false (by omega)
      simp [this]
    · rw [if_neg c]
      by_cases c2 : n = x0
      · subst c2
        have : p n = true := by rw [h]; exact decide_eq_true rfl
        rw [if_pos (by omega)]
        simp [this]
      · have : p n = false := by rw [h]; exact decide_eq_false c2
        rw [if_neg (by omega)]
        simp [this]

theorem row_one {P Q st bin : Int} {n y x0 : Nat} (hQ : 0 < Q) (hx : x0 < n) (h : Q * (x0 : Int) = bin - st + P * (y : Int)) : rowL P Q st bin y n = [((x0 : Int), (y : Int))] := by
  unfold rowL
  rw [filter_one _ x0 (fun x => ?_), if_pos hx]
  · rfl
  · refine decide_eq_decide.2 ⟨fun e => ?_, fun e => ?_⟩
    · have e2 : Q * (x : Int) = Q * (x0 : Int) := by omega
      have := Int.eq_of_mul_eq_mul_left (by omega) e2
      omega
    · subst e
      omega

theorem row_none {P Q st bin : Int} {n y : Nat} (h : ∀ x : Nat, x < n → Q * (x : Int) ≠ bin - st + P * (y : Int)) : rowL P Q st bin y n = [] := by
  unfold rowL
  rw [List.map_eq_nil_iff, List.filter_eq_nil_iff]
  intro x hx
  have := h x (List.mem_range.1 hx)
  simp only [decide_eq_true_eq]
  omega

theorem slope_yes {P Q st bin s : Int} {n y : Nat} (hQ : 0 < Q) (hs : s = bin - st + P * (y : Int)) (h0 : s.tmod Q = 0) (h1 : 0 ≤ s.tdiv Q) (h2 : s.tdiv Q < n) :
    lineL P Q st bin n ((y + 1) * n) = lineL P Q st bin n (y * n) ++ [(s.tdiv Q, (y : Int))] := by
  have e := Int.mul_tdiv_add_tmod s Q
  rw [h0, Int.add_zero] at e
  have ex : ((s.tdiv Q).toNat : Int) = s.tdiv Q := Int.toNat_of_nonneg h1
  rw [row_next, row_one (x0 := (s.tdiv Q).toNat) hQ (by omega) (by rw [ex, e, hs]), ex]
theorem slope_no {P Q st bin s : Int} {n y : Nat} (hQ : 0 < Q) (hs : s = bin - st + P * (y : Int)) (h : s.tmod Q ≠ 0 ∨ ¬ (0 ≤ s.tdiv Q ∧ s.tdiv Q < n)) :
    lineL P Q st bin n ((y + 1) * n) = lineL P Q st bin n (y * n) := by
  rw [row_next, row_none, List.append_nil]
  intro x hx e
  rw [← hs] at e
  rcases h with h | h
  · apply h
    rw [← e]
    exact Int.mul_tmod_right _ _
  · apply h
    rw [← e, Int.mul_tdiv_cancel_left _ (by omega : Q ≠ 0)]
    omega

end Go.Proofs.Ytgbkfmjkemkajab

namespace Go.Proofs.Ytgbkfmjkemkajab
open Go.RowKit

theorem row_flat {st bin : Int} {y k : Nat} : rowL 1 0 st bin y k = if st - bin = (y : Int) then (List.range k).map fun (x : Nat) => ((x : Int), (y : Int)) else [] := by
  unfold rowL
  by_cases c : st - bin = (y : Int)
  · rw [if_pos c, List.filter_eq_self.2]
    intro x _
    simp only [decide_eq_true_eq]
    omega
  · rw [if_neg c, List.map_eq_nil_iff, List.filter_eq_nil_iff]
    intro x _
    simp only [decide_eq_true_eq]
    omega

theorem flat_line {st bin : Int} {N y0 : Nat} (h : st - bin = (y0 : Int)) (hy : y0 < N) : lineL 1 0 st bin N (N * N) = (List.range N).map fun (x : Nat) => ((x : Int), (y0 : Int)) := by
  have key : ∀ j, j ≤ N → lineL 1 0 st bin N (j * N) = if y0 < j then (List.range N).map fun (x : Nat) => ((x : Int), (y0 : Int)) else [] := by
    intro j
    induction j with
    | zero =>
      intro _
      rw [Nat.zero_mul, lineL_zero, if_neg (by omega)]
    | succ j ih =>
      intro hj
      rw [row_next, ih (by omega), row_flat]
      by_cases c : y0 < j
      · rw [if_pos c, if_neg (by omega), if_pos (by omega), List.append_nil]
      · rw [if_neg c]
        by_cases c2 : y0 = j
        · subst c2
          rw [if_pos h, if_pos (by omega), List.nil_append]
        · rw [if_neg (by omega), if_neg (by omega), List.nil_append]
  rw [key N (Nat.le_refl _), if_pos hy]

theorem pairs2_nil (w : World) : Pairs2 w (.slice none 0 0) [] := ⟨none, 0, 0, 0, rfl, fun h => absurd h (by simp), fun i c h => by simp at h⟩

theorem okD_flat {P : Int} (h : okD P 0 = true) : P = 1 := (okD_form h).2.1 rfl

end Go.Proofs.Ytgbkfmjkemkajab

namespace Go.Proofs.Ytgbkfmjkemkajab
open Go.RowKit

/-- The first error of a list, what stands ahead of it seen. -/
def twiceFrom : List (Int × Int) → List (Int × Int) → Int
  | _, [] => 0
  | seen, d :: r => if okD d.1 d.2 then (if d ∈ seen then 3 else twiceFrom (seen ++ [d]) r) else 60
def twiceS (L : List (Int × Int)) : Int := twiceFrom [] L

theorem twice_end {L : List (Int × Int)} : twiceFrom (L.take L.length) (L.drop L.length) = 0 := by
  rw [List.drop_length]
  rfl
theorem twice_bad {L : List (Int × Int)} {i : Nat} {d : Int × Int} (hd : L[i]? = some d) (h : okD d.1 d.2 = false) : twiceFrom (L.take i) (L.drop i) = 60 := by
  have hi := (List.getElem?_eq_some_iff.1 hd).1
  have e := (List.getElem?_eq_some_iff.1 hd).2
  rw [List.drop_eq_getElem_cons hi, e]
  unfold twiceFrom
  rw [if_neg (by rw [h]; decide)]
theorem twice_seen {L : List (Int × Int)} {i k : Nat} {d : Int × Int} (hd : L[i]? = some d) (h : okD d.1 d.2 = true) (hk : k < i) (he : L[k]? = some d) : twiceFrom (L.take i) (L.drop i) = 3 := by
  have hi := (List.getElem?_eq_some_iff.1 hd).1
  have e := (List.getElem?_eq_some_iff.1 hd).2
  rw [List.drop_eq_getElem_cons hi, e]
  unfold twiceFrom
  have hm : d ∈ L.take i := by
    refine List.mem_of_getElem? (i := k) ?_
    rw [List.getElem?_take, if_pos hk]
    exact he
  rw [if_pos h, if_pos hm]
theorem twice_on {L : List (Int × Int)} {i : Nat} {d : Int × Int} (hd : L[i]? = some d) (h : okD d.1 d.2 = true) (hk : ∀ k, k < i → L[k]? ≠ some d) : twiceFrom (L.take i) (L.drop i) = twiceFrom (L.take (i + 1)) (L.drop (i + 1)) := by
  have hi := (List.getElem?_eq_some_iff.1 hd).1
  have e := (List.getElem?_eq_some_iff.1 hd).2
  have hm : ¬ d ∈ L.take i := by
    intro hm
    obtain ⟨k, hk2⟩ := List.mem_iff_getElem?.1 hm
    rw [List.getElem?_take] at hk2
    by_cases c : k < i
    · rw [if_pos c] at hk2
      exact hk k c hk2
    · rw [if_neg c] at hk2
      cases hk2
  rw [List.drop_eq_getElem_cons hi, e, List.take_succ_eq_append_getElem hi, e]
  show (if okD d.1 d.2 then (if d ∈ L.take i then 3 else twiceFrom (L.take i ++ [d]) (L.drop (i + 1))) else 60) = _
  rw [if_pos h, if_neg hm]

theorem pairs2_get {L : List (Int × Int)} {i : Nat} (hi : i < L.length) : ∃ x y, L[i]? = some (x, y) := ⟨L[i].1, L[i].2, List.getElem?_eq_getElem hi⟩

/-- Directions, each of ints. -/
def All64 (L : List (Int × Int)) : Prop := ∀ (i : Nat) (d : Int × Int), L[i]? = some d → Dir64 d

end Go.Proofs.Ytgbkfmjkemkajab

namespace Go.Proofs.Ytgbkfmjkemkajab
open Go.RowKit

def sumP : List (Int × Int) → Int
  | [] => 0
  | d :: r => d.1.natAbs + sumP r
def sumQ : List (Int × Int) → Int
  | [] => 0
  | d :: r => d.2 + sumQ r
theorem sumP_snoc (L : List (Int × Int)) (d : Int × Int) : sumP (L ++ [d]) = sumP L + d.1.natAbs := by
  induction L with
  | nil => simp [sumP]
  | cons a l ih => simp only [List.cons_append, sumP, ih]; omega
theorem sumQ_snoc (L : List (Int × Int)) (d : Int × Int) : sumQ (L ++ [d]) = sumQ L + d.2 := by
  induction L with
  | nil => simp [sumQ]
  | cons a l ih => simp only [List.cons_append, sumQ, ih]; omega
theorem sum_small {L : List (Int × Int)} (h : ∀ d, d ∈ L → okD d.1 d.2 = true) : 0 ≤ sumP L ∧ sumP L ≤ 16 * L.length ∧ 0 ≤ sumQ L ∧ sumQ L ≤ 16 * L.length := by
  induction L with
  | nil => exact ⟨by decide, by decide, by decide, by decide⟩
  | cons a l ih =>
    have h1 := ih fun d hd => h d (List.mem_cons_of_mem _ hd)
    have h2 := okD_bounds (h a (List.mem_cons_self ..))
    simp only [sumP, sumQ, List.length_cons]
    omega

theorem twice_good {seen L : List (Int × Int)} (h : twiceFrom seen L = 0) : (∀ d, d ∈ L → okD d.1 d.2 = true) ∧ L.Nodup ∧ ∀ d, d ∈ L → ¬ d ∈ seen := by
  induction L generalizing seen with
  | nil => exact ⟨fun d hd => (by cases hd), List.nodup_nil, fun d hd => (by cases hd)⟩
  | cons a l ih =>
    unfold twiceFrom at h
    by_cases c1 : okD a.1 a.2 = true
    · rw [if_pos c1] at h
      by_cases c2 : a ∈ seen
      · rw [if_pos c2] at h
        exact absurd h (by decide)
      · rw [if_neg c2] at h
        obtain ⟨i1, i2, i3⟩ := ih h
        refine ⟨fun d hd => ?_, ?_, fun d hd => ?_⟩
        · rcases List.mem_cons.1 hd with rfl | hd
          · exact c1
          · exact i1 d hd
        · exact List.nodup_cons.2 ⟨fun hm => i3 a hm (by simp), i2⟩
        · rcases List.mem_cons.1 hd with rfl | hd
          · exact c2
          · exact fun hm => i3 d hd (by simp [hm])
    · rw [if_neg c1] at h
      exact absurd h (by decide)

theorem nodup_le {L M : List (Int × Int)} (h : L.Nodup) (hs : ∀ d, d ∈ L → d ∈ M) : L.length ≤ M.length := by
  induction L generalizing M with
  | nil => exact Nat.zero_le _
  | cons a l ih =>
    obtain ⟨h1, h2⟩ := List.nodup_cons.1 h
    have hm : a ∈ M := hs a (List.mem_cons_self ..)
    have hl : l.length ≤ (M.erase a).length := by
      refine ih h2 fun d hd => ?_
      have hne : d ≠ a := fun e => h1 (e ▸ hd)
      exact (List.mem_erase_of_ne hne).2 (hs d (List.mem_cons_of_mem _ hd))
    have := List.length_erase_of_mem hm
    have := List.length_pos_of_mem hm
    simp only [List.length_cons]
    omega

def allDirs : List (Int × Int) := (List.range 33).flatMap fun (i : Nat) => (List.range 17).map fun (j : Nat) => ((i : Int) - 16, (j : Int))
theorem allDirs_len : allDirs.length = 561 := by decide +kernel
theorem mem_allDirs {P Q : Int} (h : okD P Q = true) : (P, Q) ∈ allDirs := by
  obtain ⟨b1, b2, b3⟩ := okD_bounds h
  unfold allDirs
  refine List.mem_flatMap.2 ⟨(P + 16).toNat, List.mem_range.2 (by omega), List.mem_map.2 ⟨Q.toNat, List.mem_range.2 (by omega), ?_⟩⟩
  refine Prod.ext ?_ ?_
  · show ((P + 16).toNat : Int) - 16 = P
    omega
  · show (Q.toNat : Int) = Q
    omega
theorem twice_len {L : List (Int × Int)} (h : twiceS L = 0) : L.length ≤ 561 := by
  obtain ⟨h1, h2, _⟩ := twice_good h
  rw [← allDirs_len]
  exact nodup_le h2 fun d hd => mem_allDirs (h1 d hd)

def katzS (n : Int) (L : List (Int × Int)) : Bool × Int := if n < 1 ∨ 64 < n then (false, 1) else if twiceS L ≠ 0 then (false, twiceS L) else (decide (n ≤ sumP L ∨ n ≤ sumQ L), 0)

end Go.Proofs.Ytgbkfmjkemkajab
