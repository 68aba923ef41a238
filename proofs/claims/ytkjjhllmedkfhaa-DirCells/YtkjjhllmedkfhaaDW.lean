/- The lines of a direction part the cells of a grid. -/
import Derived.Test.YtkjjhllmedkfhaaDV
import Derived.Test.YtkjjhllmedkfhaaDQ
namespace Go.Proofs.Ytkjjhllmedkfhaa
open Go.RowKit

def InG (n : Nat) (c : Int × Int) : Prop := 0 ≤ c.1 ∧ c.1 < n ∧ 0 ≤ c.2 ∧ c.2 < n
def idx (P Q st : Int) (c : Int × Int) : Int := Q * c.1 - P * c.2 + st

theorem mem_lineL {P Q st bin : Int} {n : Nat} {c : Int × Int} : c ∈ lineL P Q st bin n (n * n) ↔ InG n c ∧ idx P Q st c = bin := by
  unfold lineL InG idx
  rw [List.mem_map]
  constructor
  · rintro ⟨i, hi, rfl⟩
    rw [List.mem_filter, List.mem_range] at hi
    obtain ⟨h1, h2⟩ := hi
    have hn : 0 < n := Nat.pos_of_ne_zero (fun e => by subst e; simp at h1)
    have h3 : i / n < n := Nat.div_lt_of_lt_mul h1
    have h4 : i % n < n := Nat.mod_lt _ hn
    unfold onLine at h2
    exact ⟨⟨Int.natCast_nonneg _, Int.ofNat_lt.2 h4, Int.natCast_nonneg _, Int.ofNat_lt.2 h3⟩, of_decide_eq_true h2⟩
  · rintro ⟨⟨h1, h2, h3, h4⟩, h5⟩
    obtain ⟨x, y⟩ := c
    dsimp only at *
    obtain ⟨X, rfl⟩ : ∃ X : Nat, x = X := ⟨x.toNat, by omega⟩
    obtain ⟨Y, rfl⟩ : ∃ Y : Nat, y = Y := ⟨y.toNat, by omega⟩
    have hX : X < n := by omega
    have hY : Y < n := by omega
    obtain ⟨e1, e2⟩ := place_div (y := Y) hX
    refine ⟨Y * n + X, ?_, ?_⟩
    · rw [List.mem_filter, List.mem_range]
      refine ⟨?_, ?_⟩
      · have := Nat.mul_le_mul_right n (show Y + 1 ≤ n from hY)
        rw [Nat.add_mul, Nat.one_mul] at this
        omega
      · unfold onLine
        rw [e1, e2]
        exact decide_eq_true h5
    · rw [e1, e2]

theorem place_inj {n i j : Nat} (h1 : i % n = j % n) (h2 : i / n = j / n) : i = j := by
  rw [← Nat.div_add_mod i n, ← Nat.div_add_mod j n, h1, h2]
theorem nodup_places {n : Nat} {l : List Nat} (h : l.Nodup) : (l.map fun i => (((i % n : Nat) : Int), ((i / n : Nat) : Int))).Nodup := by
  unfold List.Nodup at *
  rw [List.pairwise_map]
  refine h.imp ?_
  intro a b hab e
  simp only [Prod.mk.injEq, Int.natCast_inj] at e
  exact hab (place_inj e.1 e.2)
theorem nodup_lineL (P Q st bin : Int) (n k : Nat) : (lineL P Q st bin n k).Nodup := nodup_places (List.nodup_range.filter _)

theorem nodup_ne {L : List (Int × Int)} (h : L.Nodup) {j k : Nat} (hjk : j < k) {c d : Int × Int} (hc : L[j]? = some c) (hd : L[k]? = some d) : c ≠ d := by
  obtain ⟨h1, e1⟩ := List.getElem?_eq_some_iff.1 hc
  obtain ⟨h2, e2⟩ := List.getElem?_eq_some_iff.1 hd
  have := List.pairwise_iff_getElem.1 h j k h1 h2 hjk
  rw [e1, e2] at this
  exact this

/-- All cells. -/
def gridL (n : Nat) : List (Int × Int) := (List.range (n * n)).map fun i => (((i % n : Nat) : Int), ((i / n : Nat) : Int))
theorem gridL_line (n : Nat) : gridL n = lineL 0 0 0 0 n (n * n) := by
  unfold gridL lineL
  congr 1
  rw [List.filter_eq_self.2]
  intro a _
  unfold onLine
  simp
theorem mem_gridL {n : Nat} {c : Int × Int} : c ∈ gridL n ↔ InG n c := by
  rw [gridL_line, mem_lineL]
  unfold idx
  simp
theorem gridL_len (n : Nat) : (gridL n).length = n * n := by unfold gridL; simp
theorem whole_len {n : Nat} {S : List (Int × Int)} (h1 : S.Nodup) (h2 : ∀ c, c ∈ S ↔ InG n c) : S.length = n * n := by
  have a := nodup_le h1 (M := gridL n) (fun d hd => mem_gridL.2 ((h2 d).1 hd))
  have b := nodup_le (L := gridL n) (M := S) (by rw [gridL_line]; exact nodup_lineL _ _ _ _ _ _) (fun d hd => (h2 d).2 (mem_gridL.1 hd))
  rw [gridL_len] at a b
  omega

theorem idx_bounds {n : Nat} {a : Int × Int} (hn : 1 ≤ n) (h64 : n ≤ 64) (ho : okD a.1 a.2 = true) {c : Int × Int} (hc : InG n c) :
    0 ≤ idx a.1 a.2 (startS n a) c ∧ idx a.1 a.2 (startS n a) c < (binsS n a).1 := by
  obtain ⟨b1, b2, b3⟩ := okD_bounds ho
  have hb : binsS n a = (((n : Int) - 1) * (a.1.natAbs + a.2) + 1, 0) := by
    unfold binsS
    rw [if_neg (by omega), if_pos ho]
  rw [hb]
  unfold startS idx InG at *
  obtain ⟨P, Q⟩ := a
  obtain ⟨x, y⟩ := c
  dsimp only at *
  obtain ⟨h1, h2, h3, h4⟩ := hc
  have q1 := Int.mul_nonneg b2 h1
  have q2 : Q * x ≤ Q * ((n : Int) - 1) := Int.mul_le_mul_of_nonneg_left (by omega) b2
  by_cases hP : P < 0
  · rw [if_pos hP]
    have q3 : 0 ≤ (-P) * y := Int.mul_nonneg (by omega) h3
    have q4 : (-P) * y ≤ (-P) * ((n : Int) - 1) := Int.mul_le_mul_of_nonneg_left (by omega) (by omega)
    have e : ((P.natAbs : Nat) : Int) = -P := by omega
    rw [e, Int.mul_add, Int.mul_comm ((n : Int) - 1) (-P), Int.mul_comm ((n : Int) - 1) Q]
    rw [Int.neg_mul] at q3 q4
    omega
  · rw [if_neg hP]
    have q3 : 0 ≤ P * y := Int.mul_nonneg (by omega) h3
    have q4 : P * y ≤ P * ((n : Int) - 1) := Int.mul_le_mul_of_nonneg_left (by omega) (by omega)
    have e : ((P.natAbs : Nat) : Int) = P := by omega
    rw [e, Int.mul_add, Int.mul_comm ((n : Int) - 1) P, Int.mul_comm ((n : Int) - 1) Q]
    omega
theorem idx_step {P Q st : Int} {x y : Int} : idx P Q st (x + P, y + Q) = idx P Q st (x, y) := by
  unfold idx
  dsimp only
  rw [Int.mul_add, Int.mul_add, Int.mul_comm Q P]
  omega

/-- The cells that have been seen: those of the lines ahead of i, and the first k of it. -/
def Seen (n : Nat) (P Q st : Int) (i k : Nat) (S : List (Int × Int)) : Prop :=
  S.Nodup ∧ ∀ c, c ∈ S ↔ InG n c ∧ (idx P Q st c < i ∨ c ∈ (lineL P Q st i n (n * n)).take k)
theorem seen_start {n : Nat} {P Q st : Int} {i : Nat} {S : List (Int × Int)} (h : Seen n P Q st i (lineL P Q st i n (n * n)).length S) : Seen n P Q st (i + 1) 0 S := by
  refine ⟨h.1, fun c => ?_⟩
  rw [h.2 c, List.take_length, mem_lineL, List.take_zero]
  constructor
  · rintro ⟨h1, h2 | h2⟩
    · exact ⟨h1, Or.inl (by omega)⟩
    · exact ⟨h1, Or.inl (by omega)⟩
  · rintro ⟨h1, h2 | h2⟩
    · by_cases e : idx P Q st c = i
      · exact ⟨h1, Or.inr ⟨h1, e⟩⟩
      · exact ⟨h1, Or.inl (by omega)⟩
    · simp at h2
theorem seen_new {n : Nat} {P Q st : Int} {i k : Nat} {S : List (Int × Int)} {c : Int × Int} (h : Seen n P Q st i k S) (hc : (lineL P Q st i n (n * n))[k]? = some c) : ¬ c ∈ S := by
  intro hm
  obtain ⟨_, hm⟩ := (h.2 c).1 hm
  have hin := (mem_lineL.1 (List.mem_of_getElem? hc)).2
  rcases hm with hm | hm
  · omega
  · obtain ⟨j, hj⟩ := List.mem_iff_getElem?.1 hm
    rw [List.getElem?_take] at hj
    split at hj
    · rename_i hjk
      exact nodup_ne (nodup_lineL P Q st i n (n * n)) hjk hj hc rfl
    · cases hj
theorem seen_put {n : Nat} {P Q st : Int} {i k : Nat} {S : List (Int × Int)} {c : Int × Int} (h : Seen n P Q st i k S) (hc : (lineL P Q st i n (n * n))[k]? = some c) : Seen n P Q st i (k + 1) (c :: S) := by
  have hg := (mem_lineL.1 (List.mem_of_getElem? hc)).1
  refine ⟨List.nodup_cons.2 ⟨seen_new h hc, h.1⟩, fun d => ?_⟩
  rw [List.mem_cons, h.2 d, List.take_add_one, hc]
  simp
  constructor
  · rintro (rfl | ⟨h1, h2 | h2⟩)
    · exact ⟨hg, Or.inr (Or.inr rfl)⟩
    · exact ⟨h1, Or.inl h2⟩
    · exact ⟨h1, Or.inr (Or.inl h2)⟩
  · rintro ⟨h1, h2 | h2 | h2⟩
    · exact Or.inr ⟨h1, Or.inl h2⟩
    · exact Or.inr ⟨h1, Or.inr h2⟩
    · exact Or.inl h2
theorem seen_none {n : Nat} {a : Int × Int} (hn : 1 ≤ n) (h64 : n ≤ 64) (ho : okD a.1 a.2 = true) : Seen n a.1 a.2 (startS n a) 0 0 [] := by
  refine ⟨List.nodup_nil, fun c => ?_⟩
  simp
  intro hc
  have := idx_bounds hn h64 ho hc
  omega
theorem seen_all {n : Nat} {a : Int × Int} {B : Nat} {S : List (Int × Int)} (hn : 1 ≤ n) (h64 : n ≤ 64) (ho : okD a.1 a.2 = true) (hB : (binsS n a).1 = B) (h : Seen n a.1 a.2 (startS n a) B 0 S) : (∀ c, c ∈ S ↔ InG n c) ∧ S.length = n * n := by
  have h1 : ∀ c, c ∈ S ↔ InG n c := fun c => by
    rw [h.2 c]
    constructor
    · exact fun h => h.1
    · intro hc
      have := idx_bounds hn h64 ho hc
      exact ⟨hc, Or.inl (by omega)⟩
  exact ⟨h1, whole_len h.1 h1⟩
theorem seen_len {n : Nat} {P Q st : Int} {i k : Nat} {S : List (Int × Int)} (h : Seen n P Q st i k S) : S.length ≤ n * n := by
  have := nodup_le h.1 (M := gridL n) (fun d hd => mem_gridL.2 ((h.2 d).1 hd).1)
  rw [gridL_len] at this
  exact this
theorem line_next {P Q st : Int} {n : Nat} {i : Int} {k : Nat} {c d : Int × Int} (h1 : (lineL P Q st i n (n * n))[k]? = some c) (h2 : (lineL P Q st i n (n * n))[k + 1]? = some d) : (d.1 - c.1) * Q = (d.2 - c.2) * P ∧ d ≠ c := by
  have a := (mem_lineL.1 (List.mem_of_getElem? h1)).2
  have b := (mem_lineL.1 (List.mem_of_getElem? h2)).2
  refine ⟨?_, fun e => ?_⟩
  · unfold idx at a b
    rw [Int.sub_mul, Int.sub_mul, Int.mul_comm d.1 Q, Int.mul_comm c.1 Q, Int.mul_comm d.2 P, Int.mul_comm c.2 P]
    omega
  · exact nodup_ne (nodup_lineL P Q st i n (n * n)) (Nat.lt_succ_self k) h1 h2 e.symm
end Go.Proofs.Ytkjjhllmedkfhaa
