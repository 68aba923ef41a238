/- A record's body tells its slice. -/
import Derived.Test.YtpmbgjoilfdkaaaVH
import Derived.Test.YtpmbgjoilfdkaaaM6
import Derived.Test.YtpmbgjoilfdkaaaXA
namespace Go.Proofs.Ytpmbgjoilfdkaaa
open Go.RowKit Fl Ieee

/-- The body of the record at the head of bytes. -/
def bodyB (B : List Nat) : List Nat := (B.drop 8).take (numB B 0 4)
theorem bodyB_len {B : List Nat} (h : numB B 0 4 + 8 ≤ B.length) : (bodyB B).length = numB B 0 4 := by
  unfold bodyB
  rw [List.length_take, List.length_drop]
  omega
theorem getD_drop (L : List Nat) (p i : Nat) : (L.drop p).getD i 0 = L.getD (p + i) 0 := by
  rw [List.getD_eq_getElem?_getD, List.getD_eq_getElem?_getD, List.getElem?_drop]
theorem getD_take {L : List Nat} {n i : Nat} (h : i < n) : (L.take n).getD i 0 = L.getD i 0 := by
  rw [List.getD_eq_getElem?_getD, List.getD_eq_getElem?_getD, List.getElem?_take, if_pos h]
theorem bodyB_first {B : List Nat} (h1 : 1 ≤ numB B 0 4) : (bodyB B).getD 0 0 = B.getD 8 0 := by
  unfold bodyB
  rw [getD_take (by omega), getD_drop]
theorem bodyB_inner (B : List Nat) : (bodyB B).drop 1 = inner B := by
  unfold bodyB inner
  rw [List.drop_take, List.drop_drop]
theorem numB_take {L : List Nat} {p : Nat} : ∀ n, n ≤ p → numB (L.take p) 0 n = numB L 0 n
  | 0, _ => rfl
  | n + 1, h => by
    unfold numB
    rw [numB_take n (by omega), getD_take (by omega)]
/-- Four bytes are those of their number. -/
theorem high_num {L : List Nat} (hl : L.length = 4) (hb : ∀ i, L.getD i 0 < 256) : highL (numB L 0 4) 4 = L := by
  match L, hl with
  | [a, b, c, d], _ =>
    have h0 : a < 256 := hb 0
    have h1 : b < 256 := hb 1
    have h2 : c < 256 := hb 2
    have h3 : d < 256 := hb 3
    rw [high4]
    have e : numB [a, b, c, d] 0 4 = ((a * 256 + b) * 256 + c) * 256 + d := by simp [numB]
    rw [e]
    have e1 : (((a * 256 + b) * 256 + c) * 256 + d) / 16777216 % 256 = a := by omega
    have e2 : (((a * 256 + b) * 256 + c) * 256 + d) / 65536 % 256 = b := by omega
    have e3 : (((a * 256 + b) * 256 + c) * 256 + d) / 256 % 256 = c := by omega
    have e4 : (((a * 256 + b) * 256 + c) * 256 + d) % 256 = d := by omega
    rw [e1, e2, e3, e4]
theorem num_high {x : Nat} (hx : x < 4294967296) : numB (highL x 4) 0 4 = x := by
  rw [high4]
  have e : numB [x / 16777216 % 256, x / 65536 % 256, x / 256 % 256, x % 256] 0 4 = ((x / 16777216 % 256 * 256 + x / 65536 % 256) * 256 + x / 256 % 256) * 256 + x % 256 := by simp [numB]
  rw [e]
  omega
/-- What a record at the head of bytes is. -/
theorem take_rec {B : List Nat} (hb : ∀ i, B.getD i 0 < 256) (h : numB B 0 4 + 8 ≤ B.length) (hs : sumB (bodyB B) (bodyB B).length = numB B 4 4) : recL (bodyB B) = B.take (8 + numB B 0 4) := by
  unfold recL
  rw [hs, bodyB_len h]
  have e1 : highL (numB B 0 4) 4 = B.take 4 := by
    rw [← numB_take (L := B) (p := 4) 4 (Nat.le_refl _)]
    exact high_num (by rw [List.length_take]; omega) (fun i => by
      by_cases c : i < 4
      · rw [getD_take c]; exact hb i
      · rw [getD_out (by rw [List.length_take]; omega)]; decide)
  have e2 : highL (numB B 4 4) 4 = (B.drop 4).take 4 := by
    have : numB B 4 4 = numB ((B.drop 4).take 4) 0 4 := by rw [numB_take 4 (Nat.le_refl _), numB_drop]
    rw [this]
    exact high_num (by rw [List.length_take, List.length_drop]; omega) (fun i => by
      by_cases c : i < 4
      · rw [getD_take c, getD_drop]; exact hb _
      · rw [getD_out (by rw [List.length_take]; omega)]; decide)
  rw [e1, e2]
  unfold bodyB
  have e3 : B.take 4 ++ (B.drop 4).take 4 = B.take 8 := (List.take_add (i := 4) (j := 4) (l := B)).symm
  rw [e3]
  exact (List.take_add (i := 8) (j := numB B 0 4) (l := B)).symm
theorem rec_take {B bs : List Nat} (h : numB B 0 4 + 8 ≤ B.length) (hr : recL bs = B.take (8 + numB B 0 4)) : bs = bodyB B ∧ sumB (bodyB B) (bodyB B).length = numB B 4 4 := by
  have hl : (recL bs).length = 8 + numB B 0 4 := by rw [hr, List.length_take]; omega
  rw [recL_len] at hl
  have e1 : bs = bodyB B := by
    have : (recL bs).drop 8 = bs := by
      unfold recL
      rw [List.drop_append_of_le_length (by rw [List.length_append, highL_len, highL_len]; decide), List.drop_of_length_le (by rw [List.length_append, highL_len, highL_len]; decide), List.nil_append]
    rw [← this, hr]
    unfold bodyB
    rw [List.drop_take]
    congr 1
    omega
  refine ⟨e1, ?_⟩
  rw [← e1]
  have e2 : numB B 4 4 = numB (recL bs) 4 4 := by
    have h4 : ∀ n, n ≤ 4 → numB (B.take (8 + numB B 0 4)) 4 n = numB B 4 n := by
      intro n
      induction n with
      | zero => intro _; rfl
      | succ n ih =>
        intro hn
        unfold numB
        rw [ih (by omega), getD_take (by omega)]
    rw [hr, h4 4 (Nat.le_refl _)]
  rw [e2]
  have e3 : numB (recL bs) 4 4 = numB ((recL bs).drop 4) 0 4 := by rw [numB_drop]
  rw [e3]
  have e4 : ((recL bs).drop 4).take 4 = highL (sumB bs bs.length) 4 := by
    unfold recL
    rw [List.append_assoc, List.drop_append_of_le_length (by rw [highL_len]; exact Nat.le_refl _), List.drop_of_length_le (by rw [highL_len]; exact Nat.le_refl _), List.nil_append, List.take_append_of_le_length (by rw [highL_len]; exact Nat.le_refl _), List.take_of_length_le (by rw [highL_len]; exact Nat.le_refl _)]
  rw [← numB_take (p := 4) 4 (Nat.le_refl _), e4, num_high (sumB_lt _ _)]

/-- The slice that has this body behind the slice ahead, as it is read. -/
def ReadB (prev : Option Sli) (b : List Nat) (n : Nat) (f : Nat → Nat × Nat) : Prop := ∃ f0, Good (b.drop 1) f0 ∧ n = side (b.drop 1) ∧
  (b.getD 0 0 = 1 → ∃ p, prev = some (n, p) ∧ ∀ j, j < n * n → f j = xorC f0 p j) ∧ (b.getD 0 0 ≠ 1 → ∀ j, j < n * n → f j = f0 j)
def SliceB (prev : Option Sli) (b : List Nat) (n : Nat) (f : Nat → Nat × Nat) : Prop := 1 ≤ b.length ∧ ReadB prev b n f ∧ BodyIs prev n f b
theorem readB_is {prev : Option Sli} {B : List Nat} {n : Nat} {f : Nat → Nat × Nat} (h1 : 1 ≤ numB B 0 4) : ReadB prev (bodyB B) n f ↔ ReadIs prev B n f := by
  unfold ReadB ReadIs
  rw [bodyB_inner, bodyB_first h1]
theorem next_of {prev : Option Sli} {B : List Nat} {n : Nat} {f : Nat → Nat × Nat} (hb : ∀ i, B.getD i 0 < 256) (h : numB B 0 4 + 8 ≤ B.length) (hs : sumB (bodyB B) (bodyB B).length = numB B 4 4) (hS : SliceB prev (bodyB B) n f) : NextIs prev B n f (8 + numB B 0 4) := by
  obtain ⟨h1, h2, h3⟩ := hS
  rw [bodyB_len h] at h1
  exact ⟨by omega, rfl, h1, h, (readB_is h1).1 h2, bodyB B, h3, take_rec hb h hs⟩
theorem next_is {prev : Option Sli} {B : List Nat} {n k : Nat} {f : Nat → Nat × Nat} (h : NextIs prev B n f k) : 8 ≤ B.length ∧ numB B 0 4 + 8 ≤ B.length ∧ sumB (bodyB B) (bodyB B).length = numB B 4 4 ∧ SliceB prev (bodyB B) n f := by
  obtain ⟨bs, h1, h2⟩ := h.form
  rw [h.num] at h2
  obtain ⟨e1, e2⟩ := rec_take h.hi h2
  refine ⟨by have := h.len; omega, h.hi, e2, by rw [bodyB_len h.hi]; exact h.lo, (readB_is h.lo).2 h.read, ?_⟩
  rw [← e1]
  exact h1
theorem readB_one {prev : Option Sli} {b : List Nat} {n n' : Nat} {f f' : Nat → Nat × Nat} (h : ReadB prev b n f) (h' : ReadB prev b n' f') : n' = n ∧ ∀ j, j < n * n → f' j = f j := by
  obtain ⟨f0, h1, h2, h3, h4⟩ := h
  obtain ⟨g0, k1, k2, k3, k4⟩ := h'
  have e : n' = n := by rw [h2, k2]
  subst e
  refine ⟨rfl, fun j hj => ?_⟩
  have hg : ∀ j, j < n' * n' → g0 j = f0 j := by
    intro j hj
    rw [h2] at hj
    exact good_same h1 k1.2.1 j hj
  by_cases c : b.getD 0 0 = 1
  · obtain ⟨p, e1, e2⟩ := h3 c
    obtain ⟨q, e3, e4⟩ := k3 c
    rw [e1] at e3
    cases e3
    rw [e2 j hj, e4 j hj, xor_congr2 hg j hj]
  · rw [h4 c j hj, k4 c j hj, hg j hj]
/-- What is read decides. -/
theorem slice_no {prev : Option Sli} {b bs : List Nat} {n : Nat} {f : Nat → Nat × Nat} (h : ReadB prev b n f) (hb : BodyIs prev n f bs) (hn : bs ≠ b) (n' : Nat) (f' : Nat → Nat × Nat) : ¬ SliceB prev b n' f' := by
  rintro ⟨_, h2, h3⟩
  obtain ⟨e1, e2⟩ := readB_one h h2
  subst e1
  exact hn (body_one hb (body_congr (fun j hj => (e2 j hj).symm) h3))
end Go.Proofs.Ytpmbgjoilfdkaaa
