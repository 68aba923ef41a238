/- Directions: what the document's calls answer; the greatest common divisor; the document's own Check, Normal, Cmp. A struct of two cells as a result. The document's own Normal, Cmp. The document's own Cmp, Across, Bins, Index. One form, the direction across twice, the order: what the numbers come to. The program's own size, divisor, Normal. The program's own Check, Cmp, Across. The document's own Bins, Start, Index. The program's own isSide, liesIn, look, bins, origin, Bins, Index. -/
import Derived.Test.YtpmbgjoilfdkaaaChecked
import Derived.ProofKit
import Derived.Below
import Derived.Laws.ResultCell
import Derived.BigRegion
import Derived.BigQuiet
import Derived.WalkKit
import Derived.WalkSpells
import Derived.WalkLawsBesides
import Derived.Deep.RegionHeld3
namespace Go.Proofs.Ytpmbgjoilfdkaaa
open Go.RowKit

theorem hide {p : Prop} (h : p) : Hid p := h
theorem unhide {p : Prop} (h : Hid p) : p := h

/-- In its one form? -/
def okD (P Q : Int) : Bool := decide (0 ≤ Q ∧ Q ≤ 16 ∧ P.natAbs ≤ 16 ∧ Nat.gcd P.natAbs Q.natAbs = 1 ∧ (Q = 0 → P = 1))
def checkS (P Q : Int) : Int := if okD P Q then 0 else 60

/-- The direction of a line through the origin, and the error. -/
def normalS (p q : Int) : (Int × Int) × Int :=
  if p = 0 ∧ q = 0 then ((0, 0), 1)
  else if 16 < p.natAbs / Nat.gcd p.natAbs q.natAbs ∨ 16 < q.natAbs / Nat.gcd p.natAbs q.natAbs then ((0, 0), 60)
  else ((if q ≠ 0 ∧ (decide (p < 0)) ≠ (decide (q < 0)) then -((p.natAbs / Nat.gcd p.natAbs q.natAbs : Nat) : Int) else ((p.natAbs / Nat.gcd p.natAbs q.natAbs : Nat) : Int), ((q.natAbs / Nat.gcd p.natAbs q.natAbs : Nat) : Int)), 0)

def crossS (a b : Int × Int) : Int := a.1 * b.2 - a.2 * b.1
def cmpS (a b : Int × Int) : Int := if okD a.1 a.2 && okD b.1 b.2 then (if 0 < crossS a b then -1 else if crossS a b < 0 then 1 else 0) else 0

/-- An int. -/
def I64 (x : Int) : Prop := -9223372036854775808 ≤ x ∧ x ≤ 9223372036854775807
def dirV (a : Int × Int) : Value := .agg #[.int .i64 a.1, .int .i64 a.2]

theorem abs_lt {p : Int} (h : I64 p) : p.natAbs ≤ 9223372036854775808 := by
  unfold I64 at h
  omega

theorem below_box (w : World) (o : Obj) (k : Nat) : Below w.heap.size w ((w.alloc o).drewN k) := by
  have h := (Below.refl w.heap.size w).alloc (Nat.le_refl _) o
  exact ⟨h.os, h.tape, h.output, h.size, h.block⟩

theorem checkS_no {P Q : Int} (h : Q < 0 ∨ 16 < Q ∨ 16 < P.natAbs ∨ Nat.gcd P.natAbs Q.natAbs ≠ 1 ∨ (Q = 0 ∧ P ≠ 1)) : checkS P Q = 60 := by
  unfold checkS okD
  rw [if_neg]
  intro c
  simp only [decide_eq_true_eq] at c
  obtain ⟨c1, c2, c3, c4, c5⟩ := c
  rcases h with h | h | h | h | h
  · omega
  · omega
  · omega
  · exact h c4
  · exact h.2 (c5 h.1)

theorem checkS_yes {P Q : Int} (h1 : ¬ Q < 0) (h2 : ¬ 16 < Q) (h3 : ¬ 16 < P.natAbs) (h4 : Nat.gcd P.natAbs Q.natAbs = 1) (h5 : Q = 0 → P = 1) : checkS P Q = 0 := by
  unfold checkS okD
  rw [if_pos]
  simp only [decide_eq_true_eq]
  exact ⟨by omega, by omega, by omega, h4, h5⟩

end Go.Proofs.Ytpmbgjoilfdkaaa

namespace Go.Proofs.Ytpmbgjoilfdkaaa
open Go.RowKit

theorem addr_add (g j : Nat) : (⟨g, 0, none⟩ : Addr).add j = ⟨g, j, none⟩ := by unfold Addr.add; split <;> simp_all

section
variable {P : Program}

/-- A struct of two cells, read where it lies. -/
theorem load_two (w : World) (g : Nat) (ty : TypeId) (a b : Value) (d : TypeDesc) (h0 : w.cell? ⟨g, 0, none⟩ = some a) (h1 : w.cell? ⟨g, 1, none⟩ = some b)
    (hu : P.underlying ty = some d) (hd : (match d with | .struct _ | .array _ _ => true | _ => false) = true) (hi : (P.info? ty).map (·.size) = some 2) :
    (loadVar ty ⟨g, 0, none⟩).run P w = .ok (.agg #[a, b]) w := by
  have hl : (loadCells ⟨g, 0, none⟩ 2).run P w = .ok #[a, b] w :=
    run_loadCells_list (P := P) w ⟨g, 0, none⟩ [a, b] (fun j v hv => by
      rw [addr_add]
      match j, hv with
      | 0, hv => simp at hv; subst hv; exact h0
      | 1, hv => simp at hv; subst hv; exact h1)
  cases hq : P.info? ty with
  | none => simp [hq] at hi
  | some i =>
    have hs : i.size = 2 := by simpa [hq] using hi
    have hagg : (isAgg ty).run P w = .ok true w := by
      unfold isAgg
      rw [Sem.run_bind, run_underlying hu w]
      cases d <;> simp_all
    simp [loadVar, Sem.run_bind, hagg, sizeOf, typeInfo, hq, hs, hl]

theorem results_two {fn : Func} {p : Tmp} {ty : TypeId} (h : fn.results = #[.cell p ty]) (tmps : Array Value) (w : World) (g : Nat) (a b : Value) (d : TypeDesc)
    (hp : tmps.getD p undef = .pointer (some ⟨g, 0, none⟩)) (h0 : w.cell? ⟨g, 0, none⟩ = some a) (h1 : w.cell? ⟨g, 1, none⟩ = some b)
    (hu : P.underlying ty = some d) (hd : (match d with | .struct _ | .array _ _ => true | _ => false) = true) (hi : (P.info? ty).map (·.size) = some 2) :
    (results fn tmps).run P w = .ok (.agg #[a, b]) w := by
  have hp' : tmps[p]?.getD undef = .pointer (some ⟨g, 0, none⟩) := by simpa using hp
  simp [results, h, hp', asAddr, load_two w g ty a b d h0 h1 hu hd hi]

theorem results_two_tmp {fn : Func} {p u : Tmp} {ty : TypeId} (h : fn.results = #[.cell p ty, .tmp u]) (tmps : Array Value) (w : World) (g : Nat) (a b c : Value) (d : TypeDesc)
    (hp : tmps.getD p undef = .pointer (some ⟨g, 0, none⟩)) (hc : tmps.getD u undef = c) (h0 : w.cell? ⟨g, 0, none⟩ = some a) (h1 : w.cell? ⟨g, 1, none⟩ = some b)
    (hu : P.underlying ty = some d) (hd : (match d with | .struct _ | .array _ _ => true | _ => false) = true) (hi : (P.info? ty).map (·.size) = some 2) :
    (results fn tmps).run P w = .ok (.tuple #[.agg #[a, b], c]) w := by
  have hp' : tmps[p]?.getD undef = .pointer (some ⟨g, 0, none⟩) := by simpa using hp
  have hc' : tmps[u]?.getD undef = c := by simpa using hc
  simp [results, h, hp', hc', asAddr, load_two w g ty a b d h0 h1 hu hd hi]
end
end Go.Proofs.Ytpmbgjoilfdkaaa

namespace Go.Proofs.Ytpmbgjoilfdkaaa
open Go.RowKit

theorem cell_heap {w w' : World} (h : w'.heap = w.heap) (p : Addr) : w'.cell? p = w.cell? p := World.cell?_of_block (by rw [h])
theorem frozen_heap {w w' : World} (h : w'.heap = w.heap) (p : Addr) : w'.frozen? p = w.frozen? p := World.frozen?_of_block (by rw [h])

theorem gcd_pos {p q : Int} (h : ¬ (p = 0 ∧ q = 0)) : 0 < Nat.gcd p.natAbs q.natAbs := by
  rcases Nat.eq_zero_or_pos (Nat.gcd p.natAbs q.natAbs) with e | e
  · have := Nat.gcd_eq_zero_iff.1 e
    omega
  · exact e

theorem normalS_big {p q : Int} (h : ¬ (p = 0 ∧ q = 0)) (hb : 16 < p.natAbs / Nat.gcd p.natAbs q.natAbs ∨ 16 < q.natAbs / Nat.gcd p.natAbs q.natAbs) : normalS p q = ((0, 0), 60) := by
  unfold normalS
  rw [if_neg h, if_pos hb]

theorem normalS_turn {p q : Int} (h : ¬ (p = 0 ∧ q = 0)) (hb : ¬ (16 < p.natAbs / Nat.gcd p.natAbs q.natAbs ∨ 16 < q.natAbs / Nat.gcd p.natAbs q.natAbs)) (hs : q ≠ 0 ∧ (decide (p < 0)) ≠ (decide (q < 0))) :
    normalS p q = ((-((p.natAbs / Nat.gcd p.natAbs q.natAbs : Nat) : Int), ((q.natAbs / Nat.gcd p.natAbs q.natAbs : Nat) : Int)), 0) := by
  unfold normalS
  rw [if_neg h, if_neg hb, if_pos hs]

theorem normalS_stay {p q : Int} (h : ¬ (p = 0 ∧ q = 0)) (hb : ¬ (16 < p.natAbs / Nat.gcd p.natAbs q.natAbs ∨ 16 < q.natAbs / Nat.gcd p.natAbs q.natAbs)) (hs : ¬ (q ≠ 0 ∧ (decide (p < 0)) ≠ (decide (q < 0)))) :
    normalS p q = ((((p.natAbs / Nat.gcd p.natAbs q.natAbs : Nat) : Int), ((q.natAbs / Nat.gcd p.natAbs q.natAbs : Nat) : Int)), 0) := by
  unfold normalS
  rw [if_neg h, if_neg hb, if_neg hs]

end Go.Proofs.Ytpmbgjoilfdkaaa

namespace Go.Proofs.Ytpmbgjoilfdkaaa
open Go.RowKit

structure Dir64 (a : Int × Int) : Prop where
  one : I64 a.1
  two : I64 a.2

theorem okD_bounds {P Q : Int} (h : okD P Q = true) : P.natAbs ≤ 16 ∧ 0 ≤ Q ∧ Q ≤ 16 := by
  unfold okD at h
  simp only [decide_eq_true_eq] at h
  exact ⟨h.2.2.1, h.1, h.2.1⟩

theorem checkS_ok {P Q : Int} (h : okD P Q = true) : checkS P Q = 0 := by unfold checkS; rw [if_pos h]
theorem checkS_bad {P Q : Int} (h : okD P Q = false) : checkS P Q = 60 := by unfold checkS; rw [if_neg (by rw [h]; decide)]

theorem prod_small {x y : Int} (hx : x.natAbs ≤ 16) (hy : y.natAbs ≤ 16) : (x * y).natAbs ≤ 256 := by
  rw [Int.natAbs_mul]
  exact Nat.mul_le_mul hx hy

theorem two_cells (w : World) (a b : Value) (t : TypeId) {w' : World} (hb : Below (w.heap.size + 1) (w.alloc (.cells #[a, b] t)) w') : w'.cell? ⟨w.heap.size, 0, none⟩ = some a ∧ w'.cell? ⟨w.heap.size, 1, none⟩ = some b := by
  refine ⟨?_, ?_⟩
  · rw [hb.cell (p := ⟨w.heap.size, 0, none⟩) (Nat.lt_succ_self _)]; simp [go_sem]
  · rw [hb.cell (p := ⟨w.heap.size, 1, none⟩) (Nat.lt_succ_self _)]; simp [go_sem]

/-- The direction across; how many lines; the first line's number; a cell's line. -/
def acrossS (a : Int × Int) : (Int × Int) × Int := if okD a.1 a.2 then normalS (-a.2) a.1 else ((0, 0), 60)
def binsS (n : Int) (a : Int × Int) : Int × Int := if n < 1 ∨ 64 < n then (0, 1) else if okD a.1 a.2 then ((n - 1) * (a.1.natAbs + a.2) + 1, 0) else (0, 60)
def startS (n : Int) (a : Int × Int) : Int := (if a.1 < 0 then 0 else a.1) * (n - 1)
def indexS (n : Int) (a : Int × Int) (x y : Int) : Int × Int := if (binsS n a).2 ≠ 0 then (0, (binsS n a).2) else if x < 0 ∨ n ≤ x ∨ y < 0 ∨ n ≤ y then (0, 1) else (a.2 * x - a.1 * y + startS n a, 0)

theorem neg_i64 {x : Int} (h1 : 0 ≤ x) (h2 : x ≤ 16) : I64 (-x) := by unfold I64; omega

end Go.Proofs.Ytpmbgjoilfdkaaa

namespace Go.Proofs.Ytpmbgjoilfdkaaa
open Go.RowKit

def mulT (i j k : Nat) : Bool := k == 20 || decide (normalS (((k : Int) - 20) * ((i : Int) - 16)) (((k : Int) - 20) * j) = (((i : Int) - 16, (j : Int)), 0))
def acrossT (P Q : Int) : Bool :=
  decide ((acrossS (P, Q)).2 = 0) && decide (acrossS (acrossS (P, Q)).1 = ((P, Q), 0)) && decide ((acrossS (P, Q)).1.1 * P + (acrossS (P, Q)).1.2 * Q = 0) && decide ((acrossS (P, Q)).1.1.natAbs ≤ 16) && decide ((acrossS (P, Q)).1.2.natAbs ≤ 16)

theorem mul_all : ((List.range 33).all fun i => (List.range 17).all fun j => !okD ((i : Int) - 16) j || (List.range 41).all fun k => mulT i j k) = true := by decide +kernel
theorem across_all : ((List.range 33).all fun i => (List.range 17).all fun j => !okD ((i : Int) - 16) j || acrossT ((i : Int) - 16) j) = true := by decide +kernel

theorem mul_table {i j k : Nat} (hi : i < 33) (hj : j < 17) (h : okD ((i : Int) - 16) j = true) (hk : k < 41) (h20 : k ≠ 20) : normalS (((k : Int) - 20) * ((i : Int) - 16)) (((k : Int) - 20) * j) = (((i : Int) - 16, (j : Int)), 0) := by
  have h1 := List.all_eq_true.1 (List.all_eq_true.1 mul_all i (List.mem_range.2 hi)) j (List.mem_range.2 hj)
  rw [h] at h1
  have h2 := List.all_eq_true.1 (by simpa using h1 : ((List.range 41).all fun k => mulT i j k) = true) k (List.mem_range.2 hk)
  unfold mulT at h2
  simpa [h20] using h2

theorem across_table {i j : Nat} (hi : i < 33) (hj : j < 17) (h : okD ((i : Int) - 16) j = true) : acrossT ((i : Int) - 16) j = true := by
  have h1 := List.all_eq_true.1 (List.all_eq_true.1 across_all i (List.mem_range.2 hi)) j (List.mem_range.2 hj)
  rw [h] at h1
  simpa using h1

theorem mul_normal {P Q k : Int} (h : okD P Q = true) (hk : k ≠ 0) (h1 : -20 ≤ k) (h2 : k ≤ 20) : normalS (k * P) (k * Q) = ((P, Q), 0) := by
  obtain ⟨b1, b2, b3⟩ := okD_bounds h
  obtain ⟨i, hi⟩ : ∃ i : Nat, (i : Int) - 16 = P := ⟨(P + 16).toNat, by omega⟩
  obtain ⟨j, hj⟩ : ∃ j : Nat, (j : Int) = Q := ⟨Q.toNat, by omega⟩
  obtain ⟨m, hm⟩ : ∃ m : Nat, (m : Int) - 20 = k := ⟨(k + 20).toNat, by omega⟩
  have := mul_table (i := i) (j := j) (k := m) (by omega) (by omega) (by rw [hi, hj]; exact h) (by omega) (by omega)
  rw [hi, hj, hm] at this
  exact this

theorem across_two {P Q : Int} (h : okD P Q = true) : (acrossS (P, Q)).2 = 0 ∧ acrossS (acrossS (P, Q)).1 = ((P, Q), 0) ∧ (acrossS (P, Q)).1.1 * P + (acrossS (P, Q)).1.2 * Q = 0 ∧ (acrossS (P, Q)).1.1.natAbs ≤ 16 ∧ (acrossS (P, Q)).1.2.natAbs ≤ 16 := by
  obtain ⟨b1, b2, b3⟩ := okD_bounds h
  obtain ⟨i, hi⟩ : ∃ i : Nat, (i : Int) - 16 = P := ⟨(P + 16).toNat, by omega⟩
  obtain ⟨j, hj⟩ : ∃ j : Nat, (j : Int) = Q := ⟨Q.toNat, by omega⟩
  have := across_table (i := i) (j := j) (by omega) (by omega) (by rw [hi, hj]; exact h)
  rw [hi, hj] at this
  unfold acrossT at this
  simp only [Bool.and_eq_true, decide_eq_true_eq] at this
  exact ⟨this.1.1.1.1, this.1.1.1.2, this.1.1.2, this.1.2, this.2⟩

theorem normalS_zero : normalS 0 0 = ((0, 0), 1) := by decide +kernel

theorem okD_form {P Q : Int} (h : okD P Q = true) : 0 ≤ Q ∧ (Q = 0 → P = 1) ∧ Nat.gcd P.natAbs Q.natAbs = 1 := by
  unfold okD at h
  simp only [decide_eq_true_eq] at h
  exact ⟨h.1, h.2.2.2.2, h.2.2.2.1⟩

/-- Two directions with one angle are one. -/
theorem cross_zero {a b : Int × Int} (ha : okD a.1 a.2 = true) (hb : okD b.1 b.2 = true) (h : crossS a b = 0) : a = b := by
  obtain ⟨a1, a2, a3⟩ := okD_form ha
  obtain ⟨b1, b2, b3⟩ := okD_form hb
  unfold crossS at h
  have e : a.1 * b.2 = a.2 * b.1 := by omega
  have eN : a.1.natAbs * b.2.natAbs = a.2.natAbs * b.1.natAbs := by rw [← Int.natAbs_mul, ← Int.natAbs_mul, e]
  have d1 : a.2.natAbs ∣ b.2.natAbs := by
    have : a.2.natAbs ∣ a.1.natAbs * b.2.natAbs := ⟨b.1.natAbs, eN⟩
    exact (Nat.Coprime.symm a3).dvd_of_dvd_mul_left this
  have d2 : b.2.natAbs ∣ a.2.natAbs := by
    have : b.2.natAbs ∣ b.1.natAbs * a.2.natAbs := ⟨a.1.natAbs, by rw [Nat.mul_comm, ← eN, Nat.mul_comm]⟩
    exact (Nat.Coprime.symm b3).dvd_of_dvd_mul_left this
  have e2 : a.2 = b.2 := by
    have := Nat.dvd_antisymm d1 d2
    omega
  by_cases c : a.2 = 0
  · exact Prod.ext (by rw [a2 c, b2 (by omega)]) e2
  · refine Prod.ext ?_ e2
    rw [← e2, Int.mul_comm] at e
    exact Int.eq_of_mul_eq_mul_left c e

theorem cross_three (a b c : Int × Int) : crossS a b * c.2 + crossS b c * a.2 = crossS a c * b.2 := by
  unfold crossS
  grind

/-- The order goes on. -/
theorem cross_on {a b c : Int × Int} (ha : okD a.1 a.2 = true) (hb : okD b.1 b.2 = true) (hc : okD c.1 c.2 = true) (h1 : 0 ≤ crossS a b) (h2 : 0 ≤ crossS b c) : 0 ≤ crossS a c ∧ (0 < crossS a c ∨ (crossS a b = 0 ∧ crossS b c = 0)) := by
  by_cases e1 : crossS a b = 0
  · have := cross_zero ha hb e1
    subst this
    by_cases e2 : crossS a c = 0
    · exact ⟨by omega, Or.inr ⟨e1, e2⟩⟩
    · exact ⟨by omega, Or.inl (by omega)⟩
  · by_cases e2 : crossS b c = 0
    · have := cross_zero hb hc e2
      subst this
      exact ⟨h1, Or.inl (by omega)⟩
    · obtain ⟨a1, a2, a3⟩ := okD_form ha
      obtain ⟨b1, b2, b3⟩ := okD_form hb
      obtain ⟨c1, c2, c3⟩ := okD_form hc
      have hcp : 0 < c.2 := by
        rcases Int.lt_or_eq_of_le c1 with h | h
        · exact h
        · have x := c2 h.symm
          unfold crossS at h2
          rw [← h, x] at h2
          have : b.2 = 0 := by omega
          have y := b2 this
          exact absurd (by unfold crossS; rw [← h, x, this, y]; rfl) e2
      have hbp : 0 < b.2 := by
        rcases Int.lt_or_eq_of_le b1 with h | h
        · exact h
        · have x := b2 h.symm
          unfold crossS at h1
          rw [← h, x] at h1
          have : a.2 = 0 := by omega
          have y := a2 this
          exact absurd (by unfold crossS; rw [← h, x, this, y]; rfl) e1
      have key := cross_three a b c
      have p1 : 0 < crossS a b * c.2 := Int.mul_pos (by omega) hcp
      have p2 : 0 ≤ crossS b c * a.2 := Int.mul_nonneg h2 a1
      have p3 : 0 < crossS a c * b.2 := by omega
      have p4 : 0 < crossS a c := Int.pos_of_mul_pos_left p3 hbp
      exact ⟨by omega, Or.inl p4⟩

/-- The order of two, by its cross product. -/
theorem cmpS_ok {a b : Int × Int} (ha : okD a.1 a.2 = true) (hb : okD b.1 b.2 = true) : cmpS a b = if 0 < crossS a b then -1 else if crossS a b < 0 then 1 else 0 := by
  unfold cmpS
  rw [ha, hb]
  rfl
theorem cross_swap (a b : Int × Int) : crossS b a = -crossS a b := by
  unfold crossS
  grind
theorem cmpS_bad {a b : Int × Int} (ha : okD a.1 a.2 = false) : cmpS a b = 0 ∧ cmpS b a = 0 := by
  unfold cmpS
  rw [ha]
  constructor
  · rfl
  · rw [Bool.and_false]
    rfl
end Go.Proofs.Ytpmbgjoilfdkaaa

namespace Go.Proofs.Ytpmbgjoilfdkaaa
open Go.RowKit

/-- What a call leaves that makes blocks and draws, and turns nothing that was there. -/
structure Grows (w w' : World) : Prop where
  below : Below w.heap.size w w'
  drawn : w.drawn ≤ w'.drawn

theorem Grows.refl (w : World) : Grows w w := ⟨Below.refl _ _, Nat.le_refl _⟩
theorem Grows.on {a b c : World} (h : Grows a b) (k : Grows b c) : Grows a c := ⟨h.below.trans (k.below.mono h.below.size), Nat.le_trans h.drawn k.drawn⟩
theorem Grows.alloc {a w : World} (h : Grows a w) (o : Obj) : Grows a (w.alloc o) := ⟨h.below.alloc h.below.size o, h.drawn⟩
theorem Grows.setCell {a w : World} (h : Grows a w) {p : Addr} (hp : a.heap.size ≤ p.block) (u : Value) : Grows a (w.setCell p u) := ⟨h.below.setCell hp u, h.drawn⟩

end Go.Proofs.Ytpmbgjoilfdkaaa

namespace Go.Proofs.Ytpmbgjoilfdkaaa
open Go.RowKit

theorem normal_ok {P Q : Int} (h : okD P Q = true) : normalS P Q = ((P, Q), 0) := by
  have := mul_normal (k := 1) h (by decide) (by decide) (by decide)
  rwa [Int.one_mul, Int.one_mul] at this

theorem div_self_one {a g : Nat} (hg : 2 ≤ g) (h : a = a / g) : a = 0 := by
  rcases Nat.eq_zero_or_pos a with e | e
  · exact e
  · have := Nat.div_lt_self e (show 1 < g by omega)
    omega

theorem ok_normal {P Q : Int} (h : normalS P Q = ((P, Q), 0)) : okD P Q = true := by
  by_cases c1 : P = 0 ∧ Q = 0
  · rw [c1.1, c1.2, normalS_zero] at h
    simp at h
  · have hp := gcd_pos c1
    by_cases c2 : 16 < P.natAbs / Nat.gcd P.natAbs Q.natAbs ∨ 16 < Q.natAbs / Nat.gcd P.natAbs Q.natAbs
    · rw [normalS_big c1 c2] at h
      simp at h
    · have key : (P = -((P.natAbs / Nat.gcd P.natAbs Q.natAbs : Nat) : Int) ∨ P = ((P.natAbs / Nat.gcd P.natAbs Q.natAbs : Nat) : Int)) ∧ Q = ((Q.natAbs / Nat.gcd P.natAbs Q.natAbs : Nat) : Int) ∧ (Q = 0 → P = ((P.natAbs / Nat.gcd P.natAbs Q.natAbs : Nat) : Int)) := by
        by_cases c3 : Q ≠ 0 ∧ (decide (P < 0)) ≠ (decide (Q < 0))
        · have e := (normalS_turn c1 c2 c3).symm.trans h
          simp only [Prod.mk.injEq] at e
          exact ⟨Or.inl e.1.1.symm, e.1.2.symm, fun h0 => absurd h0 c3.1⟩
        · have e := (normalS_stay c1 c2 c3).symm.trans h
          simp only [Prod.mk.injEq] at e
          exact ⟨Or.inr e.1.1.symm, e.1.2.symm, fun _ => e.1.1.symm⟩
      obtain ⟨k1, k2, k3⟩ := key
      have a1 : P.natAbs = P.natAbs / Nat.gcd P.natAbs Q.natAbs := by
        generalize P.natAbs / Nat.gcd P.natAbs Q.natAbs = z at k1
        omega
      have a2 : Q.natAbs = Q.natAbs / Nat.gcd P.natAbs Q.natAbs := by
        generalize Q.natAbs / Nat.gcd P.natAbs Q.natAbs = z at k2
        omega
      have g1 : Nat.gcd P.natAbs Q.natAbs = 1 := by
        rcases Nat.lt_or_ge 1 (Nat.gcd P.natAbs Q.natAbs) with hg | hg
        · have b1 := div_self_one hg a1
          have b2 := div_self_one hg a2
          exact absurd ⟨by omega, by omega⟩ c1
        · omega
      rw [g1, Nat.div_one, Nat.div_one] at c2
      rw [g1, Nat.div_one] at k2 k3
      unfold okD
      simp only [decide_eq_true_eq]
      refine ⟨by omega, by omega, by omega, g1, fun h0 => ?_⟩
      have h1 := k3 h0
      rw [h0] at g1
      simp at g1
      omega

theorem check_by {P Q r1 r2 r3 : Int} (h : normalS P Q = ((r1, r2), r3)) : (r3 = 0 ∧ r1 = P ∧ r2 = Q ∧ checkS P Q = 0) ∨ (r3 ≠ 0 ∧ checkS P Q = 60) ∨ (r3 = 0 ∧ r1 ≠ P ∧ checkS P Q = 60) ∨ (r3 = 0 ∧ r1 = P ∧ r2 ≠ Q ∧ checkS P Q = 60) := by
  cases c : okD P Q
  · have e := checkS_bad c
    by_cases h3 : r3 = 0
    · by_cases h1 : r1 = P
      · by_cases h2 : r2 = Q
        · rw [h1, h2, h3] at h
          rw [ok_normal h] at c
          cases c
        · exact Or.inr (Or.inr (Or.inr ⟨h3, h1, h2, e⟩))
      · exact Or.inr (Or.inr (Or.inl ⟨h3, h1, e⟩))
    · exact Or.inr (Or.inl ⟨h3, e⟩)
  · rw [normal_ok c] at h
    simp only [Prod.mk.injEq] at h
    exact Or.inl ⟨h.2.symm, h.1.1.symm, h.1.2.symm, checkS_ok c⟩

theorem cmp_same {a : Int × Int} : cmpS a a = 0 := by
  unfold cmpS
  have e : crossS a a = 0 := by
    unfold crossS
    rw [Int.mul_comm a.2 a.1]
    omega
  rw [e]
  split <;> rfl
theorem cmp_none {a b : Int × Int} (h : okD a.1 a.2 = false ∨ okD b.1 b.2 = false) : cmpS a b = 0 := by
  unfold cmpS
  rcases h with h | h
  · rw [h]; rfl
  · rw [h, Bool.and_false]; rfl

end Go.Proofs.Ytpmbgjoilfdkaaa

namespace Go.Proofs.Ytpmbgjoilfdkaaa
open Go.RowKit

theorem bins_small {n P Q : Int} (h1 : 1 ≤ n) (h2 : n ≤ 64) (h3 : P.natAbs ≤ 16) (h4 : 0 ≤ Q) (h5 : Q ≤ 16) : 0 ≤ (n - 1) * (P.natAbs + Q) ∧ (n - 1) * (P.natAbs + Q) ≤ 2016 := by
  have a1 : (n - 1) * (P.natAbs + Q) ≤ 63 * 32 := Int.mul_le_mul (by omega) (by omega) (by omega) (by omega)
  exact ⟨Int.mul_nonneg (by omega) (by omega), a1⟩

theorem start_small {n P Q : Int} (h1 : 1 ≤ n) (h2 : n ≤ 64) (h3 : P.natAbs ≤ 16) : 0 ≤ startS n (P, Q) ∧ startS n (P, Q) ≤ 1008 := by
  unfold startS
  dsimp only
  by_cases c : P < 0
  · rw [if_pos c, Int.zero_mul]
    exact ⟨by decide, by decide⟩
  · rw [if_neg c]
    have a1 : P * (n - 1) ≤ 16 * 63 := Int.mul_le_mul (by omega) (by omega) (by omega) (by omega)
    exact ⟨Int.mul_nonneg (by omega) (by omega), a1⟩

theorem cell_prod {x n Q : Int} (h1 : 0 ≤ x) (h2 : x < n) (h3 : n ≤ 64) (h4 : Q.natAbs ≤ 16) : (Q * x).natAbs ≤ 1008 := by
  rw [Int.natAbs_mul]
  exact Nat.mul_le_mul h4 (by omega : x.natAbs ≤ 63)

theorem binsS_bad {n : Int} {a : Int × Int} (h : (binsS n a).2 ≠ 0) (x y : Int) : indexS n a x y = (0, (binsS n a).2) := by unfold indexS; rw [if_pos h]
theorem binsS_ok {n : Int} {a : Int × Int} (h : (binsS n a).2 = 0) : 1 ≤ n ∧ n ≤ 64 ∧ okD a.1 a.2 = true := by
  unfold binsS at h
  by_cases c1 : n < 1 ∨ 64 < n
  · rw [if_pos c1] at h
    exact absurd h (by decide)
  · rw [if_neg c1] at h
    cases c2 : okD a.1 a.2
    · rw [c2, if_neg (by decide)] at h
      exact absurd h (by decide)
    · exact ⟨by omega, by omega, rfl⟩

end Go.Proofs.Ytpmbgjoilfdkaaa

namespace Go.Proofs.Ytpmbgjoilfdkaaa
open Go.RowKit

theorem binsS_good {n P Q : Int} (h1 : 1 ≤ n) (h2 : n ≤ 64) (h3 : okD P Q = true) : binsS n (P, Q) = ((n - 1) * (P.natAbs + Q) + 1, 0) := by
  unfold binsS
  rw [if_neg (by omega), if_pos h3]

theorem binsS_none {n : Int} {a : Int × Int} (h : (binsS n a).2 ≠ 0) : (binsS n a).1 = 0 := by
  unfold binsS at h ⊢
  split
  · rfl
  · rename_i c
    rw [if_neg c] at h
    split
    · rename_i c2
      rw [if_pos c2] at h
      exact absurd rfl h
    · rfl

end Go.Proofs.Ytpmbgjoilfdkaaa
