/- Directions: what the document's calls answer; the greatest common divisor; the document's own Check, Normal, Cmp. A struct of two cells as a result. The document's own Normal, Cmp. The document's own Cmp, Across, Bins, Index. -/
import Derived.Test.YtfnbcpeipoobkaaGreatM14
import Derived.ProofKit
import Derived.Below
import Derived.Laws.ResultCell
import Derived.BigRegion
import Derived.BigQuiet
import Derived.WalkKit
import Derived.WalkSpells
import Derived.WalkLawsBesides
namespace Go.Proofs.YtfnbcpeipoobkaaGreat
open Go.RowKit

theorem hide {p : Prop} (h : p) : Hid p := h
theorem unhide {p : Prop} (h : Hid p) : p := h

/-- In its one form? -/
def okD (P Q : Int) : Bool := decide (0 ≤ Q ∧ Q ≤ 16 ∧ P.natAbs ≤ 16 ∧ Nat.gcd P.natAbs Q.natAbs = 1 ∧ (Q = 0 → P = 1))
def checkS (P Q : Int) : Int := if okD P Q then 0 else 60

/-- The direction of a line through the origin, and the error. -/
def normalS (p q : Int) : (Int × Int) × Int :=
  if p = 0 ∧ q = 0 then ((0, 0), 1)
  else if 16 < p.natAbs / Nat.gcd p.natAbs q.natAbs ∨ 16 < q.natAbs / Nat.gcd p.natAbs q.natAbs then ((0, 0), 60)
  else ((if q ≠ 0 ∧ (decide (p < 0)) ≠ (decide (q < 0)) then -((p.natAbs / Nat.gcd p.natAbs q.natAbs : Nat) : Int) else ((p.natAbs / Nat.gcd p.natAbs q.natAbs : Nat) : Int), ((q.natAbs / Nat.gcd p.natAbs q.natAbs : Nat) : Int)), 0)

def crossS (a b : Int × Int) : Int := a.1 * b.2 - a.2 * b.1
def cmpS (a b : Int × Int) : Int := if okD a.1 a.2 && okD b.1 b.2 then (if 0 < crossS a b then -1 else if crossS a b < 0 then 1 else 0) else 0

/-- An int. -/
def I64 (x : Int) : Prop := -9223372036854775808 ≤ x ∧ x ≤ 9223372036854775807
def dirV (a : Int × Int) : Value := .agg #[.int .i64 a.1, .int .i64 a.2]

theorem abs_lt {p : Int} (h : I64 p) : p.natAbs ≤ 9223372036854775808 := by
  unfold I64 at h
  omega

theorem below_box (w : World) (o : Obj) (k : Nat) : Below w.heap.size w ((w.alloc o).drewN k) := by
  have h := (Below.refl w.heap.size w).alloc (Nat.le_refl _) o
  exact ⟨h.os, h.tape, h.output, h.size, h.block⟩

theorem checkS_no {P Q : Int} (h : Q < 0 ∨ 16 < Q ∨ 16 < P.natAbs ∨ Nat.gcd P.natAbs Q.natAbs ≠ 1 ∨ (Q = 0 ∧ P ≠ 1)) : checkS P Q = 60 := by
  unfold checkS okD
  rw [if_neg]
  intro c
  simp only [decide_eq_true_eq] at c
  obtain ⟨c1, c2, c3, c4, c5⟩ := c
  rcases h with h | h | h | h | h
  · omega
  · omega
  · omega
  · exact h c4
  · exact h.2 (c5 h.1)

theorem checkS_yes {P Q : Int} (h1 : ¬ Q < 0) (h2 : ¬ 16 < Q) (h3 : ¬ 16 < P.natAbs) (h4 : Nat.gcd P.natAbs Q.natAbs = 1) (h5 : Q = 0 → P = 1) : checkS P Q = 0 := by
  unfold checkS okD
  rw [if_pos]
  simp only [decide_eq_true_eq]
  exact ⟨by omega, by omega, by omega, h4, h5⟩

end Go.Proofs.YtfnbcpeipoobkaaGreat

namespace Go.Proofs.YtfnbcpeipoobkaaGreat
open Go.RowKit

theorem addr_add (g j : Nat) : (⟨g, 0, none⟩ : Addr).add j = ⟨g, j, none⟩ := by unfold Addr.add; split <;> simp_all

section
variable {P : Program}

/-- A struct of two cells, read where it lies. -/
theorem load_two (w : World) (g : Nat) (ty : TypeId) (a b : Value) (d : TypeDesc) (h0 : w.cell? ⟨g, 0, none⟩ = some a) (h1 : w.cell? ⟨g, 1, none⟩ = some b)
    (hu : P.underlying ty = some d) (hd : (match d with | .struct _ | .array _ _ => true | _ => false) = true) (hi : (P.info? ty).map (·.size) = some 2) :
    (loadVar ty ⟨g, 0, none⟩).run P w = .ok (.agg #[a, b]) w := by
  have hl : (loadCells ⟨g, 0, none⟩ 2).run P w = .ok #[a, b] w :=
    run_loadCells_list (P := P) w ⟨g, 0, none⟩ [a, b] (fun j v hv => by
      rw [addr_add]
      match j, hv with
      | 0, hv => simp at hv; subst hv; exact h0
      | 1, hv => simp at hv; subst hv; exact h1)
  cases hq : P.info? ty with
  | none => simp [hq] at hi
  | some i =>
    have hs : i.size = 2 := by simpa [hq] using hi
    have hagg : (isAgg ty).run P w = .ok true w := by
      unfold isAgg
      rw [Sem.run_bind, run_underlying hu w]
      cases d <;> simp_all
    simp [loadVar, Sem.run_bind, hagg, sizeOf, typeInfo, hq, hs, hl]

theorem results_two {fn : Func} {p : Tmp} {ty : TypeId} (h : fn.results = #[.cell p ty]) (tmps : Array Value) (w : World) (g : Nat) (a b : Value) (d : TypeDesc)
    (hp : tmps.getD p undef = .pointer (some ⟨g, 0, none⟩)) (h0 : w.cell? ⟨g, 0, none⟩ = some a) (h1 : w.cell? ⟨g, 1, none⟩ = some b)
    (hu : P.underlying ty = some d) (hd : (match d with | .struct _ | .array _ _ => true | _ => false) = true) (hi : (P.info? ty).map (·.size) = some 2) :
    (results fn tmps).run P w = .ok (.agg #[a, b]) w := by
  have hp' : tmps[p]?.getD undef = .pointer (some ⟨g, 0, none⟩) := by simpa using hp
  simp [results, h, hp', asAddr, load_two w g ty a b d h0 h1 hu hd hi]

theorem results_two_tmp {fn : Func} {p u : Tmp} {ty : TypeId} (h : fn.results = #[.cell p ty, .tmp u]) (tmps : Array Value) (w : World) (g : Nat) (a b c : Value) (d : TypeDesc)
    (hp : tmps.getD p undef = .pointer (some ⟨g, 0, none⟩)) (hc : tmps.getD u undef = c) (h0 : w.cell? ⟨g, 0, none⟩ = some a) (h1 : w.cell? ⟨g, 1, none⟩ = some b)
    (hu : P.underlying ty = some d) (hd : (match d with | .struct _ | .array _ _ => true | _ => false) = true) (hi : (P.info? ty).map (·.size) = some 2) :
    (results fn tmps).run P w = .ok (.tuple #[.agg #[a, b], c]) w := by
  have hp' : tmps[p]?.getD undef = .pointer (some ⟨g, 0, none⟩) := by simpa using hp
  have hc' : tmps[u]?.getD undef = c := by simpa using hc
  simp [results, h, hp', hc', asAddr, load_two w g ty a b d h0 h1 hu hd hi]
end
end Go.Proofs.YtfnbcpeipoobkaaGreat

namespace Go.Proofs.YtfnbcpeipoobkaaGreat
open Go.RowKit

theorem cell_heap {w w' : World} (h : w'.heap = w.heap) (p : Addr) : w'.cell? p = w.cell? p := World.cell?_of_block (by rw [h])
theorem frozen_heap {w w' : World} (h : w'.heap = w.heap) (p : Addr) : w'.frozen? p = w.frozen? p := World.frozen?_of_block (by rw [h])

theorem gcd_pos {p q : Int} (h : ¬ (p = 0 ∧ q = 0)) : 0 < Nat.gcd p.natAbs q.natAbs := by
  rcases Nat.eq_zero_or_pos (Nat.gcd p.natAbs q.natAbs) with e | e
  · have := Nat.gcd_eq_zero_iff.1 e
    omega
  · exact e

theorem normalS_big {p q : Int} (h : ¬ (p = 0 ∧ q = 0)) (hb : 16 < p.natAbs / Nat.gcd p.natAbs q.natAbs ∨ 16 < q.natAbs / Nat.gcd p.natAbs q.natAbs) : normalS p q = ((0, 0), 60) := by
  unfold normalS
  rw [if_neg h, if_pos hb]

theorem normalS_turn {p q : Int} (h : ¬ (p = 0 ∧ q = 0)) (hb : ¬ (16 < p.natAbs / Nat.gcd p.natAbs q.natAbs ∨ 16 < q.natAbs / Nat.gcd p.natAbs q.natAbs)) (hs : q ≠ 0 ∧ (decide (p < 0)) ≠ (decide (q < 0))) :
    normalS p q = ((-((p.natAbs / Nat.gcd p.natAbs q.natAbs : Nat) : Int), ((q.natAbs / Nat.gcd p.natAbs q.natAbs : Nat) : Int)), 0) := by
  unfold normalS
  rw [if_neg h, if_neg hb, if_pos hs]

theorem normalS_stay {p q : Int} (h : ¬ (p = 0 ∧ q = 0)) (hb : ¬ (16 < p.natAbs / Nat.gcd p.natAbs q.natAbs ∨ 16 < q.natAbs / Nat.gcd p.natAbs q.natAbs)) (hs : ¬ (q ≠ 0 ∧ (decide (p < 0)) ≠ (decide (q < 0)))) :
    normalS p q = ((((p.natAbs / Nat.gcd p.natAbs q.natAbs : Nat) : Int), ((q.natAbs / Nat.gcd p.natAbs q.natAbs : Nat) : Int)), 0) := by
  unfold normalS
  rw [if_neg h, if_neg hb, if_neg hs]

end Go.Proofs.YtfnbcpeipoobkaaGreat

namespace Go.Proofs.YtfnbcpeipoobkaaGreat
open Go.RowKit

structure Dir64 (a : Int × Int) : Prop where
  one : I64 a.1
  two : I64 a.2

theorem okD_bounds {P Q : Int} (h : okD P Q = true) : P.natAbs ≤ 16 ∧ 0 ≤ Q ∧ Q ≤ 16 := by
  unfold okD at h
  simp only [decide_eq_true_eq] at h
  exact ⟨h.2.2.1, h.1, h.2.1⟩

theorem checkS_ok {P Q : Int} (h : okD P Q = true) : checkS P Q = 0 := by unfold checkS; rw [if_pos h]
theorem checkS_bad {P Q : Int} (h : okD P Q = false) : checkS P Q = 60 := by unfold checkS; rw [if_neg (by rw [h]; decide)]

theorem prod_small {x y : Int} (hx : x.natAbs ≤ 16) (hy : y.natAbs ≤ 16) : (x * y).natAbs ≤ 256 := by
  rw [Int.natAbs_mul]
  exact Nat.mul_le_mul hx hy

theorem two_cells (w : World) (a b : Value) (t : TypeId) {w' : World} (hb : Below (w.heap.size + 1) (w.alloc (.cells #[a, b] t)) w') : w'.cell? ⟨w.heap.size, 0, none⟩ = some a ∧ w'.cell? ⟨w.heap.size, 1, none⟩ = some b := by
  refine ⟨?_, ?_⟩
  · rw [hb.cell (p := ⟨w.heap.size, 0, none⟩) (Nat.lt_succ_self _)]; simp [go_sem]
  · rw [hb.cell (p := ⟨w.heap.size, 1, none⟩) (Nat.lt_succ_self _)]; simp [go_sem]

/-- The direction across; how many lines; the first line's number; a cell's line. -/
def acrossS (a : Int × Int) : (Int × Int) × Int := if okD a.1 a.2 then normalS (-a.2) a.1 else ((0, 0), 60)
def binsS (n : Int) (a : Int × Int) : Int × Int := if n < 1 ∨ 64 < n then (0, 1) else if okD a.1 a.2 then ((n - 1) * (a.1.natAbs + a.2) + 1, 0) else (0, 60)
def startS (n : Int) (a : Int × Int) : Int := (if a.1 < 0 then 0 else a.1) * (n - 1)
def indexS (n : Int) (a : Int × Int) (x y : Int) : Int × Int := if (binsS n a).2 ≠ 0 then (0, (binsS n a).2) else if x < 0 ∨ n ≤ x ∨ y < 0 ∨ n ≤ y then (0, 1) else (a.2 * x - a.1 * y + startS n a, 0)

theorem neg_i64 {x : Int} (h1 : 0 ≤ x) (h2 : x ≤ 16) : I64 (-x) := by unfold I64; omega

end Go.Proofs.YtfnbcpeipoobkaaGreat
