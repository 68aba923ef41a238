/- Directions: what the document's calls answer; the greatest common divisor; the document's own Check, Normal, Cmp. A struct of two cells as a result. The document's own Normal, Cmp. The document's own Cmp, Across, Bins, Index. One form, the direction across twice, the order: what the numbers come to. The program's own size, divisor, Normal. The program's own Check, Cmp, Across. The document's own Bins, Start, Index. The program's own isSide, liesIn, look, bins, origin, Bins, Index. -/
import Derived.Test.YtgbkfmjkemkajaaChecked
import Derived.ProofKit
import Derived.Below
import Derived.Laws.ResultCell
import Derived.BigRegion
import Derived.BigQuiet
import Derived.WalkKit
import Derived.WalkSpells
import Derived.WalkLawsBesides
import Derived.Deep.RegionHeld3
namespace Go.Proofs.Ytgbkfmjkemkajaa
open Go.RowKit

theorem hide {p : Prop} (h : p) : Hid p := h
theorem unhide {p : Prop} (h : Hid p) : p := h

/-- In its one form? -/
def okD (P Q : Int) : Bool := decide (0 ≤ Q ∧ Q ≤ 16 ∧ P.natAbs ≤ 16 ∧ Nat.gcd P.natAbs Q.natAbs = 1 ∧ (Q = 0 → P = 1))
def checkS (P Q : Int) : Int := if okD P Q then 0 else 60

/-- The direction of a line through the origin, and the error. -/
def normalS (p q : Int) : (Int × Int) × Int :=
  if p = 0 ∧ q = 0 then ((0, 0), 1)
  else if 16 < p.natAbs / Nat.gcd p.natAbs q.natAbs ∨ 16 < q.natAbs / Nat.gcd p.natAbs q.natAbs then ((0, 0), 60)
  else ((if q ≠ 0 ∧ (decide (p < 0)) ≠ (decide (q < 0)) then -((p.natAbs / Nat.gcd p.natAbs q.natAbs : Nat) : Int) else ((p.natAbs / Nat.gcd p.natAbs q.natAbs : Nat) : Int), ((q.natAbs / Nat.gcd p.natAbs q.natAbs : Nat) : Int)), 0)

def crossS (a b : Int × Int) : Int := a.1 * b.2 - a.2 * b.1
def cmpS (a b : Int × Int) : Int := if okD a.1 a.2 && okD b.1 b.2 then (if 0 < crossS a b then -1 else if crossS a b < 0 then 1 else 0) else 0

/-- An int. -/
def I64 (x : Int) : Prop := -9223372036854775808 ≤ x ∧ x ≤ 9223372036854775807
def dirV (a : Int × Int) : Value := .agg #[.int .i64 a.1, .int .i64 a.2]

set_option maxHeartbeats 800000 in
theorem divisorAny {a b : Nat} (w : World) :
    Calls Try.prog 74 #[.int .u64 a, .int .u64 b] w fun e w' => e = .returned (.int .u64 (Nat.gcd a b : Nat)) ∧ ∃ k, w' = w.drewN k := by
  go_enter Try.func74, Try.ntmps74
  go_wp2_with fail
  go_loopw [0, 1] (fun av bv wr => ∃ x y : Nat, av = .int .u64 x ∧ bv = .int .u64 y ∧ Hid (Nat.gcd x y = Nat.gcd a b) ∧ ∃ k, wr = w.drewN k) (fun _ bv _ => (intOf bv).toNat)
  case atStart => exact ⟨a, b, rfl, rfl, rfl, 0, rfl⟩
  case round =>
    obtain ⟨x, y, rfl, rfl, hg, k, rfl⟩ := hrel
    by_cases hy : y = 0
    · have q1 : ((y : Int) == 0) = true := by simp; omega
      subst hy
      go_wp2_with fail
      go_ret
      have h := unhide hg
      rw [Nat.gcd_zero_right] at h
      exact ⟨by rw [h]; rfl, k, rfl⟩
    · have q1 : ((y : Int) == 0) = false := by simp; omega
      have q2 : ¬ (y : Int) = 0 := by omega
      have hm : ((x : Int) % (y : Int)) = ((x % y : Nat) : Int) := rfl
      have hlt : x % y < y := Nat.mod_lt _ (by omega)
      have hg2 : Hid (Nat.gcd y (x % y) = Nat.gcd a b) := by
        rw [← unhide hg, Nat.gcd_comm x y, Nat.gcd_rec y x, Nat.gcd_comm]
        exact rfl
      generalize x % y = r at hm hlt hg2
      clear hg
      go_wp2_with fail
      go_quiet (fail)
      go_wp2_with fail
      exact ⟨⟨y, r, rfl, by rw [hm], hg2, _, World.drewN_drewN _ _ _⟩, by simp [intOf]; omega⟩

theorem abs_lt {p : Int} (h : I64 p) : p.natAbs ≤ 9223372036854775808 := by
  unfold I64 at h
  omega

set_option maxHeartbeats 800000 in
theorem sizeAny {p : Int} (h : I64 p) (w : World) :
    Calls Try.prog 73 #[.int .i64 p] w fun e w' => e = .returned (.int .u64 (p.natAbs : Nat)) ∧ w' = w := by
  unfold I64 at h
  by_cases c : p < 0
  · have q1 : (p < 0) = True := by simp; omega
    have e1 : IntKind.u64.wrap p = p + 18446744073709551616 := by rw [IntKind.wrap_u64]; omega
    have e2 : IntKind.u64.wrap (-(p + 18446744073709551616)) = (p.natAbs : Nat) := by rw [IntKind.wrap_u64]; omega
    go_enter Try.func73, Try.ntmps73
    go_wp2_with fail
    go_ret
    exact ⟨rfl, rfl⟩
  · have q1 : (p < 0) = False := by simp; omega
    have e1 : IntKind.u64.wrap p = (p.natAbs : Nat) := by rw [IntKind.wrap_u64]; omega
    go_enter Try.func73, Try.ntmps73
    go_wp2_with fail
    go_ret
    exact ⟨rfl, rfl⟩

theorem below_box (w : World) (o : Obj) (k : Nat) : Below w.heap.size w ((w.alloc o).drewN k) := by
  have h := (Below.refl w.heap.size w).alloc (Nat.le_refl _) o
  exact ⟨h.os, h.tape, h.output, h.size, h.block⟩

theorem checkS_no {P Q : Int} (h : Q < 0 ∨ 16 < Q ∨ 16 < P.natAbs ∨ Nat.gcd P.natAbs Q.natAbs ≠ 1 ∨ (Q = 0 ∧ P ≠ 1)) : checkS P Q = 60 := by
  unfold checkS okD
  rw [if_neg]
  intro c
  simp only [decide_eq_true_eq] at c
  obtain ⟨c1, c2, c3, c4, c5⟩ := c
  rcases h with h | h | h | h | h
  · omega
  · omega
  · omega
  · exact h c4
  · exact h.2 (c5 h.1)

theorem checkS_yes {P Q : Int} (h1 : ¬ Q < 0) (h2 : ¬ 16 < Q) (h3 : ¬ 16 < P.natAbs) (h4 : Nat.gcd P.natAbs Q.natAbs = 1) (h5 : Q = 0 → P = 1) : checkS P Q = 0 := by
  unfold checkS okD
  rw [if_pos]
  simp only [decide_eq_true_eq]
  exact ⟨by omega, by omega, by omega, h4, h5⟩

set_option maxHeartbeats 3200000 in
theorem checkAny {P Q : Int} (hP : I64 P) (hQ : I64 Q) (w : World) :
    Calls Try.prog 46 #[dirV (P, Q)] w fun e w' => e = .returned (.int .i64 (checkS P Q)) ∧ Below w.heap.size w w' := by
  unfold dirV
  have s1 := hide (fun w => sizeAny hP w)
  have s2 := hide (fun w => sizeAny hQ w)
  have dv := hide (fun w => divisorAny (a := P.natAbs) (b := Q.natAbs) w)
  by_cases c1 : Q < 0
  · have hS := hide (checkS_no (P := P) (Or.inl c1))
    have q1 : (Q < 0) = True := by simp; omega
    generalize checkS P Q = e at hS ⊢
    clear hP hQ c1
    generalize Nat.gcd P.natAbs Q.natAbs = gg at *
    generalize P.natAbs = a at *
    generalize Q.natAbs = b at *
    go_enter Try.func46, Try.ntmps46
    go_wp2_with fail
    go_quiet (first | (go_at_call 73; with_reducible refine Calls.quiet_of_same (unhide s1 _)) | (go_at_call 73; with_reducible refine Calls.quiet_of_same (unhide s2 _)) | (go_at_call 74; with_reducible refine Calls.quiet_of (unhide dv _)))
    go_wp2_with fail
    go_ret
    exact ⟨by rw [unhide hS]; rfl, below_box _ _ _⟩
  · have q1 : (Q < 0) = False := by simp; omega
    by_cases c2 : 16 < Q
    · have hS := hide (checkS_no (P := P) (Or.inr (Or.inl c2)))
      have q2 : (16 < Q) = True := by simp; omega
      generalize checkS P Q = e at hS ⊢
      clear hP hQ c1 c2
      generalize Nat.gcd P.natAbs Q.natAbs = gg at *
      generalize P.natAbs = a at *
      generalize Q.natAbs = b at *
      go_enter Try.func46, Try.ntmps46
      go_wp2_with fail
      go_quiet (first | (go_at_call 73; with_reducible refine Calls.quiet_of_same (unhide s1 _)) | (go_at_call 73; with_reducible refine Calls.quiet_of_same (unhide s2 _)) | (go_at_call 74; with_reducible refine Calls.quiet_of (unhide dv _)))
      go_wp2_with fail
      go_ret
      exact ⟨by rw [unhide hS]; rfl, below_box _ _ _⟩
    · have q2 : (16 < Q) = False := by simp; omega
      by_cases c3 : 16 < P.natAbs
      · have hS := hide (checkS_no (Q := Q) (Or.inr (Or.inr (Or.inl c3))))
        have q3 : (16 < (P.natAbs : Int)) = True := by simp; omega
        generalize checkS P Q = e at hS ⊢
        clear hP hQ c1 c2 c3
        generalize Nat.gcd P.natAbs Q.natAbs = gg at *
        generalize P.natAbs = a at *
        generalize Q.natAbs = b at *
        go_enter Try.func46, Try.ntmps46
        go_wp2_with fail
        go_quiet (first | (go_at_call 73; with_reducible refine Calls.quiet_of_same (unhide s1 _)) | (go_at_call 73; with_reducible refine Calls.quiet_of_same (unhide s2 _)) | (go_at_call 74; with_reducible refine Calls.quiet_of (unhide dv _)))
        go_wp2_with fail
        go_ret
        exact ⟨by rw [unhide hS]; rfl, below_box _ _ _⟩
      · have q3 : (16 < (P.natAbs : Int)) = False := by simp; omega
        by_cases c4 : Nat.gcd P.natAbs Q.natAbs = 1
        · have q4 : (((Nat.gcd P.natAbs Q.natAbs : Nat) : Int) != 1) = false := by rw [c4]; rfl
          by_cases c5 : Q = 0
          · have q5 : (Q == 0) = true := by simp; omega
            by_cases c6 : P = 1
            · have hS := hide (checkS_yes c1 c2 c3 c4 (fun _ => c6))
              have q6 : (P != 1) = false := by simp; omega
              generalize checkS P Q = e at hS ⊢
              clear hP hQ c1 c2 c3 c4 c5 c6
              generalize Nat.gcd P.natAbs Q.natAbs = gg at *
              generalize P.natAbs = a at *
              generalize Q.natAbs = b at *
              go_enter Try.func46, Try.ntmps46
              go_wp2_with fail
              go_quiet (first | (go_at_call 73; with_reducible refine Calls.quiet_of_same (unhide s1 _)) | (go_at_call 73; with_reducible refine Calls.quiet_of_same (unhide s2 _)) | (go_at_call 74; with_reducible refine Calls.quiet_of (unhide dv _)))
              go_wp2_with fail
              go_ret
              exact ⟨by rw [unhide hS]; rfl, below_box _ _ _⟩
            · have hS := hide (checkS_no (Or.inr (Or.inr (Or.inr (Or.inr ⟨c5, c6⟩)))))
              have q6 : (P != 1) = true := by simp; omega
              generalize checkS P Q = e at hS ⊢
              clear hP hQ c1 c2 c3 c4 c5 c6
              generalize Nat.gcd P.natAbs Q.natAbs = gg at *
              generalize P.natAbs = a at *
              generalize Q.natAbs = b at *
              go_enter Try.func46, Try.ntmps46
              go_wp2_with fail
              go_quiet (first | (go_at_call 73; with_reducible refine Calls.quiet_of_same (unhide s1 _)) | (go_at_call 73; with_reducible refine Calls.quiet_of_same (unhide s2 _)) | (go_at_call 74; with_reducible refine Calls.quiet_of (unhide dv _)))
              go_wp2_with fail
              go_ret
              exact ⟨by rw [unhide hS]; rfl, below_box _ _ _⟩
          · have hS := hide (checkS_yes c1 c2 c3 c4 (fun h => absurd h c5))
            have q5 : (Q == 0) = false := by simp; omega
            generalize checkS P Q = e at hS ⊢
            clear hP hQ c1 c2 c3 c4 c5
            generalize Nat.gcd P.natAbs Q.natAbs = gg at *
            generalize P.natAbs = a at *
            generalize Q.natAbs = b at *
            go_enter Try.func46, Try.ntmps46
            go_wp2_with fail
            go_quiet (first | (go_at_call 73; with_reducible refine Calls.quiet_of_same (unhide s1 _)) | (go_at_call 73; with_reducible refine Calls.quiet_of_same (unhide s2 _)) | (go_at_call 74; with_reducible refine Calls.quiet_of (unhide dv _)))
            go_wp2_with fail
            go_ret
            exact ⟨by rw [unhide hS]; rfl, below_box _ _ _⟩
        · have q4 : (((Nat.gcd P.natAbs Q.natAbs : Nat) : Int) != 1) = true := by simp; omega
          have hS := hide (checkS_no (P := P) (Q := Q) (Or.inr (Or.inr (Or.inr (Or.inl c4)))))
          generalize checkS P Q = e at hS ⊢
          clear hP hQ c1 c2 c3 c4
          generalize Nat.gcd P.natAbs Q.natAbs = gg at *
          generalize P.natAbs = a at *
          generalize Q.natAbs = b at *
          go_enter Try.func46, Try.ntmps46
          go_wp2_with fail
          go_quiet (first | (go_at_call 73; with_reducible refine Calls.quiet_of_same (unhide s1 _)) | (go_at_call 73; with_reducible refine Calls.quiet_of_same (unhide s2 _)) | (go_at_call 74; with_reducible refine Calls.quiet_of (unhide dv _)))
          go_wp2_with fail
          go_ret
          exact ⟨by rw [unhide hS]; rfl, below_box _ _ _⟩
end Go.Proofs.Ytgbkfmjkemkajaa

namespace Go.Proofs.Ytgbkfmjkemkajaa
open Go.RowKit

theorem addr_add (g j : Nat) : (⟨g, 0, none⟩ : Addr).add j = ⟨g, j, none⟩ := by unfold Addr.add; split <;> simp_all

section
variable {P : Program}

/-- A struct of two cells, read where it lies. -/
theorem load_two (w : World) (g : Nat) (ty : TypeId) (a b : Value) (d : TypeDesc) (h0 : w.cell? ⟨g, 0, none⟩ = some a) (h1 : w.cell? ⟨g, 1, none⟩ = some b)
    (hu : P.underlying ty = some d) (hd : (match d with | .struct _ | .array _ _ => true | _ => false) = true) (hi : (P.info? ty).map (·.size) = some 2) :
    (loadVar ty ⟨g, 0, none⟩).run P w = .ok (.agg #[a, b]) w := by
  have hl : (loadCells ⟨g, 0, none⟩ 2).run P w = .ok #[a, b] w :=
    run_loadCells_list (P := P) w ⟨g, 0, none⟩ [a, b] (fun j v hv => by
      rw [addr_add]
      match j, hv with
      | 0, hv => simp at hv; subst hv; exact h0
      | 1, hv => simp at hv; subst hv; exact h1)
  cases hq : P.info? ty with
  | none => simp [hq] at hi
  | some i =>
    have hs : i.size = 2 := by simpa [hq] using hi
    have hagg : (isAgg ty).run P w = .ok true w := by
      unfold isAgg
      rw [Sem.run_bind, run_underlying hu w]
      cases d <;> simp_all
    simp [loadVar, Sem.run_bind, hagg, sizeOf, typeInfo, hq, hs, hl]

theorem results_two {fn : Func} {p : Tmp} {ty : TypeId} (h : fn.results = #[.cell p ty]) (tmps : Array Value) (w : World) (g : Nat) (a b : Value) (d : TypeDesc)
    (hp : tmps.getD p undef = .pointer (some ⟨g, 0, none⟩)) (h0 : w.cell? ⟨g, 0, none⟩ = some a) (h1 : w.cell? ⟨g, 1, none⟩ = some b)
    (hu : P.underlying ty = some d) (hd : (match d with | .struct _ | .array _ _ => true | _ => false) = true) (hi : (P.info? ty).map (·.size) = some 2) :
    (results fn tmps).run P w = .ok (.agg #[a, b]) w := by
  have hp' : tmps[p]?.getD undef = .pointer (some ⟨g, 0, none⟩) := by simpa using hp
  simp [results, h, hp', asAddr, load_two w g ty a b d h0 h1 hu hd hi]

theorem results_two_tmp {fn : Func} {p u : Tmp} {ty : TypeId} (h : fn.results = #[.cell p ty, .tmp u]) (tmps : Array Value) (w : World) (g : Nat) (a b c : Value) (d : TypeDesc)
    (hp : tmps.getD p undef = .pointer (some ⟨g, 0, none⟩)) (hc : tmps.getD u undef = c) (h0 : w.cell? ⟨g, 0, none⟩ = some a) (h1 : w.cell? ⟨g, 1, none⟩ = some b)
    (hu : P.underlying ty = some d) (hd : (match d with | .struct _ | .array _ _ => true | _ => false) = true) (hi : (P.info? ty).map (·.size) = some 2) :
    (results fn tmps).run P w = .ok (.tuple #[.agg #[a, b], c]) w := by
  have hp' : tmps[p]?.getD undef = .pointer (some ⟨g, 0, none⟩) := by simpa using hp
  have hc' : tmps[u]?.getD undef = c := by simpa using hc
  simp [results, h, hp', hc', asAddr, load_two w g ty a b d h0 h1 hu hd hi]
end
end Go.Proofs.Ytgbkfmjkemkajaa

namespace Go.Proofs.Ytgbkfmjkemkajaa
open Go.RowKit

theorem cell_heap {w w' : World} (h : w'.heap = w.heap) (p : Addr) : w'.cell? p = w.cell? p := World.cell?_of_block (by rw [h])
theorem frozen_heap {w w' : World} (h : w'.heap = w.heap) (p : Addr) : w'.frozen? p = w.frozen? p := World.frozen?_of_block (by rw [h])

theorem gcd_pos {p q : Int} (h : ¬ (p = 0 ∧ q = 0)) : 0 < Nat.gcd p.natAbs q.natAbs := by
  rcases Nat.eq_zero_or_pos (Nat.gcd p.natAbs q.natAbs) with e | e
  · have := Nat.gcd_eq_zero_iff.1 e
    omega
  · exact e

theorem normalS_big {p q : Int} (h : ¬ (p = 0 ∧ q = 0)) (hb : 16 < p.natAbs / Nat.gcd p.natAbs q.natAbs ∨ 16 < q.natAbs / Nat.gcd p.natAbs q.natAbs) : normalS p q = ((0, 0), 60) := by
  unfold normalS
  rw [if_neg h, if_pos hb]

theorem normalS_turn {p q : Int} (h : ¬ (p = 0 ∧ q = 0)) (hb : ¬ (16 < p.natAbs / Nat.gcd p.natAbs q.natAbs ∨ 16 < q.natAbs / Nat.gcd p.natAbs q.natAbs)) (hs : q ≠ 0 ∧ (decide (p < 0)) ≠ (decide (q < 0))) :
    normalS p q = ((-((p.natAbs / Nat.gcd p.natAbs q.natAbs : Nat) : Int), ((q.natAbs / Nat.gcd p.natAbs q.natAbs : Nat) : Int)), 0) := by
  unfold normalS
  rw [if_neg h, if_neg hb, if_pos hs]

theorem normalS_stay {p q : Int} (h : ¬ (p = 0 ∧ q = 0)) (hb : ¬ (16 < p.natAbs / Nat.gcd p.natAbs q.natAbs ∨ 16 < q.natAbs / Nat.gcd p.natAbs q.natAbs)) (hs : ¬ (q ≠ 0 ∧ (decide (p < 0)) ≠ (decide (q < 0)))) :
    normalS p q = ((((p.natAbs / Nat.gcd p.natAbs q.natAbs : Nat) : Int), ((q.natAbs / Nat.gcd p.natAbs q.natAbs : Nat) : Int)), 0) := by
  unfold normalS
  rw [if_neg h, if_neg hb, if_neg hs]

end Go.Proofs.Ytgbkfmjkemkajaa

namespace Go.Proofs.Ytgbkfmjkemkajaa
open Go.RowKit

structure Dir64 (a : Int × Int) : Prop where
  one : I64 a.1
  two : I64 a.2

theorem okD_bounds {P Q : Int} (h : okD P Q = true) : P.natAbs ≤ 16 ∧ 0 ≤ Q ∧ Q ≤ 16 := by
  unfold okD at h
  simp only [decide_eq_true_eq] at h
  exact ⟨h.2.2.1, h.1, h.2.1⟩

theorem checkS_ok {P Q : Int} (h : okD P Q = true) : checkS P Q = 0 := by unfold checkS; rw [if_pos h]
theorem checkS_bad {P Q : Int} (h : okD P Q = false) : checkS P Q = 60 := by unfold checkS; rw [if_neg (by rw [h]; decide)]

theorem prod_small {x y : Int} (hx : x.natAbs ≤ 16) (hy : y.natAbs ≤ 16) : (x * y).natAbs ≤ 256 := by
  rw [Int.natAbs_mul]
  exact Nat.mul_le_mul hx hy

theorem two_cells (w : World) (a b : Value) (t : TypeId) {w' : World} (hb : Below (w.heap.size + 1) (w.alloc (.cells #[a, b] t)) w') : w'.cell? ⟨w.heap.size, 0, none⟩ = some a ∧ w'.cell? ⟨w.heap.size, 1, none⟩ = some b := by
  refine ⟨?_, ?_⟩
  · rw [hb.cell (p := ⟨w.heap.size, 0, none⟩) (Nat.lt_succ_self _)]; simp [go_sem]
  · rw [hb.cell (p := ⟨w.heap.size, 1, none⟩) (Nat.lt_succ_self _)]; simp [go_sem]

/-- The direction across; how many lines; the first line's number; a cell's line. -/
def acrossS (a : Int × Int) : (Int × Int) × Int := if okD a.1 a.2 then normalS (-a.2) a.1 else ((0, 0), 60)
def binsS (n : Int) (a : Int × Int) : Int × Int := if n < 1 ∨ 64 < n then (0, 1) else if okD a.1 a.2 then ((n - 1) * (a.1.natAbs + a.2) + 1, 0) else (0, 60)
def startS (n : Int) (a : Int × Int) : Int := (if a.1 < 0 then 0 else a.1) * (n - 1)
def indexS (n : Int) (a : Int × Int) (x y : Int) : Int × Int := if (binsS n a).2 ≠ 0 then (0, (binsS n a).2) else if x < 0 ∨ n ≤ x ∨ y < 0 ∨ n ≤ y then (0, 1) else (a.2 * x - a.1 * y + startS n a, 0)

theorem neg_i64 {x : Int} (h1 : 0 ≤ x) (h2 : x ≤ 16) : I64 (-x) := by unfold I64; omega

end Go.Proofs.Ytgbkfmjkemkajaa

namespace Go.Proofs.Ytgbkfmjkemkajaa
open Go.RowKit

def mulT (i j k : Nat) : Bool := k == 20 || decide (normalS (((k : Int) - 20) * ((i : Int) - 16)) (((k : Int) - 20) * j) = (((i : Int) - 16, (j : Int)), 0))
def acrossT (P Q : Int) : Bool :=
  decide ((acrossS (P, Q)).2 = 0) && decide (acrossS (acrossS (P, Q)).1 = ((P, Q), 0)) && decide ((acrossS (P, Q)).1.1 * P + (acrossS (P, Q)).1.2 * Q = 0) && decide ((acrossS (P, Q)).1.1.natAbs ≤ 16) && decide ((acrossS (P, Q)).1.2.natAbs ≤ 16)

theorem mul_all : ((List.range 33).all fun i => (List.range 17).all fun j => !okD ((i : Int) - 16) j || (List.range 41).all fun k => mulT i j k) = true := by decide +kernel
theorem across_all : ((List.range 33).all fun i => (List.range 17).all fun j => !okD ((i : Int) - 16) j || acrossT ((i : Int) - 16) j) = true := by decide +kernel

theorem mul_table {i j k : Nat} (hi : i < 33) (hj : j < 17) (h : okD ((i : Int) - 16) j = true) (hk : k < 41) (h20 : k ≠ 20) : normalS (((k : Int) - 20) * ((i : Int) - 16)) (((k : Int) - 20) * j) = (((i : Int) - 16, (j : Int)), 0) := by
  have h1 := List.all_eq_true.1 (List.all_eq_true.1 mul_all i (List.mem_range.2 hi)) j (List.mem_range.2 hj)
  rw [h] at h1
  have h2 := List.all_eq_true.1 (by simpa using h1 : ((List.range 41).all fun k => mulT i j k) = true) k (List.mem_range.2 hk)
  unfold mulT at h2
  simpa [h20] using h2

theorem across_table {i j : Nat} (hi : i < 33) (hj : j < 17) (h : okD ((i : Int) - 16) j = true) : acrossT ((i : Int) - 16) j = true := by
  have h1 := List.all_eq_true.1 (List.all_eq_true.1 across_all i (List.mem_range.2 hi)) j (List.mem_range.2 hj)
  rw [h] at h1
  simpa using h1

theorem mul_normal {P Q k : Int} (h : okD P Q = true) (hk : k ≠ 0) (h1 : -20 ≤ k) (h2 : k ≤ 20) : normalS (k * P) (k * Q) = ((P, Q), 0) := by
  obtain ⟨b1, b2, b3⟩ := okD_bounds h
  obtain ⟨i, hi⟩ : ∃ i : Nat, (i : Int) - 16 = P := ⟨(P + 16).toNat, by omega⟩
  obtain ⟨j, hj⟩ : ∃ j : Nat, (j : Int) = Q := ⟨Q.toNat, by omega⟩
  obtain ⟨m, hm⟩ : ∃ m : Nat, (m : Int) - 20 = k := ⟨(k + 20).toNat, by omega⟩
  have := mul_table (i := i) (j := j) (k := m) (by omega) (by omega) (by rw [hi, hj]; exact h) (by omega) (by omega)
  rw [hi, hj, hm] at this
  exact this

theorem across_two {P Q : Int} (h : okD P Q = true) : (acrossS (P, Q)).2 = 0 ∧ acrossS (acrossS (P, Q)).1 = ((P, Q), 0) ∧ (acrossS (P, Q)).1.1 * P + (acrossS (P, Q)).1.2 * Q = 0 ∧ (acrossS (P, Q)).1.1.natAbs ≤ 16 ∧ (acrossS (P, Q)).1.2.natAbs ≤ 16 := by
  obtain ⟨b1, b2, b3⟩ := okD_bounds h
  obtain ⟨i, hi⟩ : ∃ i : Nat, (i : Int) - 16 = P := ⟨(P + 16).toNat, by omega⟩
  obtain ⟨j, hj⟩ : ∃ j : Nat, (j : Int) = Q := ⟨Q.toNat, by omega⟩
  have := across_table (i := i) (j := j) (by omega) (by omega) (by rw [hi, hj]; exact h)
  rw [hi, hj] at this
  unfold acrossT at this
  simp only [Bool.and_eq_true, decide_eq_true_eq] at this
  exact ⟨this.1.1.1.1, this.1.1.1.2, this.1.1.2, this.1.2, this.2⟩

theorem normalS_zero : normalS 0 0 = ((0, 0), 1) := by decide +kernel

theorem okD_form {P Q : Int} (h : okD P Q = true) : 0 ≤ Q ∧ (Q = 0 → P = 1) ∧ Nat.gcd P.natAbs Q.natAbs = 1 := by
  unfold okD at h
  simp only [decide_eq_true_eq] at h
  exact ⟨h.1, h.2.2.2.2, h.2.2.2.1⟩

/-- Two directions with one angle are one. -/
theorem cross_zero {a b : Int × Int} (ha : okD a.1 a.2 = true) (hb : okD b.1 b.2 = true) (h : crossS a b = 0) : a = b := by
  obtain ⟨a1, a2, a3⟩ := okD_form ha
  obtain ⟨b1, b2, b3⟩ := okD_form hb
  unfold crossS at h
  have e : a.1 * b.2 = a.2 * b.1 := by omega
  have eN : a.1.natAbs * b.2.natAbs = a.2.natAbs * b.1.natAbs := by rw [← Int.natAbs_mul, ← Int.natAbs_mul, e]
  have d1 : a.2.natAbs ∣ b.2.natAbs := by
    have : a.2.natAbs ∣ a.1.natAbs * b.2.natAbs := ⟨b.1.natAbs, eN⟩
    exact (Nat.Coprime.symm a3).dvd_of_dvd_mul_left this
  have d2 : b.2.natAbs ∣ a.2.natAbs := by
    have : b.2.natAbs ∣ b.1.natAbs * a.2.natAbs := ⟨a.1.natAbs, by rw [Nat.mul_comm, ← eN, Nat.mul_comm]⟩
    exact (Nat.Coprime.symm b3).dvd_of_dvd_mul_left this
  have e2 : a.2 = b.2 := by
    have := Nat.dvd_antisymm d1 d2
    omega
  by_cases c : a.2 = 0
  · exact Prod.ext (by rw [a2 c, b2 (by omega)]) e2
  · refine Prod.ext ?_ e2
    rw [← e2, Int.mul_comm] at e
    exact Int.eq_of_mul_eq_mul_left c e

theorem cross_three (a b c : Int × Int) : crossS a b * c.2 + crossS b c * a.2 = crossS a c * b.2 := by
  unfold crossS
  grind

/-- The order goes on. -/
theorem cross_on {a b c : Int × Int} (ha : okD a.1 a.2 = true) (hb : okD b.1 b.2 = true) (hc : okD c.1 c.2 = true) (h1 : 0 ≤ crossS a b) (h2 : 0 ≤ crossS b c) : 0 ≤ crossS a c ∧ (0 < crossS a c ∨ (crossS a b = 0 ∧ crossS b c = 0)) := by
  by_cases e1 : crossS a b = 0
  · have := cross_zero ha hb e1
    subst this
    by_cases e2 : crossS a c = 0
    · exact ⟨by omega, Or.inr ⟨e1, e2⟩⟩
    · exact ⟨by omega, Or.inl (by omega)⟩
  · by_cases e2 : crossS b c = 0
    · have := cross_zero hb hc e2
      subst this
      exact ⟨h1, Or.inl (by omega)⟩
    · obtain ⟨a1, a2, a3⟩ := okD_form ha
      obtain ⟨b1, b2, b3⟩ := okD_form hb
      obtain ⟨c1, c2, c3⟩ := okD_form hc
      have hcp : 0 < c.2 := by
        rcases Int.lt_or_eq_of_le c1 with h | h
        · exact h
        · have x := c2 h.symm
          unfold crossS at h2
          rw [← h, x] at h2
          have : b.2 = 0 := by omega
          have y := b2 this
          exact absurd (by unfold crossS; rw [← h, x, this, y]; rfl) e2
      have hbp : 0 < b.2 := by
        rcases Int.lt_or_eq_of_le b1 with h | h
        · exact h
        · have x := b2 h.symm
          unfold crossS at h1
          rw [← h, x] at h1
          have : a.2 = 0 := by omega
          have y := a2 this
          exact absurd (by unfold crossS; rw [← h, x, this, y]; rfl) e1
      have key := cross_three a b c
      have p1 : 0 < crossS a b * c.2 := Int.mul_pos (by omega) hcp
      have p2 : 0 ≤ crossS b c * a.2 := Int.mul_nonneg h2 a1
      have p3 : 0 < crossS a c * b.2 := by omega
      have p4 : 0 < crossS a c := Int.pos_of_mul_pos_left p3 hbp
      exact ⟨by omega, Or.inl p4⟩

/-- The order of two, by its cross product. -/
theorem cmpS_ok {a b : Int × Int} (ha : okD a.1 a.2 = true) (hb : okD b.1 b.2 = true) : cmpS a b = if 0 < crossS a b then -1 else if crossS a b < 0 then 1 else 0 := by
  unfold cmpS
  rw [ha, hb]
  rfl
theorem cross_swap (a b : Int × Int) : crossS b a = -crossS a b := by
  unfold crossS
  grind
theorem cmpS_bad {a b : Int × Int} (ha : okD a.1 a.2 = false) : cmpS a b = 0 ∧ cmpS b a = 0 := by
  unfold cmpS
  rw [ha]
  constructor
  · rfl
  · rw [Bool.and_false]
    rfl
end Go.Proofs.Ytgbkfmjkemkajaa

namespace Go.Proofs.Ytgbkfmjkemkajaa
open Go.RowKit

/-- What a call leaves that makes blocks and draws, and turns nothing that was there. -/
structure Grows (w w' : World) : Prop where
  below : Below w.heap.size w w'
  drawn : w.drawn ≤ w'.drawn

theorem Grows.refl (w : World) : Grows w w := ⟨Below.refl _ _, Nat.le_refl _⟩
theorem Grows.on {a b c : World} (h : Grows a b) (k : Grows b c) : Grows a c := ⟨h.below.trans (k.below.mono h.below.size), Nat.le_trans h.drawn k.drawn⟩
theorem Grows.alloc {a w : World} (h : Grows a w) (o : Obj) : Grows a (w.alloc o) := ⟨h.below.alloc h.below.size o, h.drawn⟩
theorem Grows.setCell {a w : World} (h : Grows a w) {p : Addr} (hp : a.heap.size ≤ p.block) (u : Value) : Grows a (w.setCell p u) := ⟨h.below.setCell hp u, h.drawn⟩

set_option maxHeartbeats 800000 in
theorem ddivisorAny {a b : Nat} (w : World) :
    Calls Try.prog 78 #[.int .u64 a, .int .u64 b] w fun e w' => e = .returned (.int .u64 (Nat.gcd a b : Nat)) ∧ ∃ k, w' = w.drewN k := by
  go_enter Try.func78, Try.ntmps78
  go_wp2_with fail
  go_loopw [0, 1] (fun av bv wr => ∃ x y : Nat, av = .int .u64 x ∧ bv = .int .u64 y ∧ Hid (Nat.gcd x y = Nat.gcd a b) ∧ ∃ k, wr = w.drewN k) (fun _ bv _ => (intOf bv).toNat)
  case atStart => exact ⟨a, b, rfl, rfl, rfl, 0, rfl⟩
  case round =>
    obtain ⟨x, y, rfl, rfl, hg, k, rfl⟩ := hrel
    by_cases hy : y = 0
    · have q1 : ((y : Int) == 0) = true := by simp; omega
      subst hy
      go_wp2_with fail
      go_ret
      have h := unhide hg
      rw [Nat.gcd_zero_right] at h
      exact ⟨by rw [h]; rfl, k, rfl⟩
    · have q1 : ((y : Int) == 0) = false := by simp; omega
      have q2 : ¬ (y : Int) = 0 := by omega
      have hm : ((x : Int) % (y : Int)) = ((x % y : Nat) : Int) := rfl
      have hlt : x % y < y := Nat.mod_lt _ (by omega)
      have hg2 : Hid (Nat.gcd y (x % y) = Nat.gcd a b) := by
        rw [← unhide hg, Nat.gcd_comm x y, Nat.gcd_rec y x, Nat.gcd_comm]
        exact rfl
      generalize x % y = r at hm hlt hg2
      clear hg
      go_wp2_with fail
      go_quiet (fail)
      go_wp2_with fail
      exact ⟨⟨y, r, rfl, by rw [hm], hg2, _, World.drewN_drewN _ _ _⟩, by simp [intOf]; omega⟩

set_option maxHeartbeats 800000 in
theorem dsizeAny {p : Int} (h : I64 p) (w : World) :
    Calls Try.prog 77 #[.int .i64 p] w fun e w' => e = .returned (.int .u64 (p.natAbs : Nat)) ∧ w' = w := by
  unfold I64 at h
  by_cases c : p < 0
  · have q1 : (p < 0) = True := by simp; omega
    have e1 : IntKind.u64.wrap p = p + 18446744073709551616 := by rw [IntKind.wrap_u64]; omega
    have e2 : IntKind.u64.wrap (-(p + 18446744073709551616)) = (p.natAbs : Nat) := by rw [IntKind.wrap_u64]; omega
    go_enter Try.func77, Try.ntmps77
    go_wp2_with fail
    go_ret
    exact ⟨rfl, rfl⟩
  · have q1 : (p < 0) = False := by simp; omega
    have e1 : IntKind.u64.wrap p = (p.natAbs : Nat) := by rw [IntKind.wrap_u64]; omega
    go_enter Try.func77, Try.ntmps77
    go_wp2_with fail
    go_ret
    exact ⟨rfl, rfl⟩

set_option maxHeartbeats 6400000 in
theorem dirNormalG {p q : Int} (hp : I64 p) (hq : I64 q) (w : World) :
    Calls Try.prog 51 #[.int .i64 p, .int .i64 q] w fun e w' => e = .returned (.tuple #[dirV (normalS p q).1, .int .i64 (normalS p q).2]) ∧ Grows w w' := by
  by_cases c1 : p = 0 ∧ q = 0
  · have hS : Hid (normalS p q = ((0, 0), 1)) := by show _ = _; unfold normalS; rw [if_pos c1]
    have q1 : (p == 0) = true := by simp; omega
    have q2 : (q == 0) = true := by simp; omega
    generalize normalS p q = n at hS ⊢
    clear c1 hp hq
    go_enter Try.func51, Try.ntmps51
    go_wp2_with fail
    refine bodyPost_ret (results_two_tmp (P := Try.prog) rfl _ _ w.heap.size (.int .i64 0) (.int .i64 0) (.int .i64 1) _ rfl rfl (by simp [go_sem]) (by simp [go_sem]) Try.underlying35 rfl (by kernel_rfl)) rfl ?_
    exact ⟨by rw [unhide hS]; rfl, ⟨(Below.refl _ _).alloc (Nat.le_refl _) _, Nat.le_refl _⟩⟩
  · have s1 := hide (fun w => dsizeAny hp w)
    have s2 := hide (fun w => dsizeAny hq w)
    have dv := hide (fun w => ddivisorAny (a := p.natAbs) (b := q.natAbs) w)
    have hG := gcd_pos c1
    have hx := abs_lt hp
    have hy := abs_lt hq
    have q1 : ((p == 0) = true ∧ (q == 0) = false) ∨ (p == 0) = false := by
      by_cases c : p = 0
      · exact Or.inl ⟨by simp; omega, by simp; omega⟩
      · exact Or.inr (by simp; omega)
    have hbg := hide (fun h => normalS_big c1 h)
    have htn := hide (fun hb h => normalS_turn c1 hb h)
    have hst := hide (fun hb h => normalS_stay c1 hb h)
    have d1 : ((p.natAbs : Nat) : Int) / ((Nat.gcd p.natAbs q.natAbs : Nat) : Int) = ((p.natAbs / Nat.gcd p.natAbs q.natAbs : Nat) : Int) := rfl
    have d2 : ((q.natAbs : Nat) : Int) / ((Nat.gcd p.natAbs q.natAbs : Nat) : Int) = ((q.natAbs / Nat.gcd p.natAbs q.natAbs : Nat) : Int) := rfl
    have eA : IntKind.u64.wrap ((p.natAbs / Nat.gcd p.natAbs q.natAbs : Nat) : Int) = ((p.natAbs / Nat.gcd p.natAbs q.natAbs : Nat) : Int) := by
      have := Nat.div_le_self p.natAbs (Nat.gcd p.natAbs q.natAbs)
      generalize p.natAbs / Nat.gcd p.natAbs q.natAbs = z at this ⊢
      rw [IntKind.wrap_u64]
      omega
    have eB : IntKind.u64.wrap ((q.natAbs / Nat.gcd p.natAbs q.natAbs : Nat) : Int) = ((q.natAbs / Nat.gcd p.natAbs q.natAbs : Nat) : Int) := by
      have := Nat.div_le_self q.natAbs (Nat.gcd p.natAbs q.natAbs)
      generalize q.natAbs / Nat.gcd p.natAbs q.natAbs = z at this ⊢
      rw [IntKind.wrap_u64]
      omega
    have g0 : ¬ ((Nat.gcd p.natAbs q.natAbs : Nat) : Int) = 0 := by omega
    generalize p.natAbs / Nat.gcd p.natAbs q.natAbs = A at *
    generalize q.natAbs / Nat.gcd p.natAbs q.natAbs = B at *
    generalize normalS p q = n at *
    generalize Nat.gcd p.natAbs q.natAbs = G at *
    generalize p.natAbs = x at *
    generalize q.natAbs = y at *
    clear c1 hp hq
    go_enter Try.func51, Try.ntmps51
    rcases q1 with ⟨q1, q2⟩ | q1
    all_goals
      go_wp2_with fail
      refine (unhide s1 _).mono ?_
      rintro e w1 ⟨rfl, rfl⟩
      go_wp2_with fail
      refine (unhide s2 _).mono ?_
      rintro e w2 ⟨rfl, rfl⟩
      go_wp2_with fail
      refine (unhide dv _).mono ?_
      rintro e w3 ⟨rfl, k, hw3⟩
      have hB3 : Hid (Below w.heap.size w w3) := by rw [hw3]; exact below_box _ _ _
      have b1 : w3.cell? ⟨w.heap.size, 0, none⟩ = some (.int .i64 0) := by rw [hw3]; simp [go_sem]
      have b2 : w3.cell? ⟨w.heap.size, 1, none⟩ = some (.int .i64 0) := by rw [hw3]; simp [go_sem]
      have b3 : w3.frozen? ⟨w.heap.size, 0, none⟩ = false := by rw [hw3]; simp [go_sem]
      have b4 : w3.frozen? ⟨w.heap.size, 1, none⟩ = false := by rw [hw3]; simp [go_sem]
      have hz : w.heap.size < w3.heap.size := by rw [hw3]; simp
      have hD3 : Hid (w.drawn ≤ w3.drawn) := by rw [hw3]; exact Nat.le_add_right _ _
      clear hw3
      go_wp2_with fail
      go_quiet (fail)
      generalize hD : w3.drewN _ = w4
      have hh : w4.heap = w3.heap := by rw [← hD]; rfl
      have b1 := (cell_heap hh _).trans b1
      have b2 := (cell_heap hh _).trans b2
      have b3 := (frozen_heap hh _).trans b3
      have b4 := (frozen_heap hh _).trans b4
      have hz : w.heap.size < w4.heap.size := by rw [hh]; exact hz
      have hB4 : Hid (Below w.heap.size w w4) := by
        rw [← hD]
        have h := unhide hB3
        exact ⟨h.os, h.tape, h.output, h.size, h.block⟩
      have hD4 : Hid (w.drawn ≤ w4.drawn) := by rw [← hD]; exact Nat.le_trans (unhide hD3) (Nat.le_add_right _ _)
      clear hD hh hB3 hD3 s1 s2 dv
      by_cases c2 : 16 < A ∨ 16 < B
      · have hS := hide (unhide hbg c2)
        have q3 : ((16 < (A : Int)) = True) ∨ ((16 < (A : Int)) = False ∧ (16 < (B : Int)) = True) := by
          by_cases c : 16 < A
          · exact Or.inl (by simp; omega)
          · exact Or.inr ⟨by simp; omega, by simp; omega⟩
        clear c2 hbg htn hst
        rcases q3 with q3 | ⟨q3, q4⟩
        all_goals
          go_wp2_with fail
          refine bodyPost_ret (results_two_tmp (P := Try.prog) rfl _ _ w.heap.size (.int .i64 0) (.int .i64 0) (.int .i64 60) _ rfl rfl (by simp [go_sem, b1]) (by simp [go_sem, b2]) Try.underlying35 rfl (by kernel_rfl)) rfl ?_
          exact ⟨by rw [unhide hS]; rfl, ⟨((unhide hB4).setCell (by simp) _).setCell (by simp) _, unhide hD4⟩⟩
      · have q3 : (16 < (A : Int)) = False := by simp; omega
        have q4 : (16 < (B : Int)) = False := by simp; omega
        have lA : A ≤ 16 := by omega
        have lB : B ≤ 16 := by omega
        have hne : ¬ w.heap.size = w4.heap.size := by omega
        have hne2 : ¬ w4.heap.size = w.heap.size := by omega
        by_cases c3 : q ≠ 0 ∧ (decide (p < 0)) ≠ (decide (q < 0))
        · have hS := hide (unhide htn c2 c3)
          have q5 : (q != 0) = true := by simp; exact c3.1
          have q6 : ((p < 0) = True ∧ (q < 0) = False) ∨ ((p < 0) = False ∧ (q < 0) = True) := by
            have := c3.2
            by_cases x1 : p < 0
            · by_cases x2 : q < 0
              · simp [x1, x2] at this
              · exact Or.inl ⟨by simp; omega, by simp; omega⟩
            · by_cases x2 : q < 0
              · exact Or.inr ⟨by simp; omega, by simp; omega⟩
              · simp [x1, x2] at this
          clear c2 c3 hbg htn hst
          rcases q6 with ⟨q6, q7⟩ | ⟨q6, q7⟩
          all_goals
            go_wp2_with fail
            refine bodyPost_ret (results_two_tmp (P := Try.prog) rfl _ _ w.heap.size (.int .i64 (-(A : Int))) (.int .i64 B) (.int .i64 0) _ rfl rfl (by simp [go_sem, b1, hz]) (by simp [go_sem, b2, hz]) Try.underlying35 rfl (by kernel_rfl)) rfl ?_
            exact ⟨by rw [unhide hS]; rfl, ⟨(((unhide hB4).setCell (by simp) _).setCell (by simp) _).alloc (by simp [World.setCell]; omega) _, unhide hD4⟩⟩
        · have hS := hide (unhide hst c2 c3)
          have q5 : (q != 0) = false ∨ ((q != 0) = true ∧ (((p < 0) = True ∧ (q < 0) = True) ∨ ((p < 0) = False ∧ (q < 0) = False))) := by
            by_cases x0 : q = 0
            · exact Or.inl (by simp; exact x0)
            · refine Or.inr ⟨by simp; exact x0, ?_⟩
              by_cases x1 : p < 0
              · by_cases x2 : q < 0
                · exact Or.inl ⟨by simp; omega, by simp; omega⟩
                · exact absurd ⟨x0, by simp [x1, x2]⟩ c3
              · by_cases x2 : q < 0
                · exact absurd ⟨x0, by simp [x1, x2]⟩ c3
                · exact Or.inr ⟨by simp; omega, by simp; omega⟩
          clear c2 c3 hbg htn hst
          rcases q5 with q5 | ⟨q5, ⟨q6, q7⟩ | ⟨q6, q7⟩⟩
          all_goals
            go_wp2_with fail
            refine bodyPost_ret (results_two_tmp (P := Try.prog) rfl _ _ w.heap.size (.int .i64 A) (.int .i64 B) (.int .i64 0) _ rfl rfl (by simp [go_sem, b1, hz]) (by simp [go_sem, b2, hz]) Try.underlying35 rfl (by kernel_rfl)) rfl ?_
            exact ⟨by rw [unhide hS]; rfl, ⟨(((unhide hB4).setCell (by simp) _).setCell (by simp) _).alloc (by simp [World.setCell]; omega) _, unhide hD4⟩⟩
end Go.Proofs.Ytgbkfmjkemkajaa

namespace Go.Proofs.Ytgbkfmjkemkajaa
open Go.RowKit

theorem normal_ok {P Q : Int} (h : okD P Q = true) : normalS P Q = ((P, Q), 0) := by
  have := mul_normal (k := 1) h (by decide) (by decide) (by decide)
  rwa [Int.one_mul, Int.one_mul] at this

theorem div_self_one {a g : Nat} (hg : 2 ≤ g) (h : a = a / g) : a = 0 := by
  rcases Nat.eq_zero_or_pos a with e | e
  · exact e
  · have := Nat.div_lt_self e (show 1 < g by omega)
    omega

theorem ok_normal {P Q : Int} (h : normalS P Q = ((P, Q), 0)) : okD P Q = true := by
  by_cases c1 : P = 0 ∧ Q = 0
  · rw [c1.1, c1.2, normalS_zero] at h
    simp at h
  · have hp := gcd_pos c1
    by_cases c2 : 16 < P.natAbs / Nat.gcd P.natAbs Q.natAbs ∨ 16 < Q.natAbs / Nat.gcd P.natAbs Q.natAbs
    · rw [normalS_big c1 c2] at h
      simp at h
    · have key : (P = -((P.natAbs / Nat.gcd P.natAbs Q.natAbs : Nat) : Int) ∨ P = ((P.natAbs / Nat.gcd P.natAbs Q.natAbs : Nat) : Int)) ∧ Q = ((Q.natAbs / Nat.gcd P.natAbs Q.natAbs : Nat) : Int) ∧ (Q = 0 → P = ((P.natAbs / Nat.gcd P.natAbs Q.natAbs : Nat) : Int)) := by
        by_cases c3 : Q ≠ 0 ∧ (decide (P < 0)) ≠ (decide (Q < 0))
        · have e := (normalS_turn c1 c2 c3).symm.trans h
          simp only [Prod.mk.injEq] at e
          exact ⟨Or.inl e.1.1.symm, e.1.2.symm, fun h0 => absurd h0 c3.1⟩
        · have e := (normalS_stay c1 c2 c3).symm.trans h
          simp only [Prod.mk.injEq] at e
          exact ⟨Or.inr e.1.1.symm, e.1.2.symm, fun _ => e.1.1.symm⟩
      obtain ⟨k1, k2, k3⟩ := key
      have a1 : P.natAbs = P.natAbs / Nat.gcd P.natAbs Q.natAbs := by
        generalize P.natAbs / Nat.gcd P.natAbs Q.natAbs = z at k1
        omega
      have a2 : Q.natAbs = Q.natAbs / Nat.gcd P.natAbs Q.natAbs := by
        generalize Q.natAbs / Nat.gcd P.natAbs Q.natAbs = z at k2
        omega
      have g1 : Nat.gcd P.natAbs Q.natAbs = 1 := by
        rcases Nat.lt_or_ge 1 (Nat.gcd P.natAbs Q.natAbs) with hg | hg
        · have b1 := div_self_one hg a1
          have b2 := div_self_one hg a2
          exact absurd ⟨by omega, by omega⟩ c1
        · omega
      rw [g1, Nat.div_one, Nat.div_one] at c2
      rw [g1, Nat.div_one] at k2 k3
      unfold okD
      simp only [decide_eq_true_eq]
      refine ⟨by omega, by omega, by omega, g1, fun h0 => ?_⟩
      have h1 := k3 h0
      rw [h0] at g1
      simp at g1
      omega

theorem check_by {P Q r1 r2 r3 : Int} (h : normalS P Q = ((r1, r2), r3)) : (r3 = 0 ∧ r1 = P ∧ r2 = Q ∧ checkS P Q = 0) ∨ (r3 ≠ 0 ∧ checkS P Q = 60) ∨ (r3 = 0 ∧ r1 ≠ P ∧ checkS P Q = 60) ∨ (r3 = 0 ∧ r1 = P ∧ r2 ≠ Q ∧ checkS P Q = 60) := by
  cases c : okD P Q
  · have e := checkS_bad c
    by_cases h3 : r3 = 0
    · by_cases h1 : r1 = P
      · by_cases h2 : r2 = Q
        · rw [h1, h2, h3] at h
          rw [ok_normal h] at c
          cases c
        · exact Or.inr (Or.inr (Or.inr ⟨h3, h1, h2, e⟩))
      · exact Or.inr (Or.inr (Or.inl ⟨h3, h1, e⟩))
    · exact Or.inr (Or.inl ⟨h3, e⟩)
  · rw [normal_ok c] at h
    simp only [Prod.mk.injEq] at h
    exact Or.inl ⟨h.2.symm, h.1.1.symm, h.1.2.symm, checkS_ok c⟩

set_option maxHeartbeats 1600000 in
theorem dirCheckG {P Q : Int} (hP : I64 P) (hQ : I64 Q) (w : World) :
    Calls Try.prog 24 #[dirV (P, Q)] w fun e w' => e = .returned (.int .i64 (checkS P Q)) ∧ Grows w w' := by
  have k := hide (fun w => dirNormalG hP hQ w)
  have hc := fun r1 r2 r3 h => check_by (P := P) (Q := Q) (r1 := r1) (r2 := r2) (r3 := r3) h
  generalize normalS P Q = r at k hc
  obtain ⟨⟨r1, r2⟩, r3⟩ := r
  have hc := hc r1 r2 r3 rfl
  generalize checkS P Q = ch at hc ⊢
  unfold dirV at k ⊢
  dsimp only at k ⊢
  clear hP hQ
  go_enter Try.func24, Try.ntmps24
  go_wp2_with fail
  refine (unhide k _).mono ?_
  rintro e w1 ⟨rfl, hg1⟩
  have hb1 := hg1.below
  have hG : Hid (Grows w w1) := ((Grows.refl w).alloc _).on hg1
  have x1 : w1.cell? ⟨w.heap.size, 0, none⟩ = some (.int .i64 P) := by rw [hb1.cell (by simp)]; simp [go_sem]
  have x2 : w1.cell? ⟨w.heap.size, 1, none⟩ = some (.int .i64 Q) := by rw [hb1.cell (by simp)]; simp [go_sem]
  have hz : w.heap.size < w1.heap.size := by
    have := hb1.size
    simp at this
    omega
  have hne : ¬ w.heap.size = w1.heap.size := by omega
  have hne2 : ¬ w1.heap.size = w.heap.size := by omega
  clear hb1 hg1 k
  rcases hc with ⟨c1, c2, c3, c4⟩ | ⟨c1, c4⟩ | ⟨c1, c2, c4⟩ | ⟨c1, c2, c3, c4⟩
  · subst c1 c2 c3
    have hS := hide c4
    clear c4
    go_wp2_with fail
    go_ret
    exact ⟨by rw [unhide hS]; rfl, (unhide hG).alloc _⟩
  · have hS := hide c4
    have q1 : (r3 != 0) = true := by simp; exact c1
    clear c4 c1
    go_wp2_with fail
    go_ret
    exact ⟨by rw [unhide hS]; rfl, (unhide hG).alloc _⟩
  · subst c1
    have hS := hide c4
    have q1 : (r1 == P) = false := by simp; exact c2
    clear c4
    go_wp2_with fail
    go_ret
    exact ⟨by rw [unhide hS]; rfl, (unhide hG).alloc _⟩
  · subst c1 c2
    have hS := hide c4
    have q1 : (r2 == Q) = false := by simp; exact c3
    clear c4
    go_wp2_with fail
    go_ret
    exact ⟨by rw [unhide hS]; rfl, (unhide hG).alloc _⟩

theorem cmp_same {a : Int × Int} : cmpS a a = 0 := by
  unfold cmpS
  have e : crossS a a = 0 := by
    unfold crossS
    rw [Int.mul_comm a.2 a.1]
    omega
  rw [e]
  split <;> rfl
theorem cmp_none {a b : Int × Int} (h : okD a.1 a.2 = false ∨ okD b.1 b.2 = false) : cmpS a b = 0 := by
  unfold cmpS
  rcases h with h | h
  · rw [h]; rfl
  · rw [h, Bool.and_false]; rfl

theorem dirNormal {p q : Int} (hp : I64 p) (hq : I64 q) (w : World) :
    Calls Try.prog 51 #[.int .i64 p, .int .i64 q] w fun e w' => e = .returned (.tuple #[dirV (normalS p q).1, .int .i64 (normalS p q).2]) ∧ Below w.heap.size w w' :=
  (dirNormalG hp hq w).mono fun _ _ h => ⟨h.1, h.2.below⟩
theorem dirCheck {P Q : Int} (hP : I64 P) (hQ : I64 Q) (w : World) :
    Calls Try.prog 24 #[dirV (P, Q)] w fun e w' => e = .returned (.int .i64 (checkS P Q)) ∧ Below w.heap.size w w' :=
  (dirCheckG hP hQ w).mono fun _ _ h => ⟨h.1, h.2.below⟩
end Go.Proofs.Ytgbkfmjkemkajaa

namespace Go.Proofs.Ytgbkfmjkemkajaa
open Go.RowKit

theorem bins_small {n P Q : Int} (h1 : 1 ≤ n) (h2 : n ≤ 64) (h3 : P.natAbs ≤ 16) (h4 : 0 ≤ Q) (h5 : Q ≤ 16) : 0 ≤ (n - 1) * (P.natAbs + Q) ∧ (n - 1) * (P.natAbs + Q) ≤ 2016 := by
  have a1 : (n - 1) * (P.natAbs + Q) ≤ 63 * 32 := Int.mul_le_mul (by omega) (by omega) (by omega) (by omega)
  exact ⟨Int.mul_nonneg (by omega) (by omega), a1⟩

set_option maxHeartbeats 3200000 in
theorem binsAny {n : Int} {a : Int × Int} (ha : Dir64 a) (w : World) :
    Calls Try.prog 17 #[.int .i64 n, dirV a] w fun e w' => e = .returned (.tuple #[.int .i64 (binsS n a).1, .int .i64 (binsS n a).2]) ∧ Below w.heap.size w w' := by
  obtain ⟨P, Q⟩ := a
  have k := hide (fun w => checkAny ha.one ha.two w)
  unfold dirV at k ⊢
  dsimp only at k ⊢
  unfold binsS
  dsimp only
  clear ha
  by_cases c1 : n < 1 ∨ 64 < n
  · rw [if_pos c1]
    have q1 : ((n < 1) = True) ∨ ((n < 1) = False ∧ (64 < n) = True) := by
      by_cases c : n < 1
      · exact Or.inl (by simp; omega)
      · exact Or.inr ⟨by simp; omega, by simp; omega⟩
    clear c1 k
    rcases q1 with q1 | ⟨q1, q2⟩
    all_goals
      go_enter Try.func17, Try.ntmps17
      go_wp2_with fail
      go_ret2
      exact ⟨rfl, (Below.refl _ _).alloc (Nat.le_refl _) _⟩
  · have q1 : (n < 1) = False := by simp; omega
    have q2 : (64 < n) = False := by simp; omega
    have r1 : 1 ≤ n := by omega
    have r2 : n ≤ 64 := by omega
    rw [if_neg c1]
    cases hok : okD P Q
    · rw [checkS_bad hok] at k
      clear c1 hok
      go_enter Try.func17, Try.ntmps17
      go_wp2_with fail
      refine (unhide k _).mono ?_
      rintro e w1 ⟨rfl, hb1⟩
      have hB : Hid (Below w.heap.size w w1) := ((Below.refl _ _).alloc (Nat.le_refl _) _).trans (hb1.mono (by simp))
      clear hb1
      go_wp2_with fail
      go_ret2
      exact ⟨rfl, unhide hB⟩
    · rw [checkS_ok hok] at k
      obtain ⟨b1, b2, b3⟩ := okD_bounds hok
      obtain ⟨s1, s2⟩ := bins_small (P := P) r1 r2 b1 b2 b3
      rw [if_pos rfl]
      clear c1 hok
      by_cases c2 : P < 0
      · have e1 : ((P.natAbs : Nat) : Int) = -P := by omega
        rw [e1] at s1 s2 ⊢
        have n1 : IntKind.i64.wrap ((n - 1) * (-P + Q)) = (n - 1) * (-P + Q) := by
          generalize (n - 1) * (-P + Q) = z at s1 s2 ⊢
          rw [IntKind.wrap_i64]
          omega
        generalize hz : (n - 1) * (-P + Q) = z at *
        have b4 : -16 ≤ P := by omega
        have q5 : (P < -P) = True := by simp; omega
        have q6 : (-P < P) = False := by simp; omega
        clear e1 b1
        go_enter Try.func17, Try.ntmps17
        go_wp2_with fail
        refine (unhide k _).mono ?_
        rintro e w1 ⟨rfl, hb1⟩
        have hB : Hid (Below w.heap.size w w1) := ((Below.refl _ _).alloc (Nat.le_refl _) _).trans (hb1.mono (by simp))
        have x1 : w1.cell? ⟨w.heap.size, 0, none⟩ = some (.int .i64 P) := by rw [hb1.cell (by simp)]; simp [go_sem]
        have x2 : w1.cell? ⟨w.heap.size, 1, none⟩ = some (.int .i64 Q) := by rw [hb1.cell (by simp)]; simp [go_sem]
        clear hb1
        go_wp2_with fail
        go_ret2
        exact ⟨rfl, unhide hB⟩
      · have e1 : ((P.natAbs : Nat) : Int) = P := by omega
        rw [e1] at s1 s2 ⊢
        have n1 : IntKind.i64.wrap ((n - 1) * (P + Q)) = (n - 1) * (P + Q) := by
          generalize (n - 1) * (P + Q) = z at s1 s2 ⊢
          rw [IntKind.wrap_i64]
          omega
        generalize hz : (n - 1) * (P + Q) = z at *
        have b4 : 0 ≤ P := by omega
        have b5 : P ≤ 16 := by omega
        have q5 : (P < -P) = False := by simp; omega
        have q6 : (-P ≤ P) = True := by simp; omega
        clear e1 b1
        go_enter Try.func17, Try.ntmps17
        go_wp2_with fail
        refine (unhide k _).mono ?_
        rintro e w1 ⟨rfl, hb1⟩
        have hB : Hid (Below w.heap.size w w1) := ((Below.refl _ _).alloc (Nat.le_refl _) _).trans (hb1.mono (by simp))
        have x1 : w1.cell? ⟨w.heap.size, 0, none⟩ = some (.int .i64 P) := by rw [hb1.cell (by simp)]; simp [go_sem]
        have x2 : w1.cell? ⟨w.heap.size, 1, none⟩ = some (.int .i64 Q) := by rw [hb1.cell (by simp)]; simp [go_sem]
        clear hb1
        go_wp2_with fail
        go_ret2
        exact ⟨rfl, unhide hB⟩

set_option maxHeartbeats 1600000 in
/-- The number of the line of (0, 0). -/
theorem startAny {n P Q : Int} (h1 : 1 ≤ n) (h2 : n ≤ 64) (h3 : P.natAbs ≤ 16) (w : World) :
    Calls Try.prog 75 #[.int .i64 n, .agg #[.int .i64 P, .int .i64 Q]] w fun e w' => e = .returned (.int .i64 (startS n (P, Q))) ∧ Below w.heap.size w w' := by
  unfold startS
  dsimp only
  by_cases c2 : P < 0
  · rw [if_pos c2]
    have q5 : (P < 0) = True := by simp; omega
    clear h3 c2
    go_enter Try.func75, Try.ntmps75
    go_wp2_with fail
    go_ret
    exact ⟨by rw [Int.zero_mul]; rfl, (Below.refl _ _).alloc (Nat.le_refl _) _⟩
  · rw [if_neg c2]
    have q5 : (P < 0) = False := by simp; omega
    have hs : 0 ≤ P * (n - 1) ∧ P * (n - 1) ≤ 1008 := by
      have a1 : P * (n - 1) ≤ 16 * 63 := Int.mul_le_mul (by omega) (by omega) (by omega) (by omega)
      exact ⟨Int.mul_nonneg (by omega) (by omega), a1⟩
    have b4 : 0 ≤ P := by omega
    have b5 : P ≤ 16 := by omega
    have n1 : IntKind.i64.wrap (P * (n - 1)) = P * (n - 1) := by
      generalize P * (n - 1) = z at hs ⊢
      rw [IntKind.wrap_i64]
      omega
    generalize hz : P * (n - 1) = z at *
    clear h3 c2
    go_enter Try.func75, Try.ntmps75
    go_wp2_with fail
    go_ret
    exact ⟨rfl, (Below.refl _ _).alloc (Nat.le_refl _) _⟩

theorem start_small {n P Q : Int} (h1 : 1 ≤ n) (h2 : n ≤ 64) (h3 : P.natAbs ≤ 16) : 0 ≤ startS n (P, Q) ∧ startS n (P, Q) ≤ 1008 := by
  unfold startS
  dsimp only
  by_cases c : P < 0
  · rw [if_pos c, Int.zero_mul]
    exact ⟨by decide, by decide⟩
  · rw [if_neg c]
    have a1 : P * (n - 1) ≤ 16 * 63 := Int.mul_le_mul (by omega) (by omega) (by omega) (by omega)
    exact ⟨Int.mul_nonneg (by omega) (by omega), a1⟩

theorem cell_prod {x n Q : Int} (h1 : 0 ≤ x) (h2 : x < n) (h3 : n ≤ 64) (h4 : Q.natAbs ≤ 16) : (Q * x).natAbs ≤ 1008 := by
  rw [Int.natAbs_mul]
  exact Nat.mul_le_mul h4 (by omega : x.natAbs ≤ 63)

theorem binsS_bad {n : Int} {a : Int × Int} (h : (binsS n a).2 ≠ 0) (x y : Int) : indexS n a x y = (0, (binsS n a).2) := by unfold indexS; rw [if_pos h]
theorem binsS_ok {n : Int} {a : Int × Int} (h : (binsS n a).2 = 0) : 1 ≤ n ∧ n ≤ 64 ∧ okD a.1 a.2 = true := by
  unfold binsS at h
  by_cases c1 : n < 1 ∨ 64 < n
  · rw [if_pos c1] at h
    exact absurd h (by decide)
  · rw [if_neg c1] at h
    cases c2 : okD a.1 a.2
    · rw [c2, if_neg (by decide)] at h
      exact absurd h (by decide)
    · exact ⟨by omega, by omega, rfl⟩

end Go.Proofs.Ytgbkfmjkemkajaa

namespace Go.Proofs.Ytgbkfmjkemkajaa
open Go.RowKit

set_option maxHeartbeats 800000 in
theorem sideAny {n : Int} (w : World) :
    Calls Try.prog 23 #[.int .i64 n] w fun e w' => e = .returned (.bool (decide (1 ≤ n ∧ n ≤ 64))) ∧ w' = w := by
  by_cases c1 : 1 ≤ n
  · have q1 : (1 ≤ n) = True := by simp; omega
    by_cases c2 : n ≤ 64
    · have q2 : (n ≤ 64) = True := by simp; omega
      rw [decide_eq_true (⟨c1, c2⟩ : 1 ≤ n ∧ n ≤ 64)]
      clear c1 c2
      go_enter Try.func23, Try.ntmps23
      go_wp2_with fail
      go_ret
      exact ⟨rfl, rfl⟩
    · have q2 : (n ≤ 64) = False := by simp; omega
      rw [decide_eq_false (fun h => c2 h.2 : ¬ (1 ≤ n ∧ n ≤ 64))]
      clear c1 c2
      go_enter Try.func23, Try.ntmps23
      go_wp2_with fail
      go_ret
      exact ⟨rfl, rfl⟩
  · have q1 : (1 ≤ n) = False := by simp; omega
    rw [decide_eq_false (fun h => c1 h.1 : ¬ (1 ≤ n ∧ n ≤ 64))]
    clear c1
    go_enter Try.func23, Try.ntmps23
    go_wp2_with fail
    go_ret
    exact ⟨rfl, rfl⟩

set_option maxHeartbeats 800000 in
theorem liesAny {n x : Int} (w : World) :
    Calls Try.prog 67 #[.int .i64 n, .int .i64 x] w fun e w' => e = .returned (.bool (decide (0 ≤ x ∧ x < n))) ∧ w' = w := by
  by_cases c1 : 0 ≤ x
  · have q1 : (0 ≤ x) = True := by simp; omega
    by_cases c2 : x < n
    · have q2 : (x < n) = True := by simp; omega
      rw [decide_eq_true (⟨c1, c2⟩ : 0 ≤ x ∧ x < n)]
      clear c1 c2
      go_enter Try.func67, Try.ntmps67
      go_wp2_with fail
      go_ret
      exact ⟨rfl, rfl⟩
    · have q2 : (x < n) = False := by simp; omega
      rw [decide_eq_false (fun h => c2 h.2 : ¬ (0 ≤ x ∧ x < n))]
      clear c1 c2
      go_enter Try.func67, Try.ntmps67
      go_wp2_with fail
      go_ret
      exact ⟨rfl, rfl⟩
  · have q1 : (0 ≤ x) = False := by simp; omega
    rw [decide_eq_false (fun h => c1 h.1 : ¬ (0 ≤ x ∧ x < n))]
    clear c1
    go_enter Try.func67, Try.ntmps67
    go_wp2_with fail
    go_ret
    exact ⟨rfl, rfl⟩

set_option maxHeartbeats 1600000 in
/-- The errors that all calls about lines begin with. -/
theorem lookAny {n : Int} {a : Int × Int} (ha : Dir64 a) (w : World) :
    Calls Try.prog 66 #[.int .i64 n, dirV a] w fun e w' => e = .returned (.int .i64 (binsS n a).2) ∧ Below w.heap.size w w' := by
  obtain ⟨P, Q⟩ := a
  have k := hide (fun w => dirCheck ha.one ha.two w)
  have ks := hide (fun w => sideAny (n := n) w)
  unfold dirV at k ⊢
  dsimp only at k ⊢
  clear ha
  by_cases c1 : n < 1 ∨ 64 < n
  · have hS : Hid ((binsS n (P, Q)).2 = 1) := by show _ = _; unfold binsS; rw [if_pos c1]
    rw [decide_eq_false (by omega : ¬ (1 ≤ n ∧ n ≤ 64))] at ks
    generalize (binsS n (P, Q)).2 = r at hS ⊢
    clear c1 k
    go_enter Try.func66, Try.ntmps66
    go_wp2_with fail
    refine (unhide ks _).mono ?_
    rintro e w1 ⟨rfl, rfl⟩
    go_wp2_with fail
    go_ret
    exact ⟨by rw [unhide hS]; rfl, (Below.refl _ _).alloc (Nat.le_refl _) _⟩
  · have hS : Hid ((binsS n (P, Q)).2 = checkS P Q) := by
      show _ = _
      unfold binsS checkS
      rw [if_neg c1]
      dsimp only
      split <;> rfl
    rw [decide_eq_true (by omega : 1 ≤ n ∧ n ≤ 64)] at ks
    generalize (binsS n (P, Q)).2 = r at hS ⊢
    generalize checkS P Q = ch at hS k
    clear c1
    go_enter Try.func66, Try.ntmps66
    go_wp2_with fail
    refine (unhide ks _).mono ?_
    rintro e w1 ⟨rfl, rfl⟩
    go_wp2_with fail
    refine (unhide k _).mono ?_
    rintro e w1 ⟨rfl, hb1⟩
    have hB : Hid (Below w.heap.size w w1) := ((Below.refl _ _).alloc (Nat.le_refl _) _).trans (hb1.mono (by simp))
    clear hb1
    go_wp2_with fail
    go_ret
    exact ⟨by rw [unhide hS]; rfl, unhide hB⟩

set_option maxHeartbeats 1600000 in
/-- How many lines. -/
theorem dbinsAny {n P Q : Int} (h1 : 1 ≤ n) (h2 : n ≤ 64) (h3 : P.natAbs ≤ 16) (h4 : 0 ≤ Q) (h5 : Q ≤ 16) (w : World) :
    Calls Try.prog 69 #[.int .i64 n, .agg #[.int .i64 P, .int .i64 Q]] w fun e w' => e = .returned (.int .i64 ((n - 1) * (P.natAbs + Q) + 1)) ∧ Below w.heap.size w w' := by
  obtain ⟨s1, s2⟩ := bins_small (P := P) h1 h2 h3 h4 h5
  by_cases c2 : P < 0
  · have e1 : ((P.natAbs : Nat) : Int) = -P := by omega
    rw [e1] at s1 s2 ⊢
    have n1 : IntKind.i64.wrap ((n - 1) * (-P + Q)) = (n - 1) * (-P + Q) := by
      generalize (n - 1) * (-P + Q) = z at s1 s2 ⊢
      rw [IntKind.wrap_i64]
      omega
    generalize hz : (n - 1) * (-P + Q) = z at *
    have b4 : -16 ≤ P := by omega
    have q5 : (P < -P) = True := by simp; omega
    have q6 : (-P < P) = False := by simp; omega
    clear e1 h3
    go_enter Try.func69, Try.ntmps69
    go_wp2_with fail
    go_ret
    exact ⟨rfl, (Below.refl _ _).alloc (Nat.le_refl _) _⟩
  · have e1 : ((P.natAbs : Nat) : Int) = P := by omega
    rw [e1] at s1 s2 ⊢
    have n1 : IntKind.i64.wrap ((n - 1) * (P + Q)) = (n - 1) * (P + Q) := by
      generalize (n - 1) * (P + Q) = z at s1 s2 ⊢
      rw [IntKind.wrap_i64]
      omega
    generalize hz : (n - 1) * (P + Q) = z at *
    have b4 : 0 ≤ P := by omega
    have b5 : P ≤ 16 := by omega
    have q5 : (P < -P) = False := by simp; omega
    have q6 : (-P ≤ P) = True := by simp; omega
    clear e1 h3
    go_enter Try.func69, Try.ntmps69
    go_wp2_with fail
    go_ret
    exact ⟨rfl, (Below.refl _ _).alloc (Nat.le_refl _) _⟩

set_option maxHeartbeats 1600000 in
/-- The number of the line of (0, 0). -/
theorem originAny {n P Q : Int} (h1 : 1 ≤ n) (h2 : n ≤ 64) (h3 : P.natAbs ≤ 16) (w : World) :
    Calls Try.prog 68 #[.int .i64 n, .agg #[.int .i64 P, .int .i64 Q]] w fun e w' => e = .returned (.int .i64 (startS n (P, Q))) ∧ Below w.heap.size w w' := by
  unfold startS
  dsimp only
  by_cases c2 : P < 0
  · rw [if_pos c2]
    have q5 : (P < 0) = True := by simp; omega
    clear h3 c2
    go_enter Try.func68, Try.ntmps68
    go_wp2_with fail
    go_ret
    exact ⟨by rw [Int.zero_mul]; rfl, (Below.refl _ _).alloc (Nat.le_refl _) _⟩
  · rw [if_neg c2]
    have q5 : (P < 0) = False := by simp; omega
    have hs : 0 ≤ P * (n - 1) ∧ P * (n - 1) ≤ 1008 := by
      have a1 : P * (n - 1) ≤ 16 * 63 := Int.mul_le_mul (by omega) (by omega) (by omega) (by omega)
      exact ⟨Int.mul_nonneg (by omega) (by omega), a1⟩
    have b4 : 0 ≤ P := by omega
    have b5 : P ≤ 16 := by omega
    have n1 : IntKind.i64.wrap (P * (n - 1)) = P * (n - 1) := by
      generalize P * (n - 1) = z at hs ⊢
      rw [IntKind.wrap_i64]
      omega
    generalize hz : P * (n - 1) = z at *
    clear h3 c2
    go_enter Try.func68, Try.ntmps68
    go_wp2_with fail
    go_ret
    exact ⟨rfl, (Below.refl _ _).alloc (Nat.le_refl _) _⟩


theorem binsS_good {n P Q : Int} (h1 : 1 ≤ n) (h2 : n ≤ 64) (h3 : okD P Q = true) : binsS n (P, Q) = ((n - 1) * (P.natAbs + Q) + 1, 0) := by
  unfold binsS
  rw [if_neg (by omega), if_pos h3]

theorem binsS_none {n : Int} {a : Int × Int} (h : (binsS n a).2 ≠ 0) : (binsS n a).1 = 0 := by
  unfold binsS at h ⊢
  split
  · rfl
  · rename_i c
    rw [if_neg c] at h
    split
    · rename_i c2
      rw [if_pos c2] at h
      exact absurd rfl h
    · rfl

set_option maxHeartbeats 1600000 in
theorem dirBins {n : Int} {a : Int × Int} (ha : Dir64 a) (w : World) :
    Calls Try.prog 39 #[.int .i64 n, dirV a] w fun e w' => e = .returned (.tuple #[.int .i64 (binsS n a).1, .int .i64 (binsS n a).2]) ∧ Below w.heap.size w w' := by
  have k := hide (fun w => lookAny (n := n) ha w)
  by_cases c1 : (binsS n a).2 = 0
  · obtain ⟨r1, r2, r3⟩ := binsS_ok c1
    obtain ⟨P, Q⟩ := a
    obtain ⟨b1, b2, b3⟩ := okD_bounds r3
    have kb := hide (fun w => dbinsAny r1 r2 b1 b2 b3 w)
    rw [binsS_good r1 r2 r3] at k ⊢
    dsimp only at k kb ⊢
    generalize (n - 1) * (P.natAbs + Q) + 1 = bn at kb ⊢
    unfold dirV at k ⊢
    dsimp only at k ⊢
    clear c1 r3 b1 ha
    go_enter Try.func39, Try.ntmps39
    go_wp2_with fail
    refine (unhide k _).mono ?_
    rintro e w1 ⟨rfl, hb1⟩
    have hB : Hid (Below w.heap.size w w1) := ((Below.refl _ _).alloc (Nat.le_refl _) _).trans (hb1.mono (by simp))
    have x1 : w1.cell? ⟨w.heap.size, 0, none⟩ = some (.int .i64 P) := by rw [hb1.cell (by simp)]; simp [go_sem]
    have x2 : w1.cell? ⟨w.heap.size, 1, none⟩ = some (.int .i64 Q) := by rw [hb1.cell (by simp)]; simp [go_sem]
    clear hb1
    go_wp2_with fail
    refine (unhide kb _).mono ?_
    rintro e w2 ⟨rfl, hb2⟩
    have hB2 : Hid (Below w.heap.size w w2) := (unhide hB).trans (hb2.mono (unhide hB).size)
    clear hb2
    go_wp2_with fail
    go_ret2
    exact ⟨rfl, unhide hB2⟩
  · have hI := hide (binsS_none c1)
    generalize binsS n a = bb at *
    obtain ⟨P, Q⟩ := a
    obtain ⟨bn, be⟩ := bb
    unfold dirV at *
    dsimp only at *
    have q1 : (be != 0) = true := by simp; exact c1
    clear c1 ha
    go_enter Try.func39, Try.ntmps39
    go_wp2_with fail
    refine (unhide k _).mono ?_
    rintro e w1 ⟨rfl, hb1⟩
    have hB : Hid (Below w.heap.size w w1) := ((Below.refl _ _).alloc (Nat.le_refl _) _).trans (hb1.mono (by simp))
    clear hb1
    go_wp2_with fail
    go_ret2
    exact ⟨by rw [unhide hI]; rfl, unhide hB⟩

set_option maxHeartbeats 3200000 in
theorem dirIndex {n x y : Int} {a : Int × Int} (ha : Dir64 a) (w : World) :
    Calls Try.prog 38 #[.int .i64 n, dirV a, .int .i64 x, .int .i64 y] w fun e w' => e = .returned (.tuple #[.int .i64 (indexS n a x y).1, .int .i64 (indexS n a x y).2]) ∧ Below w.heap.size w w' := by
  have k := hide (fun w => lookAny (n := n) ha w)
  by_cases c1 : (binsS n a).2 = 0
  · obtain ⟨r1, r2, r3⟩ := binsS_ok c1
    have hI : Hid (indexS n a x y = if x < 0 ∨ n ≤ x ∨ y < 0 ∨ n ≤ y then (0, 1) else (a.2 * x - a.1 * y + startS n a, 0)) := by
      show _ = _
      unfold indexS
      rw [if_neg (by omega)]
    rw [c1] at k
    obtain ⟨P, Q⟩ := a
    obtain ⟨b1, b2, b3⟩ := okD_bounds r3
    dsimp only at b1 b2 b3 hI
    have ks := hide (fun w => originAny (Q := Q) r1 r2 b1 w)
    obtain ⟨s1, s2⟩ := start_small (Q := Q) r1 r2 b1
    generalize startS n (P, Q) = st at *
    have kx := hide (fun w => liesAny (n := n) (x := x) w)
    have ky := hide (fun w => liesAny (n := n) (x := y) w)
    unfold dirV at *
    dsimp only at *
    by_cases c2 : x < 0 ∨ n ≤ x ∨ y < 0 ∨ n ≤ y
    · rw [if_pos c2] at hI
      generalize indexS n (P, Q) x y = r at hI ⊢
      clear c1 r3 ks
      by_cases d1 : 0 ≤ x ∧ x < n
      · rw [decide_eq_true d1] at kx
        rw [decide_eq_false (by omega : ¬ (0 ≤ y ∧ y < n))] at ky
        clear d1 c2
        go_enter Try.func38, Try.ntmps38
        go_wp2_with fail
        refine (unhide k _).mono ?_
        rintro e w1 ⟨rfl, hb1⟩
        have hB : Hid (Below w.heap.size w w1) := ((Below.refl _ _).alloc (Nat.le_refl _) _).trans (hb1.mono (by simp))
        clear hb1
        go_wp2_with fail
        refine (unhide kx _).mono ?_
        rintro e w2 ⟨rfl, hw2⟩
        obtain rfl := hw2.symm
        go_wp2_with fail
        refine (unhide ky _).mono ?_
        rintro e w3 ⟨rfl, hw3⟩
        obtain rfl := hw3.symm
        go_wp2_with fail
        go_ret2
        exact ⟨by rw [unhide hI]; rfl, unhide hB⟩
      · rw [decide_eq_false d1] at kx
        clear d1 c2
        go_enter Try.func38, Try.ntmps38
        go_wp2_with fail
        refine (unhide k _).mono ?_
        rintro e w1 ⟨rfl, hb1⟩
        have hB : Hid (Below w.heap.size w w1) := ((Below.refl _ _).alloc (Nat.le_refl _) _).trans (hb1.mono (by simp))
        clear hb1
        go_wp2_with fail
        refine (unhide kx _).mono ?_
        rintro e w2 ⟨rfl, hw2⟩
        obtain rfl := hw2.symm
        go_wp2_with fail
        go_ret2
        exact ⟨by rw [unhide hI]; rfl, unhide hB⟩
    · rw [if_neg c2] at hI
      rw [decide_eq_true (by omega : 0 ≤ x ∧ x < n)] at kx
      rw [decide_eq_true (by omega : 0 ≤ y ∧ y < n)] at ky
      have m1 := cell_prod (x := x) (n := n) (Q := Q) (by omega) (by omega) r2 (by omega)
      have m2 := cell_prod (x := y) (n := n) (Q := P) (by omega) (by omega) r2 b1
      have n1 : IntKind.i64.wrap (Q * x) = Q * x := by rw [IntKind.wrap_i64]; omega
      have n2 : IntKind.i64.wrap (P * y) = P * y := by rw [IntKind.wrap_i64]; omega
      generalize hX : Q * x = X at *
      generalize hY : P * y = Y at *
      have g1 : -1008 ≤ X ∧ X ≤ 1008 := by omega
      have g2 : -1008 ≤ Y ∧ Y ≤ 1008 := by omega
      have n3 : IntKind.i64.wrap (X - Y) = X - Y := by rw [IntKind.wrap_i64]; omega
      have n4 : IntKind.i64.wrap (X - Y + st) = X - Y + st := by rw [IntKind.wrap_i64]; omega
      generalize indexS n (P, Q) x y = r at hI ⊢
      clear c1 c2 r3 m1 m2 b1
      go_enter Try.func38, Try.ntmps38
      go_wp2_with fail
      refine (unhide k _).mono ?_
      rintro e w1 ⟨rfl, hb1⟩
      have hB : Hid (Below w.heap.size w w1) := ((Below.refl _ _).alloc (Nat.le_refl _) _).trans (hb1.mono (by simp))
      have x1 : w1.cell? ⟨w.heap.size, 0, none⟩ = some (.int .i64 P) := by rw [hb1.cell (by simp)]; simp [go_sem]
      have x2 : w1.cell? ⟨w.heap.size, 1, none⟩ = some (.int .i64 Q) := by rw [hb1.cell (by simp)]; simp [go_sem]
      have hz : Hid (w.heap.size < w1.heap.size) := by
        have := hb1.size
        simp at this
        exact this
      have fct : Hid (∀ w8 : World, Below w1.heap.size w1 w8 → w8.cell? ⟨w.heap.size, 0, none⟩ = some (.int .i64 P) ∧ w8.cell? ⟨w.heap.size, 1, none⟩ = some (.int .i64 Q)) :=
        fun w8 h => ⟨(h.cell (p := ⟨w.heap.size, 0, none⟩) (unhide hz)).trans x1, (h.cell (p := ⟨w.heap.size, 1, none⟩) (unhide hz)).trans x2⟩
      clear hb1 k
      go_wp2_with fail
      refine (unhide kx _).mono ?_
      rintro e w2 ⟨rfl, hw2⟩
      obtain rfl := hw2.symm
      go_wp2_with fail
      refine (unhide ky _).mono ?_
      rintro e w3 ⟨rfl, hw3⟩
      obtain rfl := hw3.symm
      go_wp2_with fail
      go_region_held3 (fun w8 => w8.cell? ⟨w.heap.size, 0, none⟩ = some (.int .i64 P) ∧ w8.cell? ⟨w.heap.size, 1, none⟩ = some (.int .i64 Q))
        (first | exact unhide fct _ (unhide hv1) | go_keep)
        (first
        | (go_at_call 68; with_reducible refine (unhide ks _).mono ?_; rintro e v1 ⟨rfl, hx1⟩
           have hv1 : Hid (Below w1.heap.size w1 v1) := ⟨hx1.os, hx1.tape, hx1.output, hx1.size, hx1.block⟩
           clear hx1))
      go_wp2_with fail
      go_ret2
      exact ⟨by rw [unhide hI]; rfl, (unhide hB).trans ((unhide hv1).mono (unhide hB).size)⟩
  · have hI := hide (binsS_bad c1 x y)
    generalize binsS n a = bb at *
    generalize indexS n a x y = r at hI ⊢
    obtain ⟨P, Q⟩ := a
    obtain ⟨bn, be⟩ := bb
    unfold dirV at *
    dsimp only at *
    have q1 : (be != 0) = true := by simp; exact c1
    clear c1
    go_enter Try.func38, Try.ntmps38
    go_wp2_with fail
    refine (unhide k _).mono ?_
    rintro e w1 ⟨rfl, hb1⟩
    have hB : Hid (Below w.heap.size w w1) := ((Below.refl _ _).alloc (Nat.le_refl _) _).trans (hb1.mono (by simp))
    clear hb1
    go_wp2_with fail
    go_ret2
    exact ⟨by rw [unhide hI]; rfl, unhide hB⟩
end Go.Proofs.Ytgbkfmjkemkajaa
