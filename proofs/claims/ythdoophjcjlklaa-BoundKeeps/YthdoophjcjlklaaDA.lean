/- Directions: what the document's calls answer; the greatest common divisor; the document's own Check, Normal, Cmp. -/
import Derived.Test.YthdoophjcjlklaaChecked
import Derived.ProofKit
import Derived.Below
import Derived.Laws.ResultCell
import Derived.BigRegion
import Derived.BigQuiet
import Derived.WalkKit
import Derived.WalkSpells
import Derived.WalkLawsBesides
namespace Go.Proofs.Ythdoophjcjlklaa
open Go.RowKit

theorem hide {p : Prop} (h : p) : Hid p := h
theorem unhide {p : Prop} (h : Hid p) : p := h

/-- In its one form? -/
def okD (P Q : Int) : Bool := decide (0 ≤ Q ∧ Q ≤ 16 ∧ P.natAbs ≤ 16 ∧ Nat.gcd P.natAbs Q.natAbs = 1 ∧ (Q = 0 → P = 1))
def checkS (P Q : Int) : Int := if okD P Q then 0 else 60

/-- The direction of a line through the origin, and the error. -/
def normalS (p q : Int) : (Int × Int) × Int :=
  if p = 0 ∧ q = 0 then ((0, 0), 1)
  else if 16 < p.natAbs / Nat.gcd p.natAbs q.natAbs ∨ 16 < q.natAbs / Nat.gcd p.natAbs q.natAbs then ((0, 0), 60)
  else ((if q ≠ 0 ∧ (decide (p < 0)) ≠ (decide (q < 0)) then -((p.natAbs / Nat.gcd p.natAbs q.natAbs : Nat) : Int) else ((p.natAbs / Nat.gcd p.natAbs q.natAbs : Nat) : Int), ((q.natAbs / Nat.gcd p.natAbs q.natAbs : Nat) : Int)), 0)

def crossS (a b : Int × Int) : Int := a.1 * b.2 - a.2 * b.1
def cmpS (a b : Int × Int) : Int := if okD a.1 a.2 && okD b.1 b.2 then (if 0 < crossS a b then -1 else if crossS a b < 0 then 1 else 0) else 0

/-- An int. -/
def I64 (x : Int) : Prop := -9223372036854775808 ≤ x ∧ x ≤ 9223372036854775807
def dirV (a : Int × Int) : Value := .agg #[.int .i64 a.1, .int .i64 a.2]

set_option maxHeartbeats 800000 in
theorem divisorAny {a b : Nat} (w : World) :
    Calls Try.prog 109 #[.int .u64 a, .int .u64 b] w fun e w' => e = .returned (.int .u64 (Nat.gcd a b : Nat)) ∧ ∃ k, w' = w.drewN k := by
  go_enter Try.func109, Try.ntmps109
  go_wp2_with fail
  go_loopw [0, 1] (fun av bv wr => ∃ x y : Nat, av = .int .u64 x ∧ bv = .int .u64 y ∧ Hid (Nat.gcd x y = Nat.gcd a b) ∧ ∃ k, wr = w.drewN k) (fun _ bv _ => (intOf bv).toNat)
  case atStart => exact ⟨a, b, rfl, rfl, rfl, 0, rfl⟩
  case round =>
    obtain ⟨x, y, rfl, rfl, hg, k, rfl⟩ := hrel
    by_cases hy : y = 0
    · have q1 : ((y : Int) == 0) = true := by simp; omega
      subst hy
      go_wp2_with fail
      go_ret
      have h := unhide hg
      rw [Nat.gcd_zero_right] at h
      exact ⟨by rw [h]; rfl, k, rfl⟩
    · have q1 : ((y : Int) == 0) = false := by simp; omega
      have q2 : ¬ (y : Int) = 0 := by omega
      have hm : ((x : Int) % (y : Int)) = ((x % y : Nat) : Int) := rfl
      have hlt : x % y < y := Nat.mod_lt _ (by omega)
      have hg2 : Hid (Nat.gcd y (x % y) = Nat.gcd a b) := by
        rw [← unhide hg, Nat.gcd_comm x y, Nat.gcd_rec y x, Nat.gcd_comm]
        exact rfl
      generalize x % y = r at hm hlt hg2
      clear hg
      go_wp2_with fail
      go_quiet (fail)
      go_wp2_with fail
      exact ⟨⟨y, r, rfl, by rw [hm], hg2, _, World.drewN_drewN _ _ _⟩, by simp [intOf]; omega⟩

theorem abs_lt {p : Int} (h : I64 p) : p.natAbs ≤ 9223372036854775808 := by
  unfold I64 at h
  omega

set_option maxHeartbeats 800000 in
theorem sizeAny {p : Int} (h : I64 p) (w : World) :
    Calls Try.prog 108 #[.int .i64 p] w fun e w' => e = .returned (.int .u64 (p.natAbs : Nat)) ∧ w' = w := by
  unfold I64 at h
  by_cases c : p < 0
  · have q1 : (p < 0) = True := by simp; omega
    have e1 : IntKind.u64.wrap p = p + 18446744073709551616 := by rw [IntKind.wrap_u64]; omega
    have e2 : IntKind.u64.wrap (-(p + 18446744073709551616)) = (p.natAbs : Nat) := by rw [IntKind.wrap_u64]; omega
    go_enter Try.func108, Try.ntmps108
    go_wp2_with fail
    go_ret
    exact ⟨rfl, rfl⟩
  · have q1 : (p < 0) = False := by simp; omega
    have e1 : IntKind.u64.wrap p = (p.natAbs : Nat) := by rw [IntKind.wrap_u64]; omega
    go_enter Try.func108, Try.ntmps108
    go_wp2_with fail
    go_ret
    exact ⟨rfl, rfl⟩

theorem below_box (w : World) (o : Obj) (k : Nat) : Below w.heap.size w ((w.alloc o).drewN k) := by
  have h := (Below.refl w.heap.size w).alloc (Nat.le_refl _) o
  exact ⟨h.os, h.tape, h.output, h.size, h.block⟩

theorem checkS_no {P Q : Int} (h : Q < 0 ∨ 16 < Q ∨ 16 < P.natAbs ∨ Nat.gcd P.natAbs Q.natAbs ≠ 1 ∨ (Q = 0 ∧ P ≠ 1)) : checkS P Q = 60 := by
  unfold checkS okD
  rw [if_neg]
  intro c
  simp only [decide_eq_true_eq] at c
  obtain ⟨c1, c2, c3, c4, c5⟩ := c
  rcases h with h | h | h | h | h
  · omega
  · omega
  · omega
  · exact h c4
  · exact h.2 (c5 h.1)

theorem checkS_yes {P Q : Int} (h1 : ¬ Q < 0) (h2 : ¬ 16 < Q) (h3 : ¬ 16 < P.natAbs) (h4 : Nat.gcd P.natAbs Q.natAbs = 1) (h5 : Q = 0 → P = 1) : checkS P Q = 0 := by
  unfold checkS okD
  rw [if_pos]
  simp only [decide_eq_true_eq]
  exact ⟨by omega, by omega, by omega, h4, h5⟩

set_option maxHeartbeats 3200000 in
theorem checkAny {P Q : Int} (hP : I64 P) (hQ : I64 Q) (w : World) :
    Calls Try.prog 91 #[dirV (P, Q)] w fun e w' => e = .returned (.int .i64 (checkS P Q)) ∧ Below w.heap.size w w' := by
  unfold dirV
  have s1 := hide (fun w => sizeAny hP w)
  have s2 := hide (fun w => sizeAny hQ w)
  have dv := hide (fun w => divisorAny (a := P.natAbs) (b := Q.natAbs) w)
  by_cases c1 : Q < 0
  · have hS := hide (checkS_no (P := P) (Or.inl c1))
    have q1 : (Q < 0) = True := by simp; omega
    generalize checkS P Q = e at hS ⊢
    clear hP hQ c1
    generalize Nat.gcd P.natAbs Q.natAbs = gg at *
    generalize P.natAbs = a at *
    generalize Q.natAbs = b at *
    go_enter Try.func91, Try.ntmps91
    go_wp2_with fail
    go_quiet (first | (go_at_call 108; with_reducible refine Calls.quiet_of_same (unhide s1 _)) | (go_at_call 108; with_reducible refine Calls.quiet_of_same (unhide s2 _)) | (go_at_call 109; with_reducible refine Calls.quiet_of (unhide dv _)))
    go_wp2_with fail
    go_ret
    exact ⟨by rw [unhide hS]; rfl, below_box _ _ _⟩
  · have q1 : (Q < 0) = False := by simp; omega
    by_cases c2 : 16 < Q
    · have hS := hide (checkS_no (P := P) (Or.inr (Or.inl c2)))
      have q2 : (16 < Q) = True := by simp; omega
      generalize checkS P Q = e at hS ⊢
      clear hP hQ c1 c2
      generalize Nat.gcd P.natAbs Q.natAbs = gg at *
      generalize P.natAbs = a at *
      generalize Q.natAbs = b at *
      go_enter Try.func91, Try.ntmps91
      go_wp2_with fail
      go_quiet (first | (go_at_call 108; with_reducible refine Calls.quiet_of_same (unhide s1 _)) | (go_at_call 108; with_reducible refine Calls.quiet_of_same (unhide s2 _)) | (go_at_call 109; with_reducible refine Calls.quiet_of (unhide dv _)))
      go_wp2_with fail
      go_ret
      exact ⟨by rw [unhide hS]; rfl, below_box _ _ _⟩
    · have q2 : (16 < Q) = False := by simp; omega
      by_cases c3 : 16 < P.natAbs
      · have hS := hide (checkS_no (Q := Q) (Or.inr (Or.inr (Or.inl c3))))
        have q3 : (16 < (P.natAbs : Int)) = True := by simp; omega
        generalize checkS P Q = e at hS ⊢
        clear hP hQ c1 c2 c3
        generalize Nat.gcd P.natAbs Q.natAbs = gg at *
        generalize P.natAbs = a at *
        generalize Q.natAbs = b at *
        go_enter Try.func91, Try.ntmps91
        go_wp2_with fail
        go_quiet (first | (go_at_call 108; with_reducible refine Calls.quiet_of_same (unhide s1 _)) | (go_at_call 108; with_reducible refine Calls.quiet_of_same (unhide s2 _)) | (go_at_call 109; with_reducible refine Calls.quiet_of (unhide dv _)))
        go_wp2_with fail
        go_ret
        exact ⟨by rw [unhide hS]; rfl, below_box _ _ _⟩
      · have q3 : (16 < (P.natAbs : Int)) = False := by simp; omega
        by_cases c4 : Nat.gcd P.natAbs Q.natAbs = 1
        · have q4 : (((Nat.gcd P.natAbs Q.natAbs : Nat) : Int) != 1) = false := by rw [c4]; rfl
          by_cases c5 : Q = 0
          · have q5 : (Q == 0) = true := by simp; omega
            by_cases c6 : P = 1
            · have hS := hide (checkS_yes c1 c2 c3 c4 (fun _ => c6))
              have q6 : (P != 1) = false := by simp; omega
              generalize checkS P Q = e at hS ⊢
              clear hP hQ c1 c2 c3 c4 c5 c6
              generalize Nat.gcd P.natAbs Q.natAbs = gg at *
              generalize P.natAbs = a at *
              generalize Q.natAbs = b at *
              go_enter Try.func91, Try.ntmps91
              go_wp2_with fail
              go_quiet (first | (go_at_call 108; with_reducible refine Calls.quiet_of_same (unhide s1 _)) | (go_at_call 108; with_reducible refine Calls.quiet_of_same (unhide s2 _)) | (go_at_call 109; with_reducible refine Calls.quiet_of (unhide dv _)))
              go_wp2_with fail
              go_ret
              exact ⟨by rw [unhide hS]; rfl, below_box _ _ _⟩
            · have hS := hide (checkS_no (Or.inr (Or.inr (Or.inr (Or.inr ⟨c5, c6⟩)))))
              have q6 : (P != 1) = true := by simp; omega
              generalize checkS P Q = e at hS ⊢
              clear hP hQ c1 c2 c3 c4 c5 c6
              generalize Nat.gcd P.natAbs Q.natAbs = gg at *
              generalize P.natAbs = a at *
              generalize Q.natAbs = b at *
              go_enter Try.func91, Try.ntmps91
              go_wp2_with fail
              go_quiet (first | (go_at_call 108; with_reducible refine Calls.quiet_of_same (unhide s1 _)) | (go_at_call 108; with_reducible refine Calls.quiet_of_same (unhide s2 _)) | (go_at_call 109; with_reducible refine Calls.quiet_of (unhide dv _)))
              go_wp2_with fail
              go_ret
              exact ⟨by rw [unhide hS]; rfl, below_box _ _ _⟩
          · have hS := hide (checkS_yes c1 c2 c3 c4 (fun h => absurd h c5))
            have q5 : (Q == 0) = false := by simp; omega
            generalize checkS P Q = e at hS ⊢
            clear hP hQ c1 c2 c3 c4 c5
            generalize Nat.gcd P.natAbs Q.natAbs = gg at *
            generalize P.natAbs = a at *
            generalize Q.natAbs = b at *
            go_enter Try.func91, Try.ntmps91
            go_wp2_with fail
            go_quiet (first | (go_at_call 108; with_reducible refine Calls.quiet_of_same (unhide s1 _)) | (go_at_call 108; with_reducible refine Calls.quiet_of_same (unhide s2 _)) | (go_at_call 109; with_reducible refine Calls.quiet_of (unhide dv _)))
            go_wp2_with fail
            go_ret
            exact ⟨by rw [unhide hS]; rfl, below_box _ _ _⟩
        · have q4 : (((Nat.gcd P.natAbs Q.natAbs : Nat) : Int) != 1) = true := by simp; omega
          have hS := hide (checkS_no (P := P) (Q := Q) (Or.inr (Or.inr (Or.inr (Or.inl c4)))))
          generalize checkS P Q = e at hS ⊢
          clear hP hQ c1 c2 c3 c4
          generalize Nat.gcd P.natAbs Q.natAbs = gg at *
          generalize P.natAbs = a at *
          generalize Q.natAbs = b at *
          go_enter Try.func91, Try.ntmps91
          go_wp2_with fail
          go_quiet (first | (go_at_call 108; with_reducible refine Calls.quiet_of_same (unhide s1 _)) | (go_at_call 108; with_reducible refine Calls.quiet_of_same (unhide s2 _)) | (go_at_call 109; with_reducible refine Calls.quiet_of (unhide dv _)))
          go_wp2_with fail
          go_ret
          exact ⟨by rw [unhide hS]; rfl, below_box _ _ _⟩
end Go.Proofs.Ythdoophjcjlklaa
