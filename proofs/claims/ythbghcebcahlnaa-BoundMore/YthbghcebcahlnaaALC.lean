/- All: the order of its last region. -/
import Derived.Test.YthbghcebcahlnaaALB
import Derived.Orders
namespace Go.Proofs.Ythbghcebcahlnaa
open Go.RowKit

theorem go_next {ops : Array Oper} {fuel t : Nat} {listed : Array Bool} {rs : List Nat} (hr : Region.ready .any ops listed = rs) {i : Nat} (hi : rs[t % rs.length]? = some i) : Region.linearise.go .any ops (fuel + 1) t listed [] = i :: Region.linearise.go .any ops fuel (t / rs.length) (listed.setIfInBounds i true) [] := by
  subst hr
  simp only [Region.linearise.go]
  change (match (Region.ready .any ops listed)[t % (Region.ready .any ops listed).length]? with
      | some i => Region.linearise.go .any ops fuel (t / (Region.ready .any ops listed).length) (listed.setIfInBounds i true) [i]
      | none => [].reverse) = _
  rw [hi]
  dsimp only
  rw [linearise_go_acc]
  rfl
theorem go_one {ops : Array Oper} {fuel t : Nat} {listed : Array Bool} {i : Nat} (hr : Region.ready .any ops listed = [i]) : ∃ t', Region.linearise.go .any ops (fuel + 1) t listed [] = i :: Region.linearise.go .any ops fuel t' (listed.setIfInBounds i true) [] :=
  ⟨_, go_next hr (by simp [Nat.mod_one])⟩
def body7 (fn : Func) : Code := fn.body.getD .skip
def ops9 (fn : Func) : Array Oper := cops (cfst (csnd (csnd (csnd (csnd (body7 fn))))))
def lst (s0 s1 s2 s3 s4 s5 s6 s7 s8 : Bool) : Array Bool := #[s0, s1, s2, s3, s4, s5, s6, s7, s8]
/-- What is left behind the call. -/
def rest9 (s0 s1 : Bool) : List Nat := if s1 then [6, 7, 8] else if s0 then [1, 6, 7, 8] else [0, 1, 6, 7, 8]
theorem rest9_tt (t : Nat) : Region.linearise.go .any (ops9 Try.f7) 3 t (lst true true true true true true false false false) [] = [6, 7, 8] := by
  obtain ⟨t1, e1⟩ := go_one (ops := (ops9 Try.f7)) (fuel := 2) (t := t) (listed := lst true true true true true true false false false) (i := 6) (by kernel_rfl)
  obtain ⟨t2, e2⟩ := go_one (ops := (ops9 Try.f7)) (fuel := 1) (t := t1) (listed := lst true true true true true true true false false) (i := 7) (by kernel_rfl)
  obtain ⟨t3, e3⟩ := go_one (ops := (ops9 Try.f7)) (fuel := 0) (t := t2) (listed := lst true true true true true true true true false) (i := 8) (by kernel_rfl)
  rw [e1, show (lst true true true true true true false false false).setIfInBounds 6 true = lst true true true true true true true false false from rfl, e2, show (lst true true true true true true true false false).setIfInBounds 7 true = lst true true true true true true true true false from rfl, e3]
  rfl
theorem rest9_tf (t : Nat) : Region.linearise.go .any (ops9 Try.f7) 4 t (lst true false true true true true false false false) [] = [1, 6, 7, 8] := by
  obtain ⟨t1, e1⟩ := go_one (ops := (ops9 Try.f7)) (fuel := 3) (t := t) (listed := lst true false true true true true false false false) (i := 1) (by kernel_rfl)
  rw [e1, show (lst true false true true true true false false false).setIfInBounds 1 true = lst true true true true true true false false false from rfl, rest9_tt]
theorem rest9_ff (t : Nat) : Region.linearise.go .any (ops9 Try.f7) 5 t (lst false false true true true true false false false) [] = [0, 1, 6, 7, 8] := by
  obtain ⟨t1, e1⟩ := go_one (ops := (ops9 Try.f7)) (fuel := 4) (t := t) (listed := lst false false true true true true false false false) (i := 0) (by kernel_rfl)
  rw [e1, show (lst false false true true true true false false false).setIfInBounds 0 true = lst true false true true true true false false false from rfl, rest9_tf]
section
variable (T0 : List Value) (bg : Nat) (nV gV dV : Value)
/-- The temporaries while the region goes on. -/
def aS (s0 s1 s2 s3 s4 : Bool) : Act := ⟨(T0 ++ [bif s0 then .pointer (some ⟨bg, 0, none⟩) else undef, bif s1 then nV else undef, bif s2 then gV else undef, bif s3 then dV else undef, bif s4 then .int .i64 1 else undef, undef, undef]).toArray, []⟩
end
/-- How many are to come. -/
def toCome (s0 s1 s2 s3 s4 : Bool) : Nat := (!s0).toNat + (!s1).toNat + (!s2).toNat + (!s3).toNat + (!s4).toNat
theorem pick1 (t : Nat) (i : Nat) : [i][t % [i].length]? = some i := by simp [Nat.mod_one]
theorem pick_mem (t : Nat) (l : List Nat) (h : l ≠ []) : ∃ i, i ∈ l ∧ l[t % l.length]? = some i := by
  have : t % l.length < l.length := Nat.mod_lt _ (List.length_pos_iff.2 h)
  exact ⟨l[t % l.length], List.getElem_mem this, by simp [this]⟩
end Go.Proofs.Ythbghcebcahlnaa
