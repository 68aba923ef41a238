/- All: the order of its last region. All: its last region up to the call of byWorkers. All: from its entry to its call of byWorkers. All: behind its call of byWorkers. -/
import Derived.Test.YthbghcebcahlnaaM35
import Derived.Orders
import Derived.Test.YthbghcebcahlnaaM29
namespace Go.Proofs.Ythbghcebcahlnaa
open Go.RowKit

theorem go_next {ops : Array Oper} {fuel t : Nat} {listed : Array Bool} {rs : List Nat} (hr : Region.ready .any ops listed = rs) {i : Nat} (hi : rs[t % rs.length]? = some i) : Region.linearise.go .any ops (fuel + 1) t listed [] = i :: Region.linearise.go .any ops fuel (t / rs.length) (listed.setIfInBounds i true) [] := by
  subst hr
  simp only [Region.linearise.go]
  change (match (Region.ready .any ops listed)[t % (Region.ready .any ops listed).length]? with
      | some i => Region.linearise.go .any ops fuel (t / (Region.ready .any ops listed).length) (listed.setIfInBounds i true) [i]
      | none => [].reverse) = _
  rw [hi]
  dsimp only
  rw [linearise_go_acc]
  rfl
theorem go_one {ops : Array Oper} {fuel t : Nat} {listed : Array Bool} {i : Nat} (hr : Region.ready .any ops listed = [i]) : ∃ t', Region.linearise.go .any ops (fuel + 1) t listed [] = i :: Region.linearise.go .any ops fuel t' (listed.setIfInBounds i true) [] :=
  ⟨_, go_next hr (by simp [Nat.mod_one])⟩
def body7 (fn : Func) : Code := fn.body.getD .skip
def ops9 (fn : Func) : Array Oper := cops (cfst (csnd (csnd (csnd (csnd (body7 fn))))))
def lst (s0 s1 s2 s3 s4 s5 s6 s7 s8 : Bool) : Array Bool := #[s0, s1, s2, s3, s4, s5, s6, s7, s8]
/-- What is left behind the call. -/
def rest9 (s0 s1 : Bool) : List Nat := if s1 then [6, 7, 8] else if s0 then [1, 6, 7, 8] else [0, 1, 6, 7, 8]
theorem rest9_tt (t : Nat) : Region.linearise.go .any (ops9 Try.f7) 3 t (lst true true true true true true false false false) [] = [6, 7, 8] := by
  obtain ⟨t1, e1⟩ := go_one (ops := (ops9 Try.f7)) (fuel := 2) (t := t) (listed := lst true true true true true true false false false) (i := 6) (by kernel_rfl)
  obtain ⟨t2, e2⟩ := go_one (ops := (ops9 Try.f7)) (fuel := 1) (t := t1) (listed := lst true true true true true true true false false) (i := 7) (by kernel_rfl)
  obtain ⟨t3, e3⟩ := go_one (ops := (ops9 Try.f7)) (fuel := 0) (t := t2) (listed := lst true true true true true true true true false) (i := 8) (by kernel_rfl)
  rw [e1, show (lst true true true true true true false false false).setIfInBounds 6 true = lst true true true true true true true false false from rfl, e2, show (lst true true true true true true true false false).setIfInBounds 7 true = lst true true true true true true true true false from rfl, e3]
  rfl
theorem rest9_tf (t : Nat) : Region.linearise.go .any (ops9 Try.f7) 4 t (lst true false true true true true false false false) [] = [1, 6, 7, 8] := by
  obtain ⟨t1, e1⟩ := go_one (ops := (ops9 Try.f7)) (fuel := 3) (t := t) (listed := lst true false true true true true false false false) (i := 1) (by kernel_rfl)
  rw [e1, show (lst true false true true true true false false false).setIfInBounds 1 true = lst true true true true true true false false false from rfl, rest9_tt]
theorem rest9_ff (t : Nat) : Region.linearise.go .any (ops9 Try.f7) 5 t (lst false false true true true true false false false) [] = [0, 1, 6, 7, 8] := by
  obtain ⟨t1, e1⟩ := go_one (ops := (ops9 Try.f7)) (fuel := 4) (t := t) (listed := lst false false true true true true false false false) (i := 0) (by kernel_rfl)
  rw [e1, show (lst false false true true true true false false false).setIfInBounds 0 true = lst true false true true true true false false false from rfl, rest9_tf]
section
variable (T0 : List Value) (bg : Nat) (nV gV dV : Value)
/-- The temporaries while the region goes on. -/
def aS (s0 s1 s2 s3 s4 : Bool) : Act := ⟨(T0 ++ [bif s0 then .pointer (some ⟨bg, 0, none⟩) else undef, bif s1 then nV else undef, bif s2 then gV else undef, bif s3 then dV else undef, bif s4 then .int .i64 1 else undef, undef, undef]).toArray, []⟩
end
/-- How many are to come. -/
def toCome (s0 s1 s2 s3 s4 : Bool) : Nat := (!s0).toNat + (!s1).toNat + (!s2).toNat + (!s3).toNat + (!s4).toNat
theorem pick1 (t : Nat) (i : Nat) : [i][t % [i].length]? = some i := by simp [Nat.mod_one]
theorem pick_mem (t : Nat) (l : List Nat) (h : l ≠ []) : ∃ i, i ∈ l ∧ l[t % l.length]? = some i := by
  have : t % l.length < l.length := Nat.mod_lt _ (List.length_pos_iff.2 h)
  exact ⟨l[t % l.length], List.getElem_mem this, by simp [this]⟩
end Go.Proofs.Ythbghcebcahlnaa

namespace Go.Proofs.Ythbghcebcahlnaa
open Go Go.RowKit

def rdy9 (s0 s1 s2 s3 s4 : Bool) : List Nat := (bif s0 then [] else [0]) ++ (bif s0 && !s1 then [1] else []) ++ (bif s2 then [] else [2]) ++ (bif s3 then [] else [3]) ++ (bif s4 then [] else [4]) ++ (bif s2 && s3 && s4 then [5] else [])
theorem ready9 (s0 s1 s2 s3 s4 : Bool) (h : s1 = true → s0 = true) : Region.ready .any (ops9 Try.f7) (lst s0 s1 s2 s3 s4 false false false false) = rdy9 s0 s1 s2 s3 s4 := by
  cases s0
  · cases s1
    · cases s2 <;> cases s3 <;> cases s4 <;> kernel_rfl
    · cases h rfl
  · cases s1 <;> cases s2 <;> cases s3 <;> cases s4 <;> kernel_rfl
theorem rdy9_ne (s0 s1 s2 s3 s4 : Bool) : rdy9 s0 s1 s2 s3 s4 ≠ [] := by
  cases s2 <;> cases s3 <;> cases s4 <;> simp [rdy9]
section
variable {T : Machine → Prop} {b : Frame} {k : List Item} {cs : List Frame} {w : World} {T0 : List Value} {bg : Nat} {n : Int} {cV dV : Value}
/-- The temporaries while the region goes on, over a grid. -/
def aG (T0 : List Value) (bg : Nat) (n : Int) (cV dV : Value) (s0 s1 s2 s3 s4 : Bool) : Act := aS T0 bg (.int .i64 n) (.agg #[.int .i64 n, cV]) dV s0 s1 s2 s3 s4
theorem aG_tmp (hT : T0.length = 29) {i : Nat} (hi : i < 29) {s0 s1 s2 s3 s4 : Bool} : (aG T0 bg n cV dV s0 s1 s2 s3 s4).tmps[i]?.getD undef = T0.getD i undef := by
  simp [aG, aS, List.getElem?_append_left (hT ▸ hi)]
theorem aG_tmp2 (hT : T0.length = 29) {i : Nat} {s0 s1 s2 s3 s4 : Bool} : (aG T0 bg n cV dV s0 s1 s2 s3 s4).tmps[29 + i]?.getD undef = [bif s0 then .pointer (some ⟨bg, 0, none⟩) else undef, bif s1 then .int .i64 n else undef, bif s2 then .agg #[.int .i64 n, cV] else undef, bif s3 then dV else undef, bif s4 then .int .i64 1 else undef, undef, undef].getD i undef := by
  simp only [aG, aS, List.getElem?_toArray]
  rw [List.getElem?_append_right (by omega), hT, Nat.add_sub_cancel_left, List.getD_eq_getElem?_getD]
theorem aS_put (hT : T0.length = 29) (l : List Value) (i : Nat) (v : Value) : (Act.mk (T0 ++ l).toArray []).put (some (29 + i)) v = ⟨(T0 ++ l.set i v).toArray, []⟩ := by
  simp [Act.put, hT]
theorem aS_want {o : Oper} (h : o.guard = none) (y : Nat → Option Bool) : Region.wanted o y = true := by
  simp [Region.wanted, h]
theorem run9_0 (hT : T0.length = 29) (h3 : T0.getD 3 undef = .pointer (some ⟨bg, 0, none⟩)) {s0 s1 s2 s3 s4 : Bool} : (execOp (aG T0 bg n cV dV s0 s1 s2 s3 s4).eval { dst := some 29, op := .fieldAddr 27 (.tmp 3) 0, type := 0, pos := "ray.go:33", after := #[], guard := none }).run (barP Try.prog) w = .ok (.value (.pointer (some ⟨bg, 0, none⟩))) w := by
  have e := aG_tmp (bg := bg) (n := n) (cV := cV) (dV := dV) (s0 := s0) (s1 := s1) (s2 := s2) (s3 := s3) (s4 := s4) hT (i := 3) (by omega)
  rw [h3] at e
  simp [go_sem, e]
theorem run9_1 (hT : T0.length = 29) (hg : w.heap[bg]? = some (.cells #[.int .i64 n, cV] 27)) {s1 s2 s3 s4 : Bool} : (execOp (aG T0 bg n cV dV true s1 s2 s3 s4).eval { dst := some 30, op := .load 3 (.tmp 29), type := 3, pos := "ray.go:33", after := #[{ on := 0, ground := .data }], guard := none }).run (barP Try.prog) w = .ok (.value (.int .i64 n)) w := by
  have e : (aG T0 bg n cV dV true s1 s2 s3 s4).tmps[29]?.getD undef = .pointer (some ⟨bg, 0, none⟩) := aG_tmp2 hT (i := 0)
  have c0 : w.cell? ⟨bg, 0, none⟩ = some (.int .i64 n) := by simp [World.cell?, hg]
  simp [go_sem, e, c0]
theorem run9_2 {cap l : Nat} {ca : Option Addr} (hcV : cV = .slice ca l cap) (hT : T0.length = 29) (h3 : T0.getD 3 undef = .pointer (some ⟨bg, 0, none⟩)) (hg : w.heap[bg]? = some (.cells #[.int .i64 n, cV] 27)) {s0 s1 s2 s3 s4 : Bool} : (execOp (aG T0 bg n cV dV s0 s1 s2 s3 s4).eval { dst := some 31, op := .load 27 (.tmp 3), type := 27, pos := "ray.go:33", after := #[], guard := none }).run (barP Try.prog) w = .ok (.value (.agg #[.int .i64 n, cV])) w := by
  have e := aG_tmp (bg := bg) (n := n) (cV := cV) (dV := dV) (s0 := s0) (s1 := s1) (s2 := s2) (s3 := s3) (s4 := s4) hT (i := 3) (by omega)
  rw [h3] at e
  subst hcV
  have c0 : w.cell? ⟨bg, 0, none⟩ = some (.int .i64 n) := by simp [World.cell?, hg]
  have c1 : w.cell? ⟨bg, 1, none⟩ = some (.slice ca l cap) := by simp [World.cell?, hg]
  simp [go_sem, e, c0, c1]
theorem run9_3 (hT : T0.length = 29) (h1 : T0.getD 1 undef = dV) {s0 s1 s2 s3 s4 : Bool} {o : Oper} (ho : o.op = .move (.tmp 1)) : (execOp (aG T0 bg n cV dV s0 s1 s2 s3 s4).eval o).run (barP Try.prog) w = .ok (.value dV) w := by
  have e := aG_tmp (bg := bg) (n := n) (cV := cV) (dV := dV) (s0 := s0) (s1 := s1) (s2 := s2) (s3 := s3) (s4 := s4) hT (i := 1) (by omega)
  rw [h1] at e
  unfold execOp
  rw [ho]
  simp [go_sem, e]
theorem run9_4 (hT : T0.length = 29) (h2 : T0.getD 2 undef = .int .i64 1) {s0 s1 s2 s3 s4 : Bool} {o : Oper} (ho : o.op = .move (.tmp 2)) : (execOp (aG T0 bg n cV dV s0 s1 s2 s3 s4).eval o).run (barP Try.prog) w = .ok (.value (.int .i64 1)) w := by
  have e := aG_tmp (bg := bg) (n := n) (cV := cV) (dV := dV) (s0 := s0) (s1 := s1) (s2 := s2) (s3 := s3) (s4 := s4) hT (i := 2) (by omega)
  rw [h2] at e
  unfold execOp
  rw [ho]
  simp [go_sem, e]
set_option maxHeartbeats 4000000 in
/-- ████ Up to the call. ████ -/
theorem all_upto {cap l : Nat} {ca : Option Addr} (hcV : cV = .slice ca l cap) (hT : T0.length = 29) (h1 : T0.getD 1 undef = dV) (h2 : T0.getD 2 undef = .int .i64 1) (h3 : T0.getD 3 undef = .pointer (some ⟨bg, 0, none⟩)) (hg : w.heap[bg]? = some (.cells #[.int .i64 n, cV] 27)) (hk : b.kind ≠ .early)
    (hl : ∀ s0 s1, (s1 = true → s0 = true) → To T (lone (b.at (aG T0 bg n cV dV s0 s1 true true true) (.inRegion (ops9 Try.f7) (5 :: rest9 s0 s1) :: k)) cs w)) :
    ∀ (m t : Nat) (s0 s1 s2 s3 s4 : Bool), (s1 = true → s0 = true) → toCome s0 s1 s2 s3 s4 = m → To T (lone (b.at (aG T0 bg n cV dV s0 s1 s2 s3 s4) (.inRegion (ops9 Try.f7) (Region.linearise.go .any (ops9 Try.f7) (4 + m) t (lst s0 s1 s2 s3 s4 false false false false) []) :: k)) cs w) := by
  intro m
  induction m using Nat.strongRecOn with
  | ind m ih =>
    intro t s0 s1 s2 s3 s4 hs hm
    obtain ⟨i, hi, hp⟩ := pick_mem t (rdy9 s0 s1 s2 s3 s4) (rdy9_ne _ _ _ _ _)
    have hn := go_next (fuel := 3 + m) (ready9 s0 s1 s2 s3 s4 hs) hp
    rw [show 4 + m = 3 + m + 1 by omega, hn]
    generalize t / (rdy9 s0 s1 s2 s3 s4).length = t'
    clear hn hp
    simp only [rdy9, List.mem_append] at hi
    rcases hi with ((((hi | hi) | hi) | hi) | hi) | hi
    · cases s0
      · obtain rfl : i = 0 := by simpa using hi
        have hs1 : s1 = false := by cases s1 <;> simp_all
        subst hs1
        refine to_value (o := _) (by kernel_rfl) (aS_want rfl _) hk (run9_0 hT h3) ?_
        obtain ⟨m, rfl⟩ : ∃ m', m = m' + 1 := ⟨toCome true false s2 s3 s4, by rw [← hm]; cases s2 <;> cases s3 <;> cases s4 <;> rfl⟩
        have := ih m (Nat.lt_succ_self m) t' true false s2 s3 s4 (fun _ => rfl) (by clear ih; cases s2 <;> cases s3 <;> cases s4 <;> simp_all [toCome])
        rw [show 4 + m = 3 + (m + 1) by omega] at this
        unfold aG aS at this ⊢
        rw [aS_put (i := 0) hT]
        exact this
      · simp at hi
    · cases s0
      · simp at hi
      · cases s1
        · obtain rfl : i = 1 := by simpa using hi
          refine to_value (o := _) (by kernel_rfl) (aS_want rfl _) hk (run9_1 hT hg) ?_
          obtain ⟨m, rfl⟩ : ∃ m', m = m' + 1 := ⟨toCome true true s2 s3 s4, by rw [← hm]; cases s2 <;> cases s3 <;> cases s4 <;> rfl⟩
          have := ih m (Nat.lt_succ_self m) t' true true s2 s3 s4 (fun _ => rfl) (by clear ih; cases s2 <;> cases s3 <;> cases s4 <;> simp_all [toCome])
          rw [show 4 + m = 3 + (m + 1) by omega] at this
          unfold aG aS at this ⊢
          rw [aS_put (i := 1) hT]
          exact this
        · simp at hi
    · cases s2
      · obtain rfl : i = 2 := by simpa using hi
        refine to_value (o := _) (by kernel_rfl) (aS_want rfl _) hk (run9_2 hcV hT h3 hg) ?_
        obtain ⟨m, rfl⟩ : ∃ m', m = m' + 1 := ⟨toCome s0 s1 true s3 s4, by rw [← hm]; cases s0 <;> cases s1 <;> cases s3 <;> cases s4 <;> rfl⟩
        have := ih m (Nat.lt_succ_self m) t' s0 s1 true s3 s4 hs (by clear ih; cases s0 <;> cases s1 <;> cases s3 <;> cases s4 <;> simp_all [toCome])
        rw [show 4 + m = 3 + (m + 1) by omega] at this
        unfold aG aS at this ⊢
        rw [aS_put (i := 2) hT]
        exact this
      · simp at hi
    · cases s3
      · obtain rfl : i = 3 := by simpa using hi
        refine to_value (o := { dst := some 32, op := .move (.tmp 1), type := 23, pos := "ray.go:33", after := #[], guard := none }) (by kernel_rfl) (aS_want rfl _) hk (run9_3 hT h1 rfl) ?_
        obtain ⟨m, rfl⟩ : ∃ m', m = m' + 1 := ⟨toCome s0 s1 s2 true s4, by rw [← hm]; cases s0 <;> cases s1 <;> cases s2 <;> cases s4 <;> rfl⟩
        have := ih m (Nat.lt_succ_self m) t' s0 s1 s2 true s4 hs (by clear ih; cases s0 <;> cases s1 <;> cases s2 <;> cases s4 <;> simp_all [toCome])
        rw [show 4 + m = 3 + (m + 1) by omega] at this
        unfold aG aS at this ⊢
        rw [aS_put (i := 3) hT]
        exact this
      · simp at hi
    · cases s4
      · obtain rfl : i = 4 := by simpa using hi
        refine to_value (o := { dst := some 33, op := .move (.tmp 2), type := 3, pos := "ray.go:33", after := #[], guard := none }) (by kernel_rfl) (aS_want rfl _) hk (run9_4 hT h2 rfl) ?_
        obtain ⟨m, rfl⟩ : ∃ m', m = m' + 1 := ⟨toCome s0 s1 s2 s3 true, by rw [← hm]; cases s0 <;> cases s1 <;> cases s2 <;> cases s3 <;> rfl⟩
        have := ih m (Nat.lt_succ_self m) t' s0 s1 s2 s3 true hs (by clear ih; cases s0 <;> cases s1 <;> cases s2 <;> cases s3 <;> simp_all [toCome])
        rw [show 4 + m = 3 + (m + 1) by omega] at this
        unfold aG aS at this ⊢
        rw [aS_put (i := 4) hT]
        exact this
      · simp at hi
    · cases s2
      · simp at hi
      cases s3
      · simp at hi
      cases s4
      · simp at hi
      obtain rfl : i = 5 := by simpa using hi
      have := hl s0 s1 hs
      cases s0
      · cases s1
        · obtain rfl : m = 2 := by rw [← hm]; rfl
          rw [show (lst false false true true true false false false false).setIfInBounds 5 true = lst false false true true true true false false false from rfl, rest9_ff]
          exact this
        · cases hs rfl
      · cases s1
        · obtain rfl : m = 1 := by rw [← hm]; rfl
          rw [show (lst true false true true true false false false false).setIfInBounds 5 true = lst true false true true true true false false false from rfl, rest9_tf]
          exact this
        · obtain rfl : m = 0 := by rw [← hm]; rfl
          rw [show (lst true true true true true false false false false).setIfInBounds 5 true = lst true true true true true true false false false from rfl, rest9_tt]
          exact this
end
end Go.Proofs.Ythbghcebcahlnaa

namespace Go.Proofs.Ythbghcebcahlnaa
open Go Go.RowKit

/-- The memory at the call of byWorkers. -/
structure In7 (w w1 : World) (n : Int) (cV : Value) : Prop where
  low : Below w.heap.size w w1
  c0 : w1.heap[w.heap.size]? = some (.cells #[.int .i64 n, cV] 27)
  c1 : w1.heap[w.heap.size + 1]? = some (.cells #[.int .i64 0, .slice none 0 0] 31)
/-- The temporaries there. -/
structure Tm7 (w : World) (dV : Value) (T0 : List Value) : Prop where
  len : T0.length = 29
  t1 : T0.getD 1 undef = dV
  t2 : T0.getD 2 undef = .int .i64 1
  t3 : T0.getD 3 undef = .pointer (some ⟨w.heap.size, 0, none⟩)
  t6 : T0.getD 6 undef = .pointer (some ⟨w.heap.size + 1, 0, none⟩)
theorem In7.up {w w1 w2 : World} {n : Int} {cV : Value} (h : In7 w w1 n cV) (hb : Below w1.heap.size w1 w2) : In7 w w2 n cV := by
  have h0 := (Array.getElem?_eq_some_iff.1 h.c0).1
  have h1 := (Array.getElem?_eq_some_iff.1 h.c1).1
  exact ⟨h.low.trans (hb.mono (by omega)), (hb.block _ h0).trans h.c0, (hb.block _ h1).trans h.c1⟩
/-- All on its way: what lies in the memory, what the temporaries hold. -/
def At7 (w : World) (n : Int) (cV dV : Value) (a : Act) (w1 : World) : Prop := In7 w w1 n cV ∧ ∃ x0 x4 x5 x7 x8 x9 x10 x11 x12 x13 x14 x15 x16 x17 x18 x19 x20 x21 x22 x23 x24 x25 x26 x27 x28 : Value, a = ⟨#[x0, dV, .int .i64 1, .pointer (some ⟨w.heap.size, 0, none⟩), x4, x5, .pointer (some ⟨w.heap.size + 1, 0, none⟩), x7, x8, x9, x10, x11, x12, x13, x14, x15, x16, x17, x18, x19, x20, x21, x22, x23, x24, x25, x26, x27, x28, undef, undef, undef, undef, undef, undef, undef], []⟩
set_option maxRecDepth 100000 in
set_option maxHeartbeats 4000000 in
theorem all_to {T : Machine → Prop} {cs : List Frame} {n g c mz gd od cap : Nat} {da : Option Addr} {L : List (Int × Int)} {f : Nat → Nat × Nat} {z : Nat → Int × Int} (w : World) (h1 : 1 ≤ n) (h2 : n ≤ 64) (hR : Row w g (n * n) f) (hz : ∀ j, j < n * n → Cell (f j) (z j) mz) (hm : mz ≤ 1048576)
    (hD : Dirs w da gd od L) (hI : ∀ i, i < L.length → I64 (L.getD i (0, 0)).1 ∧ I64 (L.getD i (0, 0)).2) (hcap : L.length ≤ cap) (hG : GoodDirs L)
    (hl : ∀ w1 T0 s0 s1, (s1 = true → s0 = true) → In7 w w1 n (.slice (some ⟨g, 0, none⟩) (n * n : Nat) c) → Tm7 w (.slice da L.length cap) T0 → To T (lone ((Go.Conc.base 7).at (aG T0 w.heap.size n (.slice (some ⟨g, 0, none⟩) (n * n : Nat) c) (.slice da L.length cap) s0 s1 true true true) [.inRegion (ops9 Try.f7) (5 :: rest9 s0 s1), .code .ret]) cs w1)) :
    To T (lone (Frame.enter (barP Try.prog) 7 #[gridV n g c, .slice da L.length cap, .int .i64 1] .normal) cs w) := by
  rw [Go.Conc.enter_at _ Bar.func7 rfl]
  have hlt := row_lt hR
  have hi0 : In7 w ((w.alloc (.cells #[.int .i64 n, .slice (some ⟨g, 0, none⟩) (n * n : Nat) c] 27)).alloc (.cells #[.int .i64 0, .slice none 0 0] 31)) n (.slice (some ⟨g, 0, none⟩) (n * n : Nat) c) := by
    have := heap_alloc_new (w.alloc (.cells #[.int .i64 (n : Int), .slice (some ⟨g, 0, none⟩) (n * n : Nat) c] 27)) (.cells #[.int .i64 0, .slice none 0 0] 31)
    refine ⟨((Below.refl _ w).alloc (Nat.le_refl _) _).alloc (by simp) _, (alloc_old _ _ _ (by simp)).trans (heap_alloc_new w _), ?_⟩
    rwa [World.size_alloc] at this
  have kG := fun w1 (b : Below w.heap.size w w1) => gridCheck (c := c) w1 h1 h2 (row_below hR b hlt) hz hm
  have kL := fun w1 (b : Below w.heap.size w w1) => lookOk (cap := cap) (by have := hG.1; omega) hI w1 (dirs_below hD b) hcap
  clear hD hI hR hz hm
  replace kG := hide kG
  replace kL := hide kL
  replace hi0 := hide hi0
  replace hl := hide hl
  replace hG := hide hG
  clear h1 h2 hlt
  unfold gridV at *
  generalize L.length = ll at *
  generalize n * n = M at *
  clear hcap
  have e0 : #[Value.agg #[Value.int .i64 n, .slice (some ⟨g, 0, none⟩) M c], .slice da ll cap, .int .i64 1] ++ Array.replicate (Try.f7.ntmps - #[Value.agg #[Value.int .i64 n, .slice (some ⟨g, 0, none⟩) M c], .slice da ll cap, .int .i64 1].size) undef = #[.agg #[.int .i64 n, .slice (some ⟨g, 0, none⟩) M c], .slice da ll cap, .int .i64 1, undef, undef, undef, undef, undef, undef, undef, undef, undef, undef, undef, undef, undef, undef, undef, undef, undef, undef, undef, undef, undef, undef, undef, undef, undef, undef, undef, undef, undef, undef, undef, undef, undef] := by simp
  rw [e0]
  refine to_seq (to_wp (K := At7 w n (.slice (some ⟨g, 0, none⟩) M c) (.slice da ll cap)) ?c0 ?_)
  case c0 =>
    go_wp2_with fail
    exact ⟨unhide hi0, _, _, _, _, _, _, _, _, _, _, _, _, _, _, _, _, _, _, _, _, _, _, _, _, _, rfl⟩
  rintro _ w1 ⟨hi1, x0, x4, x5, x7, x8, x9, x10, x11, x12, x13, x14, x15, x16, x17, x18, x19, x20, x21, x22, x23, x24, x25, x26, x27, x28, rfl⟩
  replace hi1 := hide hi1
  refine to_seq (to_wp (K := At7 w n (.slice (some ⟨g, 0, none⟩) M c) (.slice da ll cap)) ?c1 ?_)
  case c1 =>
    have c0 : w1.cell? ⟨w.heap.size, 0, none⟩ = some (.int .i64 n) := by simp [World.cell?, (unhide hi1).c0]
    have c1 : w1.cell? ⟨w.heap.size, 1, none⟩ = some (.slice (some ⟨g, 0, none⟩) M c) := by simp [World.cell?, (unhide hi1).c0]
    go_wp2_with fail
    refine (unhide kG w1 (unhide hi1).low).mono ?_
    rintro e w2 ⟨rfl, hb2⟩
    replace hb2 := hide hb2
    go_wp2_with fail
    exact ⟨(unhide hi1).up (unhide hb2), _, _, _, _, _, _, _, _, _, _, _, _, _, _, _, _, _, _, _, _, _, _, _, _, _, rfl⟩
  clear hi1 x0 x4 x5 x7 x8 x9 x10 x11 x12 x13 x14 x15 x16 x17 x18 x19 x20 x21 x22 x23 x24 x25 x26 x27 x28 w1
  rintro _ w1 ⟨hi1, x0, x4, x5, x7, x8, x9, x10, x11, x12, x13, x14, x15, x16, x17, x18, x19, x20, x21, x22, x23, x24, x25, x26, x27, x28, rfl⟩
  replace hi1 := hide hi1
  refine to_seq (to_wp (K := At7 w n (.slice (some ⟨g, 0, none⟩) M c) (.slice da ll cap)) ?c2 ?_)
  case c2 =>
    go_wp2_with fail
    refine (unhide kL w1 (unhide hi1).low).mono ?_
    rintro e w2 ⟨r, rfl, hr, hb2⟩
    obtain rfl := hr.2 (unhide hG)
    clear hr
    replace hb2 := hide hb2
    go_wp2_with fail
    exact ⟨(unhide hi1).up (unhide hb2), _, _, _, _, _, _, _, _, _, _, _, _, _, _, _, _, _, _, _, _, _, _, _, _, _, rfl⟩
  clear hi1 x0 x4 x5 x7 x8 x9 x10 x11 x12 x13 x14 x15 x16 x17 x18 x19 x20 x21 x22 x23 x24 x25 x26 x27 x28 w1
  rintro _ w1 ⟨hi1, x0, x4, x5, x7, x8, x9, x10, x11, x12, x13, x14, x15, x16, x17, x18, x19, x20, x21, x22, x23, x24, x25, x26, x27, x28, rfl⟩
  replace hi1 := hide hi1
  refine to_seq (to_wp (K := At7 w n (.slice (some ⟨g, 0, none⟩) M c) (.slice da ll cap)) ?c3 ?_)
  case c3 =>
    go_wp2_with fail
    exact ⟨unhide hi1, _, _, _, _, _, _, _, _, _, _, _, _, _, _, _, _, _, _, _, _, _, _, _, _, _, rfl⟩
  clear hi1 x0 x4 x5 x7 x8 x9 x10 x11 x12 x13 x14 x15 x16 x17 x18 x19 x20 x21 x22 x23 x24 x25 x26 x27 x28 w1
  rintro _ w1 ⟨hi1, x0, x4, x5, x7, x8, x9, x10, x11, x12, x13, x14, x15, x16, x17, x18, x19, x20, x21, x22, x23, x24, x25, x26, x27, x28, rfl⟩
  refine to_seq (to_step step_region_draw ?_)
  have hi2 : In7 w { w1 with drawn := w1.drawn + 1 } n (.slice (some ⟨g, 0, none⟩) M c) := hi1.up ⟨rfl, rfl, rfl, Nat.le_refl _, fun _ _ => rfl⟩
  have e9 : ∀ t, Region.schedule ((barP Try.prog).follows .mixedOrders) (ops9 Try.f7) t = Region.linearise.go .any (ops9 Try.f7) (4 + 5) t (lst false false false false false false false false false) [] := by
    intro t
    rw [mixed]
    simp only [Region.schedule, Bool.true_or, if_true, Region.linearise]
    rw [show (ops9 Try.f7).size = 4 + 5 from by kernel_rfl]
    rfl
  refine (?_ : To T (lone ((Go.Conc.base 7).at _ (.inRegion (ops9 Try.f7) (Region.schedule ((barP Try.prog).follows .mixedOrders) (ops9 Try.f7) _) :: _)) cs _))
  rw [e9]
  exact all_upto (T0 := [x0, .slice da ll cap, .int .i64 1, .pointer (some ⟨w.heap.size, 0, none⟩), x4, x5, .pointer (some ⟨w.heap.size + 1, 0, none⟩), x7, x8, x9, x10, x11, x12, x13, x14, x15, x16, x17, x18, x19, x20, x21, x22, x23, x24, x25, x26, x27, x28]) rfl rfl rfl rfl rfl hi2.c0 (by simp [Go.Conc.base]) (fun s0 s1 hs => unhide hl _ _ s0 s1 hs hi2 ⟨rfl, rfl, rfl, rfl, rfl⟩) 5 _ false false false false false (fun h => by cases h) rfl
end Go.Proofs.Ythbghcebcahlnaa

set_option linter.unusedSimpArgs false
namespace Go.Proofs.Ythbghcebcahlnaa
open Go Go.RowKit

section
variable {T : Machine → Prop} {b : Frame} {a : Act} {k : List Item} {cs : List Frame} {w : World}
theorem to_ops {ops : Array Oper} {l : List Nat} {K : Act → World → Prop} (h : wpOps (barP Try.prog) ops (fun e a w => e = .normal ∧ K a w) l a w) (hk : ∀ a w, K a w → To T (lone (b.at a k) cs w)) : To T (lone (b.at a (.inRegion ops l :: k)) cs w) := by
  obtain ⟨e, a', w', ⟨rfl, h1⟩, h2⟩ := wp_ops _ _ _ h b k cs
  exact to_steps h2 (hk a' w' h1)
theorem to_none {ops : Array Oper} {i : Nat} {rest : List Nat} {o : Oper} {w' : World} (ho : ops[i]? = some o) (hw : Region.wanted o (yielded ops a.tmps) = true) (hk : b.kind ≠ .early) (hr : (execOp a.eval o).run (barP Try.prog) w = .ok .skip w') (ht : To T (lone (b.at (a.put o.dst undef) (.inRegion ops rest :: k)) cs w')) : To T (lone (b.at a (.inRegion ops (i :: rest) :: k)) cs w) :=
  letI : Inhabited Junk := noJunk
  to_step (step_lone_of_go (Go.Conc.stepG_none ho hw hk hr)) ht
end
theorem wpOps_list {P : Program} {ops : Array Oper} {Q : Exit → Act → World → Prop} : ∀ l : List Nat, wpOps P ops Q l = wpList P ops Q (l.filterMap fun i => ops[i]?)
  | [] => by funext a w; simp [wpOps, wpList]
  | i :: l => by
    have ih := wpOps_list (P := P) (ops := ops) (Q := Q) l
    funext a w
    cases h : ops[i]? <;> simp [wpOps, wpList, h, ih]
theorem list29 : ∀ {l : List Value}, l.length = 29 → ∃ x0 x1 x2 x3 x4 x5 x6 x7 x8 x9 x10 x11 x12 x13 x14 x15 x16 x17 x18 x19 x20 x21 x22 x23 x24 x25 x26 x27 x28, l = [x0, x1, x2, x3, x4, x5, x6, x7, x8, x9, x10, x11, x12, x13, x14, x15, x16, x17, x18, x19, x20, x21, x22, x23, x24, x25, x26, x27, x28]
  | [x0, x1, x2, x3, x4, x5, x6, x7, x8, x9, x10, x11, x12, x13, x14, x15, x16, x17, x18, x19, x20, x21, x22, x23, x24, x25, x26, x27, x28], _ => ⟨x0, x1, x2, x3, x4, x5, x6, x7, x8, x9, x10, x11, x12, x13, x14, x15, x16, x17, x18, x19, x20, x21, x22, x23, x24, x25, x26, x27, x28, rfl⟩
/-- All at its call. -/
def fr7 (fn : Func) (T0 : List Value) (bg : Nat) (n : Int) (cV dV : Value) (s0 s1 : Bool) : Frame := (Go.Conc.base 7).at (aG T0 bg n cV dV s0 s1 true true true) [.inRegion (ops9 fn) (5 :: rest9 s0 s1), .code .ret]
/-- The memory is as it was but for one block. -/
structure Else (r : Nat) (w w' : World) : Prop where
  os : w'.os = w.os
  tape : w'.tape = w.tape
  output : w'.output = w.output
  size : w'.heap.size = w.heap.size
  block : ∀ k, k ≠ r → w'.heap[k]? = w.heap[k]?
theorem Else.refl (r : Nat) (w : World) : Else r w w := ⟨rfl, rfl, rfl, rfl, fun _ _ => rfl⟩
set_option maxRecDepth 100000 in
set_option maxHeartbeats 4000000 in
theorem all_back {T : Machine → Prop} {cs : List Frame} {c : Frame} {w w2 : World} {n : Int} {T0 : List Value} {cap l : Nat} {ca pa : Option Addr} {dV : Value} {pl pc : Nat} {s0 s1 : Bool} (hs : s1 = true → s0 = true) (hT : Tm7 w dV T0)
    (hg : w2.heap[w.heap.size]? = some (.cells #[.int .i64 n, .slice ca l cap] 27)) (hc : w2.heap[w.heap.size + 1]? = some (.cells #[.int .i64 0, .slice none 0 0] 31))
    (h : ∀ w3, Else (w.heap.size + 1) w2 w3 → To T (lone (c.finish (.tuple #[.agg #[.int .i64 n, .slice pa pl pc], .int .i64 0])) cs w3)) :
    To T (lone ((fr7 Try.f7 T0 w.heap.size n (.slice ca l cap) dV s0 s1).finish (.slice pa pl pc)) (c :: cs) w2) := by
  obtain ⟨hlen, t1, t2, t3, t6⟩ := hT
  obtain ⟨x0, x1, x2, x3, x4, x5, x6, x7, x8, x9, x10, x11, x12, x13, x14, x15, x16, x17, x18, x19, x20, x21, x22, x23, x24, x25, x26, x27, x28, rfl⟩ := list29 hlen
  obtain rfl : x3 = .pointer (some ⟨w.heap.size, 0, none⟩) := t3
  obtain rfl : x6 = .pointer (some ⟨w.heap.size + 1, 0, none⟩) := t6
  have c0 : w2.cell? ⟨w.heap.size, 0, none⟩ = some (.int .i64 n) := by simp [World.cell?, hg]
  clear hg
  generalize w.heap.size = B at *
  replace h := hide h
  unfold fr7
  rw [Frame.finish_at, show ((ops9 Try.f7)[5]?).bind (·.dst) = some (29 + 5) from by kernel_rfl]
  unfold aG aS
  rw [aS_put (i := 5) rfl]
  simp only [List.cons_append, List.nil_append, List.set_cons_succ, List.set_cons_zero, cond_true]
  have fin : ∀ (a : Act) (w3 : World), (∃ T1 : List Value, a = ⟨T1.toArray, []⟩ ∧ T1.getD 6 undef = .pointer (some ⟨B + 1, 0, none⟩) ∧ T1.getD 7 undef = .int .i64 0) ∧ Else (B + 1) w2 w3 ∧ w3.heap[B + 1]? = some (.cells #[.int .i64 n, .slice pa pl pc] 31) →
      To T (lone ((Go.Conc.base 7).at a [.code .ret]) (c :: cs) w3) := by
    rintro _ w3 ⟨⟨T1, rfl, q6, q7⟩, hE, hc3⟩
    have c0 : w3.cell? ⟨B + 1, 0, none⟩ = some (.int .i64 n) := by simp [World.cell?, hc3]
    have c1 : w3.cell? ⟨B + 1, 1, none⟩ = some (.slice pa pl pc) := by simp [World.cell?, hc3]
    rw [List.getD_eq_getElem?_getD] at q6 q7
    refine to_step step_ret (to_leave ⟨rfl, rfl, rfl, _, Bar.func7, ?_⟩ (unhide h w3 hE))
    simp only [Try.f7, results]
    simp [go_sem, Frame.at, q6, q7, c0, c1]
  have w3h : ∀ w3 : World, w3 = (w2.setCell ⟨B + 1, 0, none⟩ (.int .i64 n)).setCell ⟨B + 1, 1, none⟩ (.slice pa pl pc) → Else (B + 1) w2 w3 ∧ w3.heap[B + 1]? = some (.cells #[.int .i64 n, .slice pa pl pc] 31) := by
    rintro _ rfl
    have e1 := heap_setCell_same _ (B + 1) 0 _ _ (.int .i64 n) hc
    refine ⟨⟨rfl, rfl, rfl, by rw [World.size_setCell, World.size_setCell], fun k hk => ?_⟩, heap_setCell_same _ (B + 1) 1 _ _ (.slice pa pl pc) e1⟩
    rw [heap_setCell_other _ _ _ _ hk, heap_setCell_other _ _ _ _ hk]
  replace w3h := hide w3h
  replace fin := hide fin
  clear t1 t2 hlen
  have d0 : w2.cell? ⟨B + 1, 0, none⟩ = some (.int .i64 0) := by simp [World.cell?, hc]
  have d2 : w2.frozen? ⟨B + 1, 0, none⟩ = false := thaw_of hc
  have d3 : w2.frozen? ⟨B + 1, 1, none⟩ = false := thaw_of hc
  have d1 : w2.cell? ⟨B + 1, 1, none⟩ = some (.slice none 0 0) := by simp [World.cell?, hc]
  have tail : ∀ p29 : Value, To T (lone ((Go.Conc.base 7).at ⟨#[x0, x1, x2, .pointer (some ⟨B, 0, none⟩), x4, x5, .pointer (some ⟨B + 1, 0, none⟩), x7, x8, x9, x10, x11, x12, x13, x14, x15, x16, x17, x18, x19, x20, x21, x22, x23, x24, x25, x26, x27, x28, p29, .int .i64 n, .agg #[.int .i64 n, .slice ca l cap], dV, .int .i64 1, .slice pa pl pc, undef], []⟩ [.inRegion (ops9 Try.f7) [6, 7, 8], .code .ret]) (c :: cs) w2) := by
    intro p29
    refine to_value (o := { dst := some 35, op := .build 31 #[(0, .tmp 30), (1, .tmp 34)], type := 31, pos := "ray.go:33", after := #[⟨1, .data⟩, ⟨5, .data⟩], guard := none }) (by kernel_rfl) (aS_want rfl _) (by simp [Go.Conc.base]) (v := .agg #[.int .i64 n, .slice pa pl pc]) (w' := w2) (by simp [go_sem]) ?_
    refine to_none (o := { dst := none, op := .store 31 (.tmp 6) (.tmp 35), type := 0, pos := "ray.go:33", after := #[⟨6, .data⟩, ⟨5, .chain⟩, ⟨0, .phase⟩, ⟨1, .phase⟩, ⟨2, .phase⟩, ⟨3, .phase⟩, ⟨4, .phase⟩, ⟨5, .phase⟩, ⟨6, .phase⟩], guard := none }) (by kernel_rfl) (aS_want rfl _) (by simp [Go.Conc.base]) (w' := (w2.setCell ⟨B + 1, 0, none⟩ (.int .i64 n)).setCell ⟨B + 1, 1, none⟩ (.slice pa pl pc)) (by simp [go_sem, Act.put, d0, d1, d2, d3]) ?_
    refine to_value (o := { dst := some 7, op := .assign (.const (.int .i64 0)), type := 32, pos := "ray.go:33", after := #[⟨7, .chain⟩, ⟨0, .phase⟩, ⟨1, .phase⟩, ⟨2, .phase⟩, ⟨3, .phase⟩, ⟨4, .phase⟩, ⟨5, .phase⟩, ⟨6, .phase⟩, ⟨7, .phase⟩], guard := none }) (by kernel_rfl) (aS_want rfl _) (by simp [Go.Conc.base]) (v := .int .i64 0) (w' := (w2.setCell ⟨B + 1, 0, none⟩ (.int .i64 n)).setCell ⟨B + 1, 1, none⟩ (.slice pa pl pc)) (by simp [go_sem]) ?_
    refine to_out (unhide fin _ _ ⟨⟨_, rfl, rfl, rfl⟩, unhide w3h _ rfl⟩)
  have tail1 : To T (lone ((Go.Conc.base 7).at ⟨#[x0, x1, x2, .pointer (some ⟨B, 0, none⟩), x4, x5, .pointer (some ⟨B + 1, 0, none⟩), x7, x8, x9, x10, x11, x12, x13, x14, x15, x16, x17, x18, x19, x20, x21, x22, x23, x24, x25, x26, x27, x28, .pointer (some ⟨B, 0, none⟩), undef, .agg #[.int .i64 n, .slice ca l cap], dV, .int .i64 1, .slice pa pl pc, undef], []⟩ [.inRegion (ops9 Try.f7) [1, 6, 7, 8], .code .ret]) (c :: cs) w2) := by
    refine to_value (o := { dst := some 30, op := .load 3 (.tmp 29), type := 3, pos := "ray.go:33", after := #[⟨0, .data⟩], guard := none }) (by kernel_rfl) (aS_want rfl _) (by simp [Go.Conc.base]) (v := .int .i64 n) (w' := w2) (by simp [go_sem, c0]) ?_
    exact tail _
  cases s0
  · cases s1
    · refine to_value (o := { dst := some 29, op := .fieldAddr 27 (.tmp 3) 0, type := 0, pos := "ray.go:33", after := #[], guard := none }) (by kernel_rfl) (aS_want rfl _) (by simp [Go.Conc.base]) (v := .pointer (some ⟨B, 0, none⟩)) (w' := w2) (by simp [go_sem]) ?_
      exact tail1
    · cases hs rfl
  · cases s1
    · exact tail1
    · exact tail _
theorem fr7_call {T0 : List Value} {bg : Nat} {n : Int} {cV : Value} {da : Option Addr} {m dc : Nat} {s0 s1 : Bool} (hT : T0.length = 29) (hm : m ≤ 64) (up : List Frame) : AtC (fr7 Try.f7 T0 bg n cV (.slice da m dc) s0 s1) up n cV da m dc := by
  refine ⟨hm, fun w cs => ?_⟩
  have hop : (execOp (aG T0 bg n cV (.slice da m dc) s0 s1 true true true).eval { dst := some 34, op := .call { callee := .value (.func 15), args := #[.tmp 31, .tmp 32, .tmp 33], argTypes := #[27, 23, 3] }, type := 29, pos := "ray.go:33", after := #[⟨2, .data⟩, ⟨3, .data⟩, ⟨4, .data⟩], guard := none }).run Try.prog w = .ok (.enter 15 #[.agg #[.int .i64 n, cV], .slice da m dc, .int .i64 1]) w := by
    have e2 : (aG T0 bg n cV (.slice da m dc) s0 s1 true true true).tmps[31]?.getD undef = .agg #[.int .i64 n, cV] := aG_tmp2 hT (i := 2)
    have e3 : (aG T0 bg n cV (.slice da m dc) s0 s1 true true true).tmps[32]?.getD undef = .slice da m dc := aG_tmp2 hT (i := 3)
    have e4 : (aG T0 bg n cV (.slice da m dc) s0 s1 true true true).tmps[33]?.getD undef = .int .i64 1 := aG_tmp2 hT (i := 4)
    simp [go_sem, e2, e3, e4, Try.func15]
  have hc := fun (cs : List Frame) => Go.Conc.stepG_enter (P := Try.prog) (main := true) (b := Go.Conc.base 7) (k := [.code .ret]) (cs := cs) (ops := (ops9 Try.f7)) (rest := rest9 s0 s1) (i := 5) (a := aG T0 bg n cV (.slice da m dc) s0 s1 true true true) (by kernel_rfl) (aS_want rfl _) (by simp [Go.Conc.base]) hop
  have := hc (up ++ cs)
  rw [Go.Conc.enter_at _ Try.func15 rfl] at this
  have e0 : #[Value.agg #[Value.int .i64 n, cV], .slice da m dc, .int .i64 1] ++ Array.replicate (Try.f15.ntmps - #[Value.agg #[Value.int .i64 n, cV], .slice da m dc, .int .i64 1].size) undef = #[.agg #[.int .i64 n, cV], .slice da m dc, .int .i64 1, undef, undef, undef, undef, undef, undef, undef, undef, undef, undef, undef, undef, undef, undef, undef, undef, undef, undef, undef, undef] := by simp
  rw [e0] at this
  have l0 : Go.Conc.listed Try.prog (Go.Conc.base 7).fn (aG T0 bg n cV (.slice da m dc) s0 s1 true true true) { dst := some 34, op := .call { callee := .value (.func 15), args := #[.tmp 31, .tmp 32, .tmp 33], argTypes := #[27, 23, 3] }, type := 29, pos := "ray.go:33", after := #[⟨2, .data⟩, ⟨3, .data⟩, ⟨4, .data⟩], guard := none } w = #[] := by
    unfold Go.Conc.listed
    rw [Go.Conc.events_call_body rfl Try.func15 rfl rfl]
    exact Go.Conc.seen_none _ _
  rw [l0] at this
  exact this
end Go.Proofs.Ythbghcebcahlnaa
