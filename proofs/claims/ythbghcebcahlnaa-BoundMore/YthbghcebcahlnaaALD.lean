/- All: its last region up to the call of byWorkers. -/
import Derived.Test.YthbghcebcahlnaaALC
namespace Go.Proofs.Ythbghcebcahlnaa
open Go Go.RowKit

def rdy9 (s0 s1 s2 s3 s4 : Bool) : List Nat := (bif s0 then [] else [0]) ++ (bif s0 && !s1 then [1] else []) ++ (bif s2 then [] else [2]) ++ (bif s3 then [] else [3]) ++ (bif s4 then [] else [4]) ++ (bif s2 && s3 && s4 then [5] else [])
theorem ready9 (s0 s1 s2 s3 s4 : Bool) (h : s1 = true → s0 = true) : Region.ready .any (ops9 Try.f7) (lst s0 s1 s2 s3 s4 false false false false) = rdy9 s0 s1 s2 s3 s4 := by
  cases s0
  · cases s1
    · cases s2 <;> cases s3 <;> cases s4 <;> kernel_rfl
    · cases h rfl
  · cases s1 <;> cases s2 <;> cases s3 <;> cases s4 <;> kernel_rfl
theorem rdy9_ne (s0 s1 s2 s3 s4 : Bool) : rdy9 s0 s1 s2 s3 s4 ≠ [] := by
  cases s2 <;> cases s3 <;> cases s4 <;> simp [rdy9]
section
variable {T : Machine → Prop} {b : Frame} {k : List Item} {cs : List Frame} {w : World} {T0 : List Value} {bg : Nat} {n : Int} {cV dV : Value}
/-- The temporaries while the region goes on, over a grid. -/
def aG (T0 : List Value) (bg : Nat) (n : Int) (cV dV : Value) (s0 s1 s2 s3 s4 : Bool) : Act := aS T0 bg (.int .i64 n) (.agg #[.int .i64 n, cV]) dV s0 s1 s2 s3 s4
theorem aG_tmp (hT : T0.length = 29) {i : Nat} (hi : i < 29) {s0 s1 s2 s3 s4 : Bool} : (aG T0 bg n cV dV s0 s1 s2 s3 s4).tmps[i]?.getD undef = T0.getD i undef := by
  simp [aG, aS, List.getElem?_append_left (hT ▸ hi)]
theorem aG_tmp2 (hT : T0.length = 29) {i : Nat} {s0 s1 s2 s3 s4 : Bool} : (aG T0 bg n cV dV s0 s1 s2 s3 s4).tmps[29 + i]?.getD undef = [bif s0 then .pointer (some ⟨bg, 0, none⟩) else undef, bif s1 then .int .i64 n else undef, bif s2 then .agg #[.int .i64 n, cV] else undef, bif s3 then dV else undef, bif s4 then .int .i64 1 else undef, undef, undef].getD i undef := by
  simp only [aG, aS, List.getElem?_toArray]
  rw [List.getElem?_append_right (by omega), hT, Nat.add_sub_cancel_left, List.getD_eq_getElem?_getD]
theorem aS_put (hT : T0.length = 29) (l : List Value) (i : Nat) (v : Value) : (Act.mk (T0 ++ l).toArray []).put (some (29 + i)) v = ⟨(T0 ++ l.set i v).toArray, []⟩ := by
  simp [Act.put, hT]
theorem aS_want {o : Oper} (h : o.guard = none) (y : Nat → Option Bool) : Region.wanted o y = true := by
  simp [Region.wanted, h]
theorem run9_0 (hT : T0.length = 29) (h3 : T0.getD 3 undef = .pointer (some ⟨bg, 0, none⟩)) {s0 s1 s2 s3 s4 : Bool} : (execOp (aG T0 bg n cV dV s0 s1 s2 s3 s4).eval { dst := some 29, op := .fieldAddr 27 (.tmp 3) 0, type := 0, pos := "ray.go:33", after := #[], guard := none }).run (barP Try.prog) w = .ok (.value (.pointer (some ⟨bg, 0, none⟩))) w := by
  have e := aG_tmp (bg := bg) (n := n) (cV := cV) (dV := dV) (s0 := s0) (s1 := s1) (s2 := s2) (s3 := s3) (s4 := s4) hT (i := 3) (by omega)
  rw [h3] at e
  simp [go_sem, e]
theorem run9_1 (hT : T0.length = 29) (hg : w.heap[bg]? = some (.cells #[.int .i64 n, cV] 27)) {s1 s2 s3 s4 : Bool} : (execOp (aG T0 bg n cV dV true s1 s2 s3 s4).eval { dst := some 30, op := .load 3 (.tmp 29), type := 3, pos := "ray.go:33", after := #[{ on := 0, ground := .data }], guard := none }).run (barP Try.prog) w = .ok (.value (.int .i64 n)) w := by
  have e : (aG T0 bg n cV dV true s1 s2 s3 s4).tmps[29]?.getD undef = .pointer (some ⟨bg, 0, none⟩) := aG_tmp2 hT (i := 0)
  have c0 : w.cell? ⟨bg, 0, none⟩ = some (.int .i64 n) := by simp [World.cell?, hg]
  simp [go_sem, e, c0]
theorem run9_2 {cap l : Nat} {ca : Option Addr} (hcV : cV = .slice ca l cap) (hT : T0.length = 29) (h3 : T0.getD 3 undef = .pointer (some ⟨bg, 0, none⟩)) (hg : w.heap[bg]? = some (.cells #[.int .i64 n, cV] 27)) {s0 s1 s2 s3 s4 : Bool} : (execOp (aG T0 bg n cV dV s0 s1 s2 s3 s4).eval { dst := some 31, op := .load 27 (.tmp 3), type := 27, pos := "ray.go:33", after := #[], guard := none }).run (barP Try.prog) w = .ok (.value (.agg #[.int .i64 n, cV])) w := by
  have e := aG_tmp (bg := bg) (n := n) (cV := cV) (dV := dV) (s0 := s0) (s1 := s1) (s2 := s2) (s3 := s3) (s4 := s4) hT (i := 3) (by omega)
  rw [h3] at e
  subst hcV
  have c0 : w.cell? ⟨bg, 0, none⟩ = some (.int .i64 n) := by simp [World.cell?, hg]
  have c1 : w.cell? ⟨bg, 1, none⟩ = some (.slice ca l cap) := by simp [World.cell?, hg]
  simp [go_sem, e, c0, c1]
theorem run9_3 (hT : T0.length = 29) (h1 : T0.getD 1 undef = dV) {s0 s1 s2 s3 s4 : Bool} {o : Oper} (ho : o.op = .move (.tmp 1)) : (execOp (aG T0 bg n cV dV s0 s1 s2 s3 s4).eval o).run (barP Try.prog) w = .ok (.value dV) w := by
  have e := aG_tmp (bg := bg) (n := n) (cV := cV) (dV := dV) (s0 := s0) (s1 := s1) (s2 := s2) (s3 := s3) (s4 := s4) hT (i := 1) (by omega)
  rw [h1] at e
  unfold execOp
  rw [ho]
  simp [go_sem, e]
theorem run9_4 (hT : T0.length = 29) (h2 : T0.getD 2 undef = .int .i64 1) {s0 s1 s2 s3 s4 : Bool} {o : Oper} (ho : o.op = .move (.tmp 2)) : (execOp (aG T0 bg n cV dV s0 s1 s2 s3 s4).eval o).run (barP Try.prog) w = .ok (.value (.int .i64 1)) w := by
  have e := aG_tmp (bg := bg) (n := n) (cV := cV) (dV := dV) (s0 := s0) (s1 := s1) (s2 := s2) (s3 := s3) (s4 := s4) hT (i := 2) (by omega)
  rw [h2] at e
  unfold execOp
  rw [ho]
  simp [go_sem, e]
set_option maxHeartbeats 4000000 in
/-- ████ Up to the call. ████ -/
theorem all_upto {cap l : Nat} {ca : Option Addr} (hcV : cV = .slice ca l cap) (hT : T0.length = 29) (h1 : T0.getD 1 undef = dV) (h2 : T0.getD 2 undef = .int .i64 1) (h3 : T0.getD 3 undef = .pointer (some ⟨bg, 0, none⟩)) (hg : w.heap[bg]? = some (.cells #[.int .i64 n, cV] 27)) (hk : b.kind ≠ .early)
    (hl : ∀ s0 s1, (s1 = true → s0 = true) → To T (lone (b.at (aG T0 bg n cV dV s0 s1 true true true) (.inRegion (ops9 Try.f7) (5 :: rest9 s0 s1) :: k)) cs w)) :
    ∀ (m t : Nat) (s0 s1 s2 s3 s4 : Bool), (s1 = true → s0 = true) → toCome s0 s1 s2 s3 s4 = m → To T (lone (b.at (aG T0 bg n cV dV s0 s1 s2 s3 s4) (.inRegion (ops9 Try.f7) (Region.linearise.go .any (ops9 Try.f7) (4 + m) t (lst s0 s1 s2 s3 s4 false false false false) []) :: k)) cs w) := by
  intro m
  induction m using Nat.strongRecOn with
  | ind m ih =>
    intro t s0 s1 s2 s3 s4 hs hm
    obtain ⟨i, hi, hp⟩ := pick_mem t (rdy9 s0 s1 s2 s3 s4) (rdy9_ne _ _ _ _ _)
    have hn := go_next (fuel := 3 + m) (ready9 s0 s1 s2 s3 s4 hs) hp
    rw [show 4 + m = 3 + m + 1 by omega, hn]
    generalize t / (rdy9 s0 s1 s2 s3 s4).length = t'
    clear hn hp
    simp only [rdy9, List.mem_append] at hi
    rcases hi with ((((hi | hi) | hi) | hi) | hi) | hi
    · cases s0
      · obtain rfl : i = 0 := by simpa using hi
        have hs1 : s1 = false := by cases s1 <;> simp_all
        subst hs1
        refine to_value (o := _) (by kernel_rfl) (aS_want rfl _) hk (run9_0 hT h3) ?_
        obtain ⟨m, rfl⟩ : ∃ m', m = m' + 1 := ⟨toCome true false s2 s3 s4, by rw [← hm]; cases s2 <;> cases s3 <;> cases s4 <;> rfl⟩
        have := ih m (Nat.lt_succ_self m) t' true false s2 s3 s4 (fun _ => rfl) (by clear ih; cases s2 <;> cases s3 <;> cases s4 <;> simp_all [toCome])
        rw [show 4 + m = 3 + (m + 1) by omega] at this
        unfold aG aS at this ⊢
        rw [aS_put (i := 0) hT]
        exact this
      · simp at hi
    · cases s0
      · simp at hi
      · cases s1
        · obtain rfl : i = 1 := by simpa using hi
          refine to_value (o := _) (by kernel_rfl) (aS_want rfl _) hk (run9_1 hT hg) ?_
          obtain ⟨m, rfl⟩ : ∃ m', m = m' + 1 := ⟨toCome true true s2 s3 s4, by rw [← hm]; cases s2 <;> cases s3 <;> cases s4 <;> rfl⟩
          have := ih m (Nat.lt_succ_self m) t' true true s2 s3 s4 (fun _ => rfl) (by clear ih; cases s2 <;> cases s3 <;> cases s4 <;> simp_all [toCome])
          rw [show 4 + m = 3 + (m + 1) by omega] at this
          unfold aG aS at this ⊢
          rw [aS_put (i := 1) hT]
          exact this
        · simp at hi
    · cases s2
      · obtain rfl : i = 2 := by simpa using hi
        refine to_value (o := _) (by kernel_rfl) (aS_want rfl _) hk (run9_2 hcV hT h3 hg) ?_
        obtain ⟨m, rfl⟩ : ∃ m', m = m' + 1 := ⟨toCome s0 s1 true s3 s4, by rw [← hm]; cases s0 <;> cases s1 <;> cases s3 <;> cases s4 <;> rfl⟩
        have := ih m (Nat.lt_succ_self m) t' s0 s1 true s3 s4 hs (by clear ih; cases s0 <;> cases s1 <;> cases s3 <;> cases s4 <;> simp_all [toCome])
        rw [show 4 + m = 3 + (m + 1) by omega] at this
        unfold aG aS at this ⊢
        rw [aS_put (i := 2) hT]
        exact this
      · simp at hi
    · cases s3
      · obtain rfl : i = 3 := by simpa using hi
        refine to_value (o := { dst := some 32, op := .move (.tmp 1), type := 23, pos := "ray.go:33", after := #[], guard := none }) (by kernel_rfl) (aS_want rfl _) hk (run9_3 hT h1 rfl) ?_
        obtain ⟨m, rfl⟩ : ∃ m', m = m' + 1 := ⟨toCome s0 s1 s2 true s4, by rw [← hm]; cases s0 <;> cases s1 <;> cases s2 <;> cases s4 <;> rfl⟩
        have := ih m (Nat.lt_succ_self m) t' s0 s1 s2 true s4 hs (by clear ih; cases s0 <;> cases s1 <;> cases s2 <;> cases s4 <;> simp_all [toCome])
        rw [show 4 + m = 3 + (m + 1) by omega] at this
        unfold aG aS at this ⊢
        rw [aS_put (i := 3) hT]
        exact this
      · simp at hi
    · cases s4
      · obtain rfl : i = 4 := by simpa using hi
        refine to_value (o := { dst := some 33, op := .move (.tmp 2), type := 3, pos := "ray.go:33", after := #[], guard := none }) (by kernel_rfl) (aS_want rfl _) hk (run9_4 hT h2 rfl) ?_
        obtain ⟨m, rfl⟩ : ∃ m', m = m' + 1 := ⟨toCome s0 s1 s2 s3 true, by rw [← hm]; cases s0 <;> cases s1 <;> cases s2 <;> cases s3 <;> rfl⟩
        have := ih m (Nat.lt_succ_self m) t' s0 s1 s2 s3 true hs (by clear ih; cases s0 <;> cases s1 <;> cases s2 <;> cases s3 <;> simp_all [toCome])
        rw [show 4 + m = 3 + (m + 1) by omega] at this
        unfold aG aS at this ⊢
        rw [aS_put (i := 4) hT]
        exact this
      · simp at hi
    · cases s2
      · simp at hi
      cases s3
      · simp at hi
      cases s4
      · simp at hi
      obtain rfl : i = 5 := by simpa using hi
      have := hl s0 s1 hs
      cases s0
      · cases s1
        · obtain rfl : m = 2 := by rw [← hm]; rfl
          rw [show (lst false false true true true false false false false).setIfInBounds 5 true = lst false false true true true true false false false from rfl, rest9_ff]
          exact this
        · cases hs rfl
      · cases s1
        · obtain rfl : m = 1 := by rw [← hm]; rfl
          rw [show (lst true false true true true false false false false).setIfInBounds 5 true = lst true false true true true true false false false from rfl, rest9_tf]
          exact this
        · obtain rfl : m = 0 := by rw [← hm]; rfl
          rw [show (lst true true true true true false false false false).setIfInBounds 5 true = lst true true true true true true false false false from rfl, rest9_tt]
          exact this
end
end Go.Proofs.Ythbghcebcahlnaa
