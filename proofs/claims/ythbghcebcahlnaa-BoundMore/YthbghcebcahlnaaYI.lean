/- Each cell's line: its number; package ray's own iterator. -/
import Derived.Test.YthbghcebcahlnaaYB
import Derived.Test.YthbghcebcahlnaaYQ
import Derived.RangeFuncNested
import Derived.RangeFuncBound
import Derived.RangeFuncCalls
import Derived.RangeFuncLeaves
import Derived.Shelf.Abstract
import Derived.Shelf.RegionOpen
import Derived.OwnWalkIn
import Derived.TacticsInMore
import Derived.LoopNIn
import Derived.LoopIn
namespace Go.Proofs.Ythbghcebcahlnaa
open Go.RowKit Go.Shelf
attribute [local go_sem] Oper.semAt_some

theorem mixed : (barP Try.prog).follows .mixedOrders = true := by kernel_rfl
theorem below_drewN (B : Nat) (W : World) (k : Nat) : Below B W (W.drewN k) := ⟨rfl, rfl, rfl, Nat.le_refl _, fun _ _ => rfl⟩

/-- The number of the line of cell k. -/
def ixS (n : Nat) (a : Int × Int) (k : Nat) : Int := a.2 * ((k % n : Nat) : Int) - a.1 * ((k / n : Nat) : Int) + startS n a
def ixN (n : Nat) (a : Int × Int) (k : Nat) : Nat := (ixS n a k).toNat

theorem ix_bounds {n : Nat} {a : Int × Int} (hn : 1 ≤ n) (h64 : n ≤ 64) (ho : okD a.1 a.2 = true) {k : Nat} (hk : k < n * n) :
    0 ≤ ixS n a k ∧ ixS n a k < (binsS n a).1 := by
  obtain ⟨b1, b2, b3⟩ := okD_bounds ho
  have hb : binsS n a = (((n : Int) - 1) * (a.1.natAbs + a.2) + 1, 0) := by
    unfold binsS
    rw [if_neg (by omega), if_pos ho]
  rw [hb]
  have g1 : k % n < n := Nat.mod_lt _ (by omega)
  have g2 : k / n < n := (Nat.div_lt_iff_lt_mul (by omega)).2 hk
  unfold ixS startS
  obtain ⟨P, Q⟩ := a
  generalize k % n = x at *
  generalize k / n = y at *
  dsimp only at *
  have q1 : 0 ≤ Q * (x : Int) := Int.mul_nonneg b2 (by omega)
  have q2 : Q * (x : Int) ≤ Q * ((n : Int) - 1) := Int.mul_le_mul_of_nonneg_left (by omega) b2
  by_cases hP : P < 0
  · rw [if_pos hP]
    have q3 : 0 ≤ (-P) * (y : Int) := Int.mul_nonneg (by omega) (by omega)
    have q4 : (-P) * (y : Int) ≤ (-P) * ((n : Int) - 1) := Int.mul_le_mul_of_nonneg_left (by omega) (by omega)
    have e : ((P.natAbs : Nat) : Int) = -P := by omega
    rw [e, Int.mul_add, Int.mul_comm ((n : Int) - 1) (-P), Int.mul_comm ((n : Int) - 1) Q]
    rw [Int.neg_mul] at q3 q4
    omega
  · rw [if_neg hP]
    have q3 : 0 ≤ P * (y : Int) := Int.mul_nonneg (by omega) (by omega)
    have q4 : P * (y : Int) ≤ P * ((n : Int) - 1) := Int.mul_le_mul_of_nonneg_left (by omega) (by omega)
    have e : ((P.natAbs : Nat) : Int) = P := by omega
    rw [e, Int.mul_add, Int.mul_comm ((n : Int) - 1) P, Int.mul_comm ((n : Int) - 1) Q]
    omega

theorem bins_le {n : Nat} {a : Int × Int} (hn : 1 ≤ n) (h64 : n ≤ 64) (ho : okD a.1 a.2 = true) : ∃ B : Nat, binsS n a = ((B : Int), 0) ∧ 1 ≤ B ∧ B ≤ 2017 := by
  obtain ⟨b1, b2, b3⟩ := okD_bounds ho
  have hb : binsS n a = (((n : Int) - 1) * (a.1.natAbs + a.2) + 1, 0) := by
    unfold binsS
    rw [if_neg (by omega), if_pos ho]
  have h0 : 0 ≤ ((n : Int) - 1) * (a.1.natAbs + a.2) := Int.mul_nonneg (by omega) (by omega)
  have h1 : ((n : Int) - 1) * (a.1.natAbs + a.2) ≤ 63 * 32 := Int.mul_le_mul (by omega) (by omega) (by omega) (by decide)
  refine ⟨(((n : Int) - 1) * (a.1.natAbs + a.2) + 1).toNat, ?_, by omega, by omega⟩
  rw [hb, Int.toNat_of_nonneg (by omega)]

theorem index00 {n : Nat} {a : Int × Int} (hn : 1 ≤ n) (h64 : n ≤ 64) (ho : okD a.1 a.2 = true) : indexS n a 0 0 = (startS n a, 0) := by
  unfold indexS
  obtain ⟨B, hB, _⟩ := bins_le hn h64 ho
  rw [hB, if_neg (fun h => h rfl), if_neg (by omega), Int.mul_zero, Int.mul_zero]
  simp

/-- What a line's number comes to, step by step, without going round. -/
structure Steps (n k x y : Nat) (P Q st X A Y I : Int) : Prop where
  e0 : (k : Int).tmod (n : Int) = (x : Int)
  e0' : (k : Int) % (n : Int) = (x : Int)
  w0 : IntKind.i64.wrap (x : Int) = x
  f0 : (k : Int) / (n : Int) = (y : Int)
  g0 : IntKind.i64.wrap (y : Int) = y
  e1 : Q * (x : Int) = X
  w1 : IntKind.i64.wrap X = X
  e2 : st + X = A
  w2 : IntKind.i64.wrap A = A
  e3 : P * (y : Int) = Y
  w3 : IntKind.i64.wrap Y = Y
  e4 : A - Y = I
  w4 : IntKind.i64.wrap I = I

theorem small16 {p : Int} {x : Nat} (hp : p.natAbs ≤ 16) (hx : x < 64) : (p * (x : Int)).natAbs ≤ 1024 := by
  rw [Int.natAbs_mul]
  have := Nat.mul_le_mul hp (show (x : Int).natAbs ≤ 64 by omega)
  omega

theorem start_le {n : Nat} {a : Int × Int} (hn : 1 ≤ n) (h64 : n ≤ 64) (ho : okD a.1 a.2 = true) : (startS n a).natAbs ≤ 1024 := by
  have h := ix_bounds hn h64 ho (k := 0) (Nat.mul_pos hn hn)
  obtain ⟨B, hB, _, hB2⟩ := bins_le hn h64 ho
  obtain ⟨b1, b2, b3⟩ := okD_bounds ho
  have e : ((n - 1 : Nat) : Int) = (n : Int) - 1 := by omega
  have := small16 (p := a.1) (x := n - 1) b1 (by omega)
  rw [e] at this
  unfold startS
  split
  · omega
  · omega

theorem steps {n k : Nat} {a : Int × Int} (hn : 1 ≤ n) (h64 : n ≤ 64) (ho : okD a.1 a.2 = true) (hk : k < n * n) :
    ∃ x y X A Y, Steps n k x y a.1 a.2 (startS n a) X A Y (ixS n a k) := by
  obtain ⟨b1, b2, b3⟩ := okD_bounds ho
  have g1 : k % n < n := Nat.mod_lt _ (by omega)
  have g2 : k / n < n := (Nat.div_lt_iff_lt_mul (by omega)).2 hk
  have i1 := ix_bounds hn h64 ho hk
  have st := start_le hn h64 ho
  obtain ⟨B, hB, _, hB2⟩ := bins_le hn h64 ho
  rw [hB] at i1
  dsimp only at i1
  have s1 := small16 (p := a.2) (x := k % n) (by omega) (by omega)
  have s2 := small16 (p := a.1) (x := k / n) b1 (by omega)
  have hi : startS n a + a.2 * ((k % n : Nat) : Int) - a.1 * ((k / n : Nat) : Int) = ixS n a k := by
    unfold ixS
    omega
  have em : (k : Int) % (n : Int) = ((k % n : Nat) : Int) := (Int.natCast_emod k n).symm
  have ed : (k : Int) / (n : Int) = ((k / n : Nat) : Int) := (Int.natCast_ediv k n).symm
  have et : (k : Int).tmod (n : Int) = ((k % n : Nat) : Int) := by rw [Int.tmod_eq_emod_of_nonneg (by omega), em]
  generalize ixS n a k = I at *
  generalize startS n a = s at *
  generalize k % n = x at *
  generalize k / n = y at *
  refine ⟨x, y, _, _, _, ⟨et, em, ?_, ed, ?_, rfl, ?_, rfl, ?_, rfl, ?_, hi, ?_⟩⟩
  all_goals rw [IntKind.wrap_i64]
  all_goals omega

abbrev CellNo (n : Nat) := { k : Nat // k < n * n }
abbrev encC (n : Nat) (a : Int × Int) (x : CellNo n) : Array Value := #[.int .i64 (x.1 : Int), .int .i64 (ixS n a x.1)]

theorem pre_len {n k : Nat} {pre : List (CellNo n)} (h : pre.map (·.1) = List.range k) : pre.length = k := by
  have := congrArg List.length h
  simpa using this

theorem pre_snoc {n k : Nat} {pre : List (CellNo n)} (h : pre.map (·.1) = List.range k) (hk : k < n * n) : (pre ++ [(⟨k, hk⟩ : CellNo n)]).map (·.1) = List.range (k + 1) := by
  rw [List.map_append, h, List.range_succ]
  rfl

/-- What the iterator wants kept: the two boxes that it reads. -/
structure Keep2 (Bn Bd : Nat) (W W' : World) : Prop where
  one : W'.heap[Bn]? = W.heap[Bn]?
  two : W'.heap[Bd]? = W.heap[Bd]?
theorem keep2_t {Bn Bd : Nat} {A B C : World} (h : Keep2 Bn Bd A B) (k : Keep2 Bn Bd B C) : Keep2 Bn Bd A C := ⟨k.one.trans h.one, k.two.trans h.two⟩
theorem keep2_b {Bn Bd : Nat} {w : World} (h1 : Bn < w.heap.size) (h2 : Bd < w.heap.size) (W : World) (l : Nat) (o o' : Obj) (hl : w.heap.size ≤ l) (_ : W.heap[l]? = some o) (_ : o.isCells = false) (_ : o.isWalk = false) : Keep2 Bn Bd W (W.putObj l o') :=
  ⟨World.putObj_heap_other (by omega), World.putObj_heap_other (by omega)⟩
theorem keep2_below {Bn Bd n₀ : Nat} {W W' : World} (h : Below n₀ W W') (h1 : Bn < n₀) (h2 : Bd < n₀) : Keep2 Bn Bd W W' := ⟨h.block _ h1, h.block _ h2⟩
theorem keep2_set {Bn Bd : Nat} (W : World) (p : Addr) (u : Value) (h1 : Bn ≠ p.block) (h2 : Bd ≠ p.block) : Keep2 Bn Bd W (W.setCell p u) := ⟨Below.heap_setCell _ _ _ _ h1, Below.heap_setCell _ _ _ _ h2⟩
theorem keep2_drew {Bn Bd : Nat} {W W' : World} (h : Keep2 Bn Bd W W') : Keep2 Bn Bd W W'.drew := ⟨h.one, h.two⟩
theorem Keep2.cell1 {Bn Bd : Nat} {W W' : World} (h : Keep2 Bn Bd W W') (i : Nat) : W'.cell? ⟨Bn, i, none⟩ = W.cell? ⟨Bn, i, none⟩ := World.cell?_of_block h.one
theorem Keep2.cell2 {Bn Bd : Nat} {W W' : World} (h : Keep2 Bn Bd W W') (i : Nat) : W'.cell? ⟨Bd, i, none⟩ = W.cell? ⟨Bd, i, none⟩ := World.cell?_of_block h.two

set_option maxRecDepth 100000 in
set_option maxHeartbeats 2000000 in
/-- Package ray's own iterator: each cell's number and its line's. -/
theorem lines_stops {n : Nat} {a : Int × Int} (hn : 1 ≤ n) (h64 : n ≤ 64) (ha : Dir64 a) (ho : okD a.1 a.2 = true) (m : Nat) (hm : 1 ≤ m) (Bn Bd : Nat) (w : World) (hBn : Bn < w.heap.size) (hBd : Bd < w.heap.size)
    (c1 : w.cell? ⟨Bn, 0, none⟩ = some (.int .i64 n)) (c2 : w.cell? ⟨Bd, 0, none⟩ = some (.int .i64 a.1)) (c3 : w.cell? ⟨Bd, 1, none⟩ = some (.int .i64 a.2)) :
    SeqStopsK Fence.wide m (barP Try.prog) 81 #[.pointer (some ⟨Bn, 0, none⟩), .pointer (some ⟨Bd, 0, none⟩)] (encC n a) (Keep2 Bn Bd) (fun xs => xs.map (·.1) = List.range (n * n)) (fun _ => True) (n * n) w := fun l J Jx W hW hJ hJx hY h0 => by
  have kI := hide fun w => dirIndex (n := n) (x := 0) (y := 0) ha w
  rw [index00 hn h64 ho] at kI
  obtain ⟨P, Q⟩ := a
  unfold dirV at kI
  dsimp only at *
  have hS := hide (fun k (hk : k < n * n) => steps (k := k) (a := (P, Q)) hn h64 ho hk)
  generalize startS n (P, Q) = st at kI hS
  have C1 := hide ((hW.cell (p := ⟨Bn, 0, none⟩) (by show Bn < _; omega)).trans c1)
  have C2 := hide ((hW.cell (p := ⟨Bd, 0, none⟩) (by show Bd < _; omega)).trans c2)
  have C3 := hide ((hW.cell (p := ⟨Bd, 1, none⟩) (by show Bd < _; omega)).trans c3)
  have hsz := hW.size
  clear c1 c2 c3 hW ho ha
  have d1 := unhide C1
  have d2 := unhide C2
  have d3 := unhide C3
  have hJ := hide hJ
  have hY := hide hY
  have hsq := square_le h64
  obtain ⟨M, hM⟩ : ∃ M, n * n = M := ⟨_, rfl⟩
  have q5 : (n : Int) * (n : Int) = (M : Int) := by rw [← hM, Int.natCast_mul]
  rw [hM] at hsq
  have q6 : IntKind.i64.wrap (M : Int) = M := by rw [IntKind.wrap_i64]; omega
  have hM := hide hM
  have hn0 : ¬ (n : Int) = 0 := by omega
  have hn0' : ¬ n = 0 := by omega
  refine callsIn_of_wp Bar.func81 rfl trivial ?_ rfl
  simp only [Bar.ntmps81, List.size_toArray, List.length_cons, List.length_nil, Nat.reduceAdd, Nat.reduceSub, Array.replicate_succ, Array.replicate_zero, List.push_toArray, List.append_toArray, List.nil_append, List.cons_append]
  gi_wp2_with (refine ⟨trivial, ?_⟩; gi_at_call 82; refine (callsIn_wide.2 (unhide kI _)).mono ?_; rintro e W1 ⟨rfl, hb1⟩; have e1 := (hb1.cell (p := ⟨Bn, 0, none⟩) (by show Bn < _; omega)).trans d1)
  have hb1 := hide hb1
  have hJ1 := hide ((unhide hJ) [] W W1 none h0 (below_grown (unhide hb1)) (fun r e => by cases e))
  clear e1 d1 d2 d3 kI h0
  gi_loopw [18] (fun kv wr => ∃ (k : Nat) (pre : List (CellNo n)), k ≤ M ∧ kv = .int .i64 k ∧ Hid (pre.map (·.1) = List.range k) ∧ Hid (J pre wr) ∧ Hid (Keep2 Bn Bd W wr)) (fun kv _ => M - (intOf kv).toNat)
  case atStart => exact ⟨0, [], Nat.zero_le _, rfl, rfl, hJ1, keep2_below (unhide hb1) (by omega) (by omega)⟩
  case round =>
    obtain ⟨k, pre, hk, rfl, hp, hJr, hBr⟩ := hrel
    by_cases hkM : k < M
    · have q1 : ((k : Int) < (M : Int)) = True := by simp; omega
      have hkn : k < n * n := by rw [unhide hM]; exact hkM
      obtain ⟨x, y, X, A, Y, s⟩ := unhide hS k hkn
      obtain ⟨e0, e0', w0, f0, g0, e1, w1, e2, w2, e3, w3, e4, w4⟩ := s
      have d1 := ((unhide hBr).cell1 0).trans (unhide C1)
      have hfn : ∀ f, Fence.wide.fn f = True := fun _ => rfl
      have hpn := hide (pre_snoc (unhide hp) hkn)
      gi_wp2_with fail
      refine region_quiet 8 mixed (by kernel_rfl) ?_
      simp only [List.take_succ_cons, List.take_zero, List.drop_succ_cons, List.drop_zero]
      repeat (gi_big_quiet_step (fail))
      refine wpQuietIn_nil ?_
      intro _ hw'
      obtain ⟨nq, rfl⟩ := hw'
      clear d1
      have hJq := hide ((unhide hJ) pre wr (wr.drewN nq) none (unhide hJr) (below_grown (below_drewN _ wr nq)) (fun r e => by cases e))
      have hBq : Hid (Keep2 Bn Bd W (wr.drewN nq)) := ⟨(unhide hBr).one, (unhide hBr).two⟩
      clear hJr hBr
      generalize wr.drewN nq = wq at hJq hBq ⊢
      obtain ⟨fn, tmps, assign, body, hyl, hR⟩ := unhide hY pre ⟨k, hkn⟩ wq (unhide hJq) (by rw [pre_len (unhide hp)]; exact hkn)
      dsimp only [encC] at hyl
      have d2 := ((unhide hBq).cell2 0).trans (unhide C2)
      have d3 := ((unhide hBq).cell2 1).trans (unhide C3)
      generalize ixS n (P, Q) k = I at *
      gi_wp2
      refine hR.mono ?_
      rintro e W3 (⟨rfl, hJ3, hk3⟩ | ⟨rfl, hJx3⟩)
      · have hJ3 := hide hJ3
        have hB3 := hide (keep2_t (unhide hBq) hk3)
        gi_wp2
        go_roundw
        case rel => exact ⟨k + 1, _, by omega, by simp, hpn, hJ3, hB3⟩
        case measure => simp [intOf]; omega
      · gi_wp2
        refine bodyPost_ret (results_none rfl _ _ _) rfl ?_
        exact ⟨⟨_, rfl⟩, .inr ⟨_, trivial, hJx3⟩⟩
    · have e : k = M := by omega
      subst e
      have q1 : ((k : Int) < (k : Int)) = False := by simp
      gi_wp2
      go_end0
      exact ⟨⟨_, rfl⟩, .inl ⟨_, (unhide hp).trans (congrArg List.range (unhide hM).symm), unhide hJr⟩⟩
end Go.Proofs.Ythbghcebcahlnaa
