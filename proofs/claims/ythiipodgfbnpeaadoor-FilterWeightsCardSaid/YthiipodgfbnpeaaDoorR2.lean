/- The orders, and the list of steps. -/
import Derived.Test.YthiipodgfbnpeaaDoorR1
namespace Go.Proofs.YthiipodgfbnpeaaDoor
open Go.RowKit

theorem ret_eq {X : Nat × Nat} {p q : Nat} (h : X = (p, q)) : Ending.returned (Value.complex .f64 p q) = .returned (.complex .f64 X.1 X.2) := by rw [h]


theorem st0 : st 0 = (4604544271217802189, 4604544271217802189) := rfl

theorem dbl (i : Nat) : 16 * 2 ^ (i + 1) = 2 * (16 * 2 ^ i) := by rw [Nat.pow_succ]; omega
theorem lt_of_dbl {i j : Nat} (h : i < j) : 16 * 2 ^ i ≤ 8 * 2 ^ j := by
  have : 2 ^ (i + 1) ≤ 2 ^ j := Nat.pow_le_pow_right (by decide) h
  rw [Nat.pow_succ] at this
  omega
theorem ge_of_dbl {j : Nat} : 8 * 2 ^ j < 16 * 2 ^ j := by
  have : 0 < 2 ^ j := Nat.two_pow_pos j
  omega
theorem le_top {j : Nat} (hj : j ≤ 9) : 8 * 2 ^ j ≤ 4096 := by
  have : 2 ^ j ≤ 2 ^ 9 := Nat.pow_le_pow_right (by decide) hj
  have h9 : (2 : Nat) ^ 9 = 512 := rfl
  omega

theorem and_low (k : Int) (t : Nat) (m : Int) (ht : t ≤ 12) (hm : (BitVec.ofInt 64 m).toNat = 2 ^ t - 1) : bits .and .i64 k m = k % ((2 ^ t : Nat) : Int) := by
  have key : (BitVec.ofInt 64 k &&& BitVec.ofInt 64 m).toNat = (k % ((2 ^ 64 : Nat) : Int)).toNat % 2 ^ t := by
    rw [BitVec.toNat_and, BitVec.toNat_ofInt, hm, Nat.and_two_pow_sub_one_eq_mod]
  show IntKind.i64.wrap ((BitVec.ofInt 64 k &&& BitVec.ofInt 64 m).toNat : Nat) = _
  rw [key, IntKind.wrap_i64]
  have : t = 0 ∨ t = 1 ∨ t = 2 ∨ t = 3 ∨ t = 4 ∨ t = 5 ∨ t = 6 ∨ t = 7 ∨ t = 8 ∨ t = 9 ∨ t = 10 ∨ t = 11 ∨ t = 12 := by omega
  rcases this with rfl | rfl | rfl | rfl | rfl | rfl | rfl | rfl | rfl | rfl | rfl | rfl | rfl <;> omega

theorem and_ord {n s : Nat} (h : Ord n s) (k : Int) : bits .and .i64 k ((n : Int) - 1) = k % (n : Int) := by
  obtain ⟨e, he, rfl, -⟩ := h
  refine and_low k e _ he ?_
  have : e = 0 ∨ e = 1 ∨ e = 2 ∨ e = 3 ∨ e = 4 ∨ e = 5 ∨ e = 6 ∨ e = 7 ∨ e = 8 ∨ e = 9 ∨ e = 10 ∨ e = 11 ∨ e = 12 := by omega
  rcases this with rfl | rfl | rfl | rfl | rfl | rfl | rfl | rfl | rfl | rfl | rfl | rfl | rfl <;> decide

theorem and_self_ord {n s : Nat} (h : Ord n s) : bits .and .i64 (n : Int) ((n : Int) - 1) = 0 := by
  rw [and_ord h]; exact Int.emod_self

set_option maxHeartbeats 400000 in
theorem isOrder_yes {n s : Nat} (h : Ord n s) (w : World) :
    Calls Tryd.prog 21 #[.int .i64 n] w fun e w' => e = .returned (.bool true) ∧ w' = w := by
  have h1 := ord_le h
  have h2 := and_self_ord h
  clear h
  go_enter Tryd.func21, Tryd.ntmps21
  go_wp2_with fail
  go_ret
  exact ⟨rfl, rfl⟩

def stepVals (L : Nat) : List Value := (List.range L).map fun i => .complex .f64 (st i).1 (st i).2
theorem stepVals_succ (i : Nat) : stepVals (i + 1) = stepVals i ++ [.complex .f64 (st i).1 (st i).2] := by
  unfold stepVals; rw [List.range_succ, List.map_append]; rfl
theorem stepVals_length (L : Nat) : (stepVals L).length = L := by unfold stepVals; simp
theorem stepVals_get {L i : Nat} (h : i < L) : (stepVals L)[i]? = some (.complex .f64 (st i).1 (st i).2) := by
  unfold stepVals; simp [h]

theorem infoC : (Tryd.prog.info? 33).map (fun i => (i.zero, i.size, i.bytes)) = some (some (.complex .f64 0 0), 1, 16) := by kernel_rfl

theorem dbl8 (i : Nat) : 8 * 2 ^ (i + 1) = 2 * (8 * 2 ^ i) := by rw [Nat.pow_succ]; omega

theorem own_step {B i : Nat} {v v' : Value} {w wr w1 : World} {o : Obj} (hb : Below B w wr) (hs : B ≤ w.heap.size) (hown : wr.ownsRow B 33 1 v i (stepVals i))
    (hown' : w1.ownsRow B 33 1 v' (i + 1) (stepVals i ++ [.complex .f64 (st i).1 (st i).2])) (hg : (wr.alloc o).grownBy w1 v.ownBlock) :
    w1.ownsRow B 33 1 v' (i + 1) (stepVals (i + 1)) ∧ Below B w w1 := by
  have h1 : B ≤ wr.heap.size := Nat.le_trans hs hb.size
  refine ⟨by rw [stepVals_succ]; exact hown', ?_⟩
  exact (hb.alloc h1 o).grown hg (by simp; omega) fun k hk => (hown.lt k hk).1

set_option maxHeartbeats 1600000 in
theorem stepsTo_any (n L : Nat) (hL : L ≤ 10) (hlt : ∀ i, i < L → 8 * 2 ^ i ≤ n) (hge : n < 8 * 2 ^ L) (hb : n ≤ 4096) (w : World) :
    Calls Tryd.prog 22 #[.int .i64 n] w fun e w' => ∃ v, e = .returned v ∧ w'.ownsRow w.heap.size 33 1 v L (stepVals L) ∧ Below w.heap.size w w' := by
  obtain ⟨i0, hi0, hz0, hz1, hz2⟩ := info_parts infoC
  have hLT := hide hlt
  have hGE := hide hge
  clear hlt hge
  have hq := hide (sqrt_any _ _ sqrt_half)
  go_enter Tryd.func22, Tryd.ntmps22
  go_wp2_with (first | (go_at_call 35; refine (unhide hq _).mono ?_; rintro e w' ⟨rfl, rfl⟩))
  go_loopw [3, 4, 5] (fun v c o wr => ∃ i m : Nat, i ≤ L ∧ wr.ownsRow w'.heap.size 33 1 v i (stepVals i) ∧ c = .complex .f64 (st i).1 (st i).2 ∧ o = .int .i64 m ∧ Hid (m = 8 * 2 ^ i) ∧ Below w'.heap.size w' wr)
    (fun _ _ m _ => 16384 - (intOf m).toNat)
  case atStart => exact ⟨0, 8, Nat.zero_le _, World.ownsRow_nil _ _ _ _, rfl, rfl, rfl, Below.refl _ _⟩
  case round =>
    obtain ⟨i, m, hi, hown, rfl, rfl, hm, hbel⟩ := hrel
    by_cases h : i < L
    · have hle : m ≤ n := by rw [unhide hm]; exact unhide hLT i h
      have hpos : 0 < m := by rw [unhide hm]; have := Nat.two_pow_pos i; omega
      have hm1 : Hid (2 * m = 8 * 2 ^ (i + 1)) := by rw [unhide hm]; exact (dbl8 i).symm
      have hh := hide (halved_any (half_ok i (by omega)))
      have hsz := hbel.size
      go_wp2_with (first
        | (at_builtin; refine wpList_append_own _ rfl (.tmp 14) (.tmp 16) 32 rfl w'.heap.size 33 i0 (.complex .f64 0 0) 1 16 Tryd.underlying32 hi0 hz0 hz1 hz2 rfl (by decide) _ _ _ rfl (hown.alloc _) ⟨wr.heap.size, 0, none⟩ 1 1 [.complex .f64 (st i).1 (st i).2] rfl rfl ?c1 ?c2 ?c3 ?c4 ?c5 ?_))
      case c1 =>
        intro j u hj
        match j, hj with
        | 0, hj => simp at hj; subst hj; simp [Addr.add]
      case c2 => intro u hu; simp at hu; subst hu; rfl
      case c3 => unfold maxLen; omega
      case c4 => omega
      case c5 => simp; omega
      intro v' w1 hown' hgrow _
      have R := own_step hbel (Nat.le_refl _) hown hown' hgrow
      clear hown' hgrow hown
      go_wp2_with (first | (go_at_call 36; refine (unhide hh _).mono ?_; rintro e w2 ⟨rfl, rfl⟩))
      go_roundw
      case rel => exact ⟨i + 1, 2 * m, h, R.1, rfl, by go_num, hm1, R.2⟩
      case measure => simp [intOf]; omega
    · have hij : i = L := by omega
      subst hij
      have hlt : n < m := by rw [unhide hm]; exact unhide hGE
      go_wp2_with fail
      go_ret
      exact ⟨_, rfl, hown, hbel⟩
end Go.Proofs.YthiipodgfbnpeaaDoor
