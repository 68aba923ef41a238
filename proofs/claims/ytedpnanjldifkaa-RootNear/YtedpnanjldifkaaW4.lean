/- The code's steps, and its roots up to an eighth of a turn. -/
import Derived.Test.YtedpnanjldifkaaW3
namespace Go.Proofs.Ytedpnanjldifkaa
open Go.RowKit

def stepVals (L : Nat) : List Value := (List.range L).map fun i => .complex .f64 (st i).1 (st i).2
theorem stepVals_succ (i : Nat) : stepVals (i + 1) = stepVals i ++ [.complex .f64 (st i).1 (st i).2] := by
  unfold stepVals; rw [List.range_succ, List.map_append]; rfl
theorem stepVals_length (L : Nat) : (stepVals L).length = L := by unfold stepVals; simp
theorem stepVals_get {L i : Nat} (h : i < L) : (stepVals L)[i]? = some (.complex .f64 (st i).1 (st i).2) := by
  unfold stepVals; simp [h]

theorem info23 : (Try.prog.info? 23).map (fun i => (i.zero, i.size, i.bytes)) = some (some (.complex .f64 0 0), 1, 16) := by kernel_rfl

theorem dbl8 (i : Nat) : 8 * 2 ^ (i + 1) = 2 * (8 * 2 ^ i) := by rw [Nat.pow_succ]; omega

theorem own_step {B i : Nat} {v v' : Value} {w wr w1 : World} {o : Obj} (hb : Below B w wr) (hs : B ≤ w.heap.size) (hown : wr.ownsRow B 23 1 v i (stepVals i))
    (hown' : w1.ownsRow B 23 1 v' (i + 1) (stepVals i ++ [.complex .f64 (st i).1 (st i).2])) (hg : (wr.alloc o).grownBy w1 v.ownBlock) :
    w1.ownsRow B 23 1 v' (i + 1) (stepVals (i + 1)) ∧ Below B w w1 := by
  have h1 : B ≤ wr.heap.size := Nat.le_trans hs hb.size
  refine ⟨by rw [stepVals_succ]; exact hown', ?_⟩
  exact (hb.alloc h1 o).grown hg (by simp; omega) fun k hk => (hown.lt k hk).1

set_option maxHeartbeats 1600000 in
theorem stepsTo_any (n L : Nat) (hL : L ≤ 10) (hlt : ∀ i, i < L → 8 * 2 ^ i ≤ n) (hge : n < 8 * 2 ^ L) (hb : n ≤ 4096) (w : World) :
    Calls Try.prog 23 #[.int .i64 n] w fun e w' => ∃ v, e = .returned v ∧ w'.ownsRow w.heap.size 23 1 v L (stepVals L) ∧ Below w.heap.size w w' := by
  obtain ⟨i0, hi0, hz0, hz1, hz2⟩ := info_parts info23
  have hLT := hide hlt
  have hGE := hide hge
  clear hlt hge
  have hq := hide (sqrt_any _ _ sqrt_half)
  go_enter Try.func23, Try.ntmps23
  go_wp2_with (first | (go_at_call 36; refine (unhide hq _).mono ?_; rintro e w' ⟨rfl, rfl⟩))
  go_loopw [3, 4, 5] (fun v c o wr => ∃ i m : Nat, i ≤ L ∧ wr.ownsRow w'.heap.size 23 1 v i (stepVals i) ∧ c = .complex .f64 (st i).1 (st i).2 ∧ o = .int .i64 m ∧ Hid (m = 8 * 2 ^ i) ∧ Below w'.heap.size w' wr)
    (fun _ _ m _ => 16384 - (intOf m).toNat)
  case atStart => exact ⟨0, 8, Nat.zero_le _, World.ownsRow_nil _ _ _ _, rfl, rfl, rfl, Below.refl _ _⟩
  case round =>
    obtain ⟨i, m, hi, hown, rfl, rfl, hm, hbel⟩ := hrel
    by_cases h : i < L
    · have hle : m ≤ n := by rw [unhide hm]; exact unhide hLT i h
      have hpos : 0 < m := by rw [unhide hm]; have := Nat.two_pow_pos i; omega
      have hm1 : Hid (2 * m = 8 * 2 ^ (i + 1)) := by rw [unhide hm]; exact (dbl8 i).symm
      have hh := hide (halved_any (half_ok i (by omega)))
      have hsz := hbel.size
      go_wp2_with (first
        | (at_builtin; refine wpList_append_own _ rfl (.tmp 14) (.tmp 16) 29 rfl w'.heap.size 23 i0 (.complex .f64 0 0) 1 16 Try.underlying29 hi0 hz0 hz1 hz2 rfl (by decide) _ _ _ rfl (hown.alloc _) ⟨wr.heap.size, 0, none⟩ 1 1 [.complex .f64 (st i).1 (st i).2] rfl rfl ?c1 ?c2 ?c3 ?c4 ?c5 ?_))
      case c1 =>
        intro j u hj
        match j, hj with
        | 0, hj => simp at hj; subst hj; simp [Addr.add]
      case c2 => intro u hu; simp at hu; subst hu; rfl
      case c3 => unfold maxLen; omega
      case c4 => omega
      case c5 => simp; omega
      intro v' w1 hown' hgrow _
      have R := own_step hbel (Nat.le_refl _) hown hown' hgrow
      clear hown' hgrow hown
      go_wp2_with (first | (go_at_call 37; refine (unhide hh _).mono ?_; rintro e w2 ⟨rfl, rfl⟩))
      go_roundw
      case rel => exact ⟨i + 1, 2 * m, h, R.1, rfl, by go_num, hm1, R.2⟩
      case measure => simp [intOf]; omega
    · have hij : i = L := by omega
      subst hij
      have hlt : n < m := by rw [unhide hm]; exact unhide hGE
      go_wp2_with fail
      go_ret
      exact ⟨_, rfl, hown, hbel⟩
end Go.Proofs.Ytedpnanjldifkaa
