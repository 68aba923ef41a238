/- With all directions of more steps no more cells are open: the walk. -/
import Derived.Test.YtgbkfmjkemkajabPW
import Derived.Test.YtgbkfmjkemkajabDS
import Derived.Laws.Bits128
namespace Go.Proofs.Ytgbkfmjkemkajab
open Go.RowKit

/-- The low bits of a number are its remainder. -/
theorem low_bits (x : Int) (t : Nat) (m : Int) (ht : t = 2 ∨ t = 3) (hm : (BitVec.ofInt 64 m).toNat = 2 ^ t - 1) : bits .and .i64 x m = x % ((2 ^ t : Nat) : Int) := by
  have e : (BitVec.ofInt 64 x &&& BitVec.ofInt 64 m).toNat = (x % 18446744073709551616).toNat % 2 ^ t := by
    rw [BitVec.toNat_and, hm, Nat.and_two_pow_sub_one_eq_mod, BitVec.toNat_ofInt]
    rfl
  have h : bits .and .i64 x m = IntKind.i64.wrap (((BitVec.ofInt 64 x &&& BitVec.ofInt 64 m).toNat : Nat) : Int) := rfl
  rw [h, IntKind.wrap_i64]
  rcases ht with rfl | rfl <;> omega
theorem i64_and7 (n : Int) : bits .and .i64 n 7 = n % 8 := low_bits n 3 7 (Or.inr rfl) (by decide)
theorem i64_and3 (n : Int) : bits .and .i64 n 3 = n % 4 := low_bits n 2 3 (Or.inl rfl) (by decide)

def AllOk (f : Nat) : Prop := ∀ (k : Int) (w : World), Calls Try.prog f #[.int .i64 k] w fun e w' =>
  ∃ v, e = .returned (.tuple #[v, .int .i64 (allS k).2]) ∧ w'.ownsRow w.heap.size 31 2 v (allS k).1.length (flat2 (allS k).1) ∧ Below w.heap.size w w'
def Alive14Ok : Prop := ∀ w : World, Calls Try.prog 4 #[] w fun e w' => e = .returned (.bool true) ∧ Below w.heap.size w w'

def smallB (d : Int × Int) : Bool := decide (-100 ≤ d.1) && decide (d.1 ≤ 100) && decide (-100 ≤ d.2) && decide (d.2 ≤ 100) && okD d.1 d.2
def nodupB : List (Int × Int) → Bool
  | [] => true
  | d :: l => !(l.any fun x => x == d) && nodupB l
theorem nodup_of : ∀ {L : List (Int × Int)}, nodupB L = true → L.Nodup
  | [], _ => List.nodup_nil
  | d :: l, h => by
    unfold nodupB at h
    rw [Bool.and_eq_true] at h
    refine List.nodup_cons.2 ⟨fun hm => ?_, nodup_of h.2⟩
    have h1 := h.1
    rw [Bool.not_eq_true', List.any_eq_false] at h1
    exact h1 d hm (by simp)

/-- What is so of the directions of at most five steps: reckoned. -/
theorem all_facts : ∀ k, k < 6 → 1 ≤ k → (allS (k : Nat)).2 = 0 ∧ (allS (k : Nat)).1.length ≤ 64 ∧ ((allS (k : Nat)).1.all smallB) = true ∧ twiceS (allS (k : Nat)).1 = 0 ∧ nodupB (allS (k : Nat)).1 = true ∧ (k : Int) ≤ sumP (allS (k : Nat)).1 := by decide +kernel
theorem all_more : ∀ k, k < 5 → 1 ≤ k → ((allS (k : Nat)).1.all fun d => (allS ((k : Nat) + 1)).1.any fun e => e == d) = true := by decide +kernel

structure Known (L : List (Int × Int)) (k : Nat) : Prop where
  len : L.length ≤ 64
  all : All64 L
  ok : ∀ d, d ∈ L → okD d.1 d.2 = true
  twice : twiceS L = 0
  nodup : L.Nodup
  sum : (k : Int) ≤ sumP L

theorem known_all {k : Nat} (h1 : 1 ≤ k) (h2 : k ≤ 5) : (allS (k : Nat)).2 = 0 ∧ Known (allS (k : Nat)).1 k := by
  obtain ⟨a1, a2, a3, a4, a5, a6⟩ := all_facts k (by omega) h1
  rw [List.all_eq_true] at a3
  have each : ∀ d, d ∈ (allS (k : Nat)).1 → Dir64 d ∧ okD d.1 d.2 = true := fun d hd => by
    have := a3 d hd
    unfold smallB at this
    simp only [Bool.and_eq_true, decide_eq_true_eq] at this
    obtain ⟨⟨⟨⟨b1, b2⟩, b3⟩, b4⟩, b5⟩ := this
    exact ⟨⟨by unfold I64; omega, by unfold I64; omega⟩, b5⟩
  exact ⟨a1, a2, fun i d hd => (each d (List.mem_of_getElem? hd)).1, fun d hd => (each d hd).2, a4, nodup_of a5, a6⟩

theorem more_all {k : Nat} (h1 : 1 ≤ k) (h2 : k ≤ 4) : ∀ d, d ∈ (allS (k : Nat)).1 → d ∈ (allS ((k : Nat) + 1)).1 := fun d hd => by
  have := all_more k (by omega) h1
  rw [List.all_eq_true] at this
  have h := this d hd
  rw [List.any_eq_true] at h
  obtain ⟨e, he, hx⟩ := h
  have : e = d := by simpa using hx
  rw [← this]
  exact he

theorem open_none {n : Nat} {L : List (Int × Int)} {k : Nat} (h : Known L k) (hn : 1 ≤ n) (h64 : n ≤ 64) : openErr n L = 0 := by
  unfold openErr
  rw [if_neg (by omega), if_neg (by have := h.len; omega)]
  exact h.twice

set_option maxHeartbeats 6400000 in
theorem anglesWalk (hal : Alive14Ok) (hAll : AllOk 5) (hL : LeftGood 6) (n k : Int) (w : World) :
    Calls Try.prog 3 #[.int .i64 n, .int .i64 k] w fun e w' => e = .returned (.bool true) ∧ Below w.heap.size w w' := by
  obtain ⟨N, hN⟩ : ∃ N : Nat, n % 8 = N := ⟨(n % 8).toNat, by omega⟩
  obtain ⟨K, hK⟩ : ∃ K : Nat, k % 4 = K := ⟨(k % 4).toNat, by omega⟩
  have b1 : bits .and .i64 n 7 = (N : Int) := by rw [i64_and7, hN]
  have b2 : bits .and .i64 k 3 = (K : Int) := by rw [i64_and3, hK]
  have hN8 : N < 8 := by omega
  have hK4 : K < 4 := by omega
  have n1 : IntKind.i64.wrap (1 + (N : Int)) = ((N + 1 : Nat) : Int) := by rw [IntKind.wrap_i64]; omega
  have n2 : IntKind.i64.wrap (1 + (K : Int)) = ((K + 1 : Nat) : Int) := by rw [IntKind.wrap_i64]; omega
  have n3 : IntKind.i64.wrap (((K + 1 : Nat) : Int) + 1) = ((K + 2 : Nat) : Int) := by rw [IntKind.wrap_i64]; omega
  obtain ⟨x1, y1⟩ := known_all (k := K + 1) (by omega) (by omega)
  obtain ⟨x2, y2⟩ := known_all (k := K + 2) (by omega) (by omega)
  have hsub := hide (more_all (k := K + 1) (by omega) (by omega))
  rw [show (((K + 1 : Nat) : Int) + 1) = ((K + 2 : Nat) : Int) by omega] at hsub
  have A1 := hide (fun W => hAll ((K + 1 : Nat) : Int) W)
  have A2 := hide (fun W => hAll ((K + 2 : Nat) : Int) W)
  rw [x1] at A1
  rw [x2] at A2
  have l1 := y1.len
  have l2 := y2.len
  have Y1 := hide y1
  have Y2 := hide y2
  clear y1 y2 x1 x2 hAll hN hK
  generalize (allS ((K + 1 : Nat) : Int)).1 = L1 at *
  generalize (allS ((K + 2 : Nat) : Int)).1 = L2 at *
  obtain ⟨M, hM⟩ : ∃ M, N + 1 = M := ⟨_, rfl⟩
  obtain ⟨R, hR⟩ : ∃ R, K + 1 = R := ⟨_, rfl⟩
  rw [hM] at n1
  rw [hR] at n2 n3 A1 Y1
  have hM1 : 1 ≤ M := by omega
  have hM8 : M ≤ 8 := by omega
  have f1 := hide (fun (W : World) a cap g o (h : Dirs W a g o L1) => hL M L1 a cap g o W (unhide Y1).all h (open_none (unhide Y1) hM1 (by omega)))
  have f2 := hide (fun (W : World) a cap g o (h : Dirs W a g o L2) => hL M L2 a cap g o W (unhide Y2).all h (open_none (unhide Y2) hM1 (by omega)))
  have hal := hide hal
  have q1 : ((64 : Int) < (L1.length : Int)) = False := by simp; omega
  have q2 : ((64 : Int) < (L2.length : Int)) = False := by simp; omega
  have hMM : M * M ≤ 64 := Nat.mul_le_mul hM8 hM8
  have m1 : IntKind.i64.wrap ((M : Int) * (M : Int)) = ((M * M : Nat) : Int) := by rw [← Int.natCast_mul, IntKind.wrap_i64]; omega
  clear hL hM hR
  go_enter Try.func3, Try.ntmps3
  go_wp2_with fail
  refine (unhide hal _).mono ?_
  rintro e w1 ⟨rfl, hb1⟩
  have B1 := hide hb1
  clear hb1 hal
  go_wp2_with fail
  refine (unhide A1 _).mono ?_
  rintro e w2 ⟨v1, rfl, o1, hb2⟩
  obtain ⟨a1, c1, g1, rfl, d1⟩ := dirs_owns o1
  have B2 := hide ((unhide B1).trans (hb2.mono (unhide B1).size))
  have D1 := hide d1
  clear hb2 o1 d1 B1 A1
  go_wp2_with fail
  refine (unhide A2 _).mono ?_
  rintro e w3 ⟨v2, rfl, o2, hb3⟩
  obtain ⟨a2, c2, g2, rfl, d2⟩ := dirs_owns o2
  have B3 := hide ((unhide B2).trans (hb3.mono (unhide B2).size))
  have D1 := hide (dirs_below (unhide D1) hb3)
  have D2 := hide d2
  clear hb3 o2 d2 B2 A2
  go_wp2_with fail
  refine (unhide f1 _ _ _ _ _ (unhide D1)).mono ?_
  rintro e w4 ⟨ba, rfl, F1, hb4⟩
  have B4 := hide ((unhide B3).trans (hb4.mono (unhide B3).size))
  have D2 := hide (dirs_below (unhide D2) hb4)
  have G1 := hide F1
  clear hb4 F1 B3 D1
  go_wp2_with fail
  refine (unhide f2 _ _ _ _ _ (unhide D2)).mono ?_
  rintro e w5 ⟨bb, rfl, F2, hb5⟩
  have B5 := hide ((unhide B4).trans (hb5.mono (unhide B4).size))
  have hle : cntB bb (M * M) ≤ cntB ba (M * M) := cnt_mono fun i hi h => final_less F2 (unhide G1) (unhide hsub) i hi h
  have hmx := cnt_le ba (M * M)
  have hz : M ≤ R → cntB ba (M * M) = 0 := fun h => cnt_none fun i hi => final_katz hM1 (unhide G1) (unhide Y1).ok (unhide Y1).nodup (Or.inl (by have := (unhide Y1).sum; omega)) i hi
  have hz := hide hz
  clear hb5 B4 F2 G1 D2 f1 f2 hsub
  generalize cntB bb (M * M) = xb at *
  generalize cntB ba (M * M) = xa at *
  have p1 : ((0 : Int) ≤ (xa : Int)) = True := by simp
  have p2 : ((xb : Int) ≤ (xa : Int)) = True := by simp; omega
  have p3 : ((xa : Int) ≤ ((M * M : Nat) : Int)) = True := by simp only [eq_iff_iff, iff_true]; omega
  have hp3 := hide p3
  generalize M * M = MM at *
  by_cases hc : R < M
  · have p4 : ((R : Int) < (M : Int)) = True := by simp; omega
    clear hz
    go_wp2_with fail
    go_ret
    exact ⟨rfl, unhide B5⟩
  · have p4 : ((R : Int) < (M : Int)) = False := by simp; omega
    obtain rfl := unhide hz (by omega)
    clear hz
    go_wp2_with fail
    go_ret
    exact ⟨rfl, unhide B5⟩
end Go.Proofs.Ytgbkfmjkemkajab
