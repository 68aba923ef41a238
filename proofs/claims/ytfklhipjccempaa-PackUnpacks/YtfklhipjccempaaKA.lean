/- Bytes of a number, the greatest first; in groups of seven bits. -/
import Derived.Test.YtfklhipjccempaaDK
import Derived.OwnWalk
import Derived.Laws.AppendOwn
import Derived.Laws.ShiftsVarLaws
namespace Go.Proofs.Ytfklhipjccempaa
open Go.RowKit

theorem infoB : (Try.prog.info? 5).map (fun i => (i.zero, i.size, i.bytes)) = some (some (.int .u8 0), 1, 1) := by kernel_rfl

def bV (x : Nat) : Value := .int .u8 x
def bL (xs : List Nat) : List Value := xs.map bV
/-- The i-th byte of a number. -/
def byteAt (x i : Nat) : Nat := x / 2 ^ (8 * i) % 256
def highL (x n : Nat) : List Nat := (List.range n).map fun j => byteAt x (n - 1 - j)
theorem bL_snoc (xs : List Nat) (x : Nat) : bL (xs ++ [x]) = bL xs ++ [bV x] := by unfold bL; rw [List.map_append]; rfl

theorem highL_take {x n j : Nat} (h : j < n) : (highL x n).take (j + 1) = (highL x n).take j ++ [byteAt x (n - 1 - j)] := by
  unfold highL
  rw [List.take_add_one]
  congr 1
  simp [h]
theorem highL_len (x n : Nat) : (highL x n).length = n := by unfold highL; simp
theorem one_newB (w : World) (x : Value) (t : TypeId) : ∀ j u, [x][j]? = some u → (w.alloc (.cells #[x] t)).cell? ((⟨w.heap.size, 0, none⟩ : Addr).add j) = some u := by
  intro j u hj
  match j, hj with
  | 0, hj =>
    simp at hj
    subst hj
    simp [Addr.add]
theorem byte_int (x i : Nat) : ((x : Int) / 2 ^ (8 * i) % 256) = ((byteAt x i : Nat) : Int) := by simp only [byteAt, Int.natCast_emod, Int.natCast_ediv, Int.natCast_pow]; rfl

set_option maxHeartbeats 1600000 in
theorem refHigh {B m x n : Nat} {v : Value} {xs : List Nat} (hn : n ≤ 8) (hm : m ≤ 1000000) (w : World) (hB : B ≤ w.heap.size) (hOw : w.ownsRow B 5 1 v m (bL xs)) :
    Calls Try.prog 30 #[v, .int .u64 x, .int .i64 n] w fun r w' => ∃ v', r = .returned v' ∧ w'.ownsRow B 5 1 v' (m + n) (bL (xs ++ highL x n)) ∧ Below B w w' := by
  obtain ⟨i0, hi0, hz0, hz1, hz2⟩ := info_parts infoB
  have HO := hide hOw
  have HB := hide hB
  clear hOw hB
  have n1 : IntKind.i64.wrap ((n : Int) - 1) = (n : Int) - 1 := by rw [IntKind.wrap_i64]; omega
  go_enter Try.func30, Try.ntmps30
  go_wp2_with fail
  go_loopw [0, 7] (fun bv iv wr => ∃ j : Nat, j ≤ n ∧ iv = .int .i64 ((n : Int) - 1 - j) ∧ Hid (wr.ownsRow B 5 1 bv (m + j) (bL (xs ++ (highL x n).take j))) ∧ Hid (Below B w wr)) (fun _ iv _ => (intOf iv + 1).toNat)
  case atStart => exact ⟨0, Nat.zero_le _, by simp, by rw [List.take_zero, List.append_nil]; exact HO, Below.refl _ _⟩
  case round =>
    obtain ⟨j, hj, rfl, hO, hBe⟩ := hrel
    by_cases c : j < n
    · have q1 : ((0 : Int) ≤ (n : Int) - 1 - (j : Int)) = True := by simp; omega
      have hBs : B ≤ wr.heap.size := Nat.le_trans (unhide HB) (unhide hBe).size
      go_wp2_with (first
        | (at_builtin; refine wpList_append_own _ rfl (.tmp 14) (.tmp 20) 22 rfl B 5 i0 (.int .u8 0) 1 1 Try.underlying22 hi0 hz0 hz1 hz2 rfl (by decide) _ _ _ rfl ((unhide hO).alloc _) ⟨wr.heap.size, 0, none⟩ 1 1 [.int .u8 ((x : Int) / 2 ^ (8 * (n - 1 - j)) % 256)] rfl rfl (one_newB _ _ _) ?c2 ?c3 ?c4 ?c5 ?_))
      case c2 => intro u hu; simp at hu; subst hu; rfl
      case c3 => unfold maxLen; omega
      case c4 => omega
      case c5 => simp; omega
      intro v' w2 hown' hgrow _
      have hB3 : Hid (Below B w w2) := ((unhide hBe).alloc hBs _).grown hgrow (by simp; omega) (fun k hk => ((unhide hO).lt k hk).1)
      have hO3 : Hid (w2.ownsRow B 5 1 v' (m + (j + 1)) (bL (xs ++ (highL x n).take (j + 1)))) := by
        rw [highL_take c, ← List.append_assoc, bL_snoc]
        unfold bV
        rw [← byte_int]
        exact hown'
      clear hown' hgrow
      go_wp2_with fail
      go_roundw
      case rel => exact ⟨j + 1, c, by go_num, hO3, hB3⟩
      case measure => simp [intOf]; omega
    · have q1 : ((0 : Int) ≤ (n : Int) - 1 - (j : Int)) = False := by simp; omega
      have e : j = n := by omega
      have hf : Hid (wr.ownsRow B 5 1 u0 (m + n) (bL (xs ++ highL x n))) := by
        have := unhide hO
        rw [e, List.take_of_length_le (by rw [highL_len]; exact Nat.le_refl _)] at this
        exact this
      clear e hO
      go_wp2_with fail
      go_ret
      exact ⟨_, rfl, unhide hf, unhide hBe⟩
end Go.Proofs.Ytfklhipjccempaa
