/- The fixed fact that the statement asks first: the text of 1 is read. -/
import Derived.Test.YtpngfadhahdigabW2
namespace Go.Proofs.Ytpngfadhahdigab
open Go.RowKit

def oneText : ByteArray := ⟨#[51, 102, 102, 48, 48, 48, 48, 48, 48, 48, 48, 48, 48, 48, 48, 48, 48, 48, 48, 48, 48, 48, 48, 48, 48, 48, 48, 48, 48, 48, 48, 48]⟩

theorem index35 (s : ByteArray) (c : Int) (w : World) : (callFunc 35 #[.string s, .int .u8 c]).run Try.prog w = .ok (.value (.int .i64 (firstIdx s c.toNat.toUInt8))) w := by
  rw [run_callFunc_extern (e := Extern.BytealgIndexByte.indexByte) Try.func35 (by kernel_rfl) (by kernel_rfl) (by kernel_rfl) (by kernel_rfl), run_indexByte_string]
  rfl

def hiT : List Int := [0, 3, 63, 1023, 16368, 261888, 4190208, 67043328, 1072693248, 17163091968, 274609471488, 4393751543808, 70300024700928, 1124800395214848, 17996806323437568, 287948901175001088, 4607182418800017408]
def hiAt (k : Nat) : Int := hiT.getD k 4607182418800017408

set_option maxHeartbeats 4000000 in
theorem readBits_one (w : World) :
    Calls Try.prog 20 #[.string oneText] w fun e w' => e = .returned (.tuple #[.agg #[.int .u64 4607182418800017408, .int .u64 0], .bool true]) ∧ Below w.heap.size w w' := by
  have k1 := index35
  have hsz : oneText.size = 32 := rfl
  go_enter Try.func20, Try.ntmps20
  go_wp2
  go_loopw [13] (fun i wr => ∃ k : Nat, k ≤ 32 ∧ i = .int .i64 k ∧ wr = (w.alloc (.cells #[.int .u64 0, .int .u64 0] 42)).alloc (.cells #[.int .u64 (hiAt k), .int .u64 0] 42)) (fun i _ => 32 - (intOf i).toNat)
  case atStart => exact ⟨0, by decide, rfl, rfl⟩
  case round =>
    obtain ⟨k, hk, rfl, rfl⟩ := hrel
    have hcs : k = 0 ∨ k = 1 ∨ k = 2 ∨ k = 3 ∨ k = 4 ∨ k = 5 ∨ k = 6 ∨ k = 7 ∨ k = 8 ∨ k = 9 ∨ k = 10 ∨ k = 11 ∨ k = 12 ∨ k = 13 ∨ k = 14 ∨ k = 15 ∨ k = 16 ∨ k = 17 ∨ k = 18 ∨ k = 19 ∨ k = 20 ∨ k = 21 ∨ k = 22 ∨ k = 23 ∨ k = 24 ∨ k = 25 ∨ k = 26 ∨ k = 27 ∨ k = 28 ∨ k = 29 ∨ k = 30 ∨ k = 31 ∨ k = 32 := by omega
    clear hk
    rcases hcs with rfl | rfl | rfl | rfl | rfl | rfl | rfl | rfl | rfl | rfl | rfl | rfl | rfl | rfl | rfl | rfl | rfl | rfl | rfl | rfl | rfl | rfl | rfl | rfl | rfl | rfl | rfl | rfl | rfl | rfl | rfl | rfl | rfl
    · rw [show hiAt 0 = 0 from rfl]
      have f : firstIdx ⟨#[48, 49, 50, 51, 52, 53, 54, 55, 56, 57, 97, 98, 99, 100, 101, 102]⟩ (oneText[0]'(by decide)) = 3 := by decide +kernel
      go_wp2
      go_roundw
      case rel => exact ⟨1, by decide, rfl, by kernel_rfl⟩
      case measure => decide
    · rw [show hiAt 1 = 3 from rfl]
      have f : firstIdx ⟨#[48, 49, 50, 51, 52, 53, 54, 55, 56, 57, 97, 98, 99, 100, 101, 102]⟩ (oneText[1]'(by decide)) = 15 := by decide +kernel
      go_wp2
      go_roundw
      case rel => exact ⟨2, by decide, rfl, by kernel_rfl⟩
      case measure => decide
    · rw [show hiAt 2 = 63 from rfl]
      have f : firstIdx ⟨#[48, 49, 50, 51, 52, 53, 54, 55, 56, 57, 97, 98, 99, 100, 101, 102]⟩ (oneText[2]'(by decide)) = 15 := by decide +kernel
      go_wp2
      go_roundw
      case rel => exact ⟨3, by decide, rfl, by kernel_rfl⟩
      case measure => decide
    · rw [show hiAt 3 = 1023 from rfl]
      have f : firstIdx ⟨#[48, 49, 50, 51, 52, 53, 54, 55, 56, 57, 97, 98, 99, 100, 101, 102]⟩ (oneText[3]'(by decide)) = 0 := by decide +kernel
      go_wp2
      go_roundw
      case rel => exact ⟨4, by decide, rfl, by kernel_rfl⟩
      case measure => decide
    · rw [show hiAt 4 = 16368 from rfl]
      have f : firstIdx ⟨#[48, 49, 50, 51, 52, 53, 54, 55, 56, 57, 97, 98, 99, 100, 101, 102]⟩ (oneText[4]'(by decide)) = 0 := by decide +kernel
      go_wp2
      go_roundw
      case rel => exact ⟨5, by decide, rfl, by kernel_rfl⟩
      case measure => decide
    · rw [show hiAt 5 = 261888 from rfl]
      have f : firstIdx ⟨#[48, 49, 50, 51, 52, 53, 54, 55, 56, 57, 97, 98, 99, 100, 101, 102]⟩ (oneText[5]'(by decide)) = 0 := by decide +kernel
      go_wp2
      go_roundw
      case rel => exact ⟨6, by decide, rfl, by kernel_rfl⟩
      case measure => decide
    · rw [show hiAt 6 = 4190208 from rfl]
      have f : firstIdx ⟨#[48, 49, 50, 51, 52, 53, 54, 55, 56, 57, 97, 98, 99, 100, 101, 102]⟩ (oneText[6]'(by decide)) = 0 := by decide +kernel
      go_wp2
      go_roundw
      case rel => exact ⟨7, by decide, rfl, by kernel_rfl⟩
      case measure => decide
    · rw [show hiAt 7 = 67043328 from rfl]
      have f : firstIdx ⟨#[48, 49, 50, 51, 52, 53, 54, 55, 56, 57, 97, 98, 99, 100, 101, 102]⟩ (oneText[7]'(by decide)) = 0 := by decide +kernel
      go_wp2
      go_roundw
      case rel => exact ⟨8, by decide, rfl, by kernel_rfl⟩
      case measure => decide
    · rw [show hiAt 8 = 1072693248 from rfl]
      have f : firstIdx ⟨#[48, 49, 50, 51, 52, 53, 54, 55, 56, 57, 97, 98, 99, 100, 101, 102]⟩ (oneText[8]'(by decide)) = 0 := by decide +kernel
      go_wp2
      go_roundw
      case rel => exact ⟨9, by decide, rfl, by kernel_rfl⟩
      case measure => decide
    · rw [show hiAt 9 = 17163091968 from rfl]
      have f : firstIdx ⟨#[48, 49, 50, 51, 52, 53, 54, 55, 56, 57, 97, 98, 99, 100, 101, 102]⟩ (oneText[9]'(by decide)) = 0 := by decide +kernel
      go_wp2
      go_roundw
      case rel => exact ⟨10, by decide, rfl, by kernel_rfl⟩
      case measure => decide
    · rw [show hiAt 10 = 274609471488 from rfl]
      have f : firstIdx ⟨#[48, 49, 50, 51, 52, 53, 54, 55, 56, 57, 97, 98, 99, 100, 101, 102]⟩ (oneText[10]'(by decide)) = 0 := by decide +kernel
      go_wp2
      go_roundw
      case rel => exact ⟨11, by decide, rfl, by kernel_rfl⟩
      case measure => decide
    · rw [show hiAt 11 = 4393751543808 from rfl]
      have f : firstIdx ⟨#[48, 49, 50, 51, 52, 53, 54, 55, 56, 57, 97, 98, 99, 100, 101, 102]⟩ (oneText[11]'(by decide)) = 0 := by decide +kernel
      go_wp2
      go_roundw
      case rel => exact ⟨12, by decide, rfl, by kernel_rfl⟩
      case measure => decide
    · rw [show hiAt 12 = 70300024700928 from rfl]
      have f : firstIdx ⟨#[48, 49, 50, 51, 52, 53, 54, 55, 56, 57, 97, 98, 99, 100, 101, 102]⟩ (oneText[12]'(by decide)) = 0 := by decide +kernel
      go_wp2
      go_roundw
      case rel => exact ⟨13, by decide, rfl, by kernel_rfl⟩
      case measure => decide
    · rw [show hiAt 13 = 1124800395214848 from rfl]
      have f : firstIdx ⟨#[48, 49, 50, 51, 52, 53, 54, 55, 56, 57, 97, 98, 99, 100, 101, 102]⟩ (oneText[13]'(by decide)) = 0 := by decide +kernel
      go_wp2
      go_roundw
      case rel => exact ⟨14, by decide, rfl, by kernel_rfl⟩
      case measure => decide
    · rw [show hiAt 14 = 17996806323437568 from rfl]
      have f : firstIdx ⟨#[48, 49, 50, 51, 52, 53, 54, 55, 56, 57, 97, 98, 99, 100, 101, 102]⟩ (oneText[14]'(by decide)) = 0 := by decide +kernel
      go_wp2
      go_roundw
      case rel => exact ⟨15, by decide, rfl, by kernel_rfl⟩
      case measure => decide
    · rw [show hiAt 15 = 287948901175001088 from rfl]
      have f : firstIdx ⟨#[48, 49, 50, 51, 52, 53, 54, 55, 56, 57, 97, 98, 99, 100, 101, 102]⟩ (oneText[15]'(by decide)) = 0 := by decide +kernel
      go_wp2
      go_roundw
      case rel => exact ⟨16, by decide, rfl, by kernel_rfl⟩
      case measure => decide
    · rw [show hiAt 16 = 4607182418800017408 from rfl]
      have f : firstIdx ⟨#[48, 49, 50, 51, 52, 53, 54, 55, 56, 57, 97, 98, 99, 100, 101, 102]⟩ (oneText[16]'(by decide)) = 0 := by decide +kernel
      go_wp2
      go_roundw
      case rel => exact ⟨17, by decide, rfl, by kernel_rfl⟩
      case measure => decide
    · rw [show hiAt 17 = 4607182418800017408 from rfl]
      have f : firstIdx ⟨#[48, 49, 50, 51, 52, 53, 54, 55, 56, 57, 97, 98, 99, 100, 101, 102]⟩ (oneText[17]'(by decide)) = 0 := by decide +kernel
      go_wp2
      go_roundw
      case rel => exact ⟨18, by decide, rfl, by kernel_rfl⟩
      case measure => decide
    · rw [show hiAt 18 = 4607182418800017408 from rfl]
      have f : firstIdx ⟨#[48, 49, 50, 51, 52, 53, 54, 55, 56, 57, 97, 98, 99, 100, 101, 102]⟩ (oneText[18]'(by decide)) = 0 := by decide +kernel
      go_wp2
      go_roundw
      case rel => exact ⟨19, by decide, rfl, by kernel_rfl⟩
      case measure => decide
    · rw [show hiAt 19 = 4607182418800017408 from rfl]
      have f : firstIdx ⟨#[48, 49, 50, 51, 52, 53, 54, 55, 56, 57, 97, 98, 99, 100, 101, 102]⟩ (oneText[19]'(by decide)) = 0 := by decide +kernel
      go_wp2
      go_roundw
      case rel => exact ⟨20, by decide, rfl, by kernel_rfl⟩
      case measure => decide
    · rw [show hiAt 20 = 4607182418800017408 from rfl]
      have f : firstIdx ⟨#[48, 49, 50, 51, 52, 53, 54, 55, 56, 57, 97, 98, 99, 100, 101, 102]⟩ (oneText[20]'(by decide)) = 0 := by decide +kernel
      go_wp2
      go_roundw
      case rel => exact ⟨21, by decide, rfl, by kernel_rfl⟩
      case measure => decide
    · rw [show hiAt 21 = 4607182418800017408 from rfl]
      have f : firstIdx ⟨#[48, 49, 50, 51, 52, 53, 54, 55, 56, 57, 97, 98, 99, 100, 101, 102]⟩ (oneText[21]'(by decide)) = 0 := by decide +kernel
      go_wp2
      go_roundw
      case rel => exact ⟨22, by decide, rfl, by kernel_rfl⟩
      case measure => decide
    · rw [show hiAt 22 = 4607182418800017408 from rfl]
      have f : firstIdx ⟨#[48, 49, 50, 51, 52, 53, 54, 55, 56, 57, 97, 98, 99, 100, 101, 102]⟩ (oneText[22]'(by decide)) = 0 := by decide +kernel
      go_wp2
      go_roundw
      case rel => exact ⟨23, by decide, rfl, by kernel_rfl⟩
      case measure => decide
    · rw [show hiAt 23 = 4607182418800017408 from rfl]
      have f : firstIdx ⟨#[48, 49, 50, 51, 52, 53, 54, 55, 56, 57, 97, 98, 99, 100, 101, 102]⟩ (oneText[23]'(by decide)) = 0 := by decide +kernel
      go_wp2
      go_roundw
      case rel => exact ⟨24, by decide, rfl, by kernel_rfl⟩
      case measure => decide
    · rw [show hiAt 24 = 4607182418800017408 from rfl]
      have f : firstIdx ⟨#[48, 49, 50, 51, 52, 53, 54, 55, 56, 57, 97, 98, 99, 100, 101, 102]⟩ (oneText[24]'(by decide)) = 0 := by decide +kernel
      go_wp2
      go_roundw
      case rel => exact ⟨25, by decide, rfl, by kernel_rfl⟩
      case measure => decide
    · rw [show hiAt 25 = 4607182418800017408 from rfl]
      have f : firstIdx ⟨#[48, 49, 50, 51, 52, 53, 54, 55, 56, 57, 97, 98, 99, 100, 101, 102]⟩ (oneText[25]'(by decide)) = 0 := by decide +kernel
      go_wp2
      go_roundw
      case rel => exact ⟨26, by decide, rfl, by kernel_rfl⟩
      case measure => decide
    · rw [show hiAt 26 = 4607182418800017408 from rfl]
      have f : firstIdx ⟨#[48, 49, 50, 51, 52, 53, 54, 55, 56, 57, 97, 98, 99, 100, 101, 102]⟩ (oneText[26]'(by decide)) = 0 := by decide +kernel
      go_wp2
      go_roundw
      case rel => exact ⟨27, by decide, rfl, by kernel_rfl⟩
      case measure => decide
    · rw [show hiAt 27 = 4607182418800017408 from rfl]
      have f : firstIdx ⟨#[48, 49, 50, 51, 52, 53, 54, 55, 56, 57, 97, 98, 99, 100, 101, 102]⟩ (oneText[27]'(by decide)) = 0 := by decide +kernel
      go_wp2
      go_roundw
      case rel => exact ⟨28, by decide, rfl, by kernel_rfl⟩
      case measure => decide
    · rw [show hiAt 28 = 4607182418800017408 from rfl]
      have f : firstIdx ⟨#[48, 49, 50, 51, 52, 53, 54, 55, 56, 57, 97, 98, 99, 100, 101, 102]⟩ (oneText[28]'(by decide)) = 0 := by decide +kernel
      go_wp2
      go_roundw
      case rel => exact ⟨29, by decide, rfl, by kernel_rfl⟩
      case measure => decide
    · rw [show hiAt 29 = 4607182418800017408 from rfl]
      have f : firstIdx ⟨#[48, 49, 50, 51, 52, 53, 54, 55, 56, 57, 97, 98, 99, 100, 101, 102]⟩ (oneText[29]'(by decide)) = 0 := by decide +kernel
      go_wp2
      go_roundw
      case rel => exact ⟨30, by decide, rfl, by kernel_rfl⟩
      case measure => decide
    · rw [show hiAt 30 = 4607182418800017408 from rfl]
      have f : firstIdx ⟨#[48, 49, 50, 51, 52, 53, 54, 55, 56, 57, 97, 98, 99, 100, 101, 102]⟩ (oneText[30]'(by decide)) = 0 := by decide +kernel
      go_wp2
      go_roundw
      case rel => exact ⟨31, by decide, rfl, by kernel_rfl⟩
      case measure => decide
    · rw [show hiAt 31 = 4607182418800017408 from rfl]
      have f : firstIdx ⟨#[48, 49, 50, 51, 52, 53, 54, 55, 56, 57, 97, 98, 99, 100, 101, 102]⟩ (oneText[31]'(by decide)) = 0 := by decide +kernel
      go_wp2
      go_roundw
      case rel => exact ⟨32, by decide, rfl, by kernel_rfl⟩
      case measure => decide
    · rw [show hiAt 32 = 4607182418800017408 from rfl]
      go_wp2
      exact bodyPost_ret (v := .tuple #[.agg #[.int .u64 4607182418800017408, .int .u64 0], .bool true]) (by simp [results, Try.results20, go_sem]) rfl
        ⟨rfl, ((Below.refl _ _).alloc (Nat.le_refl _) _).alloc (by simp) _⟩
end Go.Proofs.Ytpngfadhahdigab
