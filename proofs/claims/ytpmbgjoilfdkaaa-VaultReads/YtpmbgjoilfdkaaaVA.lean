/- The document's Sum, four. -/
import Derived.Test.YtpmbgjoilfdkaaaKPK
namespace Go.Proofs.Ytpmbgjoilfdkaaa
open Go.RowKit Fl Ieee

/-- The sum of bytes. -/
def sumB : List Nat → Nat → Nat
  | _, 0 => 1
  | L, i + 1 => (31 * sumB L i + L.getD i 0) % 4294967296
theorem sumB_lt (L : List Nat) : ∀ i, sumB L i < 4294967296
  | 0 => by simp [sumB]
  | i + 1 => by unfold sumB; omega

set_option maxRecDepth 100000 in
set_option maxHeartbeats 1600000 in
theorem refSum {a : Option Addr} {g o c : Nat} {L : List Nat} (hL : L.length ≤ 4611686018427387904) (w : World) (h : BAt w a g o L) : Calls Try.prog 50 #[.slice a L.length c] w fun r w' => r = .returned (.int .u32 (sumB L L.length)) ∧ w' = w := by
  have H := hide h
  clear h
  go_enter Try.func50, Try.ntmps50
  go_wp2_with fail
  go_loopw [3, 4] (fun sv iv wr => ∃ i x : Nat, i ≤ L.length ∧ x < 4294967296 ∧ sv = .int .u32 x ∧ iv = .int .i64 i ∧ Hid (x = sumB L i) ∧ w = wr) (fun _ iv _ => L.length - (intOf iv).toNat)
  case atStart => exact ⟨0, 1, Nat.zero_le _, by decide, rfl, rfl, rfl, rfl⟩
  case round =>
    obtain ⟨i, x, hi, hx, rfl, rfl, hv, rfl⟩ := hrel
    by_cases hc : i < L.length
    · have q1 : ((i : Int) < ((L.length : Nat) : Int)) = True := by simp; omega
      obtain ⟨rfl, hg⟩ := (unhide H).at_ (by omega)
      have cc := (unhide H).cell i hc
      have hb := (unhide H).lt i
      have hv2 : Hid ((31 * x + L.getD i 0) % 4294967296 = sumB L (i + 1)) := by
        show _ = _
        rw [sumB, ← unhide hv]
      generalize L.getD i 0 = z at *
      obtain ⟨y, hy⟩ : ∃ y, y = (31 * x + z) % 4294967296 := ⟨_, rfl⟩
      have hyl : y < 4294967296 := by omega
      have e1 : (31 * (x : Int) % 4294967296 + (z : Int)) % 4294967296 = (y : Int) := by omega
      have hv3 : Hid (y = sumB L (i + 1)) := hy.trans (unhide hv2)
      clear hv hv2 hy
      go_wp2_with fail
      exact ⟨⟨i + 1, y, hc, hyl, by rw [e1], by go_num, hv3, trivial⟩, by simp [intOf]; omega⟩
    · have q1 : ((i : Int) < ((L.length : Nat) : Int)) = False := by simp; omega
      have e : i = L.length := by omega
      have hf : Hid (x = sumB L L.length) := by rw [← e]; exact hv
      clear hv e
      go_wp2_with fail
      go_ret
      exact ⟨by rw [← unhide hf]; rfl, rfl⟩

set_option maxRecDepth 100000 in
set_option maxHeartbeats 800000 in
theorem refFour {x : Nat} (hx : x < 4294967296) (w : World) : Calls Try.prog 49 #[.int .u32 x] w fun r w' => ∃ v, r = .returned v ∧ w'.ownsRow w.heap.size 5 1 v 4 (bL (highL x 4)) ∧ Below w.heap.size w w' := by
  have e : highL x 4 = [x / 16777216 % 256, x / 65536 % 256, x / 256 % 256, x % 256] := by
    unfold highL byteAt
    simp [List.range, List.range.loop]
  rw [e]
  clear e
  obtain ⟨y1, h1⟩ : ∃ y, y = x / 16777216 % 256 := ⟨_, rfl⟩
  obtain ⟨y2, h2⟩ : ∃ y, y = x / 65536 % 256 := ⟨_, rfl⟩
  obtain ⟨y3, h3⟩ : ∃ y, y = x / 256 % 256 := ⟨_, rfl⟩
  obtain ⟨y4, h4⟩ : ∃ y, y = x % 256 := ⟨_, rfl⟩
  rw [← h1, ← h2, ← h3, ← h4]
  have e1 : (x : Int) / 16777216 % 256 = (y1 : Int) := by omega
  have e1' : (x : Int) / 16777216 = (y1 : Int) := by omega
  have e2 : (x : Int) / 65536 % 256 = (y2 : Int) := by omega
  have e3 : (x : Int) / 256 % 256 = (y3 : Int) := by omega
  have e4 : (x : Int) % 256 = (y4 : Int) := by omega
  clear h1 h2 h3 h4
  go_enter Try.func49, Try.ntmps49
  go_wp2_with fail
  go_ret
  exact ⟨_, rfl, ⟨rfl, .inr ⟨w.heap.size, 4, #[.int .u8 y1, .int .u8 y2, .int .u8 y3, .int .u8 y4], rfl, Nat.le_refl _, heap_alloc_new w _, by omega, by decide, rfl, rfl⟩⟩, (Below.refl _ _).alloc (Nat.le_refl _) _⟩
end Go.Proofs.Ytpmbgjoilfdkaaa
