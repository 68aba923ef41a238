/- The program's Sum, its words of four bytes, what it gives up with. -/
import Derived.Test.YtpmbgjoilfdkaaaVA
import Derived.Test.YtpmbgjoilfdkaaaLH
import Derived.Test.YtpmbgjoilfdkaaaWB
namespace Go.Proofs.Ytpmbgjoilfdkaaa
open Go.RowKit Fl Ieee

set_option maxRecDepth 100000 in
set_option maxHeartbeats 1600000 in
theorem progSum {a : Option Addr} {g o c : Nat} {L : List Nat} (hL : L.length ≤ 4611686018427387904) (w : World) (h : BAt w a g o L) : Calls Try.prog 14 #[.slice a L.length c] w fun r w' => r = .returned (.int .u32 (sumB L L.length)) ∧ w' = w := by
  have H := hide h
  clear h
  go_enter Try.func14, Try.ntmps14
  go_wp2_with fail
  go_loopw [3, 8] (fun sv iv wr => ∃ i x : Nat, i ≤ L.length ∧ x < 4294967296 ∧ sv = .int .u32 x ∧ iv = .int .i64 i ∧ Hid (x = sumB L i) ∧ w = wr) (fun _ iv _ => L.length - (intOf iv).toNat)
  case atStart => exact ⟨0, 1, Nat.zero_le _, by decide, rfl, rfl, rfl, rfl⟩
  case round =>
    obtain ⟨i, x, hi, hx, rfl, rfl, hv, rfl⟩ := hrel
    by_cases hc : i < L.length
    · have q1 : ((i : Int) < ((L.length : Nat) : Int)) = True := by simp; omega
      obtain ⟨rfl, hg⟩ := (unhide H).at_ (by omega)
      have cc := (unhide H).cell i hc
      have hb := (unhide H).lt i
      have hv2 : Hid ((31 * x + L.getD i 0) % 4294967296 = sumB L (i + 1)) := by
        show _ = _
        rw [sumB, ← unhide hv]
      generalize L.getD i 0 = z at *
      obtain ⟨y, hy⟩ : ∃ y, y = (31 * x + z) % 4294967296 := ⟨_, rfl⟩
      have hyl : y < 4294967296 := by omega
      have e1 : (31 * (x : Int) % 4294967296 + (z : Int)) % 4294967296 = (y : Int) := by omega
      have hv3 : Hid (y = sumB L (i + 1)) := hy.trans (unhide hv2)
      clear hv hv2 hy
      go_wp2_with fail
      exact ⟨⟨i + 1, y, hc, hyl, by rw [e1], by go_num, hv3, trivial⟩, by simp [intOf]; omega⟩
    · have q1 : ((i : Int) < ((L.length : Nat) : Int)) = False := by simp; omega
      have e : i = L.length := by omega
      have hf : Hid (x = sumB L L.length) := by rw [← e]; exact hv
      clear hv e
      go_wp2_with fail
      go_ret
      exact ⟨by rw [← unhide hf]; rfl, rfl⟩

set_option maxRecDepth 100000 in
set_option maxHeartbeats 3200000 in
theorem progWord {a : Option Addr} {g o c l : Nat} {K : List Nat} (hl : l = K.length) (h8 : 4 ≤ l) (hc : l ≤ c) (w : World) (h : BAt w a g o K) :
    Calls Try.prog 31 #[.slice a l c] w fun r w' => r = .returned (.int .u32 (numB K 0 4)) ∧ w' = w := by
  have H := hide h
  have HL := hide hl
  obtain ⟨rfl, hg⟩ := h.at_ (by omega)
  clear h hl
  have n1 : (4 : Int) ≤ (c : Int) := by omega
  have n1' : ((4 : Int) ≤ (c : Int)) = True := by simp; omega
  have n2 : (c = 0) = False := by simp; omega
  have n3 : (4 : Int) ≤ (l : Int) := by omega
  go_enter Try.func31, Try.ntmps31
  go_wp2_with fail
  go_loopw [3, 9] (fun vv kv wr => ∃ k x : Nat, k ≤ 4 ∧ kv = .int .i64 k ∧ vv = .int .u32 x ∧ Hid (x = numB K 0 k) ∧ w = wr) (fun _ kv _ => 4 - (intOf kv).toNat)
  case atStart => exact ⟨0, 0, by decide, rfl, rfl, rfl, rfl⟩
  case round =>
    obtain ⟨k, x, hk, rfl, rfl, hv, rfl⟩ := hrel
    by_cases hkc : k < 4
    · have q1 : ((k : Int) < 4) = True := by simp; omega
      have cc := (unhide H).cell k (by have := unhide HL; omega)
      have hb := (unhide H).lt k
      have hxl : x < 16777216 := by
        rw [unhide hv]
        refine Nat.lt_of_lt_of_le (numB_lt (unhide H).lt 0 k) ?_
        have : (256 : Nat) ^ k ≤ 256 ^ 3 := Nat.pow_le_pow_right (by decide) (by omega)
        exact Nat.le_trans this (by decide)
      obtain ⟨y, hy⟩ : ∃ y, y = x * 256 := ⟨_, rfl⟩
      have s1 : (x : Int) * 256 = (y : Int) := by omega
      have hv2 : Hid (y + K.getD k 0 = numB K 0 (k + 1)) := by
        show _ = _
        rw [numB, Nat.zero_add, ← unhide hv, hy]
      generalize K.getD k 0 = z at *
      obtain ⟨u, hu⟩ : ∃ u, u = y + z := ⟨_, rfl⟩
      have s2 : bits .or .u32 (y : Int) (z : Int) = (u : Int) := by
        rw [u32_or _ _ (by omega) (by omega) (by omega) (by omega), hu, Int.toNat_natCast, Int.toNat_natCast, nat_join 8 y z (by rw [hy]; omega) (by omega)]
      have hv3 : Hid (u = numB K 0 (k + 1)) := by rw [hu]; exact hv2
      have hyl : y < 4294967296 := by omega
      clear hv hv2 hu hy
      go_wp2_with fail
      exact ⟨⟨k + 1, u, hkc, by go_num, rfl, hv3, trivial⟩, by simp [intOf]; omega⟩
    · have q1 : ((k : Int) < 4) = False := by simp; omega
      have hf : Hid (x = numB K 0 4) := by
        have := unhide hv
        rw [show k = 4 by omega] at this
        exact this
      clear hv
      go_wp2_with fail
      go_ret
      exact ⟨by rw [← unhide hf]; rfl, rfl⟩

theorem high4 (x : Nat) : highL x 4 = [x / 16777216 % 256, x / 65536 % 256, x / 256 % 256, x % 256] := by
  unfold highL byteAt
  simp [List.range, List.range.loop]
theorem four_new (w : World) (a b c d : Value) (t : TypeId) : ∀ j u, [a, b, c, d][j]? = some u → (w.alloc (.cells #[a, b, c, d] t)).cell? ((⟨w.heap.size, 0, none⟩ : Addr).add j) = some u := by
  intro j u h
  have hr : (w.alloc (.cells #[a, b, c, d] t)).heap[w.heap.size]? = some (.cells #[a, b, c, d] t (0, 0)) := heap_alloc_new w _
  rw [addr_addo, Nat.zero_add, cell_of_row _ _ j _ _ (0, 0) hr]
  match j, h with
  | 0, h => cases h; rfl
  | 1, h => cases h; rfl
  | 2, h => cases h; rfl
  | 3, h => cases h; rfl

set_option maxRecDepth 100000 in
set_option maxHeartbeats 1600000 in
theorem progWrite {B m x : Nat} {v : Value} {xs : List Nat} (hx : x < 4294967296) (hm : m ≤ 1000000) (w : World) (hB : B ≤ w.heap.size) (hOw : w.ownsRow B 5 1 v m (bL xs)) :
    Calls Try.prog 29 #[v, .int .u32 x] w fun r w' => ∃ v', r = .returned v' ∧ w'.ownsRow B 5 1 v' (m + 4) (bL (xs ++ highL x 4)) ∧ Below B w w' := by
  obtain ⟨i0, hi0, hz0, hz1, hz2⟩ := info_parts infoB
  have HO := hide hOw
  have HB := hide hB
  have e := high4 x
  rw [e]
  clear e
  obtain ⟨y1, h1⟩ : ∃ y, y = x / 16777216 % 256 := ⟨_, rfl⟩
  obtain ⟨y2, h2⟩ : ∃ y, y = x / 65536 % 256 := ⟨_, rfl⟩
  obtain ⟨y3, h3⟩ : ∃ y, y = x / 256 % 256 := ⟨_, rfl⟩
  obtain ⟨y4, h4⟩ : ∃ y, y = x % 256 := ⟨_, rfl⟩
  rw [← h1, ← h2, ← h3, ← h4]
  have e1 : (x : Int) / 16777216 % 256 = (y1 : Int) := by omega
  have e1' : (x : Int) / 16777216 = (y1 : Int) := by omega
  have e2 : (x : Int) / 65536 % 256 = (y2 : Int) := by omega
  have e3 : (x : Int) / 256 % 256 = (y3 : Int) := by omega
  have e4 : (x : Int) % 256 = (y4 : Int) := by omega
  clear h1 h2 h3 h4 hOw hB
  go_enter Try.func29, Try.ntmps29
  go_wp2_with (first
    | (at_builtin; refine wpList_append_own _ rfl (.tmp 5) (.tmp 17) 22 rfl B 5 i0 (.int .u8 0) 1 1 Try.underlying22 hi0 hz0 hz1 hz2 rfl (by decide) _ _ _ rfl ((unhide HO).alloc _) ⟨w.heap.size, 0, none⟩ 4 4 [.int .u8 y1, .int .u8 y2, .int .u8 y3, .int .u8 y4] rfl rfl (four_new _ _ _ _ _ _) ?c2 ?c3 ?c4 ?c5 ?_))
  case c2 => intro u hu; simp at hu; rcases hu with rfl | rfl | rfl | rfl <;> rfl
  case c3 => unfold maxLen; omega
  case c4 => omega
  case c5 => have := unhide HB; simp; omega
  intro v' w2 hown' hgrow _
  have hB3 : Hid (Below B w w2) := ((Below.refl _ _).alloc (unhide HB) _).grown hgrow (by have := unhide HB; simp; omega) (fun k hk => ((unhide HO).lt k hk).1)
  have hO3 : Hid (w2.ownsRow B 5 1 v' (m + 4) (bL (xs ++ [y1, y2, y3, y4]))) := by
    have := hown'
    unfold bL bV at *
    rw [List.map_append]
    exact this
  clear hown' hgrow
  go_wp2_with fail
  go_ret
  exact ⟨_, rfl, unhide hO3, unhide hB3⟩

def tornP : List PanicEntry := [{ v := .iface 53 (.agg #[]), recovered := false }]
set_option maxRecDepth 100000 in
set_option maxHeartbeats 800000 in
theorem needYes (w : World) : Calls Try.prog 30 #[.bool true] w fun r w' => r = .returned (.tuple #[]) ∧ w' = w := by
  go_enter Try.func30, Try.ntmps30
  go_wp2_with fail
  simp [bodyPost, results, Try.results30]
set_option maxRecDepth 100000 in
set_option maxHeartbeats 800000 in
theorem needNo (w : World) : Calls Try.prog 30 #[.bool false] w fun r w' => r = .panicked tornP ∧ w' = w := by
  go_enter Try.func30, Try.ntmps30
  go_wp2_with fail
  exact ⟨rfl, rfl, rfl⟩
end Go.Proofs.Ytpmbgjoilfdkaaa
