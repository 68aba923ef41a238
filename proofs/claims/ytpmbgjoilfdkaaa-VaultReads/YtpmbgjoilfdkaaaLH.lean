/- The program's words of bytes, read. -/
import Derived.Test.YtpmbgjoilfdkaaaLD0
import Derived.Test.YtpmbgjoilfdkaaaM5
import Derived.Deep.QuietTactic
namespace Go.Proofs.Ytpmbgjoilfdkaaa
open Go.RowKit Fl Ieee

theorem bat_from {w : World} {a : Option Addr} {g o p : Nat} {K : List Nat} (h : BAt w a g o K) : BAt w (some ⟨g, o + p, none⟩) g (o + p) (K.drop p) := by
  have hg : ∀ i, (K.drop p).getD i 0 = K.getD (p + i) 0 := fun i => by rw [List.getD_eq_getElem?_getD, List.getD_eq_getElem?_getD, List.getElem?_drop]
  refine ⟨fun i => by rw [hg]; exact h.lt _, fun hl => ⟨rfl, (h.at_ (by rw [List.length_drop] at hl; omega)).2⟩, fun i hi => ?_⟩
  rw [List.length_drop] at hi
  rw [hg, Nat.add_assoc]
  exact h.cell (p + i) (by omega)
theorem bat_none {w : World} {a : Option Addr} {g o : Nat} {K : List Nat} (h : K.length = 0) : BAt w a g o K :=
  ⟨fun i => by rw [getD_out (by omega)]; decide, fun hl => by omega, fun i hi => by omega⟩
theorem bat_rest {w : World} {a b : Option Addr} {g o p c : Nat} {K : List Nat} (h : BAt w a g o K) (hc : K.length ≤ c) (hp : p ≤ K.length) (hb : b = if c = p then a else some ⟨g, o + p, none⟩) : BAt w b g (o + p) (K.drop p) := by
  by_cases e : c = p
  · exact bat_none (by rw [List.length_drop]; omega)
  · rw [if_neg e] at hb
    rw [hb]
    exact bat_from h

set_option maxRecDepth 100000 in
set_option maxHeartbeats 3200000 in
theorem readWord64 {a : Option Addr} {g o c l : Nat} {K : List Nat} (hl : l = K.length) (h8 : 8 ≤ l) (hc : l ≤ c) (w : World) (h : BAt w a g o K) :
    Calls Try.prog 76 #[.slice a l c] w fun r w' => ∃ a' d, r = .returned (.tuple #[.int .u64 (numB K 0 8), .slice a' (l - 8) (c - 8)]) ∧ (∀ W, BAt W a g o K → BAt W a' g (o + 8) (K.drop 8)) ∧ w' = w.drewN d := by
  have H := hide h
  have HL := hide hl
  have k := hide bytesOf64
  obtain ⟨rfl, hg⟩ := h.at_ (by omega)
  have R := hide (fun b hb (W : World) (hW : BAt W (some ⟨g, o, none⟩) g o K) => bat_rest (b := b) (p := 8) (c := c) hW (by omega) (by omega) hb)
  clear h hl
  have n1 : (8 : Int) ≤ (c : Int) := by omega
  have n1' : ((8 : Int) ≤ (c : Int)) = True := by simp; omega
  have n2 : (c = 0) = False := by simp; omega
  have n3 : (8 : Int) ≤ (l : Int) := by omega
  go_enter Try.func76, Try.ntmps76
  go_wp2_with fail
  refine (unhide k _).mono ?_
  rintro e w' ⟨rfl, hw⟩
  obtain rfl := hw.symm
  go_wp2_with fail
  go_loopw [4, 13] (fun vv kv wr => ∃ k x : Nat, k ≤ 8 ∧ kv = .int .i64 k ∧ vv = .int .u64 x ∧ Hid (x = numB K 0 k) ∧ w = wr) (fun _ kv _ => 8 - (intOf kv).toNat)
  case atStart => exact ⟨0, 0, by decide, rfl, rfl, rfl, rfl⟩
  case round =>
    obtain ⟨k, x, hk, rfl, rfl, hv, rfl⟩ := hrel
    by_cases hkc : k < 8
    · have q1 : ((k : Int) < 8) = True := by simp; omega
      have cc := (unhide H).cell k (by have := unhide HL; omega)
      have hb := (unhide H).lt k
      have hxl : x < 72057594037927936 := by
        rw [unhide hv]
        refine Nat.lt_of_lt_of_le (numB_lt (unhide H).lt 0 k) ?_
        have : (256 : Nat) ^ k ≤ 256 ^ 7 := Nat.pow_le_pow_right (by decide) (by omega)
        exact Nat.le_trans this (by decide)
      obtain ⟨y, hy⟩ : ∃ y, y = x * 256 := ⟨_, rfl⟩
      have s1 : (x : Int) * 256 = (y : Int) := by omega
      have hv2 : Hid (y + K.getD k 0 = numB K 0 (k + 1)) := by
        show _ = _
        rw [numB, Nat.zero_add, ← unhide hv, hy]
      generalize K.getD k 0 = z at *
      obtain ⟨u, hu⟩ : ∃ u, u = y + z := ⟨_, rfl⟩
      have s2 : bits .or .u64 (y : Int) (z : Int) = (u : Int) := by
        rw [u64_or _ _ (by omega) (by omega) (by omega) (by omega), hu, Int.toNat_natCast, Int.toNat_natCast, nat_join 8 y z (by rw [hy]; omega) (by omega)]
      have hv3 : Hid (u = numB K 0 (k + 1)) := by rw [hu]; exact hv2
      have hyl : y < 18446744073709551616 := by omega
      clear hv hv2 hu hy
      go_wp2_with fail
      exact ⟨⟨k + 1, u, hkc, by go_num, rfl, hv3, trivial⟩, by simp [intOf]; omega⟩
    · have q1 : ((k : Int) < 8) = False := by simp; omega
      have hf : Hid (x = numB K 0 8) := by
        have := unhide hv
        rw [show k = 8 by omega] at this
        exact this
      clear hv
      by_cases hc8 : c = 8
      · subst hc8
        go_wp2_with fail
        go_quiet (fail)
        go_wp2_with fail
        go_ret2
        exact ⟨_, _, by rw [← unhide hf, show l - 8 = 0 by omega]; rfl, unhide R _ rfl, rfl⟩
      · have hc8' : (c = 8) = False := by simp; omega
        go_wp2_with fail
        go_quiet (fail)
        go_wp2_with fail
        go_ret2
        exact ⟨_, _, by rw [← unhide hf]; rfl, unhide R _ (by rw [if_neg hc8]), rfl⟩
set_option maxRecDepth 100000 in
set_option maxHeartbeats 3200000 in
theorem readWord32 {a : Option Addr} {g o c l : Nat} {K : List Nat} (hl : l = K.length) (h8 : 4 ≤ l) (hc : l ≤ c) (w : World) (h : BAt w a g o K) :
    Calls Try.prog 78 #[.slice a l c] w fun r w' => ∃ a' d, r = .returned (.tuple #[.int .u32 (numB K 0 4), .slice a' (l - 4) (c - 4)]) ∧ (∀ W, BAt W a g o K → BAt W a' g (o + 4) (K.drop 4)) ∧ w' = w.drewN d := by
  have H := hide h
  have HL := hide hl
  have k := hide bytesOf32
  obtain ⟨rfl, hg⟩ := h.at_ (by omega)
  have R := hide (fun b hb (W : World) (hW : BAt W (some ⟨g, o, none⟩) g o K) => bat_rest (b := b) (p := 4) (c := c) hW (by omega) (by omega) hb)
  clear h hl
  have n1 : (4 : Int) ≤ (c : Int) := by omega
  have n1' : ((4 : Int) ≤ (c : Int)) = True := by simp; omega
  have n2 : (c = 0) = False := by simp; omega
  have n3 : (4 : Int) ≤ (l : Int) := by omega
  go_enter Try.func78, Try.ntmps78
  go_wp2_with fail
  refine (unhide k _).mono ?_
  rintro e w' ⟨rfl, hw⟩
  obtain rfl := hw.symm
  go_wp2_with fail
  go_loopw [4, 13] (fun vv kv wr => ∃ k x : Nat, k ≤ 4 ∧ kv = .int .i64 k ∧ vv = .int .u32 x ∧ Hid (x = numB K 0 k) ∧ w = wr) (fun _ kv _ => 4 - (intOf kv).toNat)
  case atStart => exact ⟨0, 0, by decide, rfl, rfl, rfl, rfl⟩
  case round =>
    obtain ⟨k, x, hk, rfl, rfl, hv, rfl⟩ := hrel
    by_cases hkc : k < 4
    · have q1 : ((k : Int) < 4) = True := by simp; omega
      have cc := (unhide H).cell k (by have := unhide HL; omega)
      have hb := (unhide H).lt k
      have hxl : x < 16777216 := by
        rw [unhide hv]
        refine Nat.lt_of_lt_of_le (numB_lt (unhide H).lt 0 k) ?_
        have : (256 : Nat) ^ k ≤ 256 ^ 3 := Nat.pow_le_pow_right (by decide) (by omega)
        exact Nat.le_trans this (by decide)
      obtain ⟨y, hy⟩ : ∃ y, y = x * 256 := ⟨_, rfl⟩
      have s1 : (x : Int) * 256 = (y : Int) := by omega
      have hv2 : Hid (y + K.getD k 0 = numB K 0 (k + 1)) := by
        show _ = _
        rw [numB, Nat.zero_add, ← unhide hv, hy]
      generalize K.getD k 0 = z at *
      obtain ⟨u, hu⟩ : ∃ u, u = y + z := ⟨_, rfl⟩
      have s2 : bits .or .u32 (y : Int) (z : Int) = (u : Int) := by
        rw [u32_or _ _ (by omega) (by omega) (by omega) (by omega), hu, Int.toNat_natCast, Int.toNat_natCast, nat_join 8 y z (by rw [hy]; omega) (by omega)]
      have hv3 : Hid (u = numB K 0 (k + 1)) := by rw [hu]; exact hv2
      have hyl : y < 4294967296 := by omega
      clear hv hv2 hu hy
      go_wp2_with fail
      exact ⟨⟨k + 1, u, hkc, by go_num, rfl, hv3, trivial⟩, by simp [intOf]; omega⟩
    · have q1 : ((k : Int) < 4) = False := by simp; omega
      have hf : Hid (x = numB K 0 4) := by
        have := unhide hv
        rw [show k = 4 by omega] at this
        exact this
      clear hv
      by_cases hc8 : c = 4
      · subst hc8
        go_wp2_with fail
        go_quiet (fail)
        go_wp2_with fail
        go_ret2
        exact ⟨_, _, by rw [← unhide hf, show l - 4 = 0 by omega]; rfl, unhide R _ rfl, rfl⟩
      · have hc8' : (c = 4) = False := by simp; omega
        go_wp2_with fail
        go_quiet (fail)
        go_wp2_with fail
        go_ret2
        exact ⟨_, _, by rw [← unhide hf]; rfl, unhide R _ (by rw [if_neg hc8]), rfl⟩
end Go.Proofs.Ytpmbgjoilfdkaaa
