/- Bytes in memory; the number that bytes make, the greatest first. A number in groups of seven bits, read. Which field bytes are read as. A field that is read grows cell by cell: the memory. Bytes as a text; two texts held against each other. -/
import Derived.Test.YtpmbgjoilfdkaaaM4
import Derived.Laws.BytesString
import Derived.Laws.BytesArg
namespace Go.Proofs.Ytpmbgjoilfdkaaa
open Go.RowKit Fl Ieee

/-- A slice of bytes in memory, wherever it lies. -/
structure BAt (w : World) (a : Option Addr) (g o : Nat) (L : List Nat) : Prop where
  lt : ∀ i, L.getD i 0 < 256
  at_ : 0 < L.length → a = some ⟨g, o, none⟩ ∧ g < w.heap.size
  cell : ∀ i, i < L.length → w.cell? ⟨g, o + i, none⟩ = some (.int .u8 (L.getD i 0 : Nat))

theorem bat_below {w w' : World} {a : Option Addr} {g o B : Nat} {L : List Nat} (h : BAt w a g o L) (hb : Below B w w') (hB : g < B) : BAt w' a g o L :=
  ⟨h.lt, fun hl => ⟨(h.at_ hl).1, Nat.lt_of_lt_of_le (h.at_ hl).2 hb.size⟩, fun i hi => (hb.cell (p := ⟨g, o + i, none⟩) hB).trans (h.cell i hi)⟩
theorem bat_keep {w w' : World} {a : Option Addr} {g o : Nat} {L : List Nat} (h : BAt w a g o L) (hb : Below w.heap.size w w') : BAt w' a g o L := by
  refine ⟨h.lt, fun hl => ⟨(h.at_ hl).1, Nat.lt_of_lt_of_le (h.at_ hl).2 hb.size⟩, fun i hi => ?_⟩
  have hl : 0 < L.length := by omega
  exact (hb.cell (p := ⟨g, o + i, none⟩) (h.at_ hl).2).trans (h.cell i hi)

/-- n bytes from the i-th on as a number, the greatest first. -/
def numB (L : List Nat) (i : Nat) : Nat → Nat
  | 0 => 0
  | n + 1 => numB L i n * 256 + L.getD (i + n) 0
theorem numB_lt {L : List Nat} (h : ∀ i, L.getD i 0 < 256) (i : Nat) : ∀ n, numB L i n < 256 ^ n
  | 0 => by simp [numB]
  | n + 1 => by
    unfold numB
    have := numB_lt h i n
    have := h (i + n)
    rw [Nat.pow_succ]
    omega
theorem getD_out {L : List Nat} {i : Nat} (h : ¬ i < L.length) : L.getD i 0 = 0 := by
  rw [List.getD_eq_getElem?_getD, List.getElem?_eq_none (by omega)]
  rfl

set_option maxRecDepth 100000 in
set_option maxHeartbeats 3200000 in
theorem refNumber {a : Option Addr} {g o c i n : Nat} {L : List Nat} (hn : n ≤ 8) (hi : i ≤ 100000000) (w : World) (h : BAt w a g o L) :
    Calls Try.prog 43 #[.slice a L.length c, .int .i64 i, .int .i64 n] w fun r w' => r = .returned (.int .u64 (numB L i n)) ∧ w' = w := by
  obtain ⟨E, hE⟩ : ∃ E, E = i + n := ⟨_, rfl⟩
  have n1 : IntKind.i64.wrap ((i : Int) + (n : Int)) = (E : Int) := by rw [IntKind.wrap_i64]; omega
  have n1' : (i : Int) + (n : Int) = (E : Int) := by omega
  have H := hide h
  have HE := hide hE
  have hE2 : E ≤ 100000008 := by omega
  clear h hE
  go_enter Try.func43, Try.ntmps43
  go_wp2_with fail
  go_loopw [7, 8] (fun vv kv wr => ∃ k x : Nat, k ≤ E ∧ x < 18446744073709551616 ∧ kv = .int .i64 k ∧ vv = .int .u64 x ∧ Hid (∃ j, k = i + j ∧ x = numB L i j) ∧ w = wr) (fun _ kv _ => E - (intOf kv).toNat)
  case atStart => exact ⟨i, 0, by have := unhide HE; omega, by decide, rfl, rfl, ⟨0, rfl, rfl⟩, rfl⟩
  case round =>
    obtain ⟨k, x, hk, hx, rfl, rfl, hv, rfl⟩ := hrel
    by_cases hc : k < E
    · have q1 : ((k : Int) < (E : Int)) = True := by simp; omega
      have hxl : x < 72057594037927936 := by
        obtain ⟨j, hj, e⟩ := unhide hv
        have := unhide HE
        rw [e]
        refine Nat.lt_of_lt_of_le (numB_lt (unhide H).lt i j) ?_
        have : (256 : Nat) ^ j ≤ 256 ^ 7 := Nat.pow_le_pow_right (by decide) (by omega)
        exact Nat.le_trans this (by decide)
      obtain ⟨y, hy⟩ : ∃ y, y = x * 256 := ⟨_, rfl⟩
      have s1 : (x : Int) * 256 = (y : Int) := by omega
      by_cases hl : k < L.length
      · obtain ⟨rfl, hg⟩ := (unhide H).at_ (by omega)
        have cc := (unhide H).cell k hl
        have hb := (unhide H).lt k
        have q2 : ((k : Int) < ((L.length : Nat) : Int)) = True := by simp; omega
        have hv2 : Hid (∃ j, k + 1 = i + j ∧ y + L.getD k 0 = numB L i j) := by
          obtain ⟨j, hj, e⟩ := unhide hv
          exact ⟨j + 1, by omega, by rw [numB, ← e, ← hj, hy]⟩
        generalize L.getD k 0 = z at *
        obtain ⟨u, hu⟩ : ∃ u, u = y + z := ⟨_, rfl⟩
        have s2 : bits .or .u64 (y : Int) (z : Int) = (u : Int) := by
          rw [u64_or _ _ (by omega) (by omega) (by omega) (by omega), hu, Int.toNat_natCast, Int.toNat_natCast, nat_join 8 y z (by rw [hy]; omega) (by omega)]
        have hu2 : u < 18446744073709551616 := by omega
        have hv3 : Hid (∃ j, k + 1 = i + j ∧ u = numB L i j) := by rw [hu]; exact hv2
        clear hv hv2 hu hy
        go_wp2_with fail
        exact ⟨⟨k + 1, u, hc, hu2, by go_num, rfl, hv3, trivial⟩, by simp [intOf]; omega⟩
      · have q2 : ((k : Int) < ((L.length : Nat) : Int)) = False := by simp; omega
        have hv2 : Hid (∃ j, k + 1 = i + j ∧ y = numB L i j) := by
          obtain ⟨j, hj, e⟩ := unhide hv
          exact ⟨j + 1, by omega, by rw [numB, ← e, ← hj, getD_out hl, hy, Nat.add_zero]⟩
        have hu2 : y < 18446744073709551616 := by omega
        clear hv hy
        go_wp2_with fail
        exact ⟨⟨k + 1, y, hc, hu2, by go_num, rfl, hv2, trivial⟩, by simp [intOf]; omega⟩
    · have q1 : ((k : Int) < (E : Int)) = False := by simp; omega
      have hf : Hid (x = numB L i n) := by
        obtain ⟨j, hj, e⟩ := unhide hv
        have := unhide HE
        obtain rfl : j = n := by omega
        exact e
      clear hv
      go_wp2_with fail
      go_ret
      exact ⟨by rw [← unhide hf]; rfl, rfl⟩
end Go.Proofs.Ytpmbgjoilfdkaaa

namespace Go.Proofs.Ytpmbgjoilfdkaaa
open Go.RowKit Fl Ieee

/-- Groups of seven bits from the i-th byte on: the number and the place behind. -/
def grpF (L : List Nat) : Nat → Nat → Nat → Nat → Nat × Nat
  | 0, _, v, i => (v, i)
  | u + 1, k, v, i => if i < L.length then (if L.getD i 0 < 128 then (v + L.getD i 0 % 128 * 2 ^ (7 * k), i + 1) else grpF L u (k + 1) (v + L.getD i 0 % 128 * 2 ^ (7 * k)) (i + 1)) else (v, i)
def grp (L : List Nat) (i : Nat) : Nat × Nat := grpF L 6 0 0 i
def unfoldZ (v : Nat) : Int := if v % 2 = 1 then -((v / 2 : Nat) : Int) - 1 else ((v / 2 : Nat) : Int)
theorem grpF_lt (L : List Nat) : ∀ u k v i, u + k = 6 → v < 2 ^ (7 * k) → (grpF L u k v i).1 < 2 ^ 42
  | 0, k, v, i, hk, hv => by
    obtain rfl : k = 6 := by omega
    exact hv
  | u + 1, k, v, i, hk, hv => by
    unfold grpF
    have hp : v + L.getD i 0 % 128 * 2 ^ (7 * k) < 2 ^ (7 * (k + 1)) := by
      have h1 : L.getD i 0 % 128 ≤ 127 := by omega
      have h2 : L.getD i 0 % 128 * 2 ^ (7 * k) ≤ 127 * 2 ^ (7 * k) := Nat.mul_le_mul_right _ h1
      rw [show 7 * (k + 1) = 7 * k + 7 by omega, Nat.pow_add]
      have e : (2 : Nat) ^ 7 = 128 := by decide
      rw [e]
      generalize L.getD i 0 % 128 * 2 ^ (7 * k) = A at *
      generalize 2 ^ (7 * k) = B at *
      omega
    have hle : (2 : Nat) ^ (7 * (k + 1)) ≤ 2 ^ 42 := Nat.pow_le_pow_right (by decide) (by omega)
    split
    · split
      · exact Nat.lt_of_lt_of_le hp hle
      · exact grpF_lt L u (k + 1) _ (i + 1) (by omega) hp
    · exact Nat.lt_of_lt_of_le hv (Nat.pow_le_pow_right (by decide) (by omega))
theorem grpF_at (L : List Nat) : ∀ u k v i, i ≤ (grpF L u k v i).2 ∧ (grpF L u k v i).2 ≤ i + u
  | 0, k, v, i => by unfold grpF; omega
  | u + 1, k, v, i => by
    unfold grpF
    split
    · split
      · show i ≤ i + 1 ∧ i + 1 ≤ _; omega
      · have := grpF_at L u (k + 1) (v + L.getD i 0 % 128 * 2 ^ (7 * k)) (i + 1)
        omega
    · show i ≤ i ∧ i ≤ _; omega

set_option maxRecDepth 100000 in
set_option maxHeartbeats 6400000 in
theorem refGroup {a : Option Addr} {g o c i : Nat} {L : List Nat} (hi : i ≤ 100000000) (w : World) (h : BAt w a g o L) :
    Calls Try.prog 45 #[.slice a L.length c, .int .i64 i] w fun r w' => r = .returned (.tuple #[.int .i64 (unfoldZ (grp L i).1), .int .i64 ((grp L i).2 : Nat)]) ∧ w' = w := by
  have H := hide h
  clear h
  go_enter Try.func45, Try.ntmps45
  go_wp2_with fail
  go_loopw [1, 6, 7] (fun iv vv kv wr => ∃ j x k : Nat, k ≤ 6 ∧ j ≤ 100000006 ∧ j ≤ i + k ∧ iv = .int .i64 j ∧ vv = .int .u64 x ∧ kv = .int .i64 k ∧ Hid (x < 2 ^ (7 * k)) ∧ Hid (grp L i = grpF L (6 - k) k x j) ∧ w = wr) (fun _ _ kv _ => 6 - (intOf kv).toNat)
  case atStart => exact ⟨i, 0, 0, by decide, by omega, by omega, rfl, rfl, rfl, by show 0 < 2 ^ 0; decide, rfl, rfl⟩
  case round =>
    obtain ⟨j, x, k, hk, hj, hj2, rfl, rfl, rfl, hx, hG, rfl⟩ := hrel
    by_cases hc : k < 6
    · have q1 : ((k : Int) < 6) = True := by simp; omega
      by_cases hl : j < L.length
      · obtain ⟨rfl, hg⟩ := (unhide H).at_ (by omega)
        have cc := (unhide H).cell j hl
        have hb := (unhide H).lt j
        have q2 : ((j : Int) < ((L.length : Nat) : Int)) = True := by simp; omega
        have hG2 : Hid (∀ u, u = x + L.getD j 0 % 128 * 2 ^ (7 * k) → (L.getD j 0 < 128 → grp L i = (u, j + 1)) ∧ (¬ L.getD j 0 < 128 → grp L i = grpF L (6 - (k + 1)) (k + 1) u (j + 1))) := by
          intro u hu
          have e := unhide hG
          rw [show 6 - k = (6 - (k + 1)) + 1 by omega, grpF, if_pos hl, ← hu] at e
          exact ⟨fun c => by rw [e, if_pos c], fun c => by rw [e, if_neg c]⟩
        have hX2 : Hid (∀ u, u = x + L.getD j 0 % 128 * 2 ^ (7 * k) → u < 2 ^ (7 * (k + 1))) := by
          intro u hu
          have h1 : L.getD j 0 % 128 ≤ 127 := by omega
          have h2 : L.getD j 0 % 128 * 2 ^ (7 * k) ≤ 127 * 2 ^ (7 * k) := Nat.mul_le_mul_right _ h1
          have h3 := unhide hx
          rw [show 7 * (k + 1) = 7 * k + 7 by omega, Nat.pow_add, hu]
          have e : (2 : Nat) ^ 7 = 128 := by decide
          rw [e]
          generalize L.getD j 0 % 128 * 2 ^ (7 * k) = A at *
          generalize 2 ^ (7 * k) = B at *
          omega
        generalize L.getD j 0 = z at *
        clear hG
        have hk' : k = 0 ∨ k = 1 ∨ k = 2 ∨ k = 3 ∨ k = 4 ∨ k = 5 := by omega
        obtain ⟨r, hr⟩ : ∃ r, r = z % 128 := ⟨_, rfl⟩
        have s1 : bits .and .u8 (z : Int) 127 = (r : Int) := by
          rw [u8_and _ _ (by omega) (by omega) (by decide) (by decide), hr]
          congr 1
          show z &&& 127 = _
          exact nat_mask7 z
        have r128 : r < 128 := by omega
        rw [← hr] at hG2 hX2
        clear hr
        have key : ∃ u : Nat, Hid (u = x + r * 2 ^ (7 * k)) ∧ bits .or .u64 (x : Int) ((r : Int) * 2 ^ (7 * k)) = (u : Int) ∧ u < 4398046511104 := by
          refine ⟨_, rfl, ?_, ?_⟩
          · have h3 := unhide hx
            have h4 : x < 18446744073709551616 := Nat.lt_of_lt_of_le h3 (Nat.le_trans (Nat.pow_le_pow_right (by decide) (show 7 * k ≤ 64 by omega)) (by decide))
            have h5 : r * 2 ^ (7 * k) < 18446744073709551616 := by
              have a1 : r * 2 ^ (7 * k) ≤ 127 * 2 ^ 35 := Nat.mul_le_mul (by omega) (Nat.pow_le_pow_right (by decide) (by omega))
              exact Nat.lt_of_le_of_lt a1 (by decide)
            have e1 : (r : Int) * 2 ^ (7 * k) = ((r * 2 ^ (7 * k) : Nat) : Int) := by rw [Int.natCast_mul, Int.natCast_pow]; rfl
            rw [e1, u64_or _ _ (by omega) (by omega) (by omega) (by omega), Int.toNat_natCast, Int.toNat_natCast, Nat.or_comm, nat_join (7 * k) _ x (Nat.mul_mod_left _ _) h3, Nat.add_comm]
          · have := unhide hX2 _ rfl
            have e : (2 : Nat) ^ (7 * (k + 1)) ≤ 2 ^ 42 := Nat.pow_le_pow_right (by decide) (by omega)
            have e2 : (2 : Nat) ^ 42 = 4398046511104 := by decide
            omega
        obtain ⟨u, hu, su, ul⟩ := key
        have G3 := hide (unhide hG2 u (unhide hu))
        have X3 := hide (unhide hX2 u (unhide hu))
        clear hu hG2 hX2 hx
        by_cases hz : z < 128
        · have q3 : ((z : Int) < 128) = True := by simp; omega
          have fin := hide ((unhide G3).1 hz)
          obtain ⟨h, hh⟩ : ∃ h, h = u / 2 := ⟨_, rfl⟩
          have d1 : (u : Int).tdiv 2 = (h : Int) := by rw [Int.tdiv_eq_ediv_of_nonneg (by omega)]; omega
          clear G3 X3
          by_cases par : u % 2 = 1
          · have m1 : (u : Int).tmod 2 = 1 := by rw [Int.tmod_eq_emod_of_nonneg (by omega)]; omega
            have eq : Hid (unfoldZ u = -(h : Int) - 1) := by
              show _ = _
              unfold unfoldZ
              rw [if_pos par, hh]
            have hlt : h < 4398046511104 := by omega
            clear par hh
            rcases hk' with rfl | rfl | rfl | rfl | rfl | rfl
            all_goals
              simp only [Nat.mul_zero, Nat.mul_one, Nat.reduceMul, Int.reducePow, Int.mul_one] at su
              go_wp2_with fail
              go_ret2
              exact ⟨by rw [unhide fin]; show _ = Ending.returned (.tuple #[.int .i64 (unfoldZ u), .int .i64 ((j + 1 : Nat) : Int)]); rw [unhide eq]; rfl, rfl⟩
          · have m1 : (u : Int).tmod 2 = 0 := by rw [Int.tmod_eq_emod_of_nonneg (by omega)]; omega
            have eq : Hid (unfoldZ u = (h : Int)) := by
              show _ = _
              unfold unfoldZ
              rw [if_neg par, hh]
            have hlt : h < 4398046511104 := by omega
            clear par hh
            rcases hk' with rfl | rfl | rfl | rfl | rfl | rfl
            all_goals
              simp only [Nat.mul_zero, Nat.mul_one, Nat.reduceMul, Int.reducePow, Int.mul_one] at su
              go_wp2_with fail
              go_ret2
              exact ⟨by rw [unhide fin]; show _ = Ending.returned (.tuple #[.int .i64 (unfoldZ u), .int .i64 ((j + 1 : Nat) : Int)]); rw [unhide eq]; rfl, rfl⟩
        · have q3 : ((z : Int) < 128) = False := by simp; omega
          have G4 := hide ((unhide G3).2 hz)
          clear G3
          rcases hk' with rfl | rfl | rfl | rfl | rfl | rfl
          all_goals
            simp only [Nat.mul_zero, Nat.mul_one, Nat.reduceMul, Int.reducePow, Int.mul_one] at su
            go_wp2_with fail
            exact ⟨⟨j + 1, u, _, by decide, by omega, by omega, by go_num, rfl, by go_num, X3, G4, trivial⟩, by simp [intOf]⟩
      · have q2 : ((j : Int) < ((L.length : Nat) : Int)) = False := by simp; omega
        have fin : Hid (grp L i = (x, j)) := by
          have e := unhide hG
          rw [show 6 - k = (6 - (k + 1)) + 1 by omega, grpF, if_neg hl] at e
          exact e
        have xl : x < 4398046511104 := by
          have e : (2 : Nat) ^ (7 * k) ≤ 2 ^ 42 := Nat.pow_le_pow_right (by decide) (by omega)
          have e2 : (2 : Nat) ^ 42 = 4398046511104 := by decide
          have := unhide hx
          omega
        obtain ⟨h, hh⟩ : ∃ h, h = x / 2 := ⟨_, rfl⟩
        have d1 : (x : Int).tdiv 2 = (h : Int) := by rw [Int.tdiv_eq_ediv_of_nonneg (by omega)]; omega
        clear hG hx
        by_cases par : x % 2 = 1
        · have m1 : (x : Int).tmod 2 = 1 := by rw [Int.tmod_eq_emod_of_nonneg (by omega)]; omega
          have eq : Hid (unfoldZ x = -(h : Int) - 1) := by
            show _ = _
            unfold unfoldZ
            rw [if_pos par, hh]
          have hlt : h < 4398046511104 := by omega
          clear par hh
          go_wp2_with fail
          go_ret2
          exact ⟨by rw [unhide fin]; show _ = Ending.returned (.tuple #[.int .i64 (unfoldZ x), .int .i64 (j : Int)]); rw [unhide eq]; rfl, rfl⟩
        · have m1 : (x : Int).tmod 2 = 0 := by rw [Int.tmod_eq_emod_of_nonneg (by omega)]; omega
          have eq : Hid (unfoldZ x = (h : Int)) := by
            show _ = _
            unfold unfoldZ
            rw [if_neg par, hh]
          have hlt : h < 4398046511104 := by omega
          clear par hh
          go_wp2_with fail
          go_ret2
          exact ⟨by rw [unhide fin]; show _ = Ending.returned (.tuple #[.int .i64 (unfoldZ x), .int .i64 (j : Int)]); rw [unhide eq]; rfl, rfl⟩
    · have q1 : ((k : Int) < 6) = False := by simp; omega
      have fin : Hid (grp L i = (x, j)) := by
        have e := unhide hG
        rw [show 6 - k = 0 by omega] at e
        exact e
      have xl : x < 4398046511104 := by
        have e : (2 : Nat) ^ (7 * k) ≤ 2 ^ 42 := Nat.pow_le_pow_right (by decide) (by omega)
        have e2 : (2 : Nat) ^ 42 = 4398046511104 := by decide
        have := unhide hx
        omega
      obtain ⟨h, hh⟩ : ∃ h, h = x / 2 := ⟨_, rfl⟩
      have d1 : (x : Int).tdiv 2 = (h : Int) := by rw [Int.tdiv_eq_ediv_of_nonneg (by omega)]; omega
      clear hG hx
      by_cases par : x % 2 = 1
      · have m1 : (x : Int).tmod 2 = 1 := by rw [Int.tmod_eq_emod_of_nonneg (by omega)]; omega
        have eq : Hid (unfoldZ x = -(h : Int) - 1) := by
          show _ = _
          unfold unfoldZ
          rw [if_pos par, hh]
        have hlt : h < 4398046511104 := by omega
        clear par hh
        go_wp2_with fail
        go_ret2
        exact ⟨by rw [unhide fin]; show _ = Ending.returned (.tuple #[.int .i64 (unfoldZ x), .int .i64 (j : Int)]); rw [unhide eq]; rfl, rfl⟩
      · have m1 : (x : Int).tmod 2 = 0 := by rw [Int.tmod_eq_emod_of_nonneg (by omega)]; omega
        have eq : Hid (unfoldZ x = (h : Int)) := by
          show _ = _
          unfold unfoldZ
          rw [if_neg par, hh]
        have hlt : h < 4398046511104 := by omega
        clear par hh
        go_wp2_with fail
        go_ret2
        exact ⟨by rw [unhide fin]; show _ = Ending.returned (.tuple #[.int .i64 (unfoldZ x), .int .i64 (j : Int)]); rw [unhide eq]; rfl, rfl⟩
end Go.Proofs.Ytpmbgjoilfdkaaa

namespace Go.Proofs.Ytpmbgjoilfdkaaa
open Go.RowKit Fl Ieee

/-- A narrow number made wide: as reckoned, or a NaN. -/
def WideOk (c x : Nat) : Prop := x < 18446744073709551616 ∧ (floatToFloatBits .f32 c .f64 = some x ∨ (floatToFloatBits .f32 c .f64 = none ∧ ∃ s f, double.read x = .nan s f))
/-- The place of the i-th cell, and the two parts of the cell ahead. -/
def stU (L : List Nat) (z : Nat) : Nat → Nat × Int × Int
  | 0 => (2, 0, 0)
  | i + 1 => if z = 0 then ((stU L z i).1 + 16, (stU L z i).2) else if z = 1 then ((stU L z i).1 + 8, (stU L z i).2)
    else ((grp L (grp L (stU L z i).1).2).2, (stU L z i).2.1 + unfoldZ (grp L (stU L z i).1).1, (stU L z i).2.2 + unfoldZ (grp L (grp L (stU L z i).1).2).1)
def CellIs (L : List Nat) (z i : Nat) (c : Nat × Nat) : Prop :=
  (z = 0 ∧ c = (numB L (stU L z i).1 8, numB L ((stU L z i).1 + 8) 8)) ∨
  (z = 1 ∧ WideOk (numB L (stU L z i).1 4) c.1 ∧ WideOk (numB L ((stU L z i).1 + 4) 4) c.2) ∨
  (z = 2 ∧ c = (floatOfInt .f64 (stU L z (i + 1)).2.1, floatOfInt .f64 (stU L z (i + 1)).2.2))
structure Head (L : List Nat) : Prop where
  len : 2 ≤ L.length
  way : L.getD 0 0 ≤ 2
  lo : 1 ≤ L.getD 1 0
  hi : L.getD 1 0 ≤ 64
def side (L : List Nat) : Nat := L.getD 1 0
/-- Bytes are those of a field that is read from them. -/
def Good (L : List Nat) (f : Nat → Nat × Nat) : Prop := Head L ∧ (∀ j, j < side L * side L → CellIs L (L.getD 0 0) j (f j)) ∧ ∃ a, Sh (side L) (side L * side L) f a ∧ byL a (side L) (side L * side L) f = L

theorem grp_at (L : List Nat) (i : Nat) : i ≤ (grp L i).2 ∧ (grp L i).2 ≤ i + 6 := grpF_at L 6 0 0 i
theorem grp_lt (L : List Nat) (i : Nat) : (grp L i).1 < 4398046511104 := by
  have := grpF_lt L 6 0 0 i rfl (by show 0 < 2 ^ 0; decide)
  have e : (2 : Nat) ^ 42 = 4398046511104 := by decide
  unfold grp
  omega
theorem unfoldZ_le {v : Nat} (h : v < 4398046511104) : (unfoldZ v).natAbs ≤ 2199023255552 := by
  unfold unfoldZ
  split <;> omega
theorem stU_le (L : List Nat) (z : Nat) : ∀ i, (stU L z i).1 ≤ 2 + 16 * i ∧ (stU L z i).2.1.natAbs ≤ 2199023255552 * i ∧ (stU L z i).2.2.natAbs ≤ 2199023255552 * i
  | 0 => ⟨Nat.le_refl 2, Nat.le_refl 0, Nat.le_refl 0⟩
  | i + 1 => by
    have ih := stU_le L z i
    unfold stU
    split
    · dsimp only; omega
    · split
      · dsimp only; omega
      · have a1 := grp_at L (stU L z i).1
        have a2 := grp_at L (grp L (stU L z i).1).2
        have b1 := unfoldZ_le (grp_lt L (stU L z i).1)
        have b2 := unfoldZ_le (grp_lt L (grp L (stU L z i).1).2)
        dsimp only
        omega

theorem head_byL {a n m : Nat} {f : Nat → Nat × Nat} {L : List Nat} (h : byL a n m f = L) : L.getD 0 0 = a := by
  rw [← h]
  unfold byL
  rfl

/-- What is read from right bytes is read so by everyone. -/
theorem good_same {L : List Nat} {f f' : Nat → Nat × Nat} (h : Good L f) (h' : ∀ j, j < side L * side L → CellIs L (L.getD 0 0) j (f' j)) (j : Nat) (hj : j < side L * side L) : f' j = f j := by
  obtain ⟨_, hc, a, hs, hb⟩ := h
  have e := head_byL hb
  have c1 := hc j hj
  have c2 := h' j hj
  have hcan := (sh_can hs).1 j hj
  rcases c1 with ⟨z0, c1⟩ | ⟨z1, c1⟩ | ⟨z2, c1⟩
  · rcases c2 with ⟨_, c2⟩ | ⟨z1, _⟩ | ⟨z2, _⟩
    · rw [c1, c2]
    · omega
    · omega
  · rcases c2 with ⟨z0, _⟩ | ⟨_, c2⟩ | ⟨z2, _⟩
    · omega
    · have hn : (∃ r, Nar (f j).1 r) ∧ ∃ r, Nar (f j).2 r := by
        rcases hcan with h | ⟨_, h⟩ | ⟨h, _⟩
        · omega
        · exact h
        · omega
      have one : ∀ {c x y : Nat}, WideOk c x → WideOk c y → (∃ r, Nar x r) → y = x := by
        intro c x y hx hy ⟨r, hr⟩
        rcases hx.2 with h1 | ⟨h1, s, t, h2⟩
        · rcases hy.2 with h3 | ⟨h3, _⟩
          · rw [h1] at h3
            exact (Option.some.inj h3).symm
          · rw [h1] at h3; cases h3
        · exact absurd hr (nar_no h2 r)
      exact Prod.ext (one c1.1 c2.1 hn.1) (one c1.2 c2.2 hn.2)
    · omega
  · rcases c2 with ⟨z0, _⟩ | ⟨z1, _⟩ | ⟨_, c2⟩
    · omega
    · omega
    · rw [c1, c2]

theorem ahead_congr {f f' : Nat → Nat × Nat} {m : Nat} (h : ∀ j, j < m → f' j = f j) {i : Nat} (hi : i < m) : aheadC f' i = aheadC f i := by
  unfold aheadC
  split
  · rfl
  · exact h _ (by omega)
theorem cellsL_congr {f f' : Nat → Nat × Nat} {m : Nat} (h : ∀ j, j < m → f' j = f j) (way : Nat) : ∀ i, i ≤ m → cellsL way f' i = cellsL way f i
  | 0, _ => rfl
  | i + 1, hi => by rw [cellsL, cellsL, cellsL_congr h way i (by omega), h i (by omega), ahead_congr h (by omega)]
theorem byL_congr {f f' : Nat → Nat × Nat} {m : Nat} (h : ∀ j, j < m → f' j = f j) (way n : Nat) : byL way n m f' = byL way n m f := by
  unfold byL
  rw [cellsL_congr h way m (Nat.le_refl _)]
theorem can_congr {f f' : Nat → Nat × Nat} {m : Nat} (h : ∀ j, j < m → f' j = f j) (way : Nat) : Can way m f' ↔ Can way m f := by
  constructor
  · intro hc i hi; have := hc i hi; rw [h i hi] at this; exact this
  · intro hc i hi; have := hc i hi; rw [← h i hi] at this; exact this
theorem sh_congr {f f' : Nat → Nat × Nat} {m : Nat} (h : ∀ j, j < m → f' j = f j) {n a : Nat} (hs : Sh n m f a) : Sh n m f' a := by
  obtain ⟨b, h1, h2⟩ := hs
  refine ⟨b, ?_, ?_⟩
  · unfold Pick at *
    rw [byL_congr h, byL_congr h, can_congr h]
    exact h1
  · unfold Pick at *
    rw [byL_congr h, byL_congr h, can_congr h]
    exact h2

/-- What one reads decides. -/
theorem good_of {L : List Nat} {f f' : Nat → Nat × Nat} {a : Nat} (h' : ∀ j, j < side L * side L → CellIs L (L.getD 0 0) j (f' j)) (hs : Sh (side L) (side L * side L) f' a) (hn : byL a (side L) (side L * side L) f' ≠ L) : ¬ Good L f := by
  intro h
  have e := good_same h h'
  obtain ⟨_, hc, b, hb, hl⟩ := h
  have hb' := sh_congr e hb
  obtain rfl := sh_one hs hb'
  rw [byL_congr e] at hn
  exact hn hl

/-- What is asked of Unpack: of bytes wherever they lie. -/
def UnpAny (fn : Nat) : Prop := ∀ (a : Option Addr) (g o c : Nat) (L : List Nat) (w : World), BAt w a g o L →
  Calls Try.prog fn #[.slice a L.length c] w fun r w' => ((∃ f gz cz, Good L f ∧ r = .returned (.tuple #[fieldV (side L) gz (side L * side L) cz, .int .i64 0]) ∧ Row w' gz (side L * side L) f ∧ w.heap.size ≤ gz) ∨ ((∀ f, ¬ Good L f) ∧ r = .returned (.tuple #[.agg #[.int .i64 0, .slice none 0 0], .int .i64 210]))) ∧ Below w.heap.size w w'
/-- The same, of bytes with room for them. -/
def UnpOk (fn : Nat) : Prop := ∀ (a : Option Addr) (g o c : Nat) (L : List Nat) (w : World), L.length ≤ c → L.length ≤ 140737488355328 → BAt w a g o L →
  Calls Try.prog fn #[.slice a L.length c] w fun r w' => ((∃ f gz cz, Good L f ∧ r = .returned (.tuple #[fieldV (side L) gz (side L * side L) cz, .int .i64 0]) ∧ Row w' gz (side L * side L) f ∧ w.heap.size ≤ gz) ∨ ((∀ f, ¬ Good L f) ∧ r = .returned (.tuple #[.agg #[.int .i64 0, .slice none 0 0], .int .i64 210]))) ∧ Below w.heap.size w w'
end Go.Proofs.Ytpmbgjoilfdkaaa

namespace Go.Proofs.Ytpmbgjoilfdkaaa
open Go.RowKit Fl Ieee

def cL (f : Nat → Nat × Nat) (k : Nat) : List Value := (List.range k).map fun i => cv (f i)
theorem cL_snoc (f : Nat → Nat × Nat) (k : Nat) : cL f (k + 1) = cL f k ++ [cv (f k)] := by unfold cL; rw [List.range_succ, List.map_append]; rfl
theorem cL_at {f : Nat → Nat × Nat} {k i : Nat} (h : i < k) : (cL f k)[i]? = some (cv (f i)) := by unfold cL; simp [h]
def updC (f : Nat → Nat × Nat) (k : Nat) (c : Nat × Nat) : Nat → Nat × Nat := fun i => if i = k then c else f i
theorem cL_upd (f : Nat → Nat × Nat) (k : Nat) (c : Nat × Nat) : cL (updC f k c) (k + 1) = cL f k ++ [cv c] := by
  rw [cL_snoc]
  congr 1
  · unfold cL
    refine List.map_congr_left fun i hi => ?_
    unfold updC
    rw [if_neg (by have := List.mem_range.1 hi; omega)]
  · unfold updC
    rw [if_pos rfl]

structure UM (w wr : World) (n : Nat) (v : Value) (k : Nat) (f : Nat → Nat × Nat) : Prop where
  res : wr.heap[w.heap.size]? = some (.cells #[.int .i64 0, .slice none 0 0] 30 (0, 0))
  box : wr.heap[w.heap.size + 1]? = some (.cells #[.int .i64 n, v] 30 (0, 0))
  own : wr.ownsRow (w.heap.size + 2) 40 1 v k (cL f k)
  bel : Below w.heap.size w wr

theorem um_start (w : World) (n : Nat) (f : Nat → Nat × Nat) : UM w ((w.alloc (.cells #[.int .i64 0, .slice none 0 0] 30)).alloc (.cells #[.int .i64 n, .slice none 0 0] 30)) n (.slice none 0 0) 0 f := by
  have s1 : (w.alloc (.cells #[.int .i64 0, .slice none 0 0] 30)).heap.size = w.heap.size + 1 := World.size_alloc _ _
  refine ⟨?_, ?_, World.ownsRow_nil _ _ _ _, ((Below.refl _ _).alloc (Nat.le_refl _) _).alloc (by rw [s1]; omega) _⟩
  · rw [Below.heap_alloc _ _ _ (by rw [s1]; omega)]
    exact heap_alloc_new w _
  · rw [← s1]
    exact heap_alloc_new _ _
theorem um_drew {w wr : World} {n k d : Nat} {v : Value} {f : Nat → Nat × Nat} (h : UM w wr n v k f) : UM w (wr.drewN d) n v k f := ⟨h.res, h.box, h.own, ⟨h.bel.os, h.bel.tape, h.bel.output, h.bel.size, h.bel.block⟩⟩
theorem um_size {w wr : World} {n k : Nat} {v : Value} {f : Nat → Nat × Nat} (h : UM w wr n v k f) : w.heap.size + 1 < wr.heap.size := (Array.getElem?_eq_some_iff.1 h.box).1
theorem um_cell {w wr : World} {n k : Nat} {v : Value} {f : Nat → Nat × Nat} (h : UM w wr n v k f) : wr.cell? ⟨w.heap.size + 1, 0, none⟩ = some (.int .i64 n) ∧ wr.cell? ⟨w.heap.size + 1, 1, none⟩ = some v ∧ wr.frozen? ⟨w.heap.size + 1, 1, none⟩ = false := by
  have hb := h.box
  refine ⟨?_, ?_, ?_⟩
  · simp [World.cell?, hb]
  · simp [World.cell?, hb]
  · simp [World.frozen?, hb]
theorem own_setC {w : World} {B n j i : Nat} {v x : Value} {xs : List Value} (h : w.ownsRow B 40 1 v n xs) (hj : j < B) : (w.setCell ⟨j, i, none⟩ x).ownsRow B 40 1 v n xs := by
  refine ⟨h.1, ?_⟩
  rcases h.2 with h1 | ⟨g, cap, cur, h1, h2, h3, h4⟩
  · exact .inl h1
  · refine .inr ⟨g, cap, cur, h1, h2, ?_, h4⟩
    rw [Below.heap_setCell _ _ _ _ (by show g ≠ j; omega)]
    exact h3

theorem um_step {w wr w2 : World} {n k : Nat} {v v' : Value} {f : Nat → Nat × Nat} {c : Nat × Nat} {o : Obj} (h : UM w wr n v k f) (hown : w2.ownsRow (w.heap.size + 2) 40 1 v' (k + 1) (cL f k ++ [cv c])) (hg : (wr.alloc o).grownBy w2 v.ownBlock) :
    UM w (w2.setCell ⟨w.heap.size + 1, 1, none⟩ v') n v' (k + 1) (updC f k c) := by
  have hs := um_size h
  have hlt : ∀ b, v.ownBlock = some b → w.heap.size + 2 ≤ b := fun b hb => (h.own.lt b hb).1
  have keep : ∀ j, j ≤ w.heap.size + 1 → w2.heap[j]? = wr.heap[j]? := fun j hj => by
    rw [hg.block j (by rw [World.size_alloc]; omega) (fun e => by have := hlt j e.symm; omega), Below.heap_alloc _ _ _ (by omega)]
  refine ⟨?_, ?_, ?_, ?_⟩
  · rw [Below.heap_setCell _ _ _ _ (by show w.heap.size ≠ w.heap.size + 1; omega), keep _ (by omega)]
    exact h.res
  · have hb : w2.heap[w.heap.size + 1]? = some (.cells #[.int .i64 n, v] 30 (0, 0)) := by rw [keep _ (Nat.le_refl _)]; exact h.box
    rw [heap_setCell_same w2 (w.heap.size + 1) 1 _ _ _ hb]
    rfl
  · rw [cL_upd]
    exact own_setC hown (by omega)
  · refine Below.setCell ?_ (by show w.heap.size ≤ w.heap.size + 1; omega) _
    exact (h.bel.alloc h.bel.size o).grown hg (by rw [World.size_alloc]; have := h.bel.size; omega) (fun b hb => by have := hlt b hb; omega)

theorem um_row {w wr : World} {n k : Nat} {v : Value} {f : Nat → Nat × Nat} (h : UM w wr n v k f) (hk : 1 ≤ k) : ∃ g c, v = .slice (some ⟨g, 0, none⟩) k c ∧ w.heap.size + 2 ≤ g ∧ Row wr g k f := by
  rcases h.own.2 with ⟨_, h2⟩ | ⟨g, cap, cur, h1, h2, h3, h4, _, h6, h7⟩
  · omega
  · refine ⟨g, cap, h1, h2, cur, h3, by omega, fun i hi => ?_⟩
    have h8 := cL_at (f := f) hi
    rw [← h7, List.getElem?_take, if_pos (by omega)] at h8
    simpa using h8
theorem um_mid {w wr w2 : World} {n k : Nat} {v : Value} {f : Nat → Nat × Nat} {o : Obj} (h : UM w wr n v k f) (hg : (wr.alloc o).grownBy w2 v.ownBlock) :
    w2.cell? ⟨w.heap.size + 1, 1, none⟩ = some v ∧ w2.frozen? ⟨w.heap.size + 1, 1, none⟩ = false := by
  have hs := um_size h
  have hb : w2.heap[w.heap.size + 1]? = some (.cells #[.int .i64 n, v] 30 (0, 0)) := by
    rw [hg.block _ (by rw [World.size_alloc]; omega) (fun e => by have := (h.own.lt _ e.symm).1; omega), Below.heap_alloc _ _ _ (by omega)]
    exact h.box
  exact ⟨by simp [World.cell?, hb], by simp [World.frozen?, hb]⟩
theorem own_sliceC {w : World} {B n : Nat} {v : Value} {xs : List Value} (h : w.ownsRow B 40 1 v n xs) (hn : 1 ≤ n) : ∃ g c, v = .slice (some ⟨g, 0, none⟩) n c := by
  rcases h.2 with ⟨_, h2⟩ | ⟨g, cap, cur, h1, _⟩
  · omega
  · exact ⟨g, cap, h1⟩
theorem infoCx : (Try.prog.info? 40).map (fun i => (i.zero, i.size, i.bytes)) = some (some (.complex .f64 0 0), 1, 16) := by kernel_rfl
end Go.Proofs.Ytpmbgjoilfdkaaa

namespace Go.Proofs.Ytpmbgjoilfdkaaa
open Go.RowKit Fl Ieee

def strB (L : List Nat) : ByteArray := ⟨(L.map UInt8.ofNat).toArray⟩
theorem addr_addo (g o j : Nat) : (⟨g, o, none⟩ : Addr).add j = ⟨g, o + j, none⟩ := by
  unfold Addr.add
  split <;> simp_all

theorem run_str {w : World} {g o cap : Nat} {L : List Nat} (hc : ∀ i, i < L.length → w.cell? ⟨g, o + i, none⟩ = some (.int .u8 (L.getD i 0 : Nat))) : (convert 22 9 (.slice (some ⟨g, o, none⟩) L.length cap)).run Try.prog w = .ok (.string (strB L)) w := by
  rw [run_convert_bytes_string w _ _ 5 _ _ _ Try.underlying22 Try.underlying5 Try.underlying9]
  have h1 := run_loadCells (P := Try.prog) (w := w) ⟨g, o, none⟩ L.length (fun j => .int .u8 (L.getD j 0 : Nat)) (fun j hj => by rw [addr_addo]; exact hc j hj)
  have e : (List.range L.length).map (fun j => Value.int .u8 (L.getD j 0 : Nat)) = (L.map (fun x : Nat => (x : Int))).map (Value.int .u8) := by
    rw [List.map_map]
    refine List.ext_getElem? fun i => ?_
    by_cases c : i < L.length
    · simp [c]
    · simp [c]
  rw [run_bytesToString w ⟨g, o, none⟩ L.length cap (L.map (fun x : Nat => (x : Int))) (by rw [← e]; exact h1), foldl_push_bytes]
  unfold strB
  congr 2
  simp

theorem map_inj : ∀ {L K : List Nat}, (∀ x ∈ L, x < 256) → (∀ x ∈ K, x < 256) → L.map UInt8.ofNat = K.map UInt8.ofNat → L = K
  | [], [], _, _, _ => rfl
  | [], y :: K, _, _, h => by simp at h
  | x :: L, [], _, _, h => by simp at h
  | x :: L, y :: K, h1, h2, h => by
    simp only [List.map_cons, List.cons.injEq] at h
    have e1 : x = y := by
      have := congrArg UInt8.toNat h.1
      simp at this
      have a1 := h1 x (by simp)
      have a2 := h2 y (by simp)
      omega
    have e2 := map_inj (fun z hz => h1 z (by simp [hz])) (fun z hz => h2 z (by simp [hz])) h.2
    rw [e1, e2]
theorem str_same {L K : List Nat} (h1 : ∀ x ∈ L, x < 256) (h2 : ∀ x ∈ K, x < 256) : ((strB L).toList == (strB K).toList) = decide (L = K) := by
  rw [ByteArray.toList_eq, ByteArray.toList_eq]
  show ((L.map UInt8.ofNat) == (K.map UInt8.ofNat)) = _
  by_cases c : L = K
  · subst c
    simp
  · rw [decide_eq_false c, beq_eq_false_iff_ne]
    exact fun h => c (map_inj h1 h2 h)

theorem high_lt {x n y : Nat} (h : y ∈ highL x n) : y < 256 := by
  unfold highL at h
  simp at h
  obtain ⟨j, _, rfl⟩ := h
  unfold byteAt
  omega
theorem lowF_byte : ∀ {f v y : Nat}, v < 2 ^ f → y ∈ lowF f v → y < 256
  | 0, v, y, hv, h => by
    unfold lowF at h
    simp at h
    have : (2 : Nat) ^ 0 = 1 := by decide
    omega
  | f + 1, v, y, hv, h => by
    unfold lowF at h
    by_cases c : v < 128
    · rw [if_pos c] at h
      simp at h
      omega
    · rw [if_neg c] at h
      simp only [List.mem_cons] at h
      rcases h with rfl | h
      · omega
      · refine lowF_byte ?_ h
        rw [Nat.pow_succ] at hv
        omega
theorem low_lt {v y : Nat} (hv : v < 2 ^ 64) (h : y ∈ lowL v) : y < 256 := lowF_byte hv h
theorem cells_lt {way m : Nat} {f : Nat → Nat × Nat} (hC : Can way m f) (hw : way ≤ 2) : ∀ i, i ≤ m → ∀ y ∈ cellsL way f i, y < 256
  | 0, _, y, hy => by simp [cellsL] at hy
  | i + 1, hi, y, hy => by
    rw [cellsL, List.mem_append] at hy
    rcases hy with h | h
    · exact cells_lt hC hw i (by omega) y h
    · unfold cellL at h
      split at h
      · rcases List.mem_append.1 h with h | h <;> exact high_lt h
      · split at h
        · rcases List.mem_append.1 h with h | h <;> exact high_lt h
        · have w2 : way = 2 := by omega
          have wh : ∀ j, j < m → Wh 2147483648 (f j).1 ∧ Wh 2147483648 (f j).2 := fun j hj => by
            rcases hC j hj with h | ⟨h, _⟩ | ⟨_, h⟩
            · omega
            · omega
            · exact h
          have a1 := wh_val (wh i (by omega)).1
          have a2 := wh_val (wh i (by omega)).2
          have ah : (valZ (aheadC f i).1).natAbs ≤ 2147483648 ∧ (valZ (aheadC f i).2).natAbs ≤ 2147483648 := by
            unfold aheadC
            by_cases c : i = 0
            · rw [if_pos c, val_zero]; decide
            · rw [if_neg c]
              exact ⟨(wh_val (wh (i - 1) (by omega)).1).1, (wh_val (wh (i - 1) (by omega)).2).1⟩
          rcases List.mem_append.1 h with h | h
          · exact low_lt (foldZ_lt (by omega)) h
          · exact low_lt (foldZ_lt (by omega)) h
theorem by_lt {way n m : Nat} {f : Nat → Nat × Nat} (hC : Can way m f) (hw : way ≤ 2) (hn : n ≤ 64) : ∀ y ∈ byL way n m f, y < 256 := fun y hy => by
  unfold byL at hy
  rcases List.mem_append.1 hy with h | h
  · simp at h
    omega
  · exact cells_lt hC hw m (Nat.le_refl _) y h
theorem mem_getD {L : List Nat} (h : ∀ i, L.getD i 0 < 256) : ∀ x ∈ L, x < 256 := fun x hx => by
  obtain ⟨i, hi, rfl⟩ := List.mem_iff_getElem.1 hx
  have := h i
  rw [List.getD_eq_getElem?_getD, List.getElem?_eq_getElem hi] at this
  exact this

theorem own_cellsB {w : World} {B n : Nat} {g c : Nat} {xs : List Nat} (h : w.ownsRow B 5 1 (.slice (some ⟨g, 0, none⟩) n c) n (bL xs)) : ∀ i, i < xs.length → w.cell? ⟨g, 0 + i, none⟩ = some (.int .u8 (xs.getD i 0 : Nat)) := fun i hi => by
  have hl : (bL xs).length = n * 1 := h.1
  have hx : (bL xs).length = xs.length := by unfold bL; simp
  rw [Nat.zero_add, h.cellAt i (by omega)]
  unfold bL bV
  simp [hi]
end Go.Proofs.Ytpmbgjoilfdkaaa
