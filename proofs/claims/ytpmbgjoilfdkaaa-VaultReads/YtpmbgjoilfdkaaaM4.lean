/- Bytes of a number, the greatest first; in groups of seven bits. A number in groups of seven bits; a difference as a number. The document's bytes of a field by a way: what is asked. The document's bytes of a field by the way 0. The document's bytes of a field by the way 1. The document's bytes of a field by the way 2. The document's shortest bytes of a field. -/
import Derived.Test.YtpmbgjoilfdkaaaM1
import Derived.OwnWalk
import Derived.Laws.AppendOwn
import Derived.Laws.ShiftsVarLaws
import Derived.Laws.BitsAllLaws
import Derived.Test.YtpmbgjoilfdkaaaM3
namespace Go.Proofs.Ytpmbgjoilfdkaaa
open Go.RowKit

theorem infoB : (Try.prog.info? 5).map (fun i => (i.zero, i.size, i.bytes)) = some (some (.int .u8 0), 1, 1) := by kernel_rfl

def bV (x : Nat) : Value := .int .u8 x
def bL (xs : List Nat) : List Value := xs.map bV
/-- The i-th byte of a number. -/
def byteAt (x i : Nat) : Nat := x / 2 ^ (8 * i) % 256
def highL (x n : Nat) : List Nat := (List.range n).map fun j => byteAt x (n - 1 - j)
theorem bL_snoc (xs : List Nat) (x : Nat) : bL (xs ++ [x]) = bL xs ++ [bV x] := by unfold bL; rw [List.map_append]; rfl

theorem highL_take {x n j : Nat} (h : j < n) : (highL x n).take (j + 1) = (highL x n).take j ++ [byteAt x (n - 1 - j)] := by
  unfold highL
  rw [List.take_add_one]
  congr 1
  simp [h]
theorem highL_len (x n : Nat) : (highL x n).length = n := by unfold highL; simp
theorem one_newB (w : World) (x : Value) (t : TypeId) : ∀ j u, [x][j]? = some u → (w.alloc (.cells #[x] t)).cell? ((⟨w.heap.size, 0, none⟩ : Addr).add j) = some u := by
  intro j u hj
  match j, hj with
  | 0, hj =>
    simp at hj
    subst hj
    simp [Addr.add]
theorem byte_int (x i : Nat) : ((x : Int) / 2 ^ (8 * i) % 256) = ((byteAt x i : Nat) : Int) := by simp only [byteAt, Int.natCast_emod, Int.natCast_ediv, Int.natCast_pow]; rfl

set_option maxRecDepth 100000 in
set_option maxHeartbeats 1600000 in
theorem refHigh {B m x n : Nat} {v : Value} {xs : List Nat} (hn : n ≤ 8) (hm : m ≤ 1000000) (w : World) (hB : B ≤ w.heap.size) (hOw : w.ownsRow B 5 1 v m (bL xs)) :
    Calls Try.prog 63 #[v, .int .u64 x, .int .i64 n] w fun r w' => ∃ v', r = .returned v' ∧ w'.ownsRow B 5 1 v' (m + n) (bL (xs ++ highL x n)) ∧ Below B w w' := by
  obtain ⟨i0, hi0, hz0, hz1, hz2⟩ := info_parts infoB
  have HO := hide hOw
  have HB := hide hB
  clear hOw hB
  have n1 : IntKind.i64.wrap ((n : Int) - 1) = (n : Int) - 1 := by rw [IntKind.wrap_i64]; omega
  go_enter Try.func63, Try.ntmps63
  go_wp2_with fail
  go_loopw [0, 7] (fun bv iv wr => ∃ j : Nat, j ≤ n ∧ iv = .int .i64 ((n : Int) - 1 - j) ∧ Hid (wr.ownsRow B 5 1 bv (m + j) (bL (xs ++ (highL x n).take j))) ∧ Hid (Below B w wr)) (fun _ iv _ => (intOf iv + 1).toNat)
  case atStart => exact ⟨0, Nat.zero_le _, by simp, by rw [List.take_zero, List.append_nil]; exact HO, Below.refl _ _⟩
  case round =>
    obtain ⟨j, hj, rfl, hO, hBe⟩ := hrel
    by_cases c : j < n
    · have q1 : ((0 : Int) ≤ (n : Int) - 1 - (j : Int)) = True := by simp; omega
      have hBs : B ≤ wr.heap.size := Nat.le_trans (unhide HB) (unhide hBe).size
      go_wp2_with (first
        | (at_builtin; refine wpList_append_own _ rfl (.tmp 14) (.tmp 20) 22 rfl B 5 i0 (.int .u8 0) 1 1 Try.underlying22 hi0 hz0 hz1 hz2 rfl (by decide) _ _ _ rfl ((unhide hO).alloc _) ⟨wr.heap.size, 0, none⟩ 1 1 [.int .u8 ((x : Int) / 2 ^ (8 * (n - 1 - j)) % 256)] rfl rfl (one_newB _ _ _) ?c2 ?c3 ?c4 ?c5 ?_))
      case c2 => intro u hu; simp at hu; subst hu; rfl
      case c3 => unfold maxLen; omega
      case c4 => omega
      case c5 => simp; omega
      intro v' w2 hown' hgrow _
      have hB3 : Hid (Below B w w2) := ((unhide hBe).alloc hBs _).grown hgrow (by simp; omega) (fun k hk => ((unhide hO).lt k hk).1)
      have hO3 : Hid (w2.ownsRow B 5 1 v' (m + (j + 1)) (bL (xs ++ (highL x n).take (j + 1)))) := by
        rw [highL_take c, ← List.append_assoc, bL_snoc]
        unfold bV
        rw [← byte_int]
        exact hown'
      clear hown' hgrow
      go_wp2_with fail
      go_roundw
      case rel => exact ⟨j + 1, c, by go_num, hO3, hB3⟩
      case measure => simp [intOf]; omega
    · have q1 : ((0 : Int) ≤ (n : Int) - 1 - (j : Int)) = False := by simp; omega
      have e : j = n := by omega
      have hf : Hid (wr.ownsRow B 5 1 u0 (m + n) (bL (xs ++ highL x n))) := by
        have := unhide hO
        rw [e, List.take_of_length_le (by rw [highL_len]; exact Nat.le_refl _)] at this
        exact this
      clear e hO
      go_wp2_with fail
      go_ret
      exact ⟨_, rfl, unhide hf, unhide hBe⟩
end Go.Proofs.Ytpmbgjoilfdkaaa

namespace Go.Proofs.Ytpmbgjoilfdkaaa
open Go.RowKit

def lowF : Nat → Nat → List Nat
  | 0, v => [v]
  | f + 1, v => if v < 128 then [v] else (v % 128 + 128) :: lowF f (v / 128)
def lowL (v : Nat) : List Nat := lowF 64 v
theorem lowF_end {f v : Nat} (h : v < 128) : lowF f v = [v] := by
  match f with
  | 0 => rfl
  | f + 1 => unfold lowF; rw [if_pos h]
theorem lowF_step {f v : Nat} (h : ¬ v < 128) : lowF (f + 1) v = (v % 128 + 128) :: lowF f (v / 128) := by
  rw [lowF, if_neg h]
def foldZ (d : Int) : Nat := if 0 ≤ d then (2 * d).toNat else (-2 * d - 1).toNat

set_option maxRecDepth 100000 in
set_option maxHeartbeats 400000 in
theorem refFolded (d : Int) (h : d.natAbs < 2 ^ 60) (w : World) : Calls Try.prog 68 #[.int .i64 d] w fun r w' => r = .returned (.int .u64 (foldZ d)) ∧ w' = w := by
  have hp : (2 : Nat) ^ 60 = 1152921504606846976 := by decide
  rw [hp] at h
  by_cases c : 0 ≤ d
  · have e : Hid (((foldZ d : Nat) : Int) = 2 * d) := by
      show _ = _
      unfold foldZ
      rw [if_pos c]
      omega
    have n1 : IntKind.i64.wrap (2 * d) = 2 * d := by rw [IntKind.wrap_i64]; omega
    have n2 : IntKind.u64.wrap (2 * d) = 2 * d := by rw [IntKind.wrap_u64]; omega
    go_enter Try.func68, Try.ntmps68
    go_wp2_with fail
    go_ret
    exact ⟨by rw [unhide e]; rfl, rfl⟩
  · have e : Hid (((foldZ d : Nat) : Int) = -2 * d - 1) := by
      show _ = _
      unfold foldZ
      rw [if_neg c]
      omega
    have n1 : IntKind.i64.wrap (-2 * d) = -2 * d := by rw [IntKind.wrap_i64]; omega
    have n3 : IntKind.i64.wrap (-2 * d - 1) = -2 * d - 1 := by rw [IntKind.wrap_i64]; omega
    have n2 : IntKind.u64.wrap (-2 * d - 1) = -2 * d - 1 := by rw [IntKind.wrap_u64]; omega
    go_enter Try.func68, Try.ntmps68
    go_wp2_with fail
    go_ret
    exact ⟨by rw [unhide e]; rfl, rfl⟩

set_option maxRecDepth 100000 in
set_option maxHeartbeats 1600000 in
theorem refLow {B m x : Nat} {v : Value} {xs : List Nat} (hm : m ≤ 1000000) (hx : x < 2 ^ 64) (w : World) (hB : B ≤ w.heap.size) (hOw : w.ownsRow B 5 1 v m (bL xs)) :
    Calls Try.prog 67 #[v, .int .u64 x] w fun r w' => ∃ v', r = .returned v' ∧ w'.ownsRow B 5 1 v' (m + (lowL x).length) (bL (xs ++ lowL x)) ∧ Below B w w' := by
  obtain ⟨i0, hi0, hz0, hz1, hz2⟩ := info_parts infoB
  have HO := hide hOw
  have HB := hide hB
  clear hOw hB
  go_enter Try.func67, Try.ntmps67
  go_wp2_with fail
  go_loopw [0, 1] (fun bv vv wr => ∃ (f y : Nat) (ds : List Nat), vv = .int .u64 y ∧ Hid (y < 2 ^ f) ∧ Hid (lowL x = ds ++ lowF f y) ∧ f ≤ 64 ∧ ds.length + f = 64 ∧ Hid (wr.ownsRow B 5 1 bv (m + ds.length) (bL (xs ++ ds))) ∧ Hid (Below B w wr)) (fun _ vv _ => (intOf vv).toNat)
  case atStart => exact ⟨64, x, [], rfl, hx, rfl, by decide, rfl, by rw [List.append_nil]; exact HO, Below.refl _ _⟩
  case round =>
    obtain ⟨f, y, ds, rfl, hy, hl, hf, hd, hO, hBe⟩ := hrel
    have hBs : B ≤ wr.heap.size := Nat.le_trans (unhide HB) (unhide hBe).size
    by_cases c : y < 128
    · have q1 : ((128 : Int) ≤ (y : Int)) = False := by simp; omega
      have e1 : Hid (lowL x = ds ++ [y]) := by
        show _ = _
        rw [unhide hl, lowF_end c]
      clear hl hy
      go_wp2_with (first
        | (at_builtin; refine wpList_append_own _ rfl (.tmp 16) (.tmp 19) 22 rfl B 5 i0 (.int .u8 0) 1 1 Try.underlying22 hi0 hz0 hz1 hz2 rfl (by decide) _ _ _ rfl ((unhide hO).alloc _) ⟨wr.heap.size, 0, none⟩ 1 1 [.int .u8 (y : Int)] rfl rfl (one_newB _ _ _) ?c2 ?c3 ?c4 ?c5 ?_))
      case c2 => intro u hu; simp at hu; subst hu; rfl
      case c3 => unfold maxLen; omega
      case c4 => omega
      case c5 => simp; omega
      intro v' w2 hown' hgrow _
      have hB3 : Hid (Below B w w2) := ((unhide hBe).alloc hBs _).grown hgrow (by simp; omega) (fun k hk => ((unhide hO).lt k hk).1)
      have hO3 : Hid (w2.ownsRow B 5 1 v' (m + (lowL x).length) (bL (xs ++ lowL x))) := by
        rw [unhide e1, ← List.append_assoc, bL_snoc, List.length_append]
        exact hown'
      clear hown' hgrow
      go_wp2_with fail
      go_ret
      exact ⟨_, rfl, unhide hO3, unhide hB3⟩
    · have q1 : ((128 : Int) ≤ (y : Int)) = True := by simp; omega
      have hy64 : y < 18446744073709551616 := Nat.lt_of_lt_of_le (unhide hy) (Nat.le_trans (Nat.pow_le_pow_right (by decide) hf) (by decide))
      obtain ⟨r, hr⟩ : ∃ r, r = y % 128 := ⟨_, rfl⟩
      obtain ⟨o, ho⟩ : ∃ o, o = y % 128 + 128 := ⟨_, rfl⟩
      obtain ⟨z, hz⟩ : ∃ z, z = y / 128 := ⟨_, rfl⟩
      have b1 : bits .and .u64 (y : Int) 127 = (r : Int) := by
        rw [u64_and _ _ (by omega) (by omega) (by decide) (by decide), hr]
        congr 1
        show y &&& 127 = _
        exact nat_mask7 y
      have b2 : bits .or .u64 (r : Int) 128 = (o : Int) := by
        rw [u64_or _ _ (by omega) (by omega) (by decide) (by decide), ho, hr]
        congr 1
        show (y % 128) ||| 128 = _
        rw [Nat.or_comm, nat_join 7 128 (y % 128) (by decide) (by omega), Nat.add_comm]
      have b3 : (o : Int) % 256 = (o : Int) := by omega
      have b4 : (y : Int) / 128 = (z : Int) := by omega
      have zy : z < y := by omega
      have hf1 : ∃ f', f = f' + 1 := by
        match f, hy with
        | 0, hy => exact absurd (unhide hy) (by simp; omega)
        | f' + 1, _ => exact ⟨f', rfl⟩
      obtain ⟨f', rfl⟩ := hf1
      have e1 : Hid (lowL x = (ds ++ [o]) ++ lowF f' z) := by
        show _ = _
        rw [unhide hl, lowF_step c, List.append_assoc, ← ho, ← hz]
        rfl
      have hy2 : Hid (z < 2 ^ f') := by
        have h1 := unhide hy
        rw [Nat.pow_succ] at h1
        show z < _
        omega
      clear hl hy hr ho hz
      go_wp2_with (first
        | (at_builtin; refine wpList_append_own _ rfl (.tmp 7) (.tmp 12) 22 rfl B 5 i0 (.int .u8 0) 1 1 Try.underlying22 hi0 hz0 hz1 hz2 rfl (by decide) _ _ _ rfl ((unhide hO).alloc _) ⟨wr.heap.size, 0, none⟩ 1 1 [.int .u8 (o : Int)] rfl rfl (one_newB _ _ _) ?c2 ?c3 ?c4 ?c5 ?_))
      case c2 => intro u hu; simp at hu; subst hu; rfl
      case c3 => unfold maxLen; omega
      case c4 => omega
      case c5 => simp; omega
      intro v' w2 hown' hgrow _
      have hB3 : Hid (Below B w w2) := ((unhide hBe).alloc hBs _).grown hgrow (by simp; omega) (fun k hk => ((unhide hO).lt k hk).1)
      have hO3 : Hid (w2.ownsRow B 5 1 v' (m + (ds ++ [o]).length) (bL (xs ++ (ds ++ [o])))) := by
        rw [← List.append_assoc, bL_snoc, List.length_append]
        exact hown'
      clear hown' hgrow
      go_wp2_with fail
      go_roundw
      case rel => exact ⟨f', z, ds ++ [o], by go_num, hy2, e1, by omega, by rw [List.length_append]; simp; omega, hO3, hB3⟩
      case measure => simp [intOf]; omega
end Go.Proofs.Ytpmbgjoilfdkaaa

namespace Go.Proofs.Ytpmbgjoilfdkaaa
open Go.RowKit Fl Ieee

def fieldV (n g m c : Nat) : Value := .agg #[.int .i64 n, .slice (some ⟨g, 0, none⟩) m c]

/-- x made narrow without loss. -/
def narB (x : Nat) : Option Nat := match floatToFloatBits .f64 x .f32 with
  | some r => if floatToFloatBits .f32 r .f64 = some x then some r else none
  | none => none
theorem narB_iff {x r : Nat} : narB x = some r ↔ Nar x r := by
  unfold narB Nar
  cases h : floatToFloatBits .f64 x .f32 with
  | none => simp
  | some r' =>
    by_cases c : floatToFloatBits .f32 r' .f64 = some x
    · simp only [if_pos c, Option.some.injEq]
      constructor
      · rintro rfl; exact ⟨rfl, c⟩
      · rintro ⟨rfl, _⟩; rfl
    · simp only [if_neg c, Option.some.injEq]
      constructor
      · intro h; cases h
      · rintro ⟨rfl, h⟩; exact absurd h c
/-- A whole number of at most M, and no nought with a sign. -/
def whB (M b : Nat) : Bool := if double.order b 0 == some .eq then b == 0 else (double.order b (truncB b) == some .eq) && (match double.order (b % 9223372036854775808) (floatOfInt .f64 (M : Int)) with
  | some o => o != .gt
  | none => false)
def valZ (b : Nat) : Int := ((FloatKind.f64.decode b).toInt .zero).getD 0
theorem valZ_iv {b : Nat} {n : Int} (h : IV b n) : valZ b = n := by unfold valZ; rw [iv_toInt h]; rfl

/-- The bytes of one cell by a way, behind the cell ahead. -/
def cellL (way : Nat) (p z : Nat × Nat) : List Nat :=
  if way = 0 then highL z.1 8 ++ highL z.2 8
  else if way = 1 then highL ((narB z.1).getD 0) 4 ++ highL ((narB z.2).getD 0) 4
  else lowL (foldZ (valZ z.1 - valZ p.1)) ++ lowL (foldZ (valZ z.2 - valZ p.2))
/-- The cell ahead of the i-th. -/
def aheadC (f : Nat → Nat × Nat) (i : Nat) : Nat × Nat := if i = 0 then (0, 0) else f (i - 1)
def cellsL (way : Nat) (f : Nat → Nat × Nat) : Nat → List Nat
  | 0 => []
  | i + 1 => cellsL way f i ++ cellL way (aheadC f i) (f i)
def byL (way n m : Nat) (f : Nat → Nat × Nat) : List Nat := [way, n] ++ cellsL way f m
/-- Whether a cell can be written by a way. -/
def CanC (way : Nat) (z : Nat × Nat) : Prop := way = 0 ∨ (way = 1 ∧ (∃ r, Nar z.1 r) ∧ ∃ r, Nar z.2 r) ∨ (way = 2 ∧ Wh 2147483648 z.1 ∧ Wh 2147483648 z.2)
def Can (way m : Nat) (f : Nat → Nat × Nat) : Prop := ∀ i, i < m → CanC way (f i)

theorem high_len (x n : Nat) : (highL x n).length = n := highL_len x n
theorem lowF_len : ∀ (f v : Nat), (lowF f v).length ≤ f + 1
  | 0, _ => Nat.le_refl _
  | f + 1, v => by
    unfold lowF
    by_cases c : v < 128
    · rw [if_pos c]; simp
    · rw [if_neg c]
      have := lowF_len f (v / 128)
      simp
      omega
theorem lowL_len (v : Nat) : (lowL v).length ≤ 65 := lowF_len 64 v
theorem cellL_len (way : Nat) (p z : Nat × Nat) : (cellL way p z).length ≤ 130 := by
  unfold cellL
  split
  · simp [highL_len]
  · split
    · simp [highL_len]
    · have := lowL_len (foldZ (valZ z.1 - valZ p.1))
      have := lowL_len (foldZ (valZ z.2 - valZ p.2))
      simp
      omega
theorem cellsL_len (way : Nat) (f : Nat → Nat × Nat) (m : Nat) : (cellsL way f m).length ≤ 130 * m := by
  induction m with
  | zero => simp [cellsL]
  | succ m ih =>
    unfold cellsL
    have := cellL_len way (aheadC f m) (f m)
    simp
    omega

theorem byte2 (x : Nat) (h : x ≤ 255) : IntKind.u8.wrap (x : Int) = (x : Int) := by rw [IntKind.wrap_u8']; omega

theorem two_own {w : World} {B : Nat} (hB : B ≤ w.heap.size) (x y : Nat) : (w.alloc (.cells #[.int .u8 x, .int .u8 y] 5)).ownsRow B 5 1 (.slice (some ⟨w.heap.size, 0, none⟩) 2 2) 2 (bL [x, y]) :=
  ⟨rfl, .inr ⟨w.heap.size, 2, #[.int .u8 x, .int .u8 y], rfl, hB, heap_alloc_new w _, by omega, by decide, rfl, rfl⟩⟩
end Go.Proofs.Ytpmbgjoilfdkaaa

namespace Go.Proofs.Ytpmbgjoilfdkaaa
open Go.RowKit Fl Ieee

/-- What is asked of the bytes by a way. -/
def ByOk (fn way : Nat) : Prop := ∀ (n g m c : Nat) (f : Nat → Nat × Nat) (w : World), n ≤ 64 → m ≤ 4096 → (∀ i, i < m → (f i).1 < 18446744073709551616 ∧ (f i).2 < 18446744073709551616) → Row w g m f →
  Calls Try.prog fn #[fieldV n g m c, .int .i64 way] w fun r w' => ∃ (t : Bool) (v : Value), r = .returned (.tuple #[v, .bool t]) ∧ (t = true ↔ Can way m f) ∧ (t = true → w'.ownsRow w.heap.size 5 1 v (byL way n m f).length (bL (byL way n m f))) ∧ Below w.heap.size w w'

theorem own_less {w : World} {B C n : Nat} {v : Value} {xs : List Value} (h : w.ownsRow B 5 1 v n xs) (hC : C ≤ B) : w.ownsRow C 5 1 v n xs := by
  refine ⟨h.1, ?_⟩
  rcases h.2 with h1 | ⟨g, cap, cur, h1, h2, h3⟩
  · exact .inl h1
  · exact .inr ⟨g, cap, cur, h1, Nat.le_trans hC h2, h3⟩

theorem byL_next {way n i : Nat} {f : Nat → Nat × Nat} : byL way n (i + 1) f = byL way n i f ++ cellL way (aheadC f i) (f i) := by
  unfold byL
  rw [cellsL, List.append_assoc]
theorem byL_len (way n m : Nat) (f : Nat → Nat × Nat) : (byL way n m f).length ≤ 2 + 130 * m := by
  unfold byL
  have := cellsL_len way f m
  simp
  omega

/-- The box of a field, and what lies below it. -/
def box (w : World) (n g m c : Nat) : World := w.alloc (.cells #[.int .i64 n, .slice (some ⟨g, 0, none⟩) m c] 30)
theorem box_size (w : World) (n g m c : Nat) : (box w n g m c).heap.size = w.heap.size + 1 := World.size_alloc _ _
theorem box_cells {w wr : World} {n g m c : Nat} (h : Below (w.heap.size + 1) (box w n g m c) wr) : wr.cell? ⟨w.heap.size, 0, none⟩ = some (.int .i64 n) ∧ wr.cell? ⟨w.heap.size, 1, none⟩ = some (.slice (some ⟨g, 0, none⟩) m c) := by
  refine ⟨(h.cell (p := ⟨w.heap.size, 0, none⟩) (by show w.heap.size < _; omega)).trans ?_, (h.cell (p := ⟨w.heap.size, 1, none⟩) (by show w.heap.size < _; omega)).trans ?_⟩
  · unfold box; simp
  · unfold box; simp
theorem box_row {w wr : World} {n g m c k : Nat} {f : Nat → Nat × Nat} (h : Below (w.heap.size + 1) (box w n g m c) wr) (hR : Row w g k f) : Row wr g k f := by
  have hl := row_lt hR
  refine row_keep (row_keep hR (Below.heap_alloc w (.cells #[.int .i64 n, .slice (some ⟨g, 0, none⟩) m c] 30) g hl)) (h.block g (by omega))
theorem box_below {w wr : World} {n g m c : Nat} (h : Below (w.heap.size + 1) (box w n g m c) wr) : Below w.heap.size w wr :=
  ((Below.refl _ w).alloc (Nat.le_refl _) (.cells #[.int .i64 n, .slice (some ⟨g, 0, none⟩) m c] 30)).trans (h.mono (by omega))

set_option maxRecDepth 100000 in
set_option maxHeartbeats 6400000 in
theorem refBy0 : ByOk 54 0 := by
  intro n g m c f w hn hm _ hR
  have RX := hide hR
  have hgl := row_lt hR
  have n1 : IntKind.u8.wrap (n : Int) = (n : Int) := byte2 n (by omega)
  have n2 : (n : Int) % 256 = (n : Int) := by omega
  have k0 := bits32
  clear hR
  unfold fieldV
  go_enter Try.func54, Try.ntmps54
  go_wp2_with fail
  have O0 : Hid (((box w n g m c).alloc (.cells #[.int .u8 0, .int .u8 n] 5)).ownsRow (w.heap.size + 1) 5 1 (.slice (some ⟨w.heap.size + 1, 0, none⟩) 2 2) (byL 0 n 0 f).length (bL (byL 0 n 0 f))) := by
    have := two_own (w := box w n g m c) (B := w.heap.size + 1) (by rw [box_size]; exact Nat.le_refl _) 0 n
    rw [box_size] at this
    exact this
  have B0 : Hid (Below (w.heap.size + 1) (box w n g m c) ((box w n g m c).alloc (.cells #[.int .u8 0, .int .u8 n] 5))) := (Below.refl _ _).alloc (by rw [box_size]; exact Nat.le_refl _) _
  go_loopw [6, 9] (fun bv iv wr => ∃ i : Nat, i ≤ m ∧ iv = .int .i64 i ∧ Hid (wr.ownsRow (w.heap.size + 1) 5 1 bv (byL 0 n i f).length (bL (byL 0 n i f))) ∧ Hid (Below (w.heap.size + 1) (box w n g m c) wr)) (fun _ iv _ => m - (intOf iv).toNat)
  case atStart => exact ⟨0, Nat.zero_le _, rfl, O0, B0⟩
  case round =>
    clear O0 B0
    obtain ⟨i, hi, rfl, hO, hB⟩ := hrel
    obtain ⟨b1, b2⟩ := box_cells (unhide hB)
    by_cases hc : i < m
    · have q1 : ((i : Int) < (m : Int)) = True := by simp; omega
      have c1 := row_at (box_row (unhide hB) (unhide RX)) hc
      unfold cv at c1
      have hl := byL_len 0 n i f
      have hs : w.heap.size + 1 ≤ wr.heap.size := by have := (unhide hB).size; rw [box_size] at this; exact this
      have k1 := hide (refHigh (x := (f i).1) (n := 8) (by decide) (by omega) wr hs (unhide hO))
      have k2 := hide (fun v (W : World) h1 h2 => refHigh (B := w.heap.size + 1) (m := (byL 0 n i f).length + 8) (x := (f i).2) (n := 8) (v := v) (xs := byL 0 n i f ++ highL (f i).1 8) (by decide) (by omega) W h1 h2)
      have e1 : Hid (byL 0 n (i + 1) f = (byL 0 n i f ++ highL (f i).1 8) ++ highL (f i).2 8) := by
        show _ = _
        rw [byL_next, List.append_assoc]
        rfl
      have e2 : Hid ((byL 0 n (i + 1) f).length = (byL 0 n i f).length + 8 + 8) := by
        show _ = _
        rw [unhide e1]
        simp [highL_len]
      generalize (f i).1 = x1 at *
      generalize (f i).2 = x2 at *
      go_wp2_with fail
      refine (unhide k1).mono ?_
      rintro e w3 ⟨v3, rfl, O3, h3⟩
      have B3 := hide ((unhide hB).trans h3)
      have s3 : w.heap.size + 1 ≤ w3.heap.size := Nat.le_trans hs h3.size
      have k2 := hide (unhide k2 v3 w3 s3 O3)
      clear O3 h3 k1 hO hB
      go_wp2_with fail
      refine (unhide k2).mono ?_
      rintro e w4 ⟨v4, rfl, O4, h4⟩
      have B4 := hide ((unhide B3).trans h4)
      have O4 : Hid (w4.ownsRow (w.heap.size + 1) 5 1 v4 (byL 0 n (i + 1) f).length (bL (byL 0 n (i + 1) f))) := by
        show World.ownsRow _ _ _ _ _ _ _
        rw [unhide e2, unhide e1]
        exact O4
      clear h4 k2 B3
      go_wp2_with fail
      go_roundw
      case rel => exact ⟨_, _, _, _, _, _, _, _, _, _, _, _, _, _, _, _, _, _, _, _, _, _, _, _, _, _, _, _, _, _, _, _, _, _, _, _, _, _, _, _, _, _, _, _, _, _, _, _, _, _, _, _, _, _, _, _, _, _, _, _, _, _, _, _, _, _, _, _, _, _, _, _, _, _, _, _, _, _, _, _, ⟨i + 1, hc, by go_num, O4, B4⟩, rfl⟩
      case measure => simp [intOf]; omega
    · have q1 : ((i : Int) < (m : Int)) = False := by simp; omega
      have e : i = m := by omega
      subst e
      go_wp2_with fail
      go_ret2
      exact ⟨true, _, rfl, ⟨fun _ => fun _ _ => .inl rfl, fun _ => rfl⟩, fun _ => own_less (unhide hO) (by omega), box_below (unhide hB)⟩
end Go.Proofs.Ytpmbgjoilfdkaaa

namespace Go.Proofs.Ytpmbgjoilfdkaaa
open Go.RowKit Fl Ieee

theorem bits32n (b : Nat) (w : World) : (callFunc 65 #[.float .f32 b]).run Try.prog w = .ok (.value (.int .u32 b)) w := by
  rw [run_callFunc_extern (e := Extern.MathFloatBits.float32bits) Try.func65 (by kernel_rfl) (by kernel_rfl) (by kernel_rfl) (by kernel_rfl)]
  rfl
theorem nar_lt {x r : Nat} (h : Nar x r) : r < 4294967296 := by
  have h1 := h.1
  unfold floatToFloatBits at h1
  rw [if_neg (by decide)] at h1
  split at h1
  · cases h1
  · cases h1; exact single.write_lt _
  · split at h1
    · cases h1
    · cases h1; exact single.write_lt _
theorem own_drewN {w : World} {B n d : Nat} {v : Value} {xs : List Value} (h : w.ownsRow B 5 1 v n xs) : (w.drewN d).ownsRow B 5 1 v n xs := h
theorem below_dn {B d : Nat} {w w' : World} (h : Below B w w') : Below B w (w'.drewN d) := ⟨h.os, h.tape, h.output, h.size, h.block⟩

set_option maxRecDepth 100000 in
set_option maxHeartbeats 6400000 in
theorem refBy1 : ByOk 54 1 := by
  intro n g m c f w hn hm _ hR
  have RX := hide hR
  have hgl := row_lt hR
  have n1 : IntKind.u8.wrap (n : Int) = (n : Int) := byte2 n (by omega)
  have n2 : (n : Int) % 256 = (n : Int) := by omega
  have k0 := bits32n
  clear hR
  unfold fieldV
  go_enter Try.func54, Try.ntmps54
  go_wp2_with fail
  have O0 : Hid (((box w n g m c).alloc (.cells #[.int .u8 1, .int .u8 n] 5)).ownsRow (w.heap.size + 1) 5 1 (.slice (some ⟨w.heap.size + 1, 0, none⟩) 2 2) (byL 1 n 0 f).length (bL (byL 1 n 0 f))) := by
    have := two_own (w := box w n g m c) (B := w.heap.size + 1) (by rw [box_size]; exact Nat.le_refl _) 1 n
    rw [box_size] at this
    exact this
  have B0 : Hid (Below (w.heap.size + 1) (box w n g m c) ((box w n g m c).alloc (.cells #[.int .u8 1, .int .u8 n] 5))) := (Below.refl _ _).alloc (by rw [box_size]; exact Nat.le_refl _) _
  go_loopw [6, 9] (fun bv iv wr => ∃ i : Nat, i ≤ m ∧ iv = .int .i64 i ∧ Hid (∀ j, j < i → CanC 1 (f j)) ∧ Hid (wr.ownsRow (w.heap.size + 1) 5 1 bv (byL 1 n i f).length (bL (byL 1 n i f))) ∧ Hid (Below (w.heap.size + 1) (box w n g m c) wr)) (fun _ iv _ => m - (intOf iv).toNat)
  case atStart => exact ⟨0, Nat.zero_le _, rfl, fun j hj => absurd hj (Nat.not_lt_zero j), O0, B0⟩
  case round =>
    clear O0 B0
    obtain ⟨i, hi, rfl, hCn, hO, hB⟩ := hrel
    obtain ⟨b1, b2⟩ := box_cells (unhide hB)
    by_cases hc : i < m
    · have q1 : ((i : Int) < (m : Int)) = True := by simp; omega
      have c1 := row_at (box_row (unhide hB) (unhide RX)) hc
      unfold cv at c1
      have hl := byL_len 1 n i f
      have hs : w.heap.size + 1 ≤ wr.heap.size := by have := (unhide hB).size; rw [box_size] at this; exact this
      have kN := hide (refNarrow (f i).1 (f i).2 wr)
      have e0 : Hid (∀ a b, Nar (f i).1 a → Nar (f i).2 b → byL 1 n (i + 1) f = (byL 1 n i f ++ highL a 4) ++ highL b 4) := fun a b ha hb => by
        rw [byL_next, List.append_assoc]
        unfold cellL
        rw [if_neg (by decide), if_pos rfl, narB_iff.2 ha, narB_iff.2 hb]
        rfl
      have hC0 : Hid (((∃ r, Nar (f i).1 r) ∧ ∃ r, Nar (f i).2 r) ↔ CanC 1 (f i)) := by
        constructor
        · intro h; exact .inr (.inl ⟨rfl, h⟩)
        · rintro (h | ⟨_, h⟩ | ⟨h, _⟩)
          · exact absurd h (by decide)
          · exact h
          · exact absurd h (by decide)
      generalize (f i).1 = x1 at *
      generalize (f i).2 = x2 at *
      go_wp2_with fail
      refine (unhide kN).mono ?_
      rintro e w2 ⟨t, m1, m2, d, rfl, ht, hn2, rfl⟩
      have T := hide ht
      have N2 := hide hn2
      clear ht hn2 kN
      cases t
      · go_wp2_with fail
        go_ret2
        refine ⟨false, _, rfl, ⟨fun h => absurd h (by decide), fun h => ?_⟩, fun h => absurd h (by decide), below_dn (box_below (unhide hB))⟩
        exact (unhide T).2 ((unhide hC0).2 (h i hc))
      · obtain ⟨a1, a2⟩ := unhide N2 (by trivial)
        have l1 := nar_lt a1
        have l2 := nar_lt a2
        have e1 := hide (unhide e0 _ _ a1 a2)
        have hC1 : Hid (∀ j, j < i + 1 → CanC 1 (f j)) := fun j hj => by
          by_cases c2 : j = i
          · subst c2
            exact (unhide hC0).1 ⟨⟨_, a1⟩, ⟨_, a2⟩⟩
          · exact unhide hCn j (by omega)
        have k1 := hide (refHigh (x := m1) (n := 4) (by decide) (by omega) (wr.drewN d) hs (own_drewN (unhide hO)))
        have k2 := hide (fun v (W : World) h1 h2 => refHigh (B := w.heap.size + 1) (m := (byL 1 n i f).length + 4) (x := m2) (n := 4) (v := v) (xs := byL 1 n i f ++ highL m1 4) (by decide) (by omega) W h1 h2)
        have e2 : Hid ((byL 1 n (i + 1) f).length = (byL 1 n i f).length + 4 + 4) := by
          show _ = _
          rw [unhide e1]
          simp [highL_len]
        clear a1 a2 N2 T e0 hC0
        go_wp2_with fail
        refine (unhide k1).mono ?_
        rintro e w3 ⟨v3, rfl, O3, h3⟩
        have B3 := hide ((below_dn (d := d) (unhide hB)).trans h3)
        have s3 : w.heap.size + 1 ≤ w3.heap.size := Nat.le_trans hs h3.size
        have k2 := hide (unhide k2 v3 w3 s3 O3)
        clear O3 h3 k1 hO hB
        go_wp2_with fail
        refine (unhide k2).mono ?_
        rintro e w4 ⟨v4, rfl, O4, h4⟩
        have B4 := hide ((unhide B3).trans h4)
        have O4 : Hid (w4.ownsRow (w.heap.size + 1) 5 1 v4 (byL 1 n (i + 1) f).length (bL (byL 1 n (i + 1) f))) := by
          show World.ownsRow _ _ _ _ _ _ _
          rw [unhide e2, unhide e1]
          exact O4
        clear h4 k2 B3
        go_wp2_with fail
        go_roundw
        case rel => exact ⟨_, _, _, _, _, _, _, _, _, _, _, _, _, _, _, _, _, _, _, _, _, _, _, _, _, _, _, _, _, _, _, _, _, _, _, _, _, _, _, _, _, _, _, _, _, _, _, _, _, _, _, _, _, _, _, _, _, _, _, _, _, _, _, _, _, _, _, _, _, _, _, _, _, _, _, _, _, _, _, _, ⟨i + 1, hc, by go_num, hC1, O4, B4⟩, rfl⟩
        case measure => simp [intOf]; omega
    · have q1 : ((i : Int) < (m : Int)) = False := by simp; omega
      have e : i = m := by omega
      subst e
      go_wp2_with fail
      go_ret2
      exact ⟨true, _, rfl, ⟨fun _ => unhide hCn, fun _ => rfl⟩, fun _ => own_less (unhide hO) (by omega), box_below (unhide hB)⟩
end Go.Proofs.Ytpmbgjoilfdkaaa

namespace Go.Proofs.Ytpmbgjoilfdkaaa
open Go.RowKit Fl Ieee

theorem val_zero : valZ 0 = 0 := valZ_iv iv_zero
theorem wh_val {b : Nat} (h : Wh 2147483648 b) : (valZ b).natAbs ≤ 2147483648 ∧ floatToIntVal .f64 b .i64 = some (valZ b) := by
  obtain ⟨n, hn, _, hle⟩ := h
  rw [valZ_iv hn]
  refine ⟨hle, ?_⟩
  unfold floatToIntVal
  rw [iv_toInt hn]
  dsimp only
  rw [if_pos ⟨by show -9223372036854775808 ≤ _; omega, by show _ ≤ 9223372036854775807; omega⟩]
theorem ahead_next (f : Nat → Nat × Nat) (i : Nat) : aheadC f (i + 1) = f i := by unfold aheadC; rw [if_neg (by omega)]; rfl
theorem foldZ_lt {d : Int} (h : d.natAbs ≤ 4294967296) : foldZ d < 2 ^ 64 := by
  have e : (2 : Nat) ^ 64 = 18446744073709551616 := by decide
  rw [e]
  unfold foldZ
  split <;> omega

set_option maxRecDepth 100000 in
set_option maxHeartbeats 6400000 in
theorem refBy2 : ByOk 54 2 := by
  intro n g m c f w hn hm hlt hR
  have RX := hide hR
  have hgl := row_lt hR
  have n1 : IntKind.u8.wrap (n : Int) = (n : Int) := byte2 n (by omega)
  have n2 : (n : Int) % 256 = (n : Int) := by omega
  have HL := hide hlt
  clear hR hlt
  unfold fieldV
  go_enter Try.func54, Try.ntmps54
  go_wp2_with fail
  have O0 : Hid (((box w n g m c).alloc (.cells #[.int .u8 2, .int .u8 n] 5)).ownsRow (w.heap.size + 1) 5 1 (.slice (some ⟨w.heap.size + 1, 0, none⟩) 2 2) (byL 2 n 0 f).length (bL (byL 2 n 0 f))) := by
    have := two_own (w := box w n g m c) (B := w.heap.size + 1) (by rw [box_size]; exact Nat.le_refl _) 2 n
    rw [box_size] at this
    exact this
  have B0 : Hid (Below (w.heap.size + 1) (box w n g m c) ((box w n g m c).alloc (.cells #[.int .u8 2, .int .u8 n] 5))) := (Below.refl _ _).alloc (by rw [box_size]; exact Nat.le_refl _) _
  go_loopw [6, 7, 8, 9] (fun bv rv sv iv wr => ∃ i : Nat, i ≤ m ∧ iv = .int .i64 i ∧ (∃ a b : Int, rv = .int .i64 a ∧ sv = .int .i64 b ∧ a.natAbs ≤ 2147483648 ∧ b.natAbs ≤ 2147483648 ∧ Hid (a = valZ (aheadC f i).1) ∧ Hid (b = valZ (aheadC f i).2)) ∧ Hid (∀ j, j < i → CanC 2 (f j)) ∧ Hid (wr.ownsRow (w.heap.size + 1) 5 1 bv (byL 2 n i f).length (bL (byL 2 n i f))) ∧ Hid (Below (w.heap.size + 1) (box w n g m c) wr)) (fun _ _ _ iv _ => m - (intOf iv).toNat)
  case atStart => exact ⟨0, Nat.zero_le _, rfl, ⟨0, 0, rfl, rfl, by decide, by decide, val_zero.symm, val_zero.symm⟩, fun j hj => absurd hj (Nat.not_lt_zero j), O0, B0⟩
  case round =>
    clear O0 B0
    obtain ⟨i, hi, rfl, ⟨a, b, rfl, rfl, ha, hb, ea, eb⟩, hCn, hO, hB⟩ := hrel
    obtain ⟨b1, b2⟩ := box_cells (unhide hB)
    by_cases hc : i < m
    · have q1 : ((i : Int) < (m : Int)) = True := by simp; omega
      have c1 := row_at (box_row (unhide hB) (unhide RX)) hc
      unfold cv at c1
      have hl := byL_len 2 n i f
      have hs : w.heap.size + 1 ≤ wr.heap.size := by have := (unhide hB).size; rw [box_size] at this; exact this
      have kW := hide (refWhole (f i).1 (f i).2 2147483648 (unhide HL i hc).1 (unhide HL i hc).2 (by decide) wr)
      have e0 : Hid (byL 2 n (i + 1) f = (byL 2 n i f ++ lowL (foldZ (valZ (f i).1 - a))) ++ lowL (foldZ (valZ (f i).2 - b))) := by
        show _ = _
        rw [byL_next, List.append_assoc]
        unfold cellL
        rw [if_neg (by decide), if_neg (by decide), unhide ea, unhide eb]
      have hC0 : Hid ((Wh 2147483648 (f i).1 ∧ Wh 2147483648 (f i).2) ↔ CanC 2 (f i)) := by
        constructor
        · intro h; exact .inr (.inr ⟨rfl, h⟩)
        · rintro (h | ⟨h, _⟩ | ⟨_, h⟩)
          · exact absurd h (by decide)
          · exact absurd h (by decide)
          · exact h
      have ea' : Hid (valZ (f i).1 = valZ (aheadC f (i + 1)).1) := by show _ = _; rw [ahead_next]
      have eb' : Hid (valZ (f i).2 = valZ (aheadC f (i + 1)).2) := by show _ = _; rw [ahead_next]
      generalize (f i).1 = x1 at *
      generalize (f i).2 = x2 at *
      clear ea eb
      go_wp2_with fail
      refine (unhide kW).mono ?_
      rintro e w2 ⟨t, d, rfl, ht, rfl⟩
      have T := hide ht
      clear ht kW
      cases t
      · go_wp2_with fail
        go_ret2
        refine ⟨false, _, rfl, ⟨fun h => absurd h (by decide), fun h => ?_⟩, fun h => absurd h (by decide), below_dn (box_below (unhide hB))⟩
        exact (unhide T).2 ((unhide hC0).2 (h i hc))
      · obtain ⟨a1, a2⟩ := (unhide T).1 (by trivial)
        obtain ⟨l1, v1⟩ := wh_val a1
        obtain ⟨l2, v2⟩ := wh_val a2
        have hC1 : Hid (∀ j, j < i + 1 → CanC 2 (f j)) := fun j hj => by
          by_cases c2 : j = i
          · subst c2
            exact (unhide hC0).1 ⟨a1, a2⟩
          · exact unhide hCn j (by omega)
        clear a1 a2 T hC0 hCn
        generalize valZ x1 = p1 at *
        generalize valZ x2 = p2 at *
        have r1 := fun (w : World) => run_convert_float_int (P := Try.prog) w 47 3 .f64 .i64 x1 p1 (by kernel_rfl) (by kernel_rfl) v1
        have r2 := fun (w : World) => run_convert_float_int (P := Try.prog) w 47 3 .f64 .i64 x2 p2 (by kernel_rfl) (by kernel_rfl) v2
        clear v1 v2
        have m1 : IntKind.i64.wrap (p1 - a) = p1 - a := by rw [IntKind.wrap_i64]; omega
        have m2 : IntKind.i64.wrap (p2 - b) = p2 - b := by rw [IntKind.wrap_i64]; omega
        have f1 := hide (refFolded (p1 - a) (by have : (2 : Nat) ^ 60 = 1152921504606846976 := by decide
                                                omega))
        have f2 := hide (refFolded (p2 - b) (by have : (2 : Nat) ^ 60 = 1152921504606846976 := by decide
                                                omega))
        have g1 := foldZ_lt (d := p1 - a) (by omega)
        have g2 := foldZ_lt (d := p2 - b) (by omega)
        have y1 := lowL_len (foldZ (p1 - a))
        have k1 := hide (refLow (x := foldZ (p1 - a)) (by omega) g1 (wr.drewN d) hs (own_drewN (unhide hO)))
        have k2 := hide (fun v (W : World) h1 h2 => refLow (B := w.heap.size + 1) (m := (byL 2 n i f).length + (lowL (foldZ (p1 - a))).length) (x := foldZ (p2 - b)) (v := v) (xs := byL 2 n i f ++ lowL (foldZ (p1 - a))) (by omega) g2 W h1 h2)
        have e2 : Hid ((byL 2 n (i + 1) f).length = (byL 2 n i f).length + (lowL (foldZ (p1 - a))).length + (lowL (foldZ (p2 - b))).length) := by
          show _ = _
          rw [unhide e0, List.length_append, List.length_append]
        clear g1 g2 y1
        generalize foldZ (p1 - a) = F1 at *
        generalize foldZ (p2 - b) = F2 at *
        go_wp2_with fail
        refine (unhide f1 _).mono ?_
        rintro e w2 ⟨rfl, hw⟩
        obtain rfl := hw.symm
        go_wp2_with fail
        refine (unhide k1).mono ?_
        rintro e w3 ⟨v3, rfl, O3, h3⟩
        have B3 := hide ((below_dn (d := d) (unhide hB)).trans h3)
        have s3 : w.heap.size + 1 ≤ w3.heap.size := Nat.le_trans hs h3.size
        have k2 := hide (unhide k2 v3 w3 s3 O3)
        clear O3 h3 k1 hO hB
        go_wp2_with fail
        refine (unhide f2 _).mono ?_
        rintro e w2 ⟨rfl, hw⟩
        obtain rfl := hw.symm
        go_wp2_with fail
        refine (unhide k2).mono ?_
        rintro e w4 ⟨v4, rfl, O4, h4⟩
        have B4 := hide ((unhide B3).trans h4)
        have O4 : Hid (w4.ownsRow (w.heap.size + 1) 5 1 v4 (byL 2 n (i + 1) f).length (bL (byL 2 n (i + 1) f))) := by
          show World.ownsRow _ _ _ _ _ _ _
          rw [unhide e2, unhide e0]
          exact O4
        clear h4 k2 B3
        go_wp2_with fail
        go_roundw
        case rel => exact ⟨_, _, _, _, _, _, _, _, _, _, _, _, _, _, _, _, _, _, _, _, _, _, _, _, _, _, _, _, _, _, _, _, _, _, _, _, _, _, _, _, _, _, _, _, _, _, _, _, _, _, _, _, _, _, _, _, _, _, _, _, _, _, _, _, _, _, _, _, _, _, _, _, _, _, _, _, _, _, _, _, ⟨i + 1, hc, by go_num, ⟨p1, p2, rfl, rfl, l1, l2, ea', eb'⟩, hC1, O4, B4⟩, rfl⟩
        case measure => simp [intOf]; omega
    · have q1 : ((i : Int) < (m : Int)) = False := by simp; omega
      have e : i = m := by omega
      subst e
      go_wp2_with fail
      go_ret2
      exact ⟨true, _, rfl, ⟨fun _ => unhide hCn, fun _ => rfl⟩, fun _ => own_less (unhide hO) (by omega), box_below (unhide hB)⟩
end Go.Proofs.Ytpmbgjoilfdkaaa

namespace Go.Proofs.Ytpmbgjoilfdkaaa
open Go.RowKit Fl Ieee

def Pick (n m : Nat) (f : Nat → Nat × Nat) (k a b : Nat) : Prop := (b = k ∧ Can k m f ∧ (byL k n m f).length < (byL a n m f).length) ∨ (b = a ∧ ¬ (Can k m f ∧ (byL k n m f).length < (byL a n m f).length))
/-- The way in which a field is packed. -/
def Sh (n m : Nat) (f : Nat → Nat × Nat) (b : Nat) : Prop := ∃ a, Pick n m f 1 0 a ∧ Pick n m f 2 a b
theorem pick_one {n m : Nat} {f : Nat → Nat × Nat} {k a b c : Nat} (h1 : Pick n m f k a b) (h2 : Pick n m f k a c) : b = c := by
  rcases h1 with ⟨rfl, h⟩ | ⟨rfl, h⟩
  · rcases h2 with ⟨rfl, _⟩ | ⟨_, h'⟩
    · rfl
    · exact absurd h h'
  · rcases h2 with ⟨_, h'⟩ | ⟨rfl, _⟩
    · exact absurd h' h
    · rfl
theorem sh_one {n m : Nat} {f : Nat → Nat × Nat} {b c : Nat} (h1 : Sh n m f b) (h2 : Sh n m f c) : b = c := by
  obtain ⟨a1, p1, q1⟩ := h1
  obtain ⟨a2, p2, q2⟩ := h2
  obtain rfl := pick_one p1 p2
  exact pick_one q1 q2
theorem sh_can {n m : Nat} {f : Nat → Nat × Nat} {b : Nat} (h : Sh n m f b) : Can b m f ∧ b ≤ 2 := by
  obtain ⟨a, h1, h2⟩ := h
  have ha : Can a m f ∧ a ≤ 2 := by
    rcases h1 with ⟨rfl, h, _⟩ | ⟨rfl, _⟩
    · exact ⟨h, by decide⟩
    · exact ⟨fun _ _ => .inl rfl, by decide⟩
  rcases h2 with ⟨rfl, h, _⟩ | ⟨rfl, _⟩
  · exact ⟨h, by decide⟩
  · exact ha

def ShortOk (fn : Nat) : Prop := ∀ (n g m c : Nat) (f : Nat → Nat × Nat) (w : World), n ≤ 64 → m ≤ 4096 → (∀ i, i < m → (f i).1 < 18446744073709551616 ∧ (f i).2 < 18446744073709551616) → Row w g m f →
  Calls Try.prog fn #[fieldV n g m c] w fun r w' => ∃ (a g' c' : Nat), r = .returned (.tuple #[.slice (some ⟨g', 0, none⟩) (byL a n m f).length c', .int .i64 a]) ∧ Sh n m f a ∧ w'.ownsRow w.heap.size 5 1 (.slice (some ⟨g', 0, none⟩) (byL a n m f).length c') (byL a n m f).length (bL (byL a n m f)) ∧ Below w.heap.size w w'

theorem own_below {w w' : World} {B n : Nat} {v : Value} {xs : List Value} (h : w.ownsRow B 5 1 v n xs) (hb : Below w.heap.size w w') : w'.ownsRow B 5 1 v n xs := by
  have hl := h.lt
  refine ⟨h.1, ?_⟩
  rcases h.2 with h1 | ⟨g, cap, cur, h1, h2, h3, h4⟩
  · exact .inl h1
  · refine .inr ⟨g, cap, cur, h1, h2, ?_, h4⟩
    rw [hb.block g (hl g (by rw [h1]; rfl)).2]
    exact h3
theorem own_slice {w : World} {B n : Nat} {v : Value} {xs : List Value} (h : w.ownsRow B 5 1 v n xs) (hn : 1 ≤ n) : ∃ g c, v = .slice (some ⟨g, 0, none⟩) n c := by
  rcases h.2 with ⟨_, h2⟩ | ⟨g, cap, cur, h1, _⟩
  · omega
  · exact ⟨g, cap, h1⟩
theorem byL_pos (way n m : Nat) (f : Nat → Nat × Nat) : 2 ≤ (byL way n m f).length := by unfold byL; simp
def St (n m : Nat) (f : Nat → Nat × Nat) (k a : Nat) : Prop := (k = 1 ∧ a = 0) ∨ (k = 2 ∧ Pick n m f 1 0 a) ∨ (k = 3 ∧ Sh n m f a)
theorem st_next {n m : Nat} {f : Nat → Nat × Nat} {k a b : Nat} (h : St n m f k a) (hk : k ≤ 2) (hp : Pick n m f k a b) : St n m f (k + 1) b := by
  rcases h with ⟨rfl, rfl⟩ | ⟨rfl, h⟩ | ⟨rfl, _⟩
  · exact .inr (.inl ⟨rfl, hp⟩)
  · exact .inr (.inr ⟨rfl, a, h, hp⟩)
  · omega

set_option maxRecDepth 100000 in
set_option maxHeartbeats 6400000 in
theorem shortOk {fn : Nat} (hfn : fn = 46) (h0 : ByOk 54 0) (h1 : ByOk 54 1) (h2 : ByOk 54 2) : ShortOk fn := by
  subst hfn
  intro n g m c f w hn hm hlt hR
  have K0 := hide (fun (W : World) hr => h0 n g m c f W hn hm hlt hr)
  have K : Hid (∀ k : Nat, 1 ≤ k → k ≤ 2 → ∀ (W : World), Row W g m f → Calls Try.prog 54 #[fieldV n g m c, .int .i64 k] W fun r w' => ∃ (t : Bool) (v : Value), r = .returned (.tuple #[v, .bool t]) ∧ (t = true ↔ Can k m f) ∧ (t = true → w'.ownsRow W.heap.size 5 1 v (byL k n m f).length (bL (byL k n m f))) ∧ Below W.heap.size W w') := by
    intro k hk1 hk2 W hr
    have : k = 1 ∨ k = 2 := by omega
    rcases this with rfl | rfl
    · exact h1 n g m c f W hn hm hlt hr
    · exact h2 n g m c f W hn hm hlt hr
  have RX := hide hR
  have BB0 : Hid (Below (w.heap.size + 1) (box w n g m c) (box w n g m c)) := Below.refl _ _
  have hz0 := byL_len 0 n m f
  have hz1 := byL_len 1 n m f
  have hz2 := byL_len 2 n m f
  clear hR h0 h1 h2 hlt
  unfold fieldV at *
  go_enter Try.func46, Try.ntmps46
  go_wp2_with fail
  refine (unhide K0 (box w n g m c) (box_row (unhide BB0) (unhide RX))).mono ?_
  rintro e w1 ⟨t, v, rfl, ht, hv, hb⟩
  obtain rfl : t = true := ht.2 (fun _ _ => .inl rfl)
  have hv := hv rfl
  obtain ⟨g0, c0, rfl⟩ := own_slice hv (by have := byL_pos 0 n m f; omega)
  rw [box_size] at hb hv
  have O0 := hide hv
  have B0 := hide hb
  clear hv hb ht K0
  go_wp2_with fail
  go_loopw [4, 6, 7] (fun bv av kv wr => ∃ k a g' c' : Nat, 1 ≤ k ∧ k ≤ 3 ∧ kv = .int .i64 k ∧ av = .int .i64 a ∧ a ≤ 2 ∧ bv = .slice (some ⟨g', 0, none⟩) (byL a n m f).length c' ∧ Hid (St n m f k a) ∧ Hid (wr.ownsRow (w.heap.size + 1) 5 1 (.slice (some ⟨g', 0, none⟩) (byL a n m f).length c') (byL a n m f).length (bL (byL a n m f))) ∧ Hid (Below (w.heap.size + 1) (box w n g m c) wr)) (fun _ _ kv _ => 3 - (intOf kv).toNat)
  case atStart => exact ⟨1, 0, g0, c0, by decide, by decide, rfl, rfl, by decide, rfl, .inl ⟨rfl, rfl⟩, O0, B0⟩
  case round =>
    clear O0 B0
    obtain ⟨k, a, g1, c1, hk1, hk3, rfl, rfl, ha2, rfl, hS, hO, hB⟩ := hrel
    obtain ⟨b1, b2⟩ := box_cells (unhide hB)
    by_cases hc : k ≤ 2
    · have q1 : ((k : Int) ≤ 2) = True := by simp; omega
      have hs : w.heap.size + 1 ≤ wr.heap.size := by have := (unhide hB).size; rw [box_size] at this; exact this
      have k1 := hide (unhide K k hk1 hc wr (box_row (unhide hB) (unhide RX)))
      go_wp2_with fail
      refine (unhide k1).mono ?_
      rintro e w3 ⟨t, v, rfl, ht, hv, hb⟩
      have B3 := hide ((unhide hB).trans (hb.mono hs))
      have O3 := hide (own_below (unhide hO) hb)
      have T := hide ht
      have V := hide hv
      clear ht hv hb k1 hO hB
      cases t
      · have hP : Hid (St n m f (k + 1) a) := st_next (unhide hS) hc (.inr ⟨rfl, fun h => absurd ((unhide T).2 h.1) (by decide)⟩)
        go_wp2_with fail
        go_roundw
        case rel => exact ⟨k + 1, a, g1, c1, by omega, by omega, by go_num, rfl, ha2, rfl, hP, O3, B3⟩
        case measure => simp [intOf]; omega
      · obtain ⟨g2, c2, rfl⟩ := own_slice (unhide V (by trivial)) (by have := byL_pos k n m f; omega)
        have hCn : Hid (Can k m f) := (unhide T).1 (by trivial)
        have O4 := hide (own_less (unhide V (by trivial)) hs)
        by_cases hl : (byL k n m f).length < (byL a n m f).length
        · have q2 : (((byL k n m f).length : Int) < ((byL a n m f).length : Int)) = True := by simp; omega
          have hP : Hid (St n m f (k + 1) k) := st_next (unhide hS) hc (.inl ⟨rfl, unhide hCn, hl⟩)
          clear V T
          go_wp2_with fail
          go_roundw
          case rel => exact ⟨k + 1, k, g2, c2, by omega, by omega, by go_num, rfl, hc, rfl, hP, O4, B3⟩
          case measure => simp [intOf]; omega
        · have q2 : (((byL k n m f).length : Int) < ((byL a n m f).length : Int)) = False := by simp; omega
          have hP : Hid (St n m f (k + 1) a) := st_next (unhide hS) hc (.inr ⟨rfl, fun h => hl h.2⟩)
          clear V T
          go_wp2_with fail
          go_roundw
          case rel => exact ⟨k + 1, a, g1, c1, by omega, by omega, by go_num, rfl, ha2, rfl, hP, O3, B3⟩
          case measure => simp [intOf]; omega
    · have q1 : ((k : Int) ≤ 2) = False := by simp; omega
      have hF : Hid (Sh n m f a) := by
        rcases unhide hS with ⟨h, _⟩ | ⟨h, _⟩ | ⟨_, h⟩
        · omega
        · omega
        · exact h
      go_wp2_with fail
      go_ret2
      exact ⟨a, g1, c1, rfl, unhide hF, own_less (unhide hO) (by omega), box_below (unhide hB)⟩
theorem refShort : ShortOk 46 := shortOk rfl refBy0 refBy1 refBy2
end Go.Proofs.Ytpmbgjoilfdkaaa
