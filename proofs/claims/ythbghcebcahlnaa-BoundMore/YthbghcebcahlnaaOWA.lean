/- A grid's own projections are sound. -/
import Derived.Test.YthbghcebcahlnaaRUB
import Derived.Test.YthbghcebcahlnaaWKD
namespace Go.Proofs.Ythbghcebcahlnaa
open Go.RowKit Go.Shelf

theorem conv_iv {b : Nat} {n : Int} (h : Fl.IV b n) (hn : n.natAbs ≤ 4611686018427387904) (W : World) : (convert 38 3 (.float .f64 b)).run (barP Try.prog) W = .ok (.int .i64 n) W := by
  have hi := Fl.iv_toInt h
  refine run_convert_float_int (P := (barP Try.prog)) W 38 3 .f64 .i64 b n (by kernel_rfl) (by kernel_rfl) ?_
  unfold floatToIntVal
  rw [hi]
  dsimp only
  rw [if_pos ⟨by show -9223372036854775808 ≤ _; omega, by show _ ≤ 9223372036854775807; omega⟩]
set_option maxHeartbeats 400000 in
theorem sumOwn {a : Nat} {n : Int} (ha : a < 18446744073709551616) (hv : Fl.IV a n) (h0 : n = 0 → a = 0) (hn : 0 ≤ n) (hm : n ≤ 4294967296) (w : World) : Calls (barP Try.prog) 69 #[.complex .f64 a 0] w fun e w' => e = .returned (.bool false) ∧ Below w.heap.size w w' := by
  have k1 := hide (whole_any a 0 n 0 4294967296 w ha hv h0 (by omega) (by decide) Fl.iv_zero (fun _ => rfl) (by decide) (by decide))
  have hlt : (FloatKind.f64.format.order a 0 == some .lt) = false := by
    rw [show FloatKind.f64.format.order a 0 = _ from Fl.iv_order hv Fl.iv_zero]
    have : compare n 0 ≠ .lt := fun e => by have := Int.compare_eq_lt.1 e; omega
    cases hc : compare n 0 with
    | lt => exact absurd hc this
    | eq => rfl
    | gt => rfl
  clear hv h0 ha
  go_enter Bar.func69, Bar.ntmps69
  go_wp2_with fail
  refine (unhide k1).mono ?_
  rintro e w1 ⟨rfl, rfl⟩
  go_wp2_with fail
  go_ret
  exact ⟨rfl, Below.refl _ _⟩
/-- The places of a line, in their order. -/
theorem places_own {n nb j : Nat} {d : Int × Int} (h1 : 1 ≤ n) (h2 : n ≤ 64) (ho : okD d.1 d.2 = true) (hb : binsS n d = ((nb : Int), 0)) (hj : j < nb) :
    cellsS n d j = ((List.range (n * n)).filter (fun k => decide (ixN n d k = j))).map (fun i => (((i % n : Nat) : Int), ((i / n : Nat) : Int))) ∧ placesS n d j = (List.range (n * n)).filter (fun k => decide (ixN n d k = j)) := by
  have e0 : (List.range (n * n)).filter (onLine d.1 d.2 (startS n d) j n) = (List.range (n * n)).filter (fun k => decide (ixN n d k = j)) := by
    refine List.filter_congr fun k hk => ?_
    rw [List.mem_range] at hk
    have hx := ix_bounds h1 h2 ho hk
    unfold onLine ixN
    have : d.2 * ((k % n : Nat) : Int) - d.1 * ((k / n : Nat) : Int) + startS n d = ixS n d k := rfl
    rw [this]
    by_cases e : ixS n d k = (j : Int)
    · rw [decide_eq_true e, decide_eq_true (by omega)]
    · rw [decide_eq_false e, decide_eq_false (by omega)]
  have e1 : cellsS n d j = ((List.range (n * n)).filter (fun k => decide (ixN n d k = j))).map (fun i => (((i % n : Nat) : Int), ((i / n : Nat) : Int))) := by
    unfold cellsS lineS
    rw [hb]
    dsimp only
    rw [if_neg (by simp), if_neg (by omega), Int.toNat_natCast]
    unfold lineL
    rw [e0]
  refine ⟨e1, ?_⟩
  unfold placesS
  rw [e1, List.map_map]
  refine (List.map_congr_left (g := id) fun i hi => ?_).trans (List.map_id _)
  show ((((i / n : Nat) : Int) * (n : Int) + ((i % n : Nat) : Int)).toNat) = i
  rw [← Int.natCast_mul, ← Int.natCast_add, Int.toNat_natCast, Nat.mul_comm]
  exact Nat.div_add_mod i n
/-- A bin is the sum over its line. -/
theorem acc_sum (ix : Nat → Nat) (z : Nat → Int × Int) (j : Nat) : ∀ K, (accZ ix z K j).1 = sumL (fun k => (z k).1) ((List.range K).filter fun k => decide (ix k = j))
  | 0 => by simp [accZ, sumL]
  | K + 1 => by
    have ih := acc_sum ix z j K
    rw [List.range_succ, List.filter_append, sumL_append]
    unfold accZ
    by_cases e : j = ix K
    · rw [if_pos e]
      have : List.filter (fun k => decide (ix k = j)) [K] = [K] := by simp [e.symm]
      rw [this]
      show (accZ ix z K j).1 + (z K).1 = _
      rw [ih]
      simp [sumL]
    · rw [if_neg e]
      have : List.filter (fun k => decide (ix k = j)) [K] = [] := by simp; exact fun h => e h.symm
      rw [this, ih]
      simp [sumL]
end Go.Proofs.Ythbghcebcahlnaa
