/- append(x, make([]complex128, m)...): a list with m noughts behind it. -/
import Derived.Test.YtnmcdlechmaggabDoorRB
import Derived.Lib.AppendZeros
namespace Go.Proofs.YtnmcdlechmaggabDoor
open Go.RowKit

theorem zeroCells_one (z : Value) (m : Nat) : (Builtin.zeroCells #[z] m).toList = List.replicate m z := by
  apply List.ext_getElem?
  intro j
  by_cases hj : j < m
  · simp [Builtin.zeroCells, hj, Nat.mod_one]
  · simp [Builtin.zeroCells, hj]

theorem run_append_zeros {P : Program} (w : World) (base : Nat) (t tn ty e : TypeId) (i : TypeInfo) (z : Value) (kn k : IntKind) (ht : P.underlying t = some (.slice e)) (htn : P.underlying tn = some (.int kn)) (hi : P.info? e = some i) (hz : i.zero = some z)
    (hsize : i.size = 1) (hby : i.bytes ≤ 16) (hzc : z.cells = #[z]) (h1 : z.oneCell' = true) (g n cap m : Nat) (cur : Array Value) (hg : w.heap[g]? = some (.cells cur e (0, 0))) (hnc : n ≤ cap) (hcc : cap ≤ cur.size) (h0 : 0 < m) (hnm : n + m ≤ 65536) (hbg : base ≤ g) (hbase : base ≤ w.heap.size) :
    ∃ g' cap' cur' w', (Builtin.append_ #[t, tn] ty #[.slice (some ⟨g, 0, none⟩) n cap, .int k m]).run P w = .ok (.slice (some ⟨g', 0, none⟩) (n + m) cap') w' ∧ w'.heap[g']? = some (.cells cur' e (0, 0)) ∧ n + m ≤ cap' ∧ cap' ≤ cur'.size ∧
      cur'.toList.take (n + m) = cur.toList.take n ++ List.replicate m z ∧ w.grownBy w' (some g) ∧ base ≤ g' := by
  have hlx : (cur.toList.take n).length = n := by rw [List.length_take, Array.length_toList]; omega
  have hlen : (cur.toList.take n ++ List.replicate m z).length = n + m := by rw [List.length_append, hlx, List.length_replicate]
  have hw : IntKind.i64.wrap (m : Int) = m := by rw [IntKind.wrap_i64]; omega
  have hneg : ¬ ((m : Int) < 0) := by omega
  have h48i : ¬ (281474976710656 < (m : Int) * (i.bytes : Int)) := by
    rw [← Int.natCast_mul]
    have : m * i.bytes ≤ m * 16 := Nat.mul_le_mul_left _ hby
    omega
  have hm0 : m ≠ 0 := by omega
  by_cases hroom : n + m ≤ cap
  · have hst := run_storeCells_at P g n e (List.replicate m z) 0 cur w hg (by simp; omega) (by intro u hu; rw [List.eq_of_mem_replicate hu]; exact h1)
    simp only [Nat.add_zero, List.length_replicate] at hst
    refine ⟨g, cap, _, _, ?_, setRow_heap w g cur (cur.toList.take n ++ List.replicate m z ++ cur.toList.drop (n + m)).toArray e _ hg, hroom, ?_, ?_, ⟨rfl, rfl, rfl, by simp, fun k _ hk => setRow_other w g k _ (fun e => hk (by simp [e]))⟩, hbg⟩
    · simp [Builtin.append_, run_underlying ht, run_underlying htn, sizeOf, typeInfo, zeroValue, hi, hz, hsize, hzc, asInt, asIntOf, hw, hneg, h48i, hm0, hroom, Addr.add_lit, zeroCells_one, hst]
    · simp only [List.size_toArray, List.length_append, List.length_take, List.length_drop, Array.length_toList, List.length_replicate]
      omega
    · show (cur.toList.take n ++ List.replicate m z ++ cur.toList.drop (n + m)).take (n + m) = _
      have := List.take_left (l₁ := cur.toList.take n ++ List.replicate m z) (l₂ := cur.toList.drop (n + m))
      rwa [hlen] at this
  · have holds : ∀ j u, (cur.toList.take n)[j]? = some u → w.cell? ((⟨g, 0, none⟩ : Addr).add j) = some u := by
      intro j u hu
      rw [addr_add, cell_of_row w g j cur e (0, 0) hg]
      rw [List.getElem?_take] at hu
      split at hu
      · simpa using hu
      · cases hu
    have h63' : ¬ (9223372036854775807 < ((n : Int) + (m : Int))) := by omega
    have h48' : ¬ (281474976710656 < Builtin.nextslicecap (n + m) cap * i.bytes) := by
      have : Builtin.nextslicecap (n + m) cap * i.bytes ≤ 281474976710656 := growslice_fits (by omega) (by
        have : (n + m) * i.bytes ≤ (n + m) * 16 := Nat.mul_le_mul_left _ hby
        omega)
      omega
    have hfo := run_firstCells_some (P := P) w.drew 1 n ⟨g, 0, none⟩ n cap (cur.toList.take n) (by rw [hlx, Nat.mul_one]) (by simpa using holds)
    refine ⟨w.heap.size, grownCap w (n + m) cap e, _, w.drew.alloc (.cells ((cur.toList.take n).toArray ++ (List.replicate m z).toArray ++ Builtin.zeroCells #[z] (grownCap w (n + m) cap e - (n + m))) e), ?_, heap_alloc_new w.drew _, grownCap_ge w (n + m) cap e, ?_, ?_, ⟨rfl, rfl, rfl, by simp, fun k hk _ => Below.heap_alloc w.drew _ k hk⟩, hbase⟩
    · have hzz : Builtin.zeroCells #[z] m = (List.replicate m z).toArray := by
        apply Array.ext'
        rw [zeroCells_one]
      simp [Builtin.append_, run_underlying ht, run_underlying htn, sizeOf, typeInfo, zeroValue, hi, hz, hsize, hzc, asInt, asIntOf, hw, hneg, h48i, hm0, hroom, h63', h48', Question.forced, hfo, hzz, newRow, grownCap]
    · have := grownCap_ge w (n + m) cap e
      simp only [Array.size_append, List.size_toArray, List.length_replicate, size_zeroCells, hlx]
      simp
      omega
    · simp only [Array.toList_append]
      have := List.take_left (l₁ := cur.toList.take n ++ List.replicate m z) (l₂ := (Builtin.zeroCells #[z] (grownCap w (n + m) cap e - (n + m))).toList)
      rwa [hlen] at this

/-- Block g is a row with room: n numbers, cap places. -/
def RowC (w : World) (g n cap : Nat) (f : Nat → Nat × Nat) : Prop := ∃ cur, w.heap[g]? = some (.cells cur 31 (0, 0)) ∧ n ≤ cap ∧ cap ≤ cur.size ∧ ∀ i, i < n → cur[i]? = some (cv (f i))

theorem rowC_of {w : World} {g n : Nat} {f : Nat → Nat × Nat} (h : Row w g n f) : RowC w g n n f := by
  obtain ⟨cur, h1, h2, h3⟩ := h
  exact ⟨cur, h1, Nat.le_refl _, h2, h3⟩
theorem row_ofC {w : World} {g n cap : Nat} {f : Nat → Nat × Nat} (h : RowC w g n cap f) : Row w g n f := by
  obtain ⟨cur, h1, h2, h3, h4⟩ := h
  exact ⟨cur, h1, by omega, h4⟩

/-- The list with m noughts behind it. -/
def padded (f : Nat → Nat × Nat) (n : Nat) : Nat → Nat × Nat := fun i => if i < n then f i else (0, 0)

theorem append_zeros {w : World} {base g n cap m : Nat} {f : Nat → Nat × Nat} (i0 : TypeInfo) (hi0 : Tryd.prog.info? 31 = some i0) (hz0 : i0.zero = some (.complex .f64 0 0)) (hz1 : i0.size = 1) (hz2 : i0.bytes = 16) (h : RowC w g n cap f) (h0 : 0 < m) (hnm : n + m ≤ 65536) (hbg : base ≤ g) (hbase : base ≤ w.heap.size) :
    ∃ g' cap' w', (Builtin.append_ #[24, 3] 24 #[.slice (some ⟨g, 0, none⟩) n cap, .int .i64 m]).run Tryd.prog w = .ok (.slice (some ⟨g', 0, none⟩) (n + m) cap') w' ∧ RowC w' g' (n + m) cap' (padded f n) ∧ w.grownBy w' (some g) ∧ base ≤ g' := by
  obtain ⟨cur, h1, h2, h3, h4⟩ := h
  obtain ⟨g', cap', cur', w', hr, hg, q1, q2, q3, q4, q5⟩ := run_append_zeros (P := Tryd.prog) w base 24 3 24 31 i0 (.complex .f64 0 0) .i64 .i64 Tryd.underlying24 Tryd.underlying3 hi0 hz0 hz1 (by omega) rfl rfl g n cap m cur h1 h2 h3 h0 hnm hbg hbase
  refine ⟨g', cap', w', hr, ⟨cur', hg, q1, q2, fun i hi => ?_⟩, q4, q5⟩
  have h5 : (cur'.toList.take (n + m))[i]? = cur'[i]? := by rw [List.getElem?_take, if_pos hi]; simp
  rw [← h5, q3]
  have hlx : (cur.toList.take n).length = n := by rw [List.length_take, Array.length_toList]; omega
  unfold padded
  by_cases c : i < n
  · rw [if_pos c, List.getElem?_append_left (by omega), List.getElem?_take, if_pos c]
    have := h4 i c
    simpa using this
  · rw [if_neg c, List.getElem?_append_right (by omega), List.getElem?_replicate, if_pos (by omega)]
    rfl
end Go.Proofs.YtnmcdlechmaggabDoor
