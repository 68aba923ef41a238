/- The library's Repeat of one int. -/
import Derived.Test.YthbghcebcahlnaaBC
import Derived.Laws.MathBits
import Derived.Laws.CopyOwn
namespace Go.Proofs.Ythbghcebcahlnaa
open Go.RowKit

set_option maxRecDepth 100000 in
set_option maxHeartbeats 1600000 in
theorem mul64 {y : Nat} (hy : y ≤ 4096) (w : World) : Calls (barP Try.prog) 63 #[.int .u64 1, .int .u64 y] w fun e w' => e = .returned (.tuple #[.int .u64 0, .int .u64 y]) ∧ Below w.heap.size w w' := by
  have b1 : bits .and .u64 1 4294967295 = 1 := by rw [and_low32 1 (by decide) (by decide)]; rfl
  have b2 : bits .and .u64 (y : Int) 4294967295 = (y : Int) := by rw [and_low32 _ (by omega) (by omega)]; omega
  have b0 : bits .and .u64 0 4294967295 = 0 := by rw [and_low32 0 (by decide) (by decide)]; rfl
  have b3 : IntKind.u64.wrap (y : Int) = (y : Int) := by rw [IntKind.wrap_u64]; omega
  have b4 : (y : Int) / 4294967296 = 0 := by omega
  go_enter Bar.func63, Bar.ntmps63
  go_wp2_with fail
  go_ret2
  exact ⟨rfl, Below.refl _ _⟩

set_option maxRecDepth 100000 in
set_option maxHeartbeats 1600000 in
theorem bitsMul {y : Nat} (hy : y ≤ 4096) (w : World) : Calls (barP Try.prog) 32 #[.int .u64 1, .int .u64 y] w fun e w' => e = .returned (.tuple #[.int .u64 0, .int .u64 y]) ∧ Below w.heap.size w w' := by
  have k1 := hide (mul64 hy w)
  go_enter Bar.func32, Bar.ntmps32
  go_wp2_with fail
  refine (unhide k1).mono ?_
  rintro e w1 ⟨rfl, hb1⟩
  go_wp2_with fail
  go_ret2
  exact ⟨rfl, hb1⟩

/-- A row whose first k cells hold v. -/
def fillV (x z : Value) (k : Nat) : Nat → Value := fun i => if i < k then x else z
theorem fill_row {w : World} {t : TypeId} {x z : Value} {g M k c : Nat} (h : VRow w t g M (fillV x z k)) (hk : k ≤ M) (hc : c ≤ k) (hM : k + c ≤ M) :
    ∃ cur : Array Value, w.heap[g]? = some (.cells cur t (0, 0)) ∧ (∀ j v, (List.replicate c x)[j]? = some v → w.cell? ((⟨g, 0, none⟩ : Addr).add j) = some v) ∧ k + (List.replicate c x).length ≤ cur.size ∧
      VRow (w.setRow g (cur.toList.take k ++ List.replicate c x ++ cur.toList.drop (k + (List.replicate c x).length)).toArray) t g M (fillV x z (k + c)) := by
  obtain ⟨cur, h1, h2, h3⟩ := h
  unfold fillV at h3 ⊢
  refine ⟨cur, h1, fun j v hv => ?_, by rw [List.length_replicate]; omega, _, setRow_heap w g _ _ _ _ h1, ?_, fun i hi => ?_⟩
  · rw [List.getElem?_replicate] at hv
    split at hv
    · next hj =>
      cases hv
      rw [addr_add, cell_of_row w g j cur _ (0, 0) h1, h3 j (by omega), if_pos (by omega)]
    · cases hv
  · simp
    omega
  · have hlen : (cur.toList.take k).length = k := by simp; omega
    rw [List.getElem?_toArray, List.append_assoc, List.length_replicate]
    dsimp only
    by_cases e1 : i < k
    · rw [List.getElem?_append_left (by omega), List.getElem?_take, if_pos e1, Array.getElem?_toList, h3 i hi, if_pos e1, if_pos (by omega)]
    · rw [List.getElem?_append_right (by omega), hlen]
      by_cases e2 : i < k + c
      · rw [List.getElem?_append_left (by rw [List.length_replicate]; omega), List.getElem?_replicate, if_pos (by omega), if_pos e2]
      · rw [List.getElem?_append_right (by rw [List.length_replicate]; omega), List.length_replicate, List.getElem?_drop, Array.getElem?_toList, show k + c + (i - k - c) = i by omega, h3 i hi, if_neg e1, if_neg e2]

set_option maxRecDepth 100000 in
set_option maxHeartbeats 1600000 in
theorem repeatInts {p M : Nat} {x : Int} (h1 : 1 ≤ M) (hM : M ≤ 4096) (w : World) (c0 : w.cell? ⟨p, 0, none⟩ = some (.int .i64 x)) (hp : p < w.heap.size) :
    Calls (barP Try.prog) 17 #[.slice (some ⟨p, 0, none⟩) 1 1, .int .i64 M] w fun e w' => ∃ g', e = .returned (.slice (some ⟨g', 0, none⟩) M M) ∧ w.heap.size ≤ g' ∧ VRow w' 3 g' M (fun _ => .int .i64 x) ∧ Below w.heap.size w w' := by
  have k1 := hide (bitsMul hM w)
  have q1 : ((M : Int) < 0) = False := by simp
  have q2 : ((9223372036854775807 : Int) < (M : Int)) = False := by simp; omega
  have z1 : IntKind.u64.wrap (M : Int) = (M : Int) := by rw [IntKind.wrap_u64]; omega
  have z2 : IntKind.i64.wrap (M : Int) = (M : Int) := by rw [IntKind.wrap_i64]; omega
  have hmk := run_make_row' (P := (barP Try.prog)) 35 3 (.int .i64 0) 8 Bar.underlying35 infoInt rfl .i64 .i64 M (by omega) (by omega)
  go_enter Bar.func17, Bar.ntmps17
  go_wp2_with fail
  refine (unhide k1).mono ?_
  rintro e w1 ⟨rfl, hb1⟩
  have B1 := hb1
  have c1 := (hb1.cell (p := ⟨p, 0, none⟩) hp).trans c0
  have hs1 := hb1.size
  have R2 : Hid (VRow (w1.alloc (.cells (madeCells #[.int .i64 0] M) 3)) 3 w1.heap.size M (fun _ => .int .i64 0)) := vrow_new w1 (.int .i64 0) M 3
  have b2 : Below w1.heap.size w1 (w1.alloc (.cells (madeCells #[.int .i64 0] M) 3)) := (Below.refl _ _).alloc (Nat.le_refl _) _
  have c2 := hide ((b2.cell (p := ⟨p, 0, none⟩) (by show p < _; omega)).trans c1)
  have B2 := hide (B1.trans (b2.mono hs1))
  clear hb1 k1 c0 c1 B1 b2
  have hsz : ((barP Try.prog).info? 3).map (·.size) = some 1 := by kernel_rfl
  have hrun : ∃ w3, (Builtin.copy_ #[35, 35] 3 #[.slice (some ⟨w1.heap.size, 0, none⟩) M M, .slice (some ⟨p, 0, none⟩) 1 1]).run (barP Try.prog) (w1.alloc (.cells (madeCells #[.int .i64 0] M) 3)) = .ok (.int .i64 1) w3 ∧ VRow w3 3 w1.heap.size M (fillV (.int .i64 x) (.int .i64 0) 1) ∧ Below w.heap.size w w3 := by
    obtain ⟨cur, u1, u2, u3⟩ := unhide R2
    refine ⟨_, run_copy_row (P := (barP Try.prog)) _ 35 35 3 3 w1.heap.size 0 M M ⟨p, 0, none⟩ 1 1 cur 3 [.int .i64 x] Bar.underlying35 hsz u1 (Nat.min_eq_left h1).symm (fun j v hv => ?_) (by simp; omega) (fun v hv => by simp at hv; subst hv; rfl), ?_, below_setRow (unhide B2) (by omega) _⟩
    · match j, hv with
      | 0, hv => rw [addr_add]; simp at hv; subst hv; exact unhide c2
    · refine ⟨_, setRow_heap _ w1.heap.size _ _ _ _ u1, by simp; omega, fun i hi => ?_⟩
      rw [List.getElem?_toArray, List.take_zero, List.nil_append]
      match i with
      | 0 => rfl
      | i + 1 =>
        show (cur.toList.drop 1)[i]? = _
        rw [List.getElem?_drop, Array.getElem?_toList, Nat.add_comm 1 i, u3 (i + 1) hi]
        simp [fillV]
  obtain ⟨w3, hrun, R3, B3⟩ := hrun
  have R3 := hide R3
  have B3 := hide B3
  clear R2 B2 c2
  go_wp2_with fail
  clear hrun hmk
  generalize w1.heap.size = gq at *
  go_loopw [8] (fun kv wr => ∃ k : Nat, 1 ≤ k ∧ k ≤ M ∧ kv = .int .i64 k ∧ Hid (VRow wr 3 gq M (fillV (.int .i64 x) (.int .i64 0) k)) ∧ Hid (Below w.heap.size w wr)) (fun kv _ => M - (intOf kv).toNat)
  case atStart => exact ⟨1, Nat.le_refl _, h1, rfl, R3, B3⟩
  case round =>
    clear R3 B3
    obtain ⟨k, hk1, hk, rfl, hR, hB⟩ := hrel
    by_cases hkM : k < M
    · have q3 : ((k : Int) < (M : Int)) = True := by simp; omega
      have q4 : ((k : Int) ≤ (M : Int)) = True := by simp; omega
      have q5 : ((0 : Int) ≤ (k : Int)) = True := by simp
      obtain ⟨c, hc⟩ : ∃ c, Nat.min k (M - k) = c := ⟨_, rfl⟩
      have hm1 : c ≤ k := hc ▸ Nat.min_le_left _ _
      have hm2 : c ≤ M - k := hc ▸ Nat.min_le_right _ _
      have hm3 : 1 ≤ c := by
        rcases Nat.le_total k (M - k) with h | h
        · have : Nat.min k (M - k) = k := Nat.min_eq_left h
          omega
        · have : Nat.min k (M - k) = M - k := Nat.min_eq_right h
          omega
      have hrun : ∃ w4, (Builtin.copy_ #[35, 35] 3 #[.slice (some ⟨gq, k, none⟩) (M - k) (M - k), .slice (some ⟨gq, 0, none⟩) k M]).run (barP Try.prog) wr.drew = .ok (.int .i64 c) w4 ∧ VRow w4 3 gq M (fillV (.int .i64 x) (.int .i64 0) (k + c)) ∧ Below w.heap.size w w4 := by
        obtain ⟨cu, v1, v2, v3, v4⟩ := fill_row (c := c) (vrow_keep (w' := wr.drew) (unhide hR) rfl) (by omega) hm1 (by omega)
        have := run_copy_row (P := (barP Try.prog)) wr.drew 35 35 3 3 gq k (M - k) (M - k) ⟨gq, 0, none⟩ k M cu 3 (List.replicate c (.int .i64 x)) Bar.underlying35 hsz v1 (by rw [List.length_replicate, hc]) v2 v3 (fun v hv => by
          have := (List.mem_replicate.1 hv).2
          subst this
          rfl)
        refine ⟨_, this.trans ?_, v4, below_setRow ((unhide hB).drew) (by omega) _⟩
        rw [List.length_replicate]
        rfl
      obtain ⟨w4, hrun, R4, B4⟩ := hrun
      have R4 := hide R4
      have B4 := hide B4
      have hc := hide hc
      have z3 : IntKind.i64.wrap ((k : Int) + (c : Int)) = ((k + c : Nat) : Int) := by rw [IntKind.wrap_i64]; omega
      clear hR hB
      go_wp2_with fail
      go_region
      all_goals go_wp2_with fail
      all_goals exact ⟨⟨k + c, by omega, by omega, by simp, R4, B4⟩, by simp [intOf]; omega⟩
    · have e : k = M := by omega
      subst e
      have q3 : ((k : Int) < (k : Int)) = False := by simp
      have R5 := hide (vrow_ext (f' := fun _ => .int .i64 x) (unhide hR) (fun i hi => by simp [fillV, hi]))
      go_wp2_with fail
      go_ret
      exact ⟨gq, rfl, by omega, unhide R5, unhide hB⟩
end Go.Proofs.Ythbghcebcahlnaa
