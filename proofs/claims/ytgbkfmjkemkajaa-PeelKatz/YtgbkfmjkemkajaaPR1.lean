/- The library's Repeat of one bool. -/
import Derived.Test.YtgbkfmjkemkajaaM9
import Derived.Laws.MathBits
import Derived.Laws.CopyOwn
namespace Go.Proofs.Ytgbkfmjkemkajaa
open Go.RowKit

set_option maxRecDepth 100000 in
set_option maxHeartbeats 1600000 in
theorem mul64 {y : Nat} (hy : y ≤ 4096) (w : World) : Calls Try.prog 85 #[.int .u64 1, .int .u64 y] w fun e w' => e = .returned (.tuple #[.int .u64 0, .int .u64 y]) ∧ Below w.heap.size w w' := by
  have b1 : bits .and .u64 1 4294967295 = 1 := by rw [and_low32 1 (by decide) (by decide)]; rfl
  have b2 : bits .and .u64 (y : Int) 4294967295 = (y : Int) := by rw [and_low32 _ (by omega) (by omega)]; omega
  have b0 : bits .and .u64 0 4294967295 = 0 := by rw [and_low32 0 (by decide) (by decide)]; rfl
  have b3 : IntKind.u64.wrap (y : Int) = (y : Int) := by rw [IntKind.wrap_u64]; omega
  have b4 : (y : Int) / 4294967296 = 0 := by omega
  go_enter Try.func85, Try.ntmps85
  go_wp2_with fail
  go_ret2
  exact ⟨rfl, Below.refl _ _⟩

set_option maxRecDepth 100000 in
set_option maxHeartbeats 1600000 in
theorem bitsMul {y : Nat} (hy : y ≤ 4096) (w : World) : Calls Try.prog 65 #[.int .u64 1, .int .u64 y] w fun e w' => e = .returned (.tuple #[.int .u64 0, .int .u64 y]) ∧ Below w.heap.size w w' := by
  have k1 := hide (mul64 hy w)
  go_enter Try.func65, Try.ntmps65
  go_wp2_with fail
  refine (unhide k1).mono ?_
  rintro e w1 ⟨rfl, hb1⟩
  go_wp2_with fail
  go_ret2
  exact ⟨rfl, hb1⟩

/-- A row of bools of which the first k are true. -/
theorem trues_row {w : World} {g M k c : Nat} (h : VRow w 4 g M (fun i => .bool (decide (i < k)))) (hk : k ≤ M) (hc : c ≤ k) (hM : k + c ≤ M) :
    ∃ cur : Array Value, w.heap[g]? = some (.cells cur 4 (0, 0)) ∧ (∀ j v, (List.replicate c (Value.bool true))[j]? = some v → w.cell? ((⟨g, 0, none⟩ : Addr).add j) = some v) ∧ k + (List.replicate c (Value.bool true)).length ≤ cur.size ∧
      VRow (w.setRow g (cur.toList.take k ++ List.replicate c (Value.bool true) ++ cur.toList.drop (k + (List.replicate c (Value.bool true)).length)).toArray) 4 g M (fun i => .bool (decide (i < k + c))) := by
  obtain ⟨cur, h1, h2, h3⟩ := h
  refine ⟨cur, h1, fun j v hv => ?_, by rw [List.length_replicate]; omega, _, setRow_heap w g _ _ _ _ h1, ?_, fun i hi => ?_⟩
  · rw [List.getElem?_replicate] at hv
    split at hv
    · next hj =>
      cases hv
      rw [addr_add, cell_of_row w g j cur _ (0, 0) h1, h3 j (by omega)]
      simp; omega
    · cases hv
  · simp
    omega
  · have hlen : (cur.toList.take k).length = k := by simp; omega
    rw [List.getElem?_toArray, List.append_assoc, List.length_replicate]
    by_cases e1 : i < k
    · rw [List.getElem?_append_left (by omega), List.getElem?_take, if_pos e1, Array.getElem?_toList, h3 i hi]
      simp; omega
    · rw [List.getElem?_append_right (by omega), hlen]
      by_cases e2 : i < k + c
      · rw [List.getElem?_append_left (by rw [List.length_replicate]; omega), List.getElem?_replicate, if_pos (by omega)]
        simp; omega
      · rw [List.getElem?_append_right (by rw [List.length_replicate]; omega), List.length_replicate, List.getElem?_drop, Array.getElem?_toList, show k + c + (i - k - c) = i by omega, h3 i hi]
        simp; omega

set_option maxRecDepth 100000 in
set_option maxHeartbeats 1600000 in
theorem repeatOk {p M : Nat} (h1 : 1 ≤ M) (hM : M ≤ 4096) (w : World) (c0 : w.cell? ⟨p, 0, none⟩ = some (.bool true)) (hp : p < w.heap.size) :
    Calls Try.prog 37 #[.slice (some ⟨p, 0, none⟩) 1 1, .int .i64 M] w fun e w' => ∃ g', e = .returned (.slice (some ⟨g', 0, none⟩) M M) ∧ w.heap.size ≤ g' ∧ VRow w' 4 g' M (fun _ => .bool true) ∧ Below w.heap.size w w' := by
  have k1 := hide (bitsMul hM w)
  obtain ⟨i0, hi0, hz0, hz1, hz2⟩ := info_parts infoBool
  have q1 : ((M : Int) < 0) = False := by simp
  have q2 : ((9223372036854775807 : Int) < (M : Int)) = False := by simp; omega
  have z1 : IntKind.u64.wrap (M : Int) = (M : Int) := by rw [IntKind.wrap_u64]; omega
  have z2 : IntKind.i64.wrap (M : Int) = (M : Int) := by rw [IntKind.wrap_i64]; omega
  go_enter Try.func37, Try.ntmps37
  go_wp2_with fail
  refine (unhide k1).mono ?_
  rintro e w1 ⟨rfl, hb1⟩
  have B1 := hide hb1
  have c1 := (hb1.cell (p := ⟨p, 0, none⟩) hp).trans c0
  have hs1 := hb1.size
  clear hb1 k1 c0
  go_wp2_with (first
    | (at_make; refine wpList_make_full _ rfl (.tmp 29) (.tmp 29) 24 rfl w1.heap.size 4 i0 (.bool false) 1 Try.underlying24 hi0 hz0 hz1 .i64 .i64 M M M rfl rfl rfl rfl ?c1 ?c2 ?c3 ?_))
  case c1 => rw [hz2]; omega
  case c2 => unfold maxLen; omega
  case c3 => exact Nat.le_refl _
  intro w2 hown2 hg2
  have R2 := hide (vrow_made hown2 (fun i hi => made_get hi))
  have b2 := below_grown0 hg2
  have c2 := (b2.cell (p := ⟨p, 0, none⟩) (by show p < _; omega)).trans c1
  have B2 := hide ((unhide B1).trans (b2.mono hs1))
  clear hown2 hg2 c1 B1 b2
  generalize w1.heap.size = gq at *
  obtain ⟨cur, u1, u2, u3⟩ := unhide R2
  have hsz : (Try.prog.info? 4).map (·.size) = some 1 := by kernel_rfl
  have hrun : ∃ w3, (Builtin.copy_ #[24, 24] 3 #[.slice (some ⟨gq, 0, none⟩) M M, .slice (some ⟨p, 0, none⟩) 1 1]).run Try.prog w2 = .ok (.int .i64 1) w3 ∧ VRow w3 4 gq M (fun i => .bool (decide (i < 1))) ∧ Below w.heap.size w w3 := by
    refine ⟨_, run_copy_row (P := Try.prog) w2 24 24 3 4 gq 0 M M ⟨p, 0, none⟩ 1 1 cur 4 [.bool true] Try.underlying24 hsz u1 (Nat.min_eq_left h1).symm (fun j v hv => ?_) (by simp; omega) (fun v hv => by simp at hv; subst hv; rfl), ?_, below_setRow (unhide B2) (by omega) _⟩
    · match j, hv with
      | 0, hv => rw [addr_add]; simp at hv; subst hv; exact c2
    · refine ⟨_, setRow_heap w2 gq _ _ _ _ u1, by simp; omega, fun i hi => ?_⟩
      rw [List.getElem?_toArray, List.take_zero, List.nil_append]
      match i with
      | 0 => rfl
      | i + 1 =>
        show (cur.toList.drop 1)[i]? = _
        rw [List.getElem?_drop, Array.getElem?_toList, Nat.add_comm 1 i, u3 (i + 1) hi]
        simp
  obtain ⟨w3, hrun, R3, B3⟩ := hrun
  have R3 := hide R3
  have B3 := hide B3
  clear u1 u2 u3 R2 B2 c2
  go_wp2_with fail
  clear hrun
  go_loopw [8] (fun kv wr => ∃ k : Nat, 1 ≤ k ∧ k ≤ M ∧ kv = .int .i64 k ∧ Hid (VRow wr 4 gq M (fun i => .bool (decide (i < k)))) ∧ Hid (Below w.heap.size w wr)) (fun kv _ => M - (intOf kv).toNat)
  case atStart => exact ⟨1, Nat.le_refl _, h1, rfl, R3, B3⟩
  case round =>
    clear R3 B3
    obtain ⟨k, hk1, hk, rfl, hR, hB⟩ := hrel
    by_cases hkM : k < M
    · have q3 : ((k : Int) < (M : Int)) = True := by simp; omega
      have q4 : ((k : Int) ≤ (M : Int)) = True := by simp; omega
      have q5 : ((0 : Int) ≤ (k : Int)) = True := by simp
      obtain ⟨c, hc⟩ : ∃ c, Nat.min k (M - k) = c := ⟨_, rfl⟩
      have hm1 : c ≤ k := hc ▸ Nat.min_le_left _ _
      have hm2 : c ≤ M - k := hc ▸ Nat.min_le_right _ _
      have hm3 : 1 ≤ c := by
        rcases Nat.le_total k (M - k) with h | h
        · have : Nat.min k (M - k) = k := Nat.min_eq_left h
          omega
        · have : Nat.min k (M - k) = M - k := Nat.min_eq_right h
          omega
      have hrun : ∃ w4, (Builtin.copy_ #[24, 24] 3 #[.slice (some ⟨gq, k, none⟩) (M - k) (M - k), .slice (some ⟨gq, 0, none⟩) k M]).run Try.prog wr.drew = .ok (.int .i64 c) w4 ∧ VRow w4 4 gq M (fun i => .bool (decide (i < k + c))) ∧ Below w.heap.size w w4 := by
        obtain ⟨cu, v1, v2, v3, v4⟩ := trues_row (c := c) (vrow_keep (w' := wr.drew) (unhide hR) rfl) (by omega) hm1 (by omega)
        have := run_copy_row (P := Try.prog) wr.drew 24 24 3 4 gq k (M - k) (M - k) ⟨gq, 0, none⟩ k M cu 4 (List.replicate c (.bool true)) Try.underlying24 hsz v1 (by rw [List.length_replicate, hc]) v2 v3 (fun v hv => by
          have := (List.mem_replicate.1 hv).2
          subst this
          rfl)
        refine ⟨_, this.trans ?_, v4, below_setRow ((unhide hB).drew) (by omega) _⟩
        rw [List.length_replicate]
        rfl
      obtain ⟨w4, hrun, R4, B4⟩ := hrun
      have R4 := hide R4
      have B4 := hide B4
      have hc := hide hc
      have z3 : IntKind.i64.wrap ((k : Int) + (c : Int)) = ((k + c : Nat) : Int) := by rw [IntKind.wrap_i64]; omega
      clear hR hB
      go_wp2_with fail
      go_region
      all_goals go_wp2_with fail
      all_goals exact ⟨⟨k + c, by omega, by omega, by simp, R4, B4⟩, by simp [intOf]; omega⟩
    · have e : k = M := by omega
      subst e
      have q3 : ((k : Int) < (k : Int)) = False := by simp
      have R5 := hide (vrow_ext (f' := fun _ => .bool true) (unhide hR) (fun i hi => by simp [hi]))
      go_wp2_with fail
      go_ret
      exact ⟨gq, rfl, by omega, unhide R5, unhide hB⟩
end Go.Proofs.Ytgbkfmjkemkajaa
