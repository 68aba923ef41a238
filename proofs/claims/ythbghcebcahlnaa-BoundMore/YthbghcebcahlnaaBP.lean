/- The landed settle. -/
import Derived.Test.YthbghcebcahlnaaBO
namespace Go.Proofs.Ythbghcebcahlnaa
open Go.RowKit

/-- What is asked of the sweeps: the state behind each, which of them changed something. -/
structure Sweeps (lv : Value) (gl cl gh ch M T : Nat) (St : Nat → SS) (w : World) : Prop where
  sweep : ∀ (W : World) t, t ≤ T → Off gl gh w W → IRow W gl M (St t).lo → IRow W gh M (St t).hi →
    Calls (barP Try.prog) 36 #[lv, .slice (some ⟨gl, 0, none⟩) M cl, .slice (some ⟨gh, 0, none⟩) M ch] W fun e W' => e = .returned (.tuple #[.bool (St (t + 1)).ch, .int .i64 0]) ∧ IRow W' gl M (St (t + 1)).lo ∧ IRow W' gh M (St (t + 1)).hi ∧ Off gl gh W W'
  more : ∀ t, t < T → (St (t + 1)).ch = true
  last : (St (T + 1)).ch = false

set_option maxRecDepth 100000 in
set_option maxHeartbeats 3200000 in
theorem settleClash {lv : Value} {gl cl gh ch M : Nat} {lo hi : Nat → Int} (hM : M ≤ 4096) (hc : ∃ i, i < M ∧ hi i < lo i) (w : World) (hl : IRow w gl M lo) (hh : IRow w gh M hi) :
    Calls (barP Try.prog) 20 #[lv, .slice (some ⟨gl, 0, none⟩) M cl, .slice (some ⟨gh, 0, none⟩) M ch] w fun e w' => e = .returned (.int .i64 111) ∧ Below w.heap.size w w' := by
  have t1 := hide (fun i (h : i < M) => vrow_at hl h)
  have t2 := hide (fun i (h : i < M) => vrow_at hh h)
  have hc := hide hc
  clear hl hh
  go_enter Bar.func20, Bar.ntmps20
  go_wp2_with fail
  go_loopw [12] (fun kv wr => ∃ k : Nat, k ≤ M ∧ kv = .int .i64 k ∧ Hid (∀ i, i < k → lo i ≤ hi i) ∧ Hid (wr.heap = w.heap) ∧ Hid (Below w.heap.size w wr)) (fun kv _ => M - (intOf kv).toNat)
  case atStart => exact ⟨0, Nat.zero_le _, rfl, fun i h => by omega, rfl, Below.refl _ _⟩
  case round =>
    obtain ⟨k, hk, rfl, hn, hw, hB⟩ := hrel
    by_cases c : k < M
    · have q1 : ((k : Int) < (M : Int)) = True := by simp; omega
      have k1 := (heapCell (unhide hw) _).trans (unhide t1 k c)
      have k2 := (heapCell (unhide hw) _).trans (unhide t2 k c)
      have hn2 : Hid (lo k ≤ hi k → ∀ i, i < k + 1 → lo i ≤ hi i) := fun h i hi' => by
        by_cases e : i = k
        · subst e
          exact h
        · exact unhide hn i (by omega)
      by_cases d : hi k < lo k
      · have q2 : (hi k < lo k) = True := by simp; exact d
        generalize hi k = y at *
        generalize lo k = x at *
        clear hn hn2
        go_wp2_with fail
        go_quiet (fail)
        go_wp2_with fail
        go_ret
        have hb := unhide hB
        exact ⟨rfl, ⟨hb.os, hb.tape, hb.output, hb.size, hb.block⟩⟩
      · have q2 : (hi k < lo k) = False := by simp; omega
        have hn3 := hide (unhide hn2 (by omega))
        generalize hi k = y at *
        generalize lo k = x at *
        clear hn hn2
        go_wp2_with fail
        go_quiet (fail)
        go_wp2_with fail
        have hb := unhide hB
        exact ⟨⟨k + 1, by omega, by go_num, hn3, unhide hw, ⟨hb.os, hb.tape, hb.output, hb.size, hb.block⟩⟩, by simp [intOf]; omega⟩
    · obtain ⟨i, h1, h2⟩ := unhide hc
      have := unhide hn i (by omega)
      omega

set_option maxRecDepth 100000 in
set_option maxHeartbeats 3200000 in
theorem settleOk {lv : Value} {gl cl gh ch M T : Nat} {St : Nat → SS} (hM : M ≤ 4096) (hT : T ≤ 511) (hc : ∀ i, i < M → (St 0).lo i ≤ (St 0).hi i) (w : World) (hS : Sweeps lv gl cl gh ch M T St w) (hl : IRow w gl M (St 0).lo) (hh : IRow w gh M (St 0).hi) :
    Calls (barP Try.prog) 20 #[lv, .slice (some ⟨gl, 0, none⟩) M cl, .slice (some ⟨gh, 0, none⟩) M ch] w fun e w' => e = .returned (.int .i64 0) ∧ IRow w' gl M (St (T + 1)).lo ∧ IRow w' gh M (St (T + 1)).hi ∧ Off gl gh w w' := by
  have t1 := hide (fun i (h : i < M) => vrow_at hl h)
  have t2 := hide (fun i (h : i < M) => vrow_at hh h)
  have hl := hide hl
  have hh := hide hh
  have hS := hide hS
  have hc := hide hc
  go_enter Bar.func20, Bar.ntmps20
  go_wp2_with fail
  go_loopw [12] (fun kv wr => ∃ k : Nat, k ≤ M ∧ kv = .int .i64 k ∧ Hid (wr.heap = w.heap) ∧ Hid (Below w.heap.size w wr)) (fun kv _ => M - (intOf kv).toNat)
  case atStart => exact ⟨0, Nat.zero_le _, rfl, rfl, Below.refl _ _⟩
  case round =>
    obtain ⟨k, hk, rfl, hw, hB⟩ := hrel
    by_cases c : k < M
    · have q1 : ((k : Int) < (M : Int)) = True := by simp; omega
      have k1 := (heapCell (unhide hw) _).trans (unhide t1 k c)
      have k2 := (heapCell (unhide hw) _).trans (unhide t2 k c)
      have d := unhide hc k c
      have q2 : ((St 0).hi k < (St 0).lo k) = False := by simp; omega
      generalize (St 0).hi k = y at *
      generalize (St 0).lo k = x at *
      clear d
      go_wp2_with fail
      go_quiet (fail)
      go_wp2_with fail
      have hb := unhide hB
      exact ⟨⟨k + 1, by omega, by go_num, unhide hw, ⟨hb.os, hb.tape, hb.output, hb.size, hb.block⟩⟩, by simp [intOf]; omega⟩
    · have q1 : ((k : Int) < (M : Int)) = False := by simp; omega
      have L1 := hide (vrow_keep (w' := wr) (unhide hl) (by rw [unhide hw]))
      have H1 := hide (vrow_keep (w' := wr) (unhide hh) (by rw [unhide hw]))
      have O1 := hide (Off.below (gl := gl) (gh := gh) (unhide hB))
      clear hl hh t1 t2 hw hB
      go_wp2_with fail
      go_loopw [25] (fun tv wx => ∃ t : Nat, t ≤ T ∧ tv = .int .i64 t ∧ Hid (IRow wx gl M (St t).lo) ∧ Hid (IRow wx gh M (St t).hi) ∧ Hid (Off gl gh w wx)) (fun tv _ => T - (intOf tv).toNat)
      case atStart => exact ⟨0, Nat.zero_le _, rfl, L1, H1, O1⟩
      case round =>
        clear L1 H1 O1
        obtain ⟨t, ht, rfl, hL, hH, hO⟩ := hrel
        have q2 : ((t : Int) < 512) = True := by simp; omega
        have kS := hide ((unhide hS).sweep _ t ht (unhide hO) (unhide hL) (unhide hH))
        by_cases e : t < T
        · rw [(unhide hS).more t e] at kS
          go_wp2_with fail
          refine (unhide kS).mono ?_
          rintro e w2 ⟨rfl, r1, r2, o2⟩
          have R1 := hide r1
          have R2 := hide r2
          have O2 := hide ((unhide hO).trans o2)
          clear kS r1 r2 o2 hL hH hO
          go_wp2_with fail
          exact ⟨⟨t + 1, by omega, by go_num, R1, R2, O2⟩, by simp [intOf]; omega⟩
        · obtain rfl : t = T := by omega
          rw [(unhide hS).last] at kS
          go_wp2_with fail
          refine (unhide kS).mono ?_
          rintro e w2 ⟨rfl, r1, r2, o2⟩
          have R1 := hide r1
          have R2 := hide r2
          have O2 := hide ((unhide hO).trans o2)
          clear kS r1 r2 o2 hL hH hO
          go_wp2_with fail
          go_ret
          exact ⟨rfl, unhide R1, unhide R2, unhide O2⟩
/-- 512 sweeps that all change something. -/
structure SweepsF (lv : Value) (gl cl gh ch M : Nat) (St : Nat → SS) (w : World) : Prop where
  sweep : ∀ (W : World) t, t < 512 → Off gl gh w W → IRow W gl M (St t).lo → IRow W gh M (St t).hi →
    Calls (barP Try.prog) 36 #[lv, .slice (some ⟨gl, 0, none⟩) M cl, .slice (some ⟨gh, 0, none⟩) M ch] W fun e W' => e = .returned (.tuple #[.bool (St (t + 1)).ch, .int .i64 0]) ∧ IRow W' gl M (St (t + 1)).lo ∧ IRow W' gh M (St (t + 1)).hi ∧ Off gl gh W W'
  more : ∀ t, t < 512 → (St (t + 1)).ch = true

set_option maxRecDepth 100000 in
set_option maxHeartbeats 3200000 in
theorem settleFew {lv : Value} {gl cl gh ch M : Nat} {St : Nat → SS} (hM : M ≤ 4096) (hc : ∀ i, i < M → (St 0).lo i ≤ (St 0).hi i) (w : World) (hS : SweepsF lv gl cl gh ch M St w) (hl : IRow w gl M (St 0).lo) (hh : IRow w gh M (St 0).hi) :
    Calls (barP Try.prog) 20 #[lv, .slice (some ⟨gl, 0, none⟩) M cl, .slice (some ⟨gh, 0, none⟩) M ch] w fun e w' => e = .returned (.int .i64 112) ∧ Off gl gh w w' := by
  have t1 := hide (fun i (h : i < M) => vrow_at hl h)
  have t2 := hide (fun i (h : i < M) => vrow_at hh h)
  have hl := hide hl
  have hh := hide hh
  have hS := hide hS
  have hc := hide hc
  go_enter Bar.func20, Bar.ntmps20
  go_wp2_with fail
  go_loopw [12] (fun kv wr => ∃ k : Nat, k ≤ M ∧ kv = .int .i64 k ∧ Hid (wr.heap = w.heap) ∧ Hid (Below w.heap.size w wr)) (fun kv _ => M - (intOf kv).toNat)
  case atStart => exact ⟨0, Nat.zero_le _, rfl, rfl, Below.refl _ _⟩
  case round =>
    obtain ⟨k, hk, rfl, hw, hB⟩ := hrel
    by_cases c : k < M
    · have q1 : ((k : Int) < (M : Int)) = True := by simp; omega
      have k1 := (heapCell (unhide hw) _).trans (unhide t1 k c)
      have k2 := (heapCell (unhide hw) _).trans (unhide t2 k c)
      have d := unhide hc k c
      have q2 : ((St 0).hi k < (St 0).lo k) = False := by simp; omega
      generalize (St 0).hi k = y at *
      generalize (St 0).lo k = x at *
      clear d
      go_wp2_with fail
      go_quiet (fail)
      go_wp2_with fail
      have hb := unhide hB
      exact ⟨⟨k + 1, by omega, by go_num, unhide hw, ⟨hb.os, hb.tape, hb.output, hb.size, hb.block⟩⟩, by simp [intOf]; omega⟩
    · have q1 : ((k : Int) < (M : Int)) = False := by simp; omega
      have L1 := hide (vrow_keep (w' := wr) (unhide hl) (by rw [unhide hw]))
      have H1 := hide (vrow_keep (w' := wr) (unhide hh) (by rw [unhide hw]))
      have O1 := hide (Off.below (gl := gl) (gh := gh) (unhide hB))
      clear hl hh t1 t2 hw hB
      go_wp2_with fail
      go_loopw [25] (fun tv wx => ∃ t : Nat, t ≤ 512 ∧ tv = .int .i64 t ∧ Hid (IRow wx gl M (St t).lo) ∧ Hid (IRow wx gh M (St t).hi) ∧ Hid (Off gl gh w wx)) (fun tv _ => 512 - (intOf tv).toNat)
      case atStart => exact ⟨0, Nat.zero_le _, rfl, L1, H1, O1⟩
      case round =>
        clear L1 H1 O1
        obtain ⟨t, ht, rfl, hL, hH, hO⟩ := hrel
        by_cases e : t < 512
        · have q2 : ((t : Int) < 512) = True := by simp; omega
          have kS := hide ((unhide hS).sweep _ t e (unhide hO) (unhide hL) (unhide hH))
          rw [(unhide hS).more t e] at kS
          go_wp2_with fail
          refine (unhide kS).mono ?_
          rintro e w2 ⟨rfl, r1, r2, o2⟩
          have R1 := hide r1
          have R2 := hide r2
          have O2 := hide ((unhide hO).trans o2)
          clear kS r1 r2 o2 hL hH hO
          go_wp2_with fail
          exact ⟨⟨t + 1, by omega, by go_num, R1, R2, O2⟩, by simp [intOf]; omega⟩
        · have q2 : ((t : Int) < 512) = False := by simp; omega
          clear hL hH
          go_wp2_with fail
          go_ret
          exact ⟨rfl, unhide hO⟩
end Go.Proofs.Ythbghcebcahlnaa
