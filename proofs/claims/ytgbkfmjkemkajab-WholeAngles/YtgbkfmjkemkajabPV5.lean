/- The landed sino.Check of sound projections. -/
import Derived.Test.YtgbkfmjkemkajabPV4
import Derived.Test.YtgbkfmjkemkajabPV2
namespace Go.Proofs.Ytgbkfmjkemkajab
open Go.RowKit Go.Shelf

theorem take_dk {L : List (Int × Int)} {k : Nat} (hk : k < L.length) : L.take (k + 1) = L.take k ++ [dk L k] := by
  rw [List.take_add_one, dk_at hk]
  rfl
theorem not_ahead {L : List (Int × Int)} (hn : L.Nodup) {k : Nat} (hk : k < L.length) : ¬ dk L k ∈ L.take k := by
  have h := hn
  have e : L = L.take k ++ dk L k :: L.drop (k + 1) := by
    conv => lhs; rw [← List.take_append_drop k L]
    congr 1
    rw [List.drop_eq_getElem_cons hk]
    congr 1
    have := dk_at hk
    rw [List.getElem?_eq_getElem hk] at this
    exact Option.some.inj this
  rw [e, List.nodup_append] at h
  intro hm
  exact h.2.2 _ hm _ (List.mem_cons_self ..) rfl

set_option maxRecDepth 100000 in
set_option maxHeartbeats 6400000 in
theorem sinoCheckOk {n : Nat} {L : List (Int × Int)} {gp cap : Nat} {gb : Nat → Nat} {z : Nat → Nat → Nat} (hn : 1 ≤ n) (h64 : n ≤ 64) (hL : L.length ≤ 64) (ho : ∀ d, d ∈ L → okD d.1 d.2 = true) (hnd : L.Nodup) (hz : ∀ k j, z k j ≤ 16) (w : World) (h : SinoAt w n L gp gb (fun k j => nb (z k j))) :
    Calls Try.prog 12 #[.agg #[.int .i64 n, .slice (some ⟨gp, 0, none⟩) L.length cap]] w fun e w' => e = .returned (.int .i64 0) ∧ Below w.heap.size w w' := by
  have H := hide h
  have q1 : ((n : Int) < 1) = False := by simp; omega
  have q2 : ((64 : Int) < (n : Int)) = False := by simp; omega
  have q3 : ((64 : Int) < (L.length : Int)) = False := by simp; omega
  have hmk := @run_makeMap Try.prog
  have y0 := (Below.refl w.heap.size w).alloc (Nat.le_refl _) (.cells #[.int .i64 n, .slice (some ⟨gp, 0, none⟩) L.length cap] 38)
  have y1 := hide (y0.alloc (by rw [World.size_alloc]; omega) (.map #[] 0))
  have M0 := hide (mapD_made (w.alloc (.cells #[.int .i64 n, .slice (some ⟨gp, 0, none⟩) L.length cap] 38)))
  have X0 : Hid (((w.alloc (.cells #[.int .i64 n, .slice (some ⟨gp, 0, none⟩) L.length cap] 38)).alloc (.map #[] 0)).cell? ⟨w.heap.size, 0, none⟩ = some (.int .i64 n)) :=
    (World.cell?_of_block (a := ⟨w.heap.size, 0, none⟩) (Below.heap_alloc _ _ _ (by rw [World.size_alloc]; show w.heap.size < _; omega))).trans (cell_of_row _ w.heap.size 0 _ _ (0, 0) (heap_alloc_new w _))
  rw [World.size_alloc] at M0
  clear h y0
  go_enter Try.func12, Try.ntmps12
  go_wp2_with fail
  clear hmk
  generalize (w.alloc (.cells #[.int .i64 n, .slice (some ⟨gp, 0, none⟩) L.length cap] 38)).alloc (.map #[] 0) = w2 at *
  obtain ⟨base, hbase⟩ : ∃ x, w.heap.size = x := ⟨_, rfl⟩
  rw [hbase] at y1 M0 X0
  have hgp : gp < base := by rw [← hbase]; exact (unhide H).lt
  rw [hbase]
  replace hbase := hide hbase
  go_loopw [26] (fun kv wr => ∃ k : Nat, k ≤ L.length ∧ kv = .int .i64 k ∧ Hid (MapD wr (base + 1) (L.take k)) ∧ Hid (wr.cell? ⟨base, 0, none⟩ = some (.int .i64 n)) ∧ Hid (Below base w wr)) (fun kv _ => L.length - (intOf kv).toNat)
  case atStart => exact ⟨0, Nat.zero_le _, rfl, M0, X0, y1⟩
  case round =>
    clear M0 X0 y1
    obtain ⟨k, hk, rfl, hM, hX, hB⟩ := hrel
    by_cases hkL : k < L.length
    · have q4 : ((k : Int) < (L.length : Int)) = True := by simp; omega
      have hS := (unhide H).below (w' := wr) (by have := unhide hB; rw [← unhide hbase] at this; exact this)
      obtain ⟨p1, p2, p3⟩ := hS.proj k hkL
      have hok := ho _ (dk_mem hkL)
      obtain ⟨o1, o2, o3⟩ := okD_bounds hok
      have h6 : Dir64 (dk L k) := ⟨by unfold I64; omega, by unfold I64; omega⟩
      have kB := hide (fun (W : World) => dirBins (n := (n : Int)) h6 W)
      rw [binN_eq hn h64 hok] at kB
      unfold dirV at kB
      dsimp only at kB
      have hbn := binN_le h64 hok
      have hlt := (unhide hM).lt
      have y1 := (Below.refl wr.heap.size wr).alloc (Nat.le_refl _) (.cells #[.int .i64 (dk L k).1, .int .i64 (dk L k).2, .slice (some ⟨gb k, 0, none⟩) (binN n (dk L k)) (binN n (dk L k))] 35)
      have M1 := hide ((unhide hM).below y1)
      have S1 := hide (hS.below y1)
      have B1 := hide ((unhide hB).trans (y1.mono (by omega)))
      have c0 := (y1.cell (p := ⟨base, 0, none⟩) (by show base < _; omega)).trans (unhide hX)
      have r1 := heap_alloc_new wr (.cells #[.int .i64 (dk L k).1, .int .i64 (dk L k).2, .slice (some ⟨gb k, 0, none⟩) (binN n (dk L k)) (binN n (dk L k))] 35)
      have x1 := cell_of_row _ wr.heap.size 0 _ _ (0, 0) r1
      have x2 := cell_of_row _ wr.heap.size 1 _ _ (0, 0) r1
      have x3 := cell_of_row _ wr.heap.size 2 _ _ (0, 0) r1
      simp only [List.getElem?_toArray, List.getElem?_cons_zero, List.getElem?_cons_succ] at x1 x2 x3
      have hl1 : wr.heap.size < (wr.alloc (.cells #[.int .i64 (dk L k).1, .int .i64 (dk L k).2, .slice (some ⟨gb k, 0, none⟩) (binN n (dk L k)) (binN n (dk L k))] 35)).heap.size := by rw [World.size_alloc]; omega
      have hbl : base + 1 < wr.heap.size := hlt
      clear hS y1 r1 hM hX hB o1 o2 o3
      go_wp2_with fail
      clear p1 p2 p3
      generalize wr.alloc (.cells #[.int .i64 (dk L k).1, .int .i64 (dk L k).2, .slice (some ⟨gb k, 0, none⟩) (binN n (dk L k)) (binN n (dk L k))] 35) = w3 at *
      generalize wr.heap.size = pd at *
      refine (unhide kB w3).mono ?_
      rintro e w4 ⟨rfl, hb4⟩
      have M4 := (unhide M1).below hb4
      have S4 := hide ((unhide S1).below hb4)
      have B4 := hide ((unhide B1).trans (hb4.mono (by omega)))
      have c4 := (hb4.cell (p := ⟨base, 0, none⟩) (by show base < _; omega)).trans c0
      have z1 := (hb4.cell (p := ⟨pd, 0, none⟩) hl1).trans x1
      have z2 := (hb4.cell (p := ⟨pd, 1, none⟩) hl1).trans x2
      have z3 := (hb4.cell (p := ⟨pd, 2, none⟩) hl1).trans x3
      have hl4 := Nat.lt_of_lt_of_le hl1 hb4.size
      have hlk := M4.look h6
      rw [decide_eq_false (not_ahead hnd hkL)] at hlk
      have y5 := (Below.refl w4.heap.size w4).alloc (Nat.le_refl _) (.cells #[] 82)
      obtain ⟨w6, hput, M6, hgr⟩ := (M4.below y5).put h6 (by rw [List.length_take]; unfold maxLen; omega)
      rw [← take_dk hkL] at M6
      have hsz5 : (w4.alloc (.cells #[] 82)).heap.size = w4.heap.size + 1 := World.size_alloc _ _
      have k6 : ∀ x, x < w4.heap.size → x ≠ base + 1 → w6.heap[x]? = w4.heap[x]? := fun x hx hne => (hgr.block x (by omega) (fun e => hne (by simpa using e))).trans (y5.block x hx)
      have u0 := (World.cell?_of_block (a := ⟨base, 0, none⟩) (k6 base (by omega) (by omega))).trans c4
      have u3 := (World.cell?_of_block (a := ⟨pd, 2, none⟩) (k6 pd hl4 (by omega))).trans z3
      have hgbl : gb k ≠ base + 1 ∧ gb k < w4.heap.size := ⟨fun e => by
        have := vrow_lt ((unhide H).bins k hkL)
        have hh := unhide hbase
        omega, vrow_lt ((unhide S4).bins k hkL)⟩
      have ka := hide (areBinsOk (c := binN n (dk L k)) (v := z k) hbn (fun j _ => hz k j) w6 (vrow_keep ((unhide S4).bins k hkL) (k6 _ hgbl.2 hgbl.1)))
      have B6 := hide (((unhide B4).trans (y5.mono (by have := hl4; omega))).grown hgr (by omega) (fun x hx => (by
        have e : base + 1 = x := by simpa using hx
        omega)))
      have M6 := hide M6
      have hs6 : w4.heap.size < w6.heap.size := by have := hgr.size; omega
      clear kB S1 B1 M1 c0 x1 x2 x3 hl1 hb4 M4 y5 hgr k6 S4 B4
      go_wp2_with fail
      refine (unhide ka).mono ?_
      rintro e w7 ⟨rfl, hb7⟩
      have M7 := hide ((unhide M6).below hb7)
      have X7 := hide ((hb7.cell (p := ⟨base, 0, none⟩) (by show base < _; omega)).trans u0)
      have B7 := hide ((unhide B6).trans (hb7.mono (by omega)))
      clear hb7 ka M6 B6 u0 u3
      go_wp2_with fail
      exact ⟨⟨k + 1, by omega, by go_num, M7, X7, B7⟩, by simp [intOf]; omega⟩
    · have e : k = L.length := by omega
      subst e
      have q4 : ((L.length : Int) < (L.length : Int)) = False := by simp
      go_wp2_with fail
      go_ret
      exact ⟨rfl, by rw [unhide hbase]; exact unhide hB⟩
end Go.Proofs.Ytgbkfmjkemkajab
