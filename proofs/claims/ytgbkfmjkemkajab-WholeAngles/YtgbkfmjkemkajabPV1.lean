/- A sound sino in memory; its directions. -/
import Derived.Test.YtgbkfmjkemkajabPM6b
namespace Go.Proofs.Ytgbkfmjkemkajab
open Go.RowKit Go.Shelf

/-- Projections of whole numbers z k j. -/
structure SinoAt (w : World) (n : Nat) (L : List (Int × Int)) (gp : Nat) (gb : Nat → Nat) (z : Nat → Nat → Nat × Nat) : Prop where
  lt : gp < w.heap.size
  proj : ∀ k, k < L.length → w.cell? ⟨gp, k * 3, none⟩ = some (.int .i64 (dk L k).1) ∧ w.cell? ⟨gp, k * 3 + 1, none⟩ = some (.int .i64 (dk L k).2) ∧ w.cell? ⟨gp, k * 3 + 2, none⟩ = some (.slice (some ⟨gb k, 0, none⟩) (binN n (dk L k)) (binN n (dk L k)))
  bins : ∀ k, k < L.length → VRow w 32 (gb k) (binN n (dk L k)) (fun j => .complex .f64 (z k j).1 (z k j).2)
theorem SinoAt.below {w w' : World} {n : Nat} {L : List (Int × Int)} {gp : Nat} {gb : Nat → Nat} {z : Nat → Nat → Nat × Nat} (h : SinoAt w n L gp gb z) (hb : Below w.heap.size w w') : SinoAt w' n L gp gb z := by
  refine ⟨Nat.lt_of_lt_of_le h.lt hb.size, fun k hk => ?_, fun k hk => vrow_keep (h.bins k hk) (hb.block _ (vrow_lt (h.bins k hk)))⟩
  obtain ⟨h1, h2, h3⟩ := h.proj k hk
  exact ⟨(hb.cell (p := ⟨gp, k * 3, none⟩) h.lt).trans h1, (hb.cell (p := ⟨gp, k * 3 + 1, none⟩) h.lt).trans h2, (hb.cell (p := ⟨gp, k * 3 + 2, none⟩) h.lt).trans h3⟩

theorem infoDirZ : (Try.prog.info? 31).map (fun i => (i.zero, i.size, i.bytes)) = some (some (.agg #[.int .i64 0, .int .i64 0]), 2, 16) := by kernel_rfl
theorem run_make_dirs (m : Nat) (hm : m ≤ 64) (W : World) : (Instr.makeSlice 23 (.int .i64 (m : Nat)) (.int .i64 (m : Nat))).run Try.prog W = .ok (.slice (some ⟨W.heap.size, 0, none⟩) m m) (W.alloc (.cells (madeCells #[.int .i64 0, .int .i64 0] (m * 2)) 31)) := by
  obtain ⟨i, hi, hz, hs, hb⟩ := info_parts infoDirZ
  have hr := run_make (P := Try.prog) W 23 31 i _ Try.underlying23 hi hz .i64 .i64 m m (by omega) (Int.le_refl _) (by rw [hb]; omega) (by omega)
  simp only [Int.toNat_natCast, hs] at hr
  exact hr
theorem made_dirs (W : World) (m : Nat) : VRow (W.alloc (.cells (madeCells #[.int .i64 0, .int .i64 0] (m * 2)) 31)) 31 W.heap.size (m * 2) (fun _ => .int .i64 0) := by
  refine ⟨_, heap_alloc_new W _, by rw [size_madeCells]; omega, fun i hi => ?_⟩
  have h2 : i % 2 = 0 ∨ i % 2 = 1 := by omega
  rcases h2 with h2 | h2 <;> simp [madeCells, hi, h2]

/-- The first k directions, one behind the other. -/
def dirF (L : List (Int × Int)) (k c : Nat) : Value := if c / 2 < k then (if c % 2 = 0 then .int .i64 (dk L (c / 2)).1 else .int .i64 (dk L (c / 2)).2) else .int .i64 0
theorem dirs_row {w : World} {L : List (Int × Int)} {g : Nat} (h : VRow w 31 g (L.length * 2) (dirF L L.length)) : Dirs w (some ⟨g, 0, none⟩) g 0 L := by
  refine ⟨fun _ => ⟨rfl, vrow_lt h⟩, fun i c hi => ?_⟩
  have hl := (List.getElem?_eq_some_iff.1 hi).1
  have e : dk L i = c := by
    have := dk_at hl
    rw [hi] at this
    exact (Option.some.inj this).symm
  have h1 := vrow_at h (i := i * 2) (by omega)
  have h2 := vrow_at h (i := i * 2 + 1) (by omega)
  unfold dirF at h1 h2
  rw [show i * 2 / 2 = i by omega, if_pos hl, if_pos (by omega), e] at h1
  rw [show (i * 2 + 1) / 2 = i by omega, if_pos hl, if_neg (by omega), e] at h2
  rw [Nat.zero_add]
  exact ⟨h1, h2⟩
theorem dirF_set {w : World} {L : List (Int × Int)} {g k m : Nat} (h : VRow w 31 g m (dirF L k)) : VRow ((w.setCell ⟨g, k * 2, none⟩ (.int .i64 (dk L k).1)).setCell ⟨g, k * 2 + 1, none⟩ (.int .i64 (dk L k).2)) 31 g m (dirF L (k + 1)) := by
  refine vrow_ext (vrow_set (vrow_set h (k * 2) _) (k * 2 + 1) _) fun c _ => ?_
  unfold dirF
  by_cases e1 : c = k * 2 + 1
  · rw [if_pos e1, if_pos (by omega), if_neg (by omega), show c / 2 = k by omega]
  · rw [if_neg e1]
    by_cases e2 : c = k * 2
    · rw [if_pos e2, if_pos (by omega), if_pos (by omega), show c / 2 = k by omega]
    · rw [if_neg e2]
      by_cases e3 : c / 2 < k
      · rw [if_pos e3, if_pos (by omega)]
      · rw [if_neg e3, if_neg (by omega)]

/-- A block of directions. -/
def DirT (w : World) (g : Nat) : Prop := ∃ cs, w.heap[g]? = some (.cells cs 31 (0, 0))
theorem DirT.below {w w' : World} {g : Nat} (h : DirT w g) (hb : Below w.heap.size w w') : DirT w' g := by
  obtain ⟨cs, h⟩ := h
  exact ⟨cs, (hb.block _ (Array.getElem?_eq_some_iff.1 h).1).trans h⟩

set_option maxRecDepth 100000 in
set_option maxHeartbeats 3200000 in
theorem sinoDirs {n : Nat} {L : List (Int × Int)} {gp cap : Nat} {gb : Nat → Nat} {z : Nat → Nat → Nat × Nat} (hL : L.length ≤ 64) (w : World) (h : SinoAt w n L gp gb z) :
    Calls Try.prog 14 #[.agg #[.int .i64 n, .slice (some ⟨gp, 0, none⟩) L.length cap]] w fun e w' => ∃ g', e = .returned (.slice (some ⟨g', 0, none⟩) L.length L.length) ∧ w.heap.size ≤ g' ∧ Dirs w' (some ⟨g', 0, none⟩) g' 0 L ∧ DirT w' g' ∧ Below w.heap.size w w' := by
  have H := hide h
  have hmk := fun W => run_make_dirs L.length hL W
  obtain ⟨K, hK⟩ : ∃ K, L.length = K := ⟨_, rfl⟩
  rw [hK] at hmk hL
  have y2 := hide (((Below.refl w.heap.size w).alloc (Nat.le_refl _) (.cells #[.int .i64 n, .slice (some ⟨gp, 0, none⟩) K cap] 38)).alloc (by rw [World.size_alloc]; omega) (.cells (madeCells #[.int .i64 0, .int .i64 0] (K * 2)) 31))
  have R0 := hide (made_dirs (w.alloc (.cells #[.int .i64 n, .slice (some ⟨gp, 0, none⟩) K cap] 38)) K)
  rw [World.size_alloc] at R0
  rw [hK]
  replace hK := hide hK
  clear h
  go_enter Try.func14, Try.ntmps14
  go_wp2_with fail
  generalize (w.alloc (.cells #[.int .i64 n, .slice (some ⟨gp, 0, none⟩) K cap] 38)).alloc (.cells (madeCells #[.int .i64 0, .int .i64 0] (K * 2)) 31) = w2 at *
  clear hmk
  obtain ⟨base, hbase⟩ : ∃ x, w.heap.size = x := ⟨_, rfl⟩
  have hgp : gp < base := by rw [← hbase]; exact (unhide H).lt
  rw [hbase] at R0 y2
  replace hbase := hide hbase
  have hgd : w.heap.size + 1 = base + 1 := by rw [unhide hbase]
  rw [hgd]
  clear hgd
  go_loopw [13] (fun kv wr => ∃ k : Nat, k ≤ K ∧ kv = .int .i64 k ∧ Hid (VRow wr 31 (base + 1) (K * 2) (dirF L k)) ∧ Hid (Below base w wr)) (fun kv _ => K - (intOf kv).toNat)
  case atStart => exact ⟨0, Nat.zero_le _, rfl, vrow_ext (unhide R0) (fun c _ => by unfold dirF; rw [if_neg (by omega)]), y2⟩
  case round =>
    clear R0 y2
    obtain ⟨k, hk, rfl, hR, hB⟩ := hrel
    by_cases hkK : k < K
    · have q1 : ((k : Int) < (K : Int)) = True := by simp; omega
      have hkL : k < L.length := by rw [unhide hK]; exact hkK
      have hS := (unhide H).below (w' := wr) (by have := unhide hB; rw [← unhide hbase] at this; exact this)
      obtain ⟨p1, p2, p3⟩ := hS.proj k hkL
      have hle : base + 1 < wr.heap.size := vrow_lt (unhide hR)
      have hlg := hS.lt
      clear hS
      have c1 := vrow_at (unhide hR) (i := k * 2) (by omega)
      have c2 := vrow_at (unhide hR) (i := k * 2 + 1) (by omega)
      have f1 := vrow_frozen (unhide hR) (k * 2)
      have f2 := vrow_frozen (unhide hR) (k * 2 + 1)
      have R1 := dirF_set (unhide hR)
      have B1 := ((unhide hB).setCell (p := ⟨base + 1, k * 2, none⟩) (Nat.le_succ _) (.int .i64 (dk L k).1)).setCell (p := ⟨base + 1, k * 2 + 1, none⟩) (Nat.le_succ _) (.int .i64 (dk L k).2)
      have y1 := (Below.refl _ ((wr.setCell ⟨base + 1, k * 2, none⟩ (.int .i64 (dk L k).1)).setCell ⟨base + 1, k * 2 + 1, none⟩ (.int .i64 (dk L k).2))).alloc (Nat.le_refl _) (.cells #[.int .i64 (dk L k).1, .int .i64 (dk L k).2, .slice (some ⟨gb k, 0, none⟩) (binN n (dk L k)) (binN n (dk L k))] 35)
      have R2 := hide (vrow_keep R1 (y1.block _ (vrow_lt R1)))
      have B2 := hide (B1.trans (y1.mono (by rw [World.size_setCell, World.size_setCell]; omega)))
      clear R1 B1 y1 hR hB
      generalize binN n (dk L k) = bn at *
      go_wp2_with fail
      exact ⟨⟨k + 1, by omega, by go_num, R2, B2⟩, by simp [intOf]; omega⟩
    · have e : k = K := by omega
      subst e
      have q1 : ((k : Int) < (k : Int)) = False := by simp
      have D1 : Hid (Dirs wr (some ⟨base + 1, 0, none⟩) (base + 1) 0 L) := by
        have := unhide hR
        rw [← unhide hK] at this
        exact dirs_row this
      have T1 : Hid (DirT wr (base + 1)) := by
        obtain ⟨cs, h1, _⟩ := unhide hR
        exact ⟨cs, h1⟩
      go_wp2_with fail
      go_ret
      refine ⟨base + 1, rfl, by rw [unhide hbase]; omega, unhide D1, unhide T1, by rw [unhide hbase]; exact unhide hB⟩
end Go.Proofs.Ytgbkfmjkemkajab
