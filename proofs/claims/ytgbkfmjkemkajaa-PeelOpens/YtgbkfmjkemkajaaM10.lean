/- A sound sino in memory; its directions. The library's Clone of complex numbers; package peel's own copy of the bins. -/
import Derived.Test.YtgbkfmjkemkajaaPM6b
namespace Go.Proofs.Ytgbkfmjkemkajaa
open Go.RowKit Go.Shelf

/-- Projections of whole numbers z k j. -/
structure SinoAt (w : World) (n : Nat) (L : List (Int × Int)) (gp : Nat) (gb : Nat → Nat) (z : Nat → Nat → Nat × Nat) : Prop where
  lt : gp < w.heap.size
  proj : ∀ k, k < L.length → w.cell? ⟨gp, k * 3, none⟩ = some (.int .i64 (dk L k).1) ∧ w.cell? ⟨gp, k * 3 + 1, none⟩ = some (.int .i64 (dk L k).2) ∧ w.cell? ⟨gp, k * 3 + 2, none⟩ = some (.slice (some ⟨gb k, 0, none⟩) (binN n (dk L k)) (binN n (dk L k)))
  bins : ∀ k, k < L.length → VRow w 38 (gb k) (binN n (dk L k)) (fun j => .complex .f64 (z k j).1 (z k j).2)
theorem SinoAt.below {w w' : World} {n : Nat} {L : List (Int × Int)} {gp : Nat} {gb : Nat → Nat} {z : Nat → Nat → Nat × Nat} (h : SinoAt w n L gp gb z) (hb : Below w.heap.size w w') : SinoAt w' n L gp gb z := by
  refine ⟨Nat.lt_of_lt_of_le h.lt hb.size, fun k hk => ?_, fun k hk => vrow_keep (h.bins k hk) (hb.block _ (vrow_lt (h.bins k hk)))⟩
  obtain ⟨h1, h2, h3⟩ := h.proj k hk
  exact ⟨(hb.cell (p := ⟨gp, k * 3, none⟩) h.lt).trans h1, (hb.cell (p := ⟨gp, k * 3 + 1, none⟩) h.lt).trans h2, (hb.cell (p := ⟨gp, k * 3 + 2, none⟩) h.lt).trans h3⟩

theorem infoDirZ : (Try.prog.info? 35).map (fun i => (i.zero, i.size, i.bytes)) = some (some (.agg #[.int .i64 0, .int .i64 0]), 2, 16) := by kernel_rfl
theorem run_make_dirs (m : Nat) (hm : m ≤ 64) (W : World) : (Instr.makeSlice 22 (.int .i64 (m : Nat)) (.int .i64 (m : Nat))).run Try.prog W = .ok (.slice (some ⟨W.heap.size, 0, none⟩) m m) (W.alloc (.cells (madeCells #[.int .i64 0, .int .i64 0] (m * 2)) 35)) := by
  obtain ⟨i, hi, hz, hs, hb⟩ := info_parts infoDirZ
  have hr := run_make (P := Try.prog) W 22 35 i _ Try.underlying22 hi hz .i64 .i64 m m (by omega) (Int.le_refl _) (by rw [hb]; omega) (by omega)
  simp only [Int.toNat_natCast, hs] at hr
  exact hr
theorem made_dirs (W : World) (m : Nat) : VRow (W.alloc (.cells (madeCells #[.int .i64 0, .int .i64 0] (m * 2)) 35)) 35 W.heap.size (m * 2) (fun _ => .int .i64 0) := by
  refine ⟨_, heap_alloc_new W _, by rw [size_madeCells]; omega, fun i hi => ?_⟩
  have h2 : i % 2 = 0 ∨ i % 2 = 1 := by omega
  rcases h2 with h2 | h2 <;> simp [madeCells, hi, h2]

/-- The first k directions, one behind the other. -/
def dirF (L : List (Int × Int)) (k c : Nat) : Value := if c / 2 < k then (if c % 2 = 0 then .int .i64 (dk L (c / 2)).1 else .int .i64 (dk L (c / 2)).2) else .int .i64 0
theorem dirs_row {w : World} {L : List (Int × Int)} {g : Nat} (h : VRow w 35 g (L.length * 2) (dirF L L.length)) : Dirs w (some ⟨g, 0, none⟩) g 0 L := by
  refine ⟨fun _ => ⟨rfl, vrow_lt h⟩, fun i c hi => ?_⟩
  have hl := (List.getElem?_eq_some_iff.1 hi).1
  have e : dk L i = c := by
    have := dk_at hl
    rw [hi] at this
    exact (Option.some.inj this).symm
  have h1 := vrow_at h (i := i * 2) (by omega)
  have h2 := vrow_at h (i := i * 2 + 1) (by omega)
  unfold dirF at h1 h2
  rw [show i * 2 / 2 = i by omega, if_pos hl, if_pos (by omega), e] at h1
  rw [show (i * 2 + 1) / 2 = i by omega, if_pos hl, if_neg (by omega), e] at h2
  rw [Nat.zero_add]
  exact ⟨h1, h2⟩
theorem dirF_set {w : World} {L : List (Int × Int)} {g k m : Nat} (h : VRow w 35 g m (dirF L k)) : VRow ((w.setCell ⟨g, k * 2, none⟩ (.int .i64 (dk L k).1)).setCell ⟨g, k * 2 + 1, none⟩ (.int .i64 (dk L k).2)) 35 g m (dirF L (k + 1)) := by
  refine vrow_ext (vrow_set (vrow_set h (k * 2) _) (k * 2 + 1) _) fun c _ => ?_
  unfold dirF
  by_cases e1 : c = k * 2 + 1
  · rw [if_pos e1, if_pos (by omega), if_neg (by omega), show c / 2 = k by omega]
  · rw [if_neg e1]
    by_cases e2 : c = k * 2
    · rw [if_pos e2, if_pos (by omega), if_pos (by omega), show c / 2 = k by omega]
    · rw [if_neg e2]
      by_cases e3 : c / 2 < k
      · rw [if_pos e3, if_pos (by omega)]
      · rw [if_neg e3, if_neg (by omega)]

/-- A block of directions. -/
def DirT (w : World) (g : Nat) : Prop := ∃ cs, w.heap[g]? = some (.cells cs 35 (0, 0))
theorem DirT.below {w w' : World} {g : Nat} (h : DirT w g) (hb : Below w.heap.size w w') : DirT w' g := by
  obtain ⟨cs, h⟩ := h
  exact ⟨cs, (hb.block _ (Array.getElem?_eq_some_iff.1 h).1).trans h⟩

set_option maxRecDepth 100000 in
set_option maxHeartbeats 3200000 in
theorem sinoDirs {n : Nat} {L : List (Int × Int)} {gp cap : Nat} {gb : Nat → Nat} {z : Nat → Nat → Nat × Nat} (hL : L.length ≤ 64) (w : World) (h : SinoAt w n L gp gb z) :
    Calls Try.prog 26 #[.agg #[.int .i64 n, .slice (some ⟨gp, 0, none⟩) L.length cap]] w fun e w' => ∃ g', e = .returned (.slice (some ⟨g', 0, none⟩) L.length L.length) ∧ w.heap.size ≤ g' ∧ Dirs w' (some ⟨g', 0, none⟩) g' 0 L ∧ DirT w' g' ∧ Below w.heap.size w w' := by
  have H := hide h
  have hmk := fun W => run_make_dirs L.length hL W
  obtain ⟨K, hK⟩ : ∃ K, L.length = K := ⟨_, rfl⟩
  rw [hK] at hmk hL
  have y2 := hide (((Below.refl w.heap.size w).alloc (Nat.le_refl _) (.cells #[.int .i64 n, .slice (some ⟨gp, 0, none⟩) K cap] 44)).alloc (by rw [World.size_alloc]; omega) (.cells (madeCells #[.int .i64 0, .int .i64 0] (K * 2)) 35))
  have R0 := hide (made_dirs (w.alloc (.cells #[.int .i64 n, .slice (some ⟨gp, 0, none⟩) K cap] 44)) K)
  rw [World.size_alloc] at R0
  rw [hK]
  replace hK := hide hK
  clear h
  go_enter Try.func26, Try.ntmps26
  go_wp2_with fail
  generalize (w.alloc (.cells #[.int .i64 n, .slice (some ⟨gp, 0, none⟩) K cap] 44)).alloc (.cells (madeCells #[.int .i64 0, .int .i64 0] (K * 2)) 35) = w2 at *
  clear hmk
  obtain ⟨base, hbase⟩ : ∃ x, w.heap.size = x := ⟨_, rfl⟩
  have hgp : gp < base := by rw [← hbase]; exact (unhide H).lt
  rw [hbase] at R0 y2
  replace hbase := hide hbase
  have hgd : w.heap.size + 1 = base + 1 := by rw [unhide hbase]
  rw [hgd]
  clear hgd
  go_loopw [13] (fun kv wr => ∃ k : Nat, k ≤ K ∧ kv = .int .i64 k ∧ Hid (VRow wr 35 (base + 1) (K * 2) (dirF L k)) ∧ Hid (Below base w wr)) (fun kv _ => K - (intOf kv).toNat)
  case atStart => exact ⟨0, Nat.zero_le _, rfl, vrow_ext (unhide R0) (fun c _ => by unfold dirF; rw [if_neg (by omega)]), y2⟩
  case round =>
    clear R0 y2
    obtain ⟨k, hk, rfl, hR, hB⟩ := hrel
    by_cases hkK : k < K
    · have q1 : ((k : Int) < (K : Int)) = True := by simp; omega
      have hkL : k < L.length := by rw [unhide hK]; exact hkK
      have hS := (unhide H).below (w' := wr) (by have := unhide hB; rw [← unhide hbase] at this; exact this)
      obtain ⟨p1, p2, p3⟩ := hS.proj k hkL
      have hle : base + 1 < wr.heap.size := vrow_lt (unhide hR)
      have hlg := hS.lt
      clear hS
      have c1 := vrow_at (unhide hR) (i := k * 2) (by omega)
      have c2 := vrow_at (unhide hR) (i := k * 2 + 1) (by omega)
      have f1 := vrow_frozen (unhide hR) (k * 2)
      have f2 := vrow_frozen (unhide hR) (k * 2 + 1)
      have R1 := dirF_set (unhide hR)
      have B1 := ((unhide hB).setCell (p := ⟨base + 1, k * 2, none⟩) (Nat.le_succ _) (.int .i64 (dk L k).1)).setCell (p := ⟨base + 1, k * 2 + 1, none⟩) (Nat.le_succ _) (.int .i64 (dk L k).2)
      have y1 := (Below.refl _ ((wr.setCell ⟨base + 1, k * 2, none⟩ (.int .i64 (dk L k).1)).setCell ⟨base + 1, k * 2 + 1, none⟩ (.int .i64 (dk L k).2))).alloc (Nat.le_refl _) (.cells #[.int .i64 (dk L k).1, .int .i64 (dk L k).2, .slice (some ⟨gb k, 0, none⟩) (binN n (dk L k)) (binN n (dk L k))] 41)
      have R2 := hide (vrow_keep R1 (y1.block _ (vrow_lt R1)))
      have B2 := hide (B1.trans (y1.mono (by rw [World.size_setCell, World.size_setCell]; omega)))
      clear R1 B1 y1 hR hB
      generalize binN n (dk L k) = bn at *
      go_wp2_with fail
      exact ⟨⟨k + 1, by omega, by go_num, R2, B2⟩, by simp [intOf]; omega⟩
    · have e : k = K := by omega
      subst e
      have q1 : ((k : Int) < (k : Int)) = False := by simp
      have D1 : Hid (Dirs wr (some ⟨base + 1, 0, none⟩) (base + 1) 0 L) := by
        have := unhide hR
        rw [← unhide hK] at this
        exact dirs_row this
      have T1 : Hid (DirT wr (base + 1)) := by
        obtain ⟨cs, h1, _⟩ := unhide hR
        exact ⟨cs, h1⟩
      go_wp2_with fail
      go_ret
      refine ⟨base + 1, rfl, by rw [unhide hbase]; omega, unhide D1, unhide T1, by rw [unhide hbase]; exact unhide hB⟩
end Go.Proofs.Ytgbkfmjkemkajaa

namespace Go.Proofs.Ytgbkfmjkemkajaa
open Go.RowKit Go.Shelf
attribute [local go_sem] storeCx

theorem not_nil (a : Addr) (m c : Nat) (w : World) : (binOp .eql 39 (.slice (some a) m c) (.slice none 0 0)).run Try.prog w = .ok (.bool false) w := by kernel_rfl

def cxXs (f : Nat → Nat × Nat) (m : Nat) : List Value := xsF (fun j => .complex .f64 (f j).1 (f j).2) m

set_option maxRecDepth 100000 in
set_option maxHeartbeats 1600000 in
theorem cloneOk {gs m c : Nat} {f : Nat → Nat × Nat} (h1 : 1 ≤ m) (hm : m ≤ 2017) (w : World) (h : VRow w 38 gs m (fun j => .complex .f64 (f j).1 (f j).2)) :
    Calls Try.prog 53 #[.slice (some ⟨gs, 0, none⟩) m c] w fun e w' => ∃ g' c', e = .returned (.slice (some ⟨g', 0, none⟩) m c') ∧ w.heap.size ≤ g' ∧ VRow w' 38 g' m (fun j => .complex .f64 (f j).1 (f j).2) ∧ Below w.heap.size w w' := by
  obtain ⟨i2, hi2, hx0, hx1, hx2⟩ := info_parts infoCx
  have hlt := vrow_lt h
  have y1 := (Below.refl w.heap.size w).alloc (Nat.le_refl _) (.cells #[] 38)
  have R1 := vrow_keep h (y1.block _ hlt)
  have own0 : (w.alloc (.cells #[] 38)).ownsRow w.heap.size 38 1 (.slice (some ⟨w.heap.size, 0, none⟩) 0 0) 0 [] := ⟨rfl, Or.inr ⟨w.heap.size, 0, #[], rfl, Nat.le_refl _, heap_alloc_new w _, Nat.le_refl _, Nat.zero_le _, rfl, rfl⟩⟩
  have hnews : Hid (∀ j u, (cxXs f m)[j]? = some u → (w.alloc (.cells #[] 38)).cell? ((⟨gs, 0, none⟩ : Addr).add j) = some u) := fun j u hu => by
    have hj : j < m := by
      have := (List.getElem?_eq_some_iff.1 hu).1
      rw [cxXs, xsF_len] at this
      exact this
    rw [addr_add, vrow_at R1 hj]
    unfold cxXs at hu
    rw [xsF_at _ hj] at hu
    exact hu
  have h1c : Hid (∀ u ∈ cxXs f m, u.oneCell' = true) := fun u hu => by
    unfold cxXs xsF at hu
    obtain ⟨j, _, rfl⟩ := List.mem_map.1 hu
    rfl
  have hl : (cxXs f m).length = m * 1 := by rw [cxXs, xsF_len, Nat.mul_one]
  have y1 := hide y1
  have hnn := not_nil ⟨gs, 0, none⟩ m c
  clear h R1
  go_enter Try.func53, Try.ntmps53
  go_wp2_with (first
    | (at_builtin; refine wpList_append_own_at _ rfl (.tmp 5) (.tmp 6) 39 rfl w.heap.size 38 i2 (.complex .f64 0 0) 1 16 Try.underlying39 hi2 hx0 hx1 hx2 rfl (by decide) _ _ _ rfl own0 ⟨gs, 0, none⟩ m c (cxXs f m) rfl hl (unhide hnews) (unhide h1c) ?c3 ?c4 ?c5 ?_))
  case c3 => unfold maxLen; omega
  case c4 => omega
  case c5 => rw [World.size_alloc]; omega
  intro v' w5 hown' hgrow _ hat
  have hown2 := hown'
  have hb5 : Below w.heap.size w w5 := (unhide y1).grown hgrow (by rw [World.size_alloc]; omega) (fun q hq => by
    have : q = w.heap.size := by simpa [Value.ownBlock] using hq.symm
    omega)
  rcases hown2.2 with ⟨_, h0⟩ | ⟨g', c', cur, rfl, hg', hh, hn, hc, hs, ht⟩
  · omega
  have R5 : Hid (VRow w5 38 g' m (fun j => .complex .f64 (f j).1 (f j).2)) := by
    refine ⟨cur, hh, by omega, fun i hi => ?_⟩
    have h3 := xsF_at (fun j => Value.complex .f64 (f j).1 (f j).2) hi
    show cur[i]? = _
    have e : cxXs f m = xsF (fun j => .complex .f64 (f j).1 (f j).2) m := rfl
    rw [← e, ← ht, List.getElem?_take, if_pos (by omega)] at h3
    simpa using h3
  have B5 := hide hb5
  clear hown' hown2 hgrow hat hh hs ht hb5
  go_wp2_with fail
  go_ret
  exact ⟨g', c', rfl, hg', unhide R5, unhide B5⟩

def rsX (n : Nat) (L : List (Int × Int)) (gr cr : Nat → Nat) (i : Nat) : Value := .slice (some ⟨gr i, 0, none⟩) (binN n (dk L i)) (cr i)
/-- The bins' copies. -/
structure Rs (base : Nat) (w : World) (n : Nat) (L : List (Int × Int)) (v : Value) (k : Nat) (gr cr : Nat → Nat) (z : Nat → Nat → Nat × Nat) : Prop where
  own : w.ownsRow 0 39 1 v k (xsF (rsX n L gr cr) k)
  row : ∀ i, i < k → VRow w 38 (gr i) (binN n (dk L i)) (fun j => .complex .f64 (z i j).1 (z i j).2)
  inj : ∀ i j, i < k → j < k → gr i = gr j → i = j
  ne : ∀ i, i < k → v.ownBlock ≠ some (gr i)
  geR : ∀ i, i < k → base ≤ gr i
  geV : ∀ q, v.ownBlock = some q → base ≤ q

theorem Rs.below {base : Nat} {w w' : World} {n : Nat} {L : List (Int × Int)} {v : Value} {k : Nat} {gr cr : Nat → Nat} {z : Nat → Nat → Nat × Nat} (h : Rs base w n L v k gr cr z) (hb : Below w.heap.size w w') : Rs base w' n L v k gr cr z :=
  ⟨own_keep h.own (fun q hq => hb.block q (own_ltB h.own hq)), fun i hi => vrow_keep (h.row i hi) (hb.block _ (vrow_lt (h.row i hi))), h.inj, h.ne, h.geR, h.geV⟩

theorem Rs.app {base : Nat} {w w1 w' : World} {n : Nat} {L : List (Int × Int)} {v v' : Value} {k : Nat} {gr cr : Nat → Nat} {z : Nat → Nat → Nat × Nat} (h : Rs base w n L v k gr cr z) (hbase : base ≤ w.heap.size) (hb : Below w.heap.size w w1) {q c : Nat} (hq : w.heap.size ≤ q)
    (hrow : VRow w1 38 q (binN n (dk L k)) (fun j => .complex .f64 (z k j).1 (z k j).2)) (hown : w'.ownsRow 0 39 1 v' (k + 1) (xsF (rsX n L gr cr) k ++ [.slice (some ⟨q, 0, none⟩) (binN n (dk L k)) c])) (hg : w1.grownBy w' v.ownBlock) (hat : v'.ownBlock = v.ownBlock ∨ v'.ownBlock = some w1.heap.size) :
    Rs base w' n L v' (k + 1) (updP gr k q) (updP cr k c) z := by
  have hvl : ∀ x, v.ownBlock = some x → x < w.heap.size := fun x hx => own_ltB h.own hx
  have hq1 := vrow_lt hrow
  have kp : ∀ i, i < k → w'.heap[gr i]? = w.heap[gr i]? := fun i hi => by
    have hl := vrow_lt (h.row i hi)
    exact (hg.block _ (Nat.lt_of_lt_of_le hl hb.size) (fun e => h.ne i hi e.symm)).trans (hb.block _ hl)
  have kq : w'.heap[q]? = w1.heap[q]? := hg.block q hq1 (fun e => by have := hvl q e.symm; omega)
  refine ⟨?_, fun i hi => ?_, fun i j hi hj e => ?_, fun i hi e => ?_, fun i hi => ?_, fun x hx => ?_⟩
  · have e : xsF (rsX n L (updP gr k q) (updP cr k c)) (k + 1) = xsF (rsX n L gr cr) k ++ [.slice (some ⟨q, 0, none⟩) (binN n (dk L k)) c] := by
      rw [xsF_snoc (f := rsX n L gr cr) (fun i hi => by unfold rsX; rw [updP_ne _ _ (by omega), updP_ne _ _ (by omega)])]
      unfold rsX
      rw [updP_at, updP_at]
    rw [e]
    exact hown
  · by_cases c1 : i = k
    · subst c1
      rw [updP_at]
      exact vrow_keep hrow kq
    · rw [updP_ne _ _ c1]
      exact vrow_keep (h.row i (by omega)) (kp i (by omega))
  · by_cases c1 : i = k
    · by_cases c2 : j = k
      · omega
      · rw [c1, updP_at, updP_ne _ _ c2] at e
        have := vrow_lt (h.row j (by omega))
        omega
    · by_cases c2 : j = k
      · rw [c2, updP_at, updP_ne _ _ c1] at e
        have := vrow_lt (h.row i (by omega))
        omega
      · rw [updP_ne _ _ c1, updP_ne _ _ c2] at e
        exact h.inj i j (by omega) (by omega) e
  · by_cases c1 : i = k
    · rw [c1, updP_at] at e
      rcases hat with ha | ha
      · have := hvl q (ha ▸ e); omega
      · rw [ha] at e
        have : w1.heap.size = q := by simpa using e
        omega
    · rw [updP_ne _ _ c1] at e
      rcases hat with ha | ha
      · exact h.ne i (by omega) (ha ▸ e)
      · rw [ha] at e
        have e : w1.heap.size = gr i := by simpa using e
        have := vrow_lt (h.row i (by omega))
        have := hb.size
        omega
  · by_cases c1 : i = k
    · rw [c1, updP_at]; omega
    · rw [updP_ne _ _ c1]; exact h.geR i (by omega)
  · rcases hat with ha | ha
    · exact h.geV x (ha ▸ hx)
    · rw [ha] at hx
      have hx : w1.heap.size = x := by simpa using hx
      have := hb.size
      omega

set_option maxRecDepth 100000 in
set_option maxHeartbeats 3200000 in
theorem restsOk {n : Nat} {L : List (Int × Int)} {gp cap : Nat} {gb : Nat → Nat} {z : Nat → Nat → Nat × Nat} (h64 : n ≤ 64) (ho : ∀ d, d ∈ L → okD d.1 d.2 = true) (hL : L.length ≤ 64) (w : World) (h : SinoAt w n L gp gb z) :
    Calls Try.prog 27 #[.agg #[.int .i64 n, .slice (some ⟨gp, 0, none⟩) L.length cap]] w fun e w' => ∃ v gr cr, e = .returned v ∧ Rs w.heap.size w' n L v L.length gr cr z ∧ Below w.heap.size w w' := by
  obtain ⟨i4, hi4, hu0, hu1, hu2⟩ := info_parts infoLC
  have H := hide h
  have y2 := hide ((Below.refl w.heap.size w).alloc (Nat.le_refl _) (.cells #[.int .i64 n, .slice (some ⟨gp, 0, none⟩) L.length cap] 44))
  clear h
  go_enter Try.func27, Try.ntmps27
  go_wp2_with fail
  generalize w.alloc (.cells #[.int .i64 n, .slice (some ⟨gp, 0, none⟩) L.length cap] 44) = w2 at *
  obtain ⟨base, hbase⟩ : ∃ x, w.heap.size = x := ⟨_, rfl⟩
  rw [hbase] at y2
  replace hbase := hide hbase
  go_loopw [3, 9] (fun v kv wr => ∃ (k : Nat) (gr cr : Nat → Nat), k ≤ L.length ∧ kv = .int .i64 k ∧ Hid (Rs base wr n L v k gr cr z) ∧ Hid (Below base w wr)) (fun _ kv _ => L.length - (intOf kv).toNat)
  case atStart => exact ⟨0, fun _ => 0, fun _ => 0, Nat.zero_le _, rfl, ⟨World.ownsRow_nil _ _ _ _, fun i hi => by omega, fun i j hi => by omega, fun i hi => by omega, fun i hi => by omega, fun q hq => by cases hq⟩, y2⟩
  case round =>
    clear y2
    obtain ⟨k, gr, cr, hk, rfl, hR, hB⟩ := hrel
    by_cases hkL : k < L.length
    · have q1 : ((k : Int) < (L.length : Int)) = True := by simp; omega
      have hS := (unhide H).below (w' := wr) (by have := unhide hB; rw [← unhide hbase] at this; exact this)
      obtain ⟨p1, p2, p3⟩ := hS.proj k hkL
      have hbn := binN_le h64 (ho _ (dk_mem hkL))
      have hbn1 : 1 ≤ binN n (dk L k) := by unfold binN; omega
      have y1 := (Below.refl wr.heap.size wr).alloc (Nat.le_refl _) (.cells #[.int .i64 (dk L k).1, .int .i64 (dk L k).2, .slice (some ⟨gb k, 0, none⟩) (binN n (dk L k)) (binN n (dk L k))] 41)
      have k1 := hide (cloneOk (c := binN n (dk L k)) (f := z k) hbn1 hbn _ ((hS.below y1).bins k hkL))
      have R1 := hide ((unhide hR).below y1)
      have B1 := hide ((unhide hB).trans (y1.mono (by have h1 := (unhide hB).size; have h2 := unhide hbase; omega)))
      clear hS y1 hR hB
      go_wp2_with fail
      generalize wr.alloc (.cells #[.int .i64 (dk L k).1, .int .i64 (dk L k).2, .slice (some ⟨gb k, 0, none⟩) (binN n (dk L k)) (binN n (dk L k))] 41) = w3 at *
      refine (unhide k1).mono ?_
      rintro e w4 ⟨q, c, rfl, hq, hrow, hb4⟩
      have hs3 : base ≤ w3.heap.size := by have h1 := (unhide B1).size; have h2 := unhide hbase; omega
      have y5 := (Below.refl w4.heap.size w4).alloc (Nat.le_refl _) (.cells #[.slice (some ⟨q, 0, none⟩) (binN n (dk L k)) c] 39)
      have hb5 := hb4.trans (y5.mono hb4.size)
      have hrow5 := hide (vrow_keep hrow (y5.block _ (vrow_lt hrow)))
      have own5 := own_keep (unhide R1).own (fun x hx => hb5.block x (own_ltB (unhide R1).own hx))
      have hb5 := hide hb5
      have hsz5 : w4.heap.size + 1 = (w4.alloc (.cells #[.slice (some ⟨q, 0, none⟩) (binN n (dk L k)) c] 39)).heap.size := by rw [World.size_alloc]
      clear k1 p1 p2 p3 hrow hb4 y5
      go_wp2_with (first
        | (at_builtin; refine wpList_append_own_at _ rfl (.tmp 13) (.tmp 17) 65 rfl 0 39 i4 (.slice none 0 0) 1 24 Try.underlying65 hi4 hu0 hu1 hu2 rfl (by decide) _ _ _ rfl own5 ⟨w4.heap.size, 0, none⟩ 1 1 [.slice (some ⟨q, 0, none⟩) (binN n (dk L k)) c] rfl rfl (cell_one_new _ _ _) ?c2 ?c3 ?c4 ?c5 ?_))
      case c2 => intro u hu; simp at hu; subst hu; rfl
      case c3 => unfold maxLen; omega
      case c4 => omega
      case c5 => exact Nat.zero_le _
      intro v' w6 hown' hgrow _ hat
      have R6 := hide ((unhide R1).app hs3 (unhide hb5) hq (unhide hrow5) hown' hgrow hat)
      have B6 := hide (((unhide B1).trans ((unhide hb5).mono hs3)).grown hgrow (by have := (unhide hb5).size; omega) (fun x hx => (unhide R1).geV x hx))
      obtain ⟨qv, cv, rfl⟩ := own_slice hown'
      clear hown' hgrow hat own5 R1 B1 hb5 hrow5
      go_wp2_with fail
      exact ⟨⟨k + 1, _, _, by omega, by go_num, R6, B6⟩, by simp [intOf]; omega⟩
    · have e : k = L.length := by omega
      subst e
      have q1 : ((L.length : Int) < (L.length : Int)) = False := by simp
      go_wp2_with fail
      go_ret
      exact ⟨_, gr, cr, rfl, by rw [unhide hbase]; exact unhide hR, by rw [unhide hbase]; exact unhide hB⟩
end Go.Proofs.Ytgbkfmjkemkajaa
