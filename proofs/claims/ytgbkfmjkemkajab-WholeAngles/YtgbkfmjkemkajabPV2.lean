/- The library's Clone of complex numbers; package peel's own copy of the bins. -/
import Derived.Test.YtgbkfmjkemkajabPV1
namespace Go.Proofs.Ytgbkfmjkemkajab
open Go.RowKit Go.Shelf
attribute [local go_sem] storeCx

theorem not_nil (a : Addr) (m c : Nat) (w : World) : (binOp .eql 33 (.slice (some a) m c) (.slice none 0 0)).run Try.prog w = .ok (.bool false) w := by kernel_rfl

def cxXs (f : Nat → Nat × Nat) (m : Nat) : List Value := xsF (fun j => .complex .f64 (f j).1 (f j).2) m

set_option maxRecDepth 100000 in
set_option maxHeartbeats 1600000 in
theorem cloneOk {gs m c : Nat} {f : Nat → Nat × Nat} (h1 : 1 ≤ m) (hm : m ≤ 2017) (w : World) (h : VRow w 32 gs m (fun j => .complex .f64 (f j).1 (f j).2)) :
    Calls Try.prog 37 #[.slice (some ⟨gs, 0, none⟩) m c] w fun e w' => ∃ g' c', e = .returned (.slice (some ⟨g', 0, none⟩) m c') ∧ w.heap.size ≤ g' ∧ VRow w' 32 g' m (fun j => .complex .f64 (f j).1 (f j).2) ∧ Below w.heap.size w w' := by
  obtain ⟨i2, hi2, hx0, hx1, hx2⟩ := info_parts infoCx
  have hlt := vrow_lt h
  have y1 := (Below.refl w.heap.size w).alloc (Nat.le_refl _) (.cells #[] 32)
  have R1 := vrow_keep h (y1.block _ hlt)
  have own0 : (w.alloc (.cells #[] 32)).ownsRow w.heap.size 32 1 (.slice (some ⟨w.heap.size, 0, none⟩) 0 0) 0 [] := ⟨rfl, Or.inr ⟨w.heap.size, 0, #[], rfl, Nat.le_refl _, heap_alloc_new w _, Nat.le_refl _, Nat.zero_le _, rfl, rfl⟩⟩
  have hnews : Hid (∀ j u, (cxXs f m)[j]? = some u → (w.alloc (.cells #[] 32)).cell? ((⟨gs, 0, none⟩ : Addr).add j) = some u) := fun j u hu => by
    have hj : j < m := by
      have := (List.getElem?_eq_some_iff.1 hu).1
      rw [cxXs, xsF_len] at this
      exact this
    rw [addr_add, vrow_at R1 hj]
    unfold cxXs at hu
    rw [xsF_at _ hj] at hu
    exact hu
  have h1c : Hid (∀ u ∈ cxXs f m, u.oneCell' = true) := fun u hu => by
    unfold cxXs xsF at hu
    obtain ⟨j, _, rfl⟩ := List.mem_map.1 hu
    rfl
  have hl : (cxXs f m).length = m * 1 := by rw [cxXs, xsF_len, Nat.mul_one]
  have y1 := hide y1
  have hnn := not_nil ⟨gs, 0, none⟩ m c
  clear h R1
  go_enter Try.func37, Try.ntmps37
  go_wp2_with (first
    | (at_builtin; refine wpList_append_own_at _ rfl (.tmp 5) (.tmp 6) 33 rfl w.heap.size 32 i2 (.complex .f64 0 0) 1 16 Try.underlying33 hi2 hx0 hx1 hx2 rfl (by decide) _ _ _ rfl own0 ⟨gs, 0, none⟩ m c (cxXs f m) rfl hl (unhide hnews) (unhide h1c) ?c3 ?c4 ?c5 ?_))
  case c3 => unfold maxLen; omega
  case c4 => omega
  case c5 => rw [World.size_alloc]; omega
  intro v' w5 hown' hgrow _ hat
  have hown2 := hown'
  have hb5 : Below w.heap.size w w5 := (unhide y1).grown hgrow (by rw [World.size_alloc]; omega) (fun q hq => by
    have : q = w.heap.size := by simpa [Value.ownBlock] using hq.symm
    omega)
  rcases hown2.2 with ⟨_, h0⟩ | ⟨g', c', cur, rfl, hg', hh, hn, hc, hs, ht⟩
  · omega
  have R5 : Hid (VRow w5 32 g' m (fun j => .complex .f64 (f j).1 (f j).2)) := by
    refine ⟨cur, hh, by omega, fun i hi => ?_⟩
    have h3 := xsF_at (fun j => Value.complex .f64 (f j).1 (f j).2) hi
    show cur[i]? = _
    have e : cxXs f m = xsF (fun j => .complex .f64 (f j).1 (f j).2) m := rfl
    rw [← e, ← ht, List.getElem?_take, if_pos (by omega)] at h3
    simpa using h3
  have B5 := hide hb5
  clear hown' hown2 hgrow hat hh hs ht hb5
  go_wp2_with fail
  go_ret
  exact ⟨g', c', rfl, hg', unhide R5, unhide B5⟩

def rsX (n : Nat) (L : List (Int × Int)) (gr cr : Nat → Nat) (i : Nat) : Value := .slice (some ⟨gr i, 0, none⟩) (binN n (dk L i)) (cr i)
/-- The bins' copies. -/
structure Rs (base : Nat) (w : World) (n : Nat) (L : List (Int × Int)) (v : Value) (k : Nat) (gr cr : Nat → Nat) (z : Nat → Nat → Nat × Nat) : Prop where
  own : w.ownsRow 0 33 1 v k (xsF (rsX n L gr cr) k)
  row : ∀ i, i < k → VRow w 32 (gr i) (binN n (dk L i)) (fun j => .complex .f64 (z i j).1 (z i j).2)
  inj : ∀ i j, i < k → j < k → gr i = gr j → i = j
  ne : ∀ i, i < k → v.ownBlock ≠ some (gr i)
  geR : ∀ i, i < k → base ≤ gr i
  geV : ∀ q, v.ownBlock = some q → base ≤ q

theorem Rs.below {base : Nat} {w w' : World} {n : Nat} {L : List (Int × Int)} {v : Value} {k : Nat} {gr cr : Nat → Nat} {z : Nat → Nat → Nat × Nat} (h : Rs base w n L v k gr cr z) (hb : Below w.heap.size w w') : Rs base w' n L v k gr cr z :=
  ⟨own_keep h.own (fun q hq => hb.block q (own_ltB h.own hq)), fun i hi => vrow_keep (h.row i hi) (hb.block _ (vrow_lt (h.row i hi))), h.inj, h.ne, h.geR, h.geV⟩

theorem Rs.app {base : Nat} {w w1 w' : World} {n : Nat} {L : List (Int × Int)} {v v' : Value} {k : Nat} {gr cr : Nat → Nat} {z : Nat → Nat → Nat × Nat} (h : Rs base w n L v k gr cr z) (hbase : base ≤ w.heap.size) (hb : Below w.heap.size w w1) {q c : Nat} (hq : w.heap.size ≤ q)
    (hrow : VRow w1 32 q (binN n (dk L k)) (fun j => .complex .f64 (z k j).1 (z k j).2)) (hown : w'.ownsRow 0 33 1 v' (k + 1) (xsF (rsX n L gr cr) k ++ [.slice (some ⟨q, 0, none⟩) (binN n (dk L k)) c])) (hg : w1.grownBy w' v.ownBlock) (hat : v'.ownBlock = v.ownBlock ∨ v'.ownBlock = some w1.heap.size) :
    Rs base w' n L v' (k + 1) (updP gr k q) (updP cr k c) z := by
  have hvl : ∀ x, v.ownBlock = some x → x < w.heap.size := fun x hx => own_ltB h.own hx
  have hq1 := vrow_lt hrow
  have kp : ∀ i, i < k → w'.heap[gr i]? = w.heap[gr i]? := fun i hi => by
    have hl := vrow_lt (h.row i hi)
    exact (hg.block _ (Nat.lt_of_lt_of_le hl hb.size) (fun e => h.ne i hi e.symm)).trans (hb.block _ hl)
  have kq : w'.heap[q]? = w1.heap[q]? := hg.block q hq1 (fun e => by have := hvl q e.symm; omega)
  refine ⟨?_, fun i hi => ?_, fun i j hi hj e => ?_, fun i hi e => ?_, fun i hi => ?_, fun x hx => ?_⟩
  · have e : xsF (rsX n L (updP gr k q) (updP cr k c)) (k + 1) = xsF (rsX n L gr cr) k ++ [.slice (some ⟨q, 0, none⟩) (binN n (dk L k)) c] := by
      rw [xsF_snoc (f := rsX n L gr cr) (fun i hi => by unfold rsX; rw [updP_ne _ _ (by omega), updP_ne _ _ (by omega)])]
      unfold rsX
      rw [updP_at, updP_at]
    rw [e]
    exact hown
  · by_cases c1 : i = k
    · subst c1
      rw [updP_at]
      exact vrow_keep hrow kq
    · rw [updP_ne _ _ c1]
      exact vrow_keep (h.row i (by omega)) (kp i (by omega))
  · by_cases c1 : i = k
    · by_cases c2 : j = k
      · omega
      · rw [c1, updP_at, updP_ne _ _ c2] at e
        have := vrow_lt (h.row j (by omega))
        omega
    · by_cases c2 : j = k
      · rw [c2, updP_at, updP_ne _ _ c1] at e
        have := vrow_lt (h.row i (by omega))
        omega
      · rw [updP_ne _ _ c1, updP_ne _ _ c2] at e
        exact h.inj i j (by omega) (by omega) e
  · by_cases c1 : i = k
    · rw [c1, updP_at] at e
      rcases hat with ha | ha
      · have := hvl q (ha ▸ e); omega
      · rw [ha] at e
        have : w1.heap.size = q := by simpa using e
        omega
    · rw [updP_ne _ _ c1] at e
      rcases hat with ha | ha
      · exact h.ne i (by omega) (ha ▸ e)
      · rw [ha] at e
        have e : w1.heap.size = gr i := by simpa using e
        have := vrow_lt (h.row i (by omega))
        have := hb.size
        omega
  · by_cases c1 : i = k
    · rw [c1, updP_at]; omega
    · rw [updP_ne _ _ c1]; exact h.geR i (by omega)
  · rcases hat with ha | ha
    · exact h.geV x (ha ▸ hx)
    · rw [ha] at hx
      have hx : w1.heap.size = x := by simpa using hx
      have := hb.size
      omega

set_option maxRecDepth 100000 in
set_option maxHeartbeats 3200000 in
theorem restsOk {n : Nat} {L : List (Int × Int)} {gp cap : Nat} {gb : Nat → Nat} {z : Nat → Nat → Nat × Nat} (h64 : n ≤ 64) (ho : ∀ d, d ∈ L → okD d.1 d.2 = true) (hL : L.length ≤ 64) (w : World) (h : SinoAt w n L gp gb z) :
    Calls Try.prog 15 #[.agg #[.int .i64 n, .slice (some ⟨gp, 0, none⟩) L.length cap]] w fun e w' => ∃ v gr cr, e = .returned v ∧ Rs w.heap.size w' n L v L.length gr cr z ∧ Below w.heap.size w w' := by
  obtain ⟨i4, hi4, hu0, hu1, hu2⟩ := info_parts infoLC
  have H := hide h
  have y2 := hide ((Below.refl w.heap.size w).alloc (Nat.le_refl _) (.cells #[.int .i64 n, .slice (some ⟨gp, 0, none⟩) L.length cap] 38))
  clear h
  go_enter Try.func15, Try.ntmps15
  go_wp2_with fail
  generalize w.alloc (.cells #[.int .i64 n, .slice (some ⟨gp, 0, none⟩) L.length cap] 38) = w2 at *
  obtain ⟨base, hbase⟩ : ∃ x, w.heap.size = x := ⟨_, rfl⟩
  rw [hbase] at y2
  replace hbase := hide hbase
  go_loopw [3, 9] (fun v kv wr => ∃ (k : Nat) (gr cr : Nat → Nat), k ≤ L.length ∧ kv = .int .i64 k ∧ Hid (Rs base wr n L v k gr cr z) ∧ Hid (Below base w wr)) (fun _ kv _ => L.length - (intOf kv).toNat)
  case atStart => exact ⟨0, fun _ => 0, fun _ => 0, Nat.zero_le _, rfl, ⟨World.ownsRow_nil _ _ _ _, fun i hi => by omega, fun i j hi => by omega, fun i hi => by omega, fun i hi => by omega, fun q hq => by cases hq⟩, y2⟩
  case round =>
    clear y2
    obtain ⟨k, gr, cr, hk, rfl, hR, hB⟩ := hrel
    by_cases hkL : k < L.length
    · have q1 : ((k : Int) < (L.length : Int)) = True := by simp; omega
      have hS := (unhide H).below (w' := wr) (by have := unhide hB; rw [← unhide hbase] at this; exact this)
      obtain ⟨p1, p2, p3⟩ := hS.proj k hkL
      have hbn := binN_le h64 (ho _ (dk_mem hkL))
      have hbn1 : 1 ≤ binN n (dk L k) := by unfold binN; omega
      have y1 := (Below.refl wr.heap.size wr).alloc (Nat.le_refl _) (.cells #[.int .i64 (dk L k).1, .int .i64 (dk L k).2, .slice (some ⟨gb k, 0, none⟩) (binN n (dk L k)) (binN n (dk L k))] 35)
      have k1 := hide (cloneOk (c := binN n (dk L k)) (f := z k) hbn1 hbn _ ((hS.below y1).bins k hkL))
      have R1 := hide ((unhide hR).below y1)
      have B1 := hide ((unhide hB).trans (y1.mono (by have h1 := (unhide hB).size; have h2 := unhide hbase; omega)))
      clear hS y1 hR hB
      go_wp2_with fail
      generalize wr.alloc (.cells #[.int .i64 (dk L k).1, .int .i64 (dk L k).2, .slice (some ⟨gb k, 0, none⟩) (binN n (dk L k)) (binN n (dk L k))] 35) = w3 at *
      refine (unhide k1).mono ?_
      rintro e w4 ⟨q, c, rfl, hq, hrow, hb4⟩
      have hs3 : base ≤ w3.heap.size := by have h1 := (unhide B1).size; have h2 := unhide hbase; omega
      have y5 := (Below.refl w4.heap.size w4).alloc (Nat.le_refl _) (.cells #[.slice (some ⟨q, 0, none⟩) (binN n (dk L k)) c] 33)
      have hb5 := hb4.trans (y5.mono hb4.size)
      have hrow5 := hide (vrow_keep hrow (y5.block _ (vrow_lt hrow)))
      have own5 := own_keep (unhide R1).own (fun x hx => hb5.block x (own_ltB (unhide R1).own hx))
      have hb5 := hide hb5
      have hsz5 : w4.heap.size + 1 = (w4.alloc (.cells #[.slice (some ⟨q, 0, none⟩) (binN n (dk L k)) c] 33)).heap.size := by rw [World.size_alloc]
      clear k1 p1 p2 p3 hrow hb4 y5
      go_wp2_with (first
        | (at_builtin; refine wpList_append_own_at _ rfl (.tmp 13) (.tmp 17) 53 rfl 0 33 i4 (.slice none 0 0) 1 24 Try.underlying53 hi4 hu0 hu1 hu2 rfl (by decide) _ _ _ rfl own5 ⟨w4.heap.size, 0, none⟩ 1 1 [.slice (some ⟨q, 0, none⟩) (binN n (dk L k)) c] rfl rfl (cell_one_new _ _ _) ?c2 ?c3 ?c4 ?c5 ?_))
      case c2 => intro u hu; simp at hu; subst hu; rfl
      case c3 => unfold maxLen; omega
      case c4 => omega
      case c5 => exact Nat.zero_le _
      intro v' w6 hown' hgrow _ hat
      have R6 := hide ((unhide R1).app hs3 (unhide hb5) hq (unhide hrow5) hown' hgrow hat)
      have B6 := hide (((unhide B1).trans ((unhide hb5).mono hs3)).grown hgrow (by have := (unhide hb5).size; omega) (fun x hx => (unhide R1).geV x hx))
      obtain ⟨qv, cv, rfl⟩ := own_slice hown'
      clear hown' hgrow hat own5 R1 B1 hb5 hrow5
      go_wp2_with fail
      exact ⟨⟨k + 1, _, _, by omega, by go_num, R6, B6⟩, by simp [intOf]; omega⟩
    · have e : k = L.length := by omega
      subst e
      have q1 : ((L.length : Int) < (L.length : Int)) = False := by simp
      go_wp2_with fail
      go_ret
      exact ⟨_, gr, cr, rfl, by rw [unhide hbase]; exact unhide hR, by rw [unhide hbase]; exact unhide hB⟩
end Go.Proofs.Ytgbkfmjkemkajab
