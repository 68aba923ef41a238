/- The walk of BoundKeeps. -/
import Derived.Test.YthdoophjcjlklaaCC
import Derived.Test.YthdoophjcjlklaaBY
namespace Go.Proofs.Ythdoophjcjlklaa
open Go.RowKit Go.Shelf

/-- All blocks lie as they lay but those named. -/
structure OffP (p : Nat → Prop) (w w' : World) : Prop where
  os : w'.os = w.os
  tape : w'.tape = w.tape
  output : w'.output = w.output
  size : w.heap.size ≤ w'.heap.size
  block : ∀ x, x < w.heap.size → ¬ p x → w'.heap[x]? = w.heap[x]?
theorem OffP.refl (p : Nat → Prop) (w : World) : OffP p w w := ⟨rfl, rfl, rfl, Nat.le_refl _, fun _ _ _ => rfl⟩
theorem OffP.trans {p : Nat → Prop} {a b c : World} (h : OffP p a b) (k : OffP p b c) : OffP p a c :=
  ⟨k.os.trans h.os, k.tape.trans h.tape, k.output.trans h.output, Nat.le_trans h.size k.size, fun i hi h1 => (k.block i (Nat.lt_of_lt_of_le hi h.size) h1).trans (h.block i hi h1)⟩
theorem OffP.wide {p q : Nat → Prop} {a b : World} (h : OffP p a b) (hq : ∀ x, p x → q x) : OffP q a b := ⟨h.os, h.tape, h.output, h.size, fun i hi hn => h.block i hi (fun e => hn (hq i e))⟩
theorem OffP.of_below {p : Nat → Prop} {w w' : World} (h : Below w.heap.size w w') : OffP p w w' := ⟨h.os, h.tape, h.output, h.size, fun i hi _ => h.block i hi⟩
theorem OffP.to {p : Nat → Prop} {B : Nat} {w w' : World} (h : OffP p w w') (hB : B ≤ w.heap.size) (hp : ∀ x, p x → B ≤ x) : Below B w w' := ⟨h.os, h.tape, h.output, h.size, fun i hi => h.block i (by omega) (fun e => by have := hp i e; omega)⟩
theorem OffP.grown {p : Nat → Prop} {w w' : World} {row : Option Nat} (h : w.grownBy w' row) (hp : ∀ k, row = some k → p k) : OffP p w w' := ⟨h.os, h.tape, h.output, h.size, fun i hi hn => h.block i hi (fun e => hn (hp i e.symm))⟩
theorem OffP.own {p : Nat → Prop} {w w' : World} {base : Nat} {v : Value} {n : Nat} {xs : List Value} (h : OffP p w w') (ho : w.ownsRow base 3 1 v n xs) (hp : ∀ g, v.ownBlock = some g → ¬ p g) : w'.ownsRow base 3 1 v n xs :=
  own_stay ho (fun b hb => h.block b (ho.lt b hb).2 (hp b hb))

theorem own_form {w : World} {base : Nat} {v : Value} {m : Nat} {xs : List Value} (h : w.ownsRow base 3 1 v m xs) : ∃ a c g, v = .slice a m c ∧ (0 < m → a = some ⟨g, 0, none⟩) := by
  rcases h.2 with ⟨rfl, h0⟩ | ⟨g, cap, cur, rfl, _⟩
  · exact ⟨none, 0, 0, by rw [h0], fun h => by omega⟩
  · exact ⟨_, cap, g, rfl, fun _ => rfl⟩

theorem newI_off {p : Nat → Prop} {base : Nat} {w w' : World} {v : Value} {L : List Int} (h : NewI base w v L) (hO : OffP p w w') (hp : ∀ g, base ≤ g → ¬ p g) : NewI base w' v L := by
  obtain ⟨a, g, cap, h1, h2, h3⟩ := h
  refine ⟨a, g, cap, h1, ⟨fun hl => ⟨(h2.at_ hl).1, Nat.lt_of_lt_of_le (h2.at_ hl).2 hO.size⟩, fun i c hi => ?_⟩, h3⟩
  have hl : 0 < L.length := by
    have := (List.getElem?_eq_some_iff.1 hi).1
    omega
  exact (World.cell?_of_block (w := w) (a := ⟨g, 0 + i, none⟩) (hO.block g (h2.at_ hl).2 (hp g (h3 hl)))).trans (h2.cell i c hi)
theorem ints_low {B : Nat} {w w' : World} {v : Value} {L : List Int} (h : Ints w v L) (hB : w.heap.size ≤ B) (hb : Below B w w') : Ints w' v L := ints_below h (hb.mono hB)

theorem copied_held {w1 W : World} {bk : Nat} {x y u : Value} {L : List Int} (hN : L.length * 8 ≤ 140737488351232) (h : W.cell? ⟨bk, 0, none⟩ = some x ∧ W.cell? ⟨bk, 1, none⟩ = some y ∧ Hid (Below w1.heap.size w1 W)) (hu : Hid (Ints w1 u L)) :
    Calls Try.prog 19 #[u] W fun e w' => ∃ x, e = .returned x ∧ NewI w1.heap.size w' x L ∧ Below W.heap.size W w' := by
  refine (copiedOk hN W (ints_below (unhide hu) (unhide h.2.2))).mono ?_
  rintro e w' ⟨x, rfl, ⟨a, g, c, h1, h2, h3⟩, hb⟩
  exact ⟨x, rfl, ⟨a, g, c, h1, h2, fun hl => Nat.le_trans (unhide h.2.2).size (h3 hl)⟩, hb⟩

theorem keep_end {w4 wr : World} {base gy cy m' nq j M g' c' : Nat} {ys zs : List Value} {Y : List Int} {p : Nat → Prop} (hO : wr.ownsRow base 3 1 (.slice (some ⟨gy, 0, none⟩) m' cy) m' ys) (hX : wr.ownsRow base 3 1 (.slice (some ⟨g', 0, none⟩) M c') M zs)
    (hnx : ∀ g, (Value.slice (some ⟨g', 0, none⟩) M c').ownBlock = some g → (Value.slice (some ⟨gy, 0, none⟩) m' cy).ownBlock ≠ some g) (hF : OffP (fun g => p g ∨ (Value.slice (some ⟨gy, 0, none⟩) m' cy).ownBlock = some g) w4 wr)
    (hY : ∀ k, j ≤ k → k < m' → ys[k]? = some (.int .i64 (Y.getD k 0))) :
    ((wr.drewN nq).setCell ⟨gy, j, none⟩ (.int .i64 (-8))).ownsRow base 3 1 (.slice (some ⟨gy, 0, none⟩) m' cy) m' (ys.set j (.int .i64 (-8))) ∧ (∀ k, j + 1 ≤ k → k < m' → (ys.set j (.int .i64 (-8)))[k]? = some (.int .i64 (Y.getD k 0))) ∧
      ((wr.drewN nq).setCell ⟨gy, j, none⟩ (.int .i64 (-8))).ownsRow base 3 1 (.slice (some ⟨g', 0, none⟩) M c') M zs ∧ OffP (fun g => p g ∨ (Value.slice (some ⟨gy, 0, none⟩) m' cy).ownBlock = some g) w4 ((wr.drewN nq).setCell ⟨gy, j, none⟩ (.int .i64 (-8))) := by
  have hO' : (wr.drewN nq).ownsRow base 3 1 (.slice (some ⟨gy, 0, none⟩) m' cy) m' ys := own_stay hO (fun _ _ => rfl)
  have hX' : (wr.drewN nq).ownsRow base 3 1 (.slice (some ⟨g', 0, none⟩) M c') M zs := own_stay hX (fun _ _ => rfl)
  have hF' : OffP (fun g => p g ∨ (Value.slice (some ⟨gy, 0, none⟩) m' cy).ownBlock = some g) w4 (wr.drewN nq) := ⟨hF.os, hF.tape, hF.output, hF.size, hF.block⟩
  have st := hO'.stored j (.int .i64 (-8))
  refine ⟨st.1, fun k h1 h2 => ?_, own_stay hX' (fun b hb => st.2.block b (hX'.lt b hb).2 (fun e => hnx b hb e.symm)), hF'.trans (OffP.grown st.2 (fun k hk => Or.inr hk))⟩
  rw [List.getElem?_set_ne (by omega)]
  exact hY k (by omega) h2

set_option maxRecDepth 100000 in
set_option maxHeartbeats 12800000 in
theorem keepsWalk {n : Int} {A B : List Int} {u v : Value} (lA : A.length * 8 ≤ 140737488351232) (lB : B.length * 8 ≤ 140737488351232) (w : World) (hu : Ints w u A) (hv : Ints w v B) :
    Calls Try.prog 6 #[.int .i64 n, .agg #[u, v]] w fun e w' => e = .returned (.bool true) ∧ Below w.heap.size w w' := by
  have hal := hide aliveOk
  have I1 := hide hu
  have I2 := hide hv
  have bx : Hid (Below w.heap.size w (w.alloc (.cells #[u, v] 24))) := (Below.refl _ _).alloc (Nat.le_refl _) _
  have bc : Hid (∀ W : World, Below (w.heap.size + 1) (w.alloc (.cells #[u, v] 24)) W → W.cell? ⟨w.heap.size, 0, none⟩ = some u ∧ W.cell? ⟨w.heap.size, 1, none⟩ = some v) := fun W h => by
    rw [h.cell (p := ⟨w.heap.size, 0, none⟩) (by simp), h.cell (p := ⟨w.heap.size, 1, none⟩) (by simp)]
    exact ⟨by simp [go_sem], by simp [go_sem]⟩
  have sz : Hid ((w.alloc (.cells #[u, v] 24)).heap.size = w.heap.size + 1) := by show _ = _; simp
  clear hu hv
  go_enter Try.func6, Try.ntmps6
  go_wp2_with fail
  generalize w.alloc (.cells #[u, v] 24) = w0 at *
  refine (unhide hal _).mono ?_
  rintro e w1 ⟨rfl, hb1⟩
  have B1 := hide hb1
  have B1' : Below (w.heap.size + 1) w0 w1 := by rw [← unhide sz]; exact hb1
  obtain ⟨x0, x1⟩ := unhide bc w1 B1'
  have J1 := hide (ints_below (ints_below (unhide I1) (unhide bx)) hb1)
  have J2 := hide (ints_below (ints_below (unhide I2) (unhide bx)) hb1)
  have S0 : w1.cell? ⟨w.heap.size, 0, none⟩ = some u ∧ w1.cell? ⟨w.heap.size, 1, none⟩ = some v ∧ Hid (Below w1.heap.size w1 w1) := ⟨x0, x1, Below.refl _ _⟩
  have hlt : w.heap.size < w1.heap.size := by have := B1'.size; have := unhide sz; have := hb1.size; omega
  clear hb1 B1' hal x0 x1
  go_wp2_with fail
  go_region_held3 (fun w8 => w8.cell? ⟨w.heap.size, 0, none⟩ = some u ∧ w8.cell? ⟨w.heap.size, 1, none⟩ = some v ∧ Hid (Below w1.heap.size w1 w8))
    (first | exact held_keep hlt (by assumption) (by assumption) | exact held_drew (by assumption) | exact S0 | exact held_drew S0 | go_keep)
    (first
    | (go_at_call 19; first
        | (with_reducible refine (copied_held (w1 := w1) lA (by assumption) J1).mono ?_
           rintro e v9 ⟨xlo, rfl, hlo, hx⟩
           have hlo := hide hlo
           have hx := hide hx)
        | (with_reducible refine (copied_held (w1 := w1) lB (by assumption) J2).mono ?_
           rintro e v9 ⟨xhi, rfl, hhi, hx⟩
           have hhi := hide hhi
           have hx := hide hx)))
  obtain ⟨z0, z1, hend⟩ : v9.cell? ⟨w.heap.size, 0, none⟩ = some u ∧ v9.cell? ⟨w.heap.size, 1, none⟩ = some v ∧ Hid (Below w1.heap.size w1 v9) := by assumption
  have LO := hide ((unhide hlo).below (unhide hx)).ints
  have HI := hide (unhide hhi).ints
  have hs1 : w0.heap.size ≤ w1.heap.size := (unhide B1).size
  have hs9 : w1.heap.size ≤ v9.heap.size := (unhide hend).size
  have B9 := hide ((unhide B1).trans ((unhide hend).mono hs1))
  have J1 := hide (ints_below (unhide J1) (unhide hend))
  have J2 := hide (ints_below (unhide J2) (unhide hend))
  have z0 := hide z0
  have z1 := hide z1
  have kR := hide (fun (W : World) (h1 : Ints W xlo A) (h2 : Ints W xhi B) => runAny n W h1 h2)
  have kF := hide (fun (W : World) (h1 : Ints W u A) (h2 : Ints W v B) => refAny n (by omega) (by omega) W h1 h2)
  have m256 := (out_len (n := n) (A := A) (B := B)).1
  have m256' : (outS n A B B).length ≤ 256 := by rw [(out_len (n := n) (A := A) (B := B)).2]; exact m256
  generalize outS n A B A = X at *
  generalize outS n A B B = Y at *
  generalize errS n A B = E at *
  clear hlo hhi hx hend B1 S0 I1 I2 bc
  go_wp2_with fail
  refine (unhide kR v9 (unhide LO) (unhide HI)).mono ?_
  rintro e w3 ⟨x, y, rfl, hO3, hb3⟩
  have hs3 : v9.heap.size ≤ w3.heap.size := hb3.size
  have J3 := hide (ints_below (unhide J1) hb3)
  have J4 := hide (ints_below (unhide J2) hb3)
  have y0 := (hb3.cell (p := ⟨w.heap.size, 0, none⟩) (by show w.heap.size < _; omega)).trans (unhide z0)
  have y1 := (hb3.cell (p := ⟨w.heap.size, 1, none⟩) (by show w.heap.size < _; omega)).trans (unhide z1)
  have O3 := hide hO3
  have B3 := hide hb3
  clear hb3 hO3
  go_wp2_with fail
  refine (unhide kF w3 (unhide J3) (unhide J4)).mono ?_
  rintro e w4 ⟨u2, v2, rfl, hu2, hv2, hb4⟩
  have hs4 : w3.heap.size ≤ w4.heap.size := hb4.size
  have lx := hide (unhide O3).ownx.lt
  have ly := hide (unhide O3).owny.lt
  have ap := hide (unhide O3).apart
  have OX := hide (own_stay (unhide O3).ownx (fun b hb => hb4.block b ((unhide O3).ownx.lt b hb).2))
  have OY := hide (own_stay (unhide O3).owny (fun b hb => hb4.block b ((unhide O3).owny.lt b hb).2))
  have B4 := hide ((unhide B3).trans (hb4.mono hs3))
  have U2 := hide hu2
  have V2 := hide hv2
  clear hb4 hu2 hv2 O3 B3 J3 J4 y0 y1 kF
  obtain ⟨ax, cx, gx, rfl, hax⟩ := own_form (unhide OX)
  obtain ⟨ay, cy, gy, rfl, hay⟩ := own_form (unhide OY)
  obtain ⟨av, gv, cv, rfl, iv, bv⟩ := unhide V2
  have iva := hide iv.at_
  have ivc := hide (fun i (hi : i < Y.length) => iv.get hi)
  have bv := hide bv
  have hax := hide hax
  have hay := hide hay
  clear iv V2
  have OY' : Hid (∃ ys, w4.ownsRow v9.heap.size 3 1 (.slice ay Y.length cy) Y.length ys ∧ ∀ k, k < Y.length → ys[k]? = some (.int .i64 (Y.getD k 0))) := ⟨_, unhide OY, fun k hk => intsV_get hk⟩
  have OX' : Hid (∃ xs, w4.ownsRow v9.heap.size 3 1 (.slice ax X.length cx) X.length xs) := ⟨_, unhide OX⟩
  clear OX OY
  generalize hmX : X.length = m at *
  generalize hmY : Y.length = m' at *
  replace hmX := hide hmX
  replace hmY := hide hmY
  go_wp2_with fail
  go_loopw [13] (fun kv wr => ∃ (i : Nat) (xs : List Value), i ≤ m ∧ kv = .int .i64 i ∧ Hid (wr.ownsRow v9.heap.size 3 1 (.slice ax m cx) m xs) ∧ Hid (OffP (fun g => (Value.slice ax m cx).ownBlock = some g) w4 wr)) (fun kv _ => m - (intOf kv).toNat)
  case atStart =>
    obtain ⟨xs, h⟩ := unhide OX'
    exact ⟨0, xs, Nat.zero_le _, rfl, h, OffP.refl _ _⟩
  case round =>
    clear OX'
    obtain ⟨i, xs, hi, rfl, hO, hF⟩ := hrel
    by_cases c : i < m
    · have q1 : ((i : Int) < (m : Int)) = True := by simp; omega
      obtain rfl := unhide hax (by omega)
      have hl := (unhide hO).1
      have k1 := ((unhide hO).cellAt i (by omega)).trans (List.getElem?_eq_getElem (by omega))
      have f1 := (unhide hO).frozenAt i
      have O2 := hide ((unhide hO).stored i (.int .i64 (-7))).1
      have F2 := hide ((unhide hF).trans (OffP.grown ((unhide hO).stored i (.int .i64 (-7))).2 (fun k hk => hk)))
      generalize xs[i] = xv at k1
      clear hO hF hl
      go_wp2_with fail
      exact ⟨⟨i + 1, _, by omega, by go_num, O2, F2⟩, by simp [intOf]; omega⟩
    · have q1 : ((i : Int) < (m : Int)) = False := by simp; omega
      obtain ⟨i0, hi0, hz0, hz1, hz2⟩ := info_parts infoInt
      have y5 := (Below.refl wr.heap.size wr).alloc (Nat.le_refl _) (.cells #[.int .i64 (-7)] 3)
      have own5 := own_stay (unhide hO) (fun b hb => y5.block b ((unhide hO).lt b hb).2)
      have F5 := hide ((unhide hF).trans (OffP.of_below y5))
      have hs5 : w4.heap.size ≤ wr.heap.size := (unhide hF).size
      have hsz5 : (wr.alloc (.cells #[.int .i64 (-7)] 3)).heap.size = wr.heap.size + 1 := World.size_alloc _ _
      have hcon : Hid (xs.length = m * 1) := (unhide hO).1
      clear hO hF y5 hax
      go_wp2_with (first
        | (at_builtin; refine wpList_append_own_at _ rfl (.tmp 56) (.tmp 57) 22 rfl v9.heap.size 3 i0 (.int .i64 0) 1 8 Try.underlying22 hi0 hz0 hz1 hz2 rfl (by decide) _ _ _ rfl own5 ⟨wr.heap.size, 0, none⟩ 1 1 [.int .i64 (-7)] rfl rfl (one_new _ _ _) ?c2 ?c3 ?c4 ?c5 ?_))
      case c2 => intro u hu; simp at hu; subst hu; rfl
      case c3 => unfold maxLen; omega
      case c4 => omega
      case c5 => rw [hsz5]; omega
      intro x' w6 hown' hgrow _ hat
      have F6 := hide ((unhide F5).trans (OffP.grown hgrow (fun k hk => hk)))
      have hnx : Hid (∀ g, x'.ownBlock = some g → (Value.slice ay m' cy).ownBlock ≠ some g) := fun g h1 h2 => by
        rcases hat with ha | ha
        · exact unhide ap g (ha ▸ h1) h2
        · rw [ha] at h1
          have e1 : wr.heap.size + 1 = g := by simpa using h1
          have := (unhide ly g h2).2
          omega
      have hlast : Hid ((xs ++ [Value.int .i64 (-7)])[m]? = some (.int .i64 (-7))) := by
        show _ = _
        rw [List.getElem?_append_right (by have := unhide hcon; omega), show m - xs.length = 0 by have := unhide hcon; omega]
        rfl
      have OX6 := hide hown'
      have hxg : Hid (∀ g, x'.ownBlock = some g → v9.heap.size ≤ g) := fun g hg => (hown'.lt g hg).1
      obtain ⟨a', c', g', rfl, ha'⟩ := own_form hown'
      obtain rfl := ha' (by omega)
      clear hown' hgrow hat own5 F5 ha' hcon
      generalize xs ++ [Value.int .i64 (-7)] = zs at *
      have OY6 : Hid (∃ ys, w6.ownsRow v9.heap.size 3 1 (.slice ay m' cy) m' ys ∧ ∀ k, k < m' → ys[k]? = some (.int .i64 (Y.getD k 0))) := by
        obtain ⟨ys, h1, h2⟩ := unhide OY'
        exact ⟨ys, (unhide F6).own h1 (fun g hg e => unhide ap g e hg), h2⟩
      have F7 := hide ((unhide F6).wide (q := fun g => (Value.slice ax m cx).ownBlock = some g ∨ (Value.slice ay m' cy).ownBlock = some g) (fun g h => Or.inl h))
      clear F6 OY'
      go_wp2_with fail
      go_loopw [14] (fun kv wx => ∃ (j : Nat) (ys : List Value), j ≤ m' ∧ kv = .int .i64 j ∧ Hid (wx.ownsRow v9.heap.size 3 1 (.slice ay m' cy) m' ys) ∧ Hid (∀ k, j ≤ k → k < m' → ys[k]? = some (.int .i64 (Y.getD k 0))) ∧ Hid (wx.ownsRow v9.heap.size 3 1 (.slice (some ⟨g', 0, none⟩) (m + 1) c') (m + 1) zs) ∧ Hid (OffP (fun g => (Value.slice ax m cx).ownBlock = some g ∨ (Value.slice ay m' cy).ownBlock = some g) w4 wx)) (fun kv _ => m' - (intOf kv).toNat)
      case atStart =>
        obtain ⟨ys, h1, h2⟩ := unhide OY6
        exact ⟨0, ys, Nat.zero_le _, rfl, h1, fun k _ hk => h2 k hk, OX6, F7⟩
      case round =>
        clear OY6 OX6 F7
        obtain ⟨j, ys, hj, rfl, hO, hY, hX, hF⟩ := hrel
        by_cases cj : j < m'
        · have q2 : ((j : Int) < (m' : Int)) = True := by simp; omega
          have q3 : ((m' : Int) ≤ (j : Int)) = False := by simp; omega
          obtain rfl := unhide hay (by omega)
          obtain ⟨rfl, lv⟩ := unhide iva (by omega)
          have hgv : Hid (¬ ((Value.slice ax m cx).ownBlock = some gv ∨ (Value.slice (some ⟨gy, 0, none⟩) m' cy).ownBlock = some gv)) := fun e => by
            have h1 := unhide bv (by omega)
            rcases e with e | e
            · have := (unhide lx gv e).2
              omega
            · have := (unhide ly gv e).2
              omega
          have k1 := ((unhide hO).cellAt j (by omega)).trans (unhide hY j (Nat.le_refl _) cj)
          have f1 := (unhide hO).frozenAt j
          have k2 := (World.cell?_of_block (w := w4) (a := ⟨gv, 0 + j, none⟩) ((unhide hF).block gv lv (unhide hgv))).trans (unhide ivc j cj)
          rw [Nat.zero_add] at k2
          have hE := hide (fun nq => keep_end (nq := nq) (j := j) (unhide hO) (unhide hX) (unhide hnx) (unhide hF) (fun k h1 h2 => unhide hY k h1 h2))
          generalize Y.getD j 0 = yv at *
          clear hO hY hX hF
          go_wp2_with fail
          go_quiet (fail)
          go_wp2_with fail
          obtain ⟨r1, r2, r3, r4⟩ := unhide hE _
          exact ⟨⟨j + 1, _, by omega, by go_num, r1, r2, r3, r4⟩, by simp [intOf]; omega⟩
        · have q2 : ((j : Int) < (m' : Int)) = False := by simp; omega
          have F9 : Below v9.heap.size w4 wr := (unhide hF).to (by omega) (fun g h => by
            rcases h with h | h
            · exact (unhide lx g h).1
            · exact (unhide ly g h).1)
          have B7 : Below v9.heap.size v9 wr := (unhide B4).trans F9
          have hs7 : v9.heap.size ≤ wr.heap.size := B7.size
          have kR7 := hide (unhide kR wr (ints_below (unhide LO) B7) (ints_below (unhide HI) B7))
          have P1 := hide (ints_below (unhide LO) B7)
          have P2 := hide (ints_below (unhide HI) B7)
          have P3 := hide (ints_below (unhide J1) B7)
          have P4 := hide (ints_below (unhide J2) B7)
          have P5 := hide (newI_off (unhide U2) (unhide hF) (fun g hg e => by
            rcases e with e | e
            · have := (unhide lx g e).2
              omega
            · have := (unhide ly g e).2
              omega)).ints
          have Z0 := hide ((B7.cell (p := ⟨w.heap.size, 0, none⟩) (by show w.heap.size < _; omega)).trans (unhide z0))
          have Z1 := hide ((B7.cell (p := ⟨w.heap.size, 1, none⟩) (by show w.heap.size < _; omega)).trans (unhide z1))
          have B7 := hide ((unhide B9).trans (B7.mono (by omega)))
          have lX : X.length ≤ 9223372036854775807 := by rw [unhide hmX]; omega
          clear hO hY hF F9 LO HI J1 J2 U2 kR B4 lx ly ap iva ivc bv hay hnx z0 z1 B9
          go_wp2_with fail
          refine (unhide kR7).mono ?_
          rintro e w8 ⟨x2, y2, rfl, hO8, hb8⟩
          have hs8 : wr.heap.size ≤ w8.heap.size := hb8.size
          have k8 := hide (sameYes lX w8 (newI_own hO8.ownx).ints (ints_below (unhide P5) hb8))
          have P1 := hide (ints_below (unhide P1) hb8)
          have P2 := hide (ints_below (unhide P2) hb8)
          have P3 := hide (ints_below (unhide P3) hb8)
          have P4 := hide (ints_below (unhide P4) hb8)
          have Z0 := hide ((hb8.cell (p := ⟨w.heap.size, 0, none⟩) (by show w.heap.size < _; omega)).trans (unhide Z0))
          have Z1 := hide ((hb8.cell (p := ⟨w.heap.size, 1, none⟩) (by show w.heap.size < _; omega)).trans (unhide Z1))
          have hX := hide (own_stay (unhide hX) (fun b hb => hb8.block b ((unhide hX).lt b hb).2))
          have B8 := hide ((unhide B7).trans (hb8.mono (by omega)))
          clear kR7 P5 hO8 hb8 B7
          go_wp2_with fail
          refine (unhide k8).mono ?_
          rintro e wa ⟨rfl, hba⟩
          have hsa : w8.heap.size ≤ wa.heap.size := hba.size
          have ka := hide (sameYes (by omega) wa (ints_below (unhide P1) hba) (ints_below (unhide P3) hba))
          have P2 := hide (ints_below (unhide P2) hba)
          have P4 := hide (ints_below (unhide P4) hba)
          have za := (hba.cell (p := ⟨w.heap.size, 0, none⟩) (by show w.heap.size < _; omega)).trans (unhide Z0)
          have Z1 := hide ((hba.cell (p := ⟨w.heap.size, 1, none⟩) (by show w.heap.size < _; omega)).trans (unhide Z1))
          have hX := hide (own_stay (unhide hX) (fun b hb => hba.block b ((unhide hX).lt b hb).2))
          have Ba := hide ((unhide B8).trans (hba.mono (by omega)))
          clear k8 P1 P3 Z0 hba B8
          go_wp2_with fail
          refine (unhide ka).mono ?_
          rintro e wb ⟨rfl, hbb⟩
          have hsb : wa.heap.size ≤ wb.heap.size := hbb.size
          have kb := hide (sameYes (by omega) wb (ints_below (unhide P2) hbb) (ints_below (unhide P4) hbb))
          have zb := (hbb.cell (p := ⟨w.heap.size, 1, none⟩) (by show w.heap.size < _; omega)).trans (unhide Z1)
          have hX := hide (own_stay (unhide hX) (fun b hb => hbb.block b ((unhide hX).lt b hb).2))
          have Bb := hide ((unhide Ba).trans (hbb.mono (by omega)))
          clear ka za P2 P4 Z1 hbb Ba
          go_wp2_with fail
          refine (unhide kb).mono ?_
          rintro e wc ⟨rfl, hbc⟩
          have hX := own_stay (unhide hX) (fun b hb => hbc.block b ((unhide hX).lt b hb).2)
          have kx := (hX.cellAt m (by omega)).trans (unhide hlast)
          have Bc := hide ((unhide bx).trans (((unhide Bb).trans (hbc.mono (by omega))).mono (unhide bx).size))
          clear kb zb hbc Bb hX
          go_wp2_with fail
          go_ret
          exact ⟨rfl, unhide Bc⟩
end Go.Proofs.Ythdoophjcjlklaa
