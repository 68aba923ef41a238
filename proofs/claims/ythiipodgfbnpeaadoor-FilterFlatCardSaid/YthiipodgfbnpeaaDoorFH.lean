/- The flat filter: the law's walk. -/
import Derived.Test.YthiipodgfbnpeaaDoorFG
namespace Go.Proofs.YthiipodgfbnpeaaDoor
open Go.RowKit Fl
attribute [local go_sem] store_complex

/-- append to a list of the call's own, as one step of a region that draws. -/
theorem step_append_own {P : Program} {ops : Array Oper} {o : Oper} {a : Act} {w : World} {K : Act → World → Prop} {Q : Exit → Act → World → Prop} {E : Prop}
    (hgd : o.guard = none) (s x : Operand) (t : TypeId) (ho : o.op = Op.call { callee := Callee.builtin Builtin.append, args := #[s, x], argTypes := #[t, t] })
    (base : Nat) (e : TypeId) (i : TypeInfo) (z : Value) (size bytes : Nat) (ht : P.underlying t = some (.slice e)) (hi : P.info? e = some i) (hz : i.zero = some z)
    (hsize : i.size = size) (hby : i.bytes = bytes) (hzs : z.cells.size = size) (hsz : 0 < size)
    (v : Value) (n : Nat) (xs : List Value) (hs : a.eval s = v) (hown : w.ownsRow base e size v n xs)
    (ad : Addr) (m c : Nat) (news : List Value) (hx : a.eval x = .slice (some ad) m c) (hl : news.length = m * size) (hnews : ∀ j u, news[j]? = some u → w.cell? (ad.add j) = some u) (h1 : ∀ u ∈ news, u.oneCell' = true)
    (h63 : n + m ≤ maxLen) (hbytes : (n + m) * bytes ≤ 140737488355328) (hbase : base ≤ w.heap.size)
    (h : ∀ v' w', w'.ownsRow base e size v' (n + m) (xs ++ news) → w.grownBy w' v.ownBlock → K (a.put o.dst v') w') :
    if Region.wanted o (yielded ops a.tmps) = true then Oper.wp P o a w K Q else E := by
  have hw : Region.wanted o (yielded ops a.tmps) = true := by simp [Region.wanted, hgd]
  rw [if_pos hw]
  obtain ⟨v', w', hr, h2, h3, _⟩ := run_append_own (P := P) w base t o.type e i z size bytes ht hi hz hsize hby hzs hsz v n xs hown ad m c news hl hnews h1 h63 hbytes hbase
  unfold Oper.wp execOp
  simp only [ho, resolve, invoke, builtin, Sem.run_bind, Sem.run_pure, Result.andThen_ok, List.map_toArray, List.map_cons, List.map_nil, hs, hx, hr]
  exact h v' w' h2 h3

theorem vals_snoc (n : Nat) (f : Nat → Nat × Nat) : vals (n + 1) f = vals n f ++ [cv (f n)] := by unfold vals; rw [List.range_succ, List.map_append]; rfl

set_option maxHeartbeats 1600000 in
theorem copiedNone (w : World) : Calls Tryd.prog 11 #[.slice none 0 0] w fun e w' => ∃ a c, e = .returned (.slice a 0 c) ∧ Below w.heap.size w w' := by
  go_enter Tryd.func11, Tryd.ntmps11
  go_wp2
  go_ret
  exact ⟨_, _, rfl, (Below.refl _ _).alloc (Nat.le_refl _) _⟩

set_option maxRecDepth 100000 in
set_option maxHeartbeats 12800000 in
theorem flatWalk (hAN : ApplyNone 10) (hAK : ApplyKind 10) (hAF : ApplyFlat 10) (hAZ : ApplyZero 10) {N g o cap : Nat} {p : Nat → Int × Int} (hN : N ≤ 9223372036854775807) {kind : Int} (w : World) (hD : Deb w) (a : Option Addr) (ha : 0 < N → a = some ⟨g, o, none⟩) (hp : Pairs w g o N p) (hs : Small32 N p)
    (hal : Calls Tryd.prog 5 #[] w fun e w' => e = .returned (.bool true) ∧ Below w.heap.size w w') :
    Calls Tryd.prog 4 #[.slice a N cap, .int .i64 kind] w fun e w' => e = .returned (.bool true) ∧ Below w.heap.size w w' := by
  obtain ⟨i0, hi0, hz0, hz1, hz2⟩ := info_parts infoC
  have hal := hide hal
  have HP := hide hp
  have HA := hide ha
  have HS := hide hs
  have HD := hide hD
  have HI := hide (fun n => ints_wx (n := n) hs)
  have AN := hide hAN
  have AK := hide hAK
  have AF := hide hAF
  have AZ := hide hAZ
  clear hp ha hs hD hAN hAK hAF hAZ
  go_enter Tryd.func4, Tryd.ntmps4
  go_wp2_with fail
  refine (unhide hal).mono ?_
  rintro e w1 ⟨rfl, hb1⟩
  have B1 := hide hb1
  clear hb1 hal
  go_wp2_with fail
  go_loopw [5, 6] (fun lv iv wr => ∃ i : Nat, i ≤ min N 2048 ∧ iv = .int .i64 i ∧ Hid (i = 0 → lv = .slice none 0 0) ∧ Hid (wr.ownsRow w1.heap.size 33 1 lv i (vals i (wx N p))) ∧ Hid (Below w1.heap.size w1 wr)) (fun _ iv _ => min N 2048 - (intOf iv).toNat)
  case atStart => exact ⟨0, Nat.zero_le _, rfl, fun _ => rfl, World.ownsRow_nil _ _ _ _, Below.refl _ _⟩
  case round =>
    obtain ⟨i, hi, rfl, hnil, hO, hB⟩ := hrel
    have hbs : w1.heap.size ≤ wr.heap.size := (unhide hB).size
    by_cases c1 : i < N
    · have q1 : ((i : Int) < (N : Int)) = True := by simp; omega
      by_cases c2 : i < 2048
      · have q2 : ((i : Int) < 2048) = True := by simp; omega
        have haa := unhide HA (by omega)
        have Bw := (unhide B1).trans ((unhide hB).mono (unhide B1).size)
        have hg : g < w.heap.size := (unhide HP).lt (by omega)
        have r1 := (Bw.cell (p := ⟨g, o + i * 2, none⟩) hg).trans ((unhide HP).one i c1)
        have r2 := (Bw.cell (p := ⟨g, o + i * 2 + 1, none⟩) hg).trans ((unhide HP).two i c1)
        have s1 := (unhide HS).one i c1
        have s2 := (unhide HS).two i c1
        have hX : cv (wx N p i) = .complex .f64 (floatOfInt .f64 ((p i).1 / 2048)) (floatOfInt .f64 ((p i).2 / 2048)) := by
          unfold cv wx wv
          rw [if_pos c1]
        have hv := hide (vals_snoc i (wx N p))
        rw [hX] at hv
        rw [haa]
        clear hX Bw
        generalize (p i).1 = x at *
        generalize (p i).2 = y at *
        have hO2 : Hid ((wr.drew.alloc (.cells #[.complex .f64 (floatOfInt .f64 (x / 2048)) (floatOfInt .f64 (y / 2048))] 33)).ownsRow w1.heap.size 33 1 u5 i (vals i (wx N p))) := (unhide hO).alloc _
        have hnw : Hid (∀ j u, [Value.complex .f64 (floatOfInt .f64 (x / 2048)) (floatOfInt .f64 (y / 2048))][j]? = some u → (wr.drew.alloc (.cells #[.complex .f64 (floatOfInt .f64 (x / 2048)) (floatOfInt .f64 (y / 2048))] 33)).cell? ((⟨wr.heap.size, 0, none⟩ : Addr).add j) = some u) := one_newF wr.drew _ _
        have h1c : Hid (∀ u ∈ [Value.complex .f64 (floatOfInt .f64 (x / 2048)) (floatOfInt .f64 (y / 2048))], u.oneCell' = true) := fun u hu => by simp at hu; subst hu; rfl
        have hlt : Hid (∀ k, u5.ownBlock = some k → w1.heap.size ≤ k) := fun k hk => ((unhide hO).lt k hk).1
        clear hO
        go_wp2_with fail
        go_region_law (refine step_append_own rfl (.tmp 25) (.tmp 41) 32 rfl w1.heap.size 33 i0 (.complex .f64 0 0) 1 16 Tryd.underlying32 hi0 hz0 hz1 hz2 rfl (by decide) u5 i (vals i (wx N p)) rfl (unhide hO2) ⟨wr.heap.size, 0, none⟩ 1 1 [.complex .f64 (floatOfInt .f64 (x / 2048)) (floatOfInt .f64 (y / 2048))] rfl rfl (unhide hnw) (unhide h1c) (by unfold maxLen; omega) (by omega) (by simp; omega) ?_
                       intro v' w2 hown' hgrow
                       have hB3 : Hid (Below w1.heap.size w1 w2) := (((unhide hB).drew).alloc hbs _).grown hgrow (by simp; omega) (unhide hlt)
                       have hO3 : Hid (w2.ownsRow w1.heap.size 33 1 v' (i + 1) (vals (i + 1) (wx N p))) := by
                         rw [unhide hv]
                         exact hown'
                       clear hown' hgrow)
        all_goals go_wp2_with fail
        all_goals exact ⟨⟨i + 1, by omega, by go_num, fun h => absurd h (by omega), hO3, hB3⟩, by simp [intOf]; omega⟩
      · have q2 : ((i : Int) < 2048) = False := by simp; omega
        have Bw := hide ((unhide B1).trans ((unhide hB).mono (unhide B1).size))
        have gl := deb_lt (unhide HD)
        have hDr := hide (deb_below (unhide HD) (unhide Bw) gl)
        by_cases h0 : i = 0
        · omega
        · obtain ⟨gx, cx, rfl, hcx, hgx, Rx⟩ := row_owned (unhide hO) (by omega) (f := wx N p) (fun j hj => vals_get _ hj)
          have RX := hide Rx
          have qi : ((i : Int) == 0) = false := by simp; omega
          have qj : ¬ (i : Int) = 0 := by omega
          clear hO hnil Rx hcx hgx
          have kc := hide (fun W (h : Row W gx i (wx N p)) => copiedAny (cap := cx) (by omega) (by omega) W h)
          go_wp2_with fail
          refine (unhide kc _ (unhide RX)).mono ?_
          rintro e w2 ⟨g2, c2, rfl, hc2, hg2, R2, hb2⟩
          have B2 := hide ((unhide Bw).trans (hb2.mono (unhide Bw).size))
          have RX := hide (row_below (unhide RX) hb2 (row_lt (unhide RX)))
          have kf := hide (unhide AF i c2 g2 (wx N p) (wv N p) w2 (by omega) (by omega) hc2 (deb_below (unhide HD) (unhide B2) gl) (unhide HI i) R2)
          clear hb2 kc R2 hc2 hg2
          go_wp2_with fail
          refine (unhide kf).mono ?_
          rintro e w3 ⟨g3, c3, ys, rfl, R3, hn3, hb3⟩
          have B3 := hide ((unhide B2).trans (hb3.mono (unhide B2).size))
          have RX := hide (row_below (unhide RX) hb3 (row_lt (unhide RX)))
          have RY := hide R3
          have HN := hide hn3
          clear hb3 kf R3 hn3
          go_wp2_with (first
            | (at_make; refine wpList_make_full _ rfl (.tmp 61) (.tmp 61) 32 rfl w3.heap.size 33 i0 (.complex .f64 0 0) 1 Tryd.underlying32 hi0 hz0 hz1 .i64 .i64 i i i rfl rfl rfl rfl ?c1 ?c2 ?c3 ?_))
          case c1 => rw [hz2]; omega
          case c2 => unfold maxLen; omega
          case c3 => exact Nat.le_refl _
          intro w4 hown4 hg4
          have R4 := row_made hown4 (fun _ => (0, 0)) (fun j hj => zeros_get i j hj) (fun _ _ => rfl)
          have hb4 := grown_below hg4
          have B4 := hide ((unhide B3).trans (hb4.mono (unhide B3).size))
          have RX := hide (row_below (unhide RX) hb4 (row_lt (unhide RX)))
          have RY := hide (row_below (unhide RY) hb4 (row_lt (unhide RY)))
          by_cases hk : kind < 1 ∨ 3 < kind
          · have kz := hide (unhide AK kind i i w3.heap.size (fun _ => (0, 0)) w4 (by omega) (by omega) hk R4)
            have d : (1 ≤ kind) = False ∨ ((1 ≤ kind) = True ∧ (kind ≤ 3) = False) := by
              by_cases d1 : 1 ≤ kind
              · exact Or.inr ⟨by simp; omega, by simp; omega⟩
              · exact Or.inl (by simp; omega)
            clear hown4 hg4 hb4 R4 hk
            go_wp2_with fail
            refine (unhide kz).mono ?_
            rintro e w5 ⟨a5, c5, rfl, hb5⟩
            have B5 := hide ((unhide B4).trans (hb5.mono (unhide B4).size))
            have RX := hide (row_below (unhide RX) hb5 (row_lt (unhide RX)))
            have RY := hide (row_below (unhide RY) hb5 (row_lt (unhide RY)))
            have kw := hide (fun W (h : Row W g3 i ys) => wholeAny (cap := c3) (fun j hj => by obtain ⟨R, h1, _⟩ := unhide HN 1074 1063 rfl rfl j hj; exact ⟨R, h1⟩) (by omega) W h)
            clear hb5 kz
            go_wp2_with fail
            refine wp_loop_rounds 1 ?_
            rw [rounds_succ]
            rcases d with d1 | ⟨d1, d2⟩
            all_goals
              go_wp2_with fail
              refine (unhide kw _ (unhide RY)).mono ?_
              rintro e w6 ⟨g6, rfl, hg6, R6, hb6⟩
              have B6 := hide ((unhide B5).trans (hb6.mono (unhide B5).size))
              have RX := hide (row_below (unhide RX) hb6 (row_lt (unhide RX)))
              have ka := hide (alikeAny (ca := i) (cb := cx) (fun j hj => by obtain ⟨R, h1, h2, h3⟩ := unhide HN 1074 1063 rfl rfl j hj; exact back_same (unhide HI i) hj rfl rfl h1 h2 h3) w6 R6 (unhide RX) (by omega))
              clear hb6 R6 hg6
              go_wp2_with fail
              refine (unhide ka).mono ?_
              rintro e w7 ⟨rfl, _, hb7⟩
              have B7 := hide ((unhide B6).trans (hb7.mono (unhide B6).size))
              clear hb7
              go_wp2_with fail
              go_ret
              exact ⟨rfl, unhide B7⟩
          · obtain ⟨kd, rfl⟩ : ∃ kd : Nat, kind = kd := ⟨kind.toNat, by omega⟩
            have kz := hide (unhide AZ i i w3.heap.size kd w4 (by omega) (by omega) (Nat.le_refl _) (by omega) (by omega) (deb_below (unhide HD) (unhide B4) gl) R4)
            have d1 : (1 ≤ (kd : Int)) = True := by simp; omega
            have d2 : ((kd : Int) ≤ 3) = True := by simp; omega
            clear hown4 hg4 hb4 R4 hk
            go_wp2_with fail
            refine (unhide kz).mono ?_
            rintro e w5 ⟨g5, c5, zs, rfl, R5, hz5, hb5⟩
            have B5 := hide ((unhide B4).trans (hb5.mono (unhide B4).size))
            have RX := hide (row_below (unhide RX) hb5 (row_lt (unhide RX)))
            have RY := hide (row_below (unhide RY) hb5 (row_lt (unhide RY)))
            have RZ := hide R5
            have HZ := hide hz5
            have kw := hide (fun W (h : Row W g3 i ys) => wholeAny (cap := c3) (fun j hj => by obtain ⟨R, h1, _⟩ := unhide HN 1074 1063 rfl rfl j hj; exact ⟨R, h1⟩) (by omega) W h)
            clear hb5 kz R5 hz5
            go_wp2_with fail
            go_loopw [11] (fun jv wx => ∃ j : Nat, j ≤ i ∧ jv = .int .i64 j ∧ w5 = wx) (fun jv _ => i - (intOf jv).toNat)
            case atStart => exact ⟨0, Nat.zero_le _, rfl, rfl⟩
            case round =>
              obtain ⟨j, hj, rfl, rfl⟩ := hrel
              by_cases hji : j < i
              · have q5 : ((j : Int) < (i : Int)) = True := by simp; omega
                have cz := row_at (unhide RZ) hji
                obtain ⟨z1, z2⟩ := unhide HZ j hji
                unfold cv at cz
                generalize (zs j).1 = zr at *
                generalize (zs j).2 = zi at *
                go_wp2_with fail
                exact ⟨⟨j + 1, hji, by go_num, trivial⟩, by simp [intOf]; omega⟩
              · have q5 : ((j : Int) < (i : Int)) = False := by simp; omega
                go_wp2_with fail
                refine (unhide kw _ (unhide RY)).mono ?_
                rintro e w6 ⟨g6, rfl, hg6, R6, hb6⟩
                have B6 := hide ((unhide B5).trans (hb6.mono (unhide B5).size))
                have RX := hide (row_below (unhide RX) hb6 (row_lt (unhide RX)))
                have ka := hide (alikeAny (ca := i) (cb := cx) (fun j hj => by obtain ⟨R, h1, h2, h3⟩ := unhide HN 1074 1063 rfl rfl j hj; exact back_same (unhide HI i) hj rfl rfl h1 h2 h3) w6 R6 (unhide RX) (by omega))
                clear hb6 R6 hg6
                go_wp2_with fail
                refine (unhide ka).mono ?_
                rintro e w7 ⟨rfl, _, hb7⟩
                have B7 := hide ((unhide B6).trans (hb7.mono (unhide B6).size))
                clear hb7
                go_wp2_with fail
                go_ret
                exact ⟨rfl, unhide B7⟩
    · have q1 : ((i : Int) < (N : Int)) = False := by simp; omega
      have Bw := hide ((unhide B1).trans ((unhide hB).mono (unhide B1).size))
      have gl := deb_lt (unhide HD)
      have hDr := hide (deb_below (unhide HD) (unhide Bw) gl)
      by_cases h0 : i = 0
      · subst h0
        obtain rfl := unhide hnil rfl
        clear hO
        go_wp2_with fail
        refine (copiedNone _).mono ?_
        rintro e w2 ⟨a2, c2, rfl, hb2⟩
        have B2 := hide ((unhide Bw).trans (hb2.mono (unhide Bw).size))
        clear hb2
        go_wp2_with fail
        refine (unhide AN 1 a2 c2 w2).mono ?_
        rintro e w3 ⟨a3, c3, rfl, hb3⟩
        have B3 := hide ((unhide B2).trans (hb3.mono (unhide B2).size))
        clear hb3
        go_wp2_with fail
        go_ret
        exact ⟨rfl, unhide B3⟩
      · obtain ⟨gx, cx, rfl, hcx, hgx, Rx⟩ := row_owned (unhide hO) (by omega) (f := wx N p) (fun j hj => vals_get _ hj)
        have RX := hide Rx
        have qi : ((i : Int) == 0) = false := by simp; omega
        have qj : ¬ (i : Int) = 0 := by omega
        clear hO hnil Rx hcx hgx
        have kc := hide (fun W (h : Row W gx i (wx N p)) => copiedAny (cap := cx) (by omega) (by omega) W h)
        go_wp2_with fail
        refine (unhide kc _ (unhide RX)).mono ?_
        rintro e w2 ⟨g2, c2, rfl, hc2, hg2, R2, hb2⟩
        have B2 := hide ((unhide Bw).trans (hb2.mono (unhide Bw).size))
        have RX := hide (row_below (unhide RX) hb2 (row_lt (unhide RX)))
        have kf := hide (unhide AF i c2 g2 (wx N p) (wv N p) w2 (by omega) (by omega) hc2 (deb_below (unhide HD) (unhide B2) gl) (unhide HI i) R2)
        clear hb2 kc R2 hc2 hg2
        go_wp2_with fail
        refine (unhide kf).mono ?_
        rintro e w3 ⟨g3, c3, ys, rfl, R3, hn3, hb3⟩
        have B3 := hide ((unhide B2).trans (hb3.mono (unhide B2).size))
        have RX := hide (row_below (unhide RX) hb3 (row_lt (unhide RX)))
        have RY := hide R3
        have HN := hide hn3
        clear hb3 kf R3 hn3
        go_wp2_with (first
          | (at_make; refine wpList_make_full _ rfl (.tmp 61) (.tmp 61) 32 rfl w3.heap.size 33 i0 (.complex .f64 0 0) 1 Tryd.underlying32 hi0 hz0 hz1 .i64 .i64 i i i rfl rfl rfl rfl ?c1 ?c2 ?c3 ?_))
        case c1 => rw [hz2]; omega
        case c2 => unfold maxLen; omega
        case c3 => exact Nat.le_refl _
        intro w4 hown4 hg4
        have R4 := row_made hown4 (fun _ => (0, 0)) (fun j hj => zeros_get i j hj) (fun _ _ => rfl)
        have hb4 := grown_below hg4
        have B4 := hide ((unhide B3).trans (hb4.mono (unhide B3).size))
        have RX := hide (row_below (unhide RX) hb4 (row_lt (unhide RX)))
        have RY := hide (row_below (unhide RY) hb4 (row_lt (unhide RY)))
        by_cases hk : kind < 1 ∨ 3 < kind
        · have kz := hide (unhide AK kind i i w3.heap.size (fun _ => (0, 0)) w4 (by omega) (by omega) hk R4)
          have d : (1 ≤ kind) = False ∨ ((1 ≤ kind) = True ∧ (kind ≤ 3) = False) := by
            by_cases d1 : 1 ≤ kind
            · exact Or.inr ⟨by simp; omega, by simp; omega⟩
            · exact Or.inl (by simp; omega)
          clear hown4 hg4 hb4 R4 hk
          go_wp2_with fail
          refine (unhide kz).mono ?_
          rintro e w5 ⟨a5, c5, rfl, hb5⟩
          have B5 := hide ((unhide B4).trans (hb5.mono (unhide B4).size))
          have RX := hide (row_below (unhide RX) hb5 (row_lt (unhide RX)))
          have RY := hide (row_below (unhide RY) hb5 (row_lt (unhide RY)))
          have kw := hide (fun W (h : Row W g3 i ys) => wholeAny (cap := c3) (fun j hj => by obtain ⟨R, h1, _⟩ := unhide HN 1074 1063 rfl rfl j hj; exact ⟨R, h1⟩) (by omega) W h)
          clear hb5 kz
          go_wp2_with fail
          refine wp_loop_rounds 1 ?_
          rw [rounds_succ]
          rcases d with d1 | ⟨d1, d2⟩
          all_goals
            go_wp2_with fail
            refine (unhide kw _ (unhide RY)).mono ?_
            rintro e w6 ⟨g6, rfl, hg6, R6, hb6⟩
            have B6 := hide ((unhide B5).trans (hb6.mono (unhide B5).size))
            have RX := hide (row_below (unhide RX) hb6 (row_lt (unhide RX)))
            have ka := hide (alikeAny (ca := i) (cb := cx) (fun j hj => by obtain ⟨R, h1, h2, h3⟩ := unhide HN 1074 1063 rfl rfl j hj; exact back_same (unhide HI i) hj rfl rfl h1 h2 h3) w6 R6 (unhide RX) (by omega))
            clear hb6 R6 hg6
            go_wp2_with fail
            refine (unhide ka).mono ?_
            rintro e w7 ⟨rfl, _, hb7⟩
            have B7 := hide ((unhide B6).trans (hb7.mono (unhide B6).size))
            clear hb7
            go_wp2_with fail
            go_ret
            exact ⟨rfl, unhide B7⟩
        · obtain ⟨kd, rfl⟩ : ∃ kd : Nat, kind = kd := ⟨kind.toNat, by omega⟩
          have kz := hide (unhide AZ i i w3.heap.size kd w4 (by omega) (by omega) (Nat.le_refl _) (by omega) (by omega) (deb_below (unhide HD) (unhide B4) gl) R4)
          have d1 : (1 ≤ (kd : Int)) = True := by simp; omega
          have d2 : ((kd : Int) ≤ 3) = True := by simp; omega
          clear hown4 hg4 hb4 R4 hk
          go_wp2_with fail
          refine (unhide kz).mono ?_
          rintro e w5 ⟨g5, c5, zs, rfl, R5, hz5, hb5⟩
          have B5 := hide ((unhide B4).trans (hb5.mono (unhide B4).size))
          have RX := hide (row_below (unhide RX) hb5 (row_lt (unhide RX)))
          have RY := hide (row_below (unhide RY) hb5 (row_lt (unhide RY)))
          have RZ := hide R5
          have HZ := hide hz5
          have kw := hide (fun W (h : Row W g3 i ys) => wholeAny (cap := c3) (fun j hj => by obtain ⟨R, h1, _⟩ := unhide HN 1074 1063 rfl rfl j hj; exact ⟨R, h1⟩) (by omega) W h)
          clear hb5 kz R5 hz5
          go_wp2_with fail
          go_loopw [11] (fun jv wx => ∃ j : Nat, j ≤ i ∧ jv = .int .i64 j ∧ w5 = wx) (fun jv _ => i - (intOf jv).toNat)
          case atStart => exact ⟨0, Nat.zero_le _, rfl, rfl⟩
          case round =>
            obtain ⟨j, hj, rfl, rfl⟩ := hrel
            by_cases hji : j < i
            · have q5 : ((j : Int) < (i : Int)) = True := by simp; omega
              have cz := row_at (unhide RZ) hji
              obtain ⟨z1, z2⟩ := unhide HZ j hji
              unfold cv at cz
              generalize (zs j).1 = zr at *
              generalize (zs j).2 = zi at *
              go_wp2_with fail
              exact ⟨⟨j + 1, hji, by go_num, trivial⟩, by simp [intOf]; omega⟩
            · have q5 : ((j : Int) < (i : Int)) = False := by simp; omega
              go_wp2_with fail
              refine (unhide kw _ (unhide RY)).mono ?_
              rintro e w6 ⟨g6, rfl, hg6, R6, hb6⟩
              have B6 := hide ((unhide B5).trans (hb6.mono (unhide B5).size))
              have RX := hide (row_below (unhide RX) hb6 (row_lt (unhide RX)))
              have ka := hide (alikeAny (ca := i) (cb := cx) (fun j hj => by obtain ⟨R, h1, h2, h3⟩ := unhide HN 1074 1063 rfl rfl j hj; exact back_same (unhide HI i) hj rfl rfl h1 h2 h3) w6 R6 (unhide RX) (by omega))
              clear hb6 R6 hg6
              go_wp2_with fail
              refine (unhide ka).mono ?_
              rintro e w7 ⟨rfl, _, hb7⟩
              have B7 := hide ((unhide B6).trans (hb7.mono (unhide B6).size))
              clear hb7
              go_wp2_with fail
              go_ret
              exact ⟨rfl, unhide B7⟩
end Go.Proofs.YthiipodgfbnpeaaDoor
