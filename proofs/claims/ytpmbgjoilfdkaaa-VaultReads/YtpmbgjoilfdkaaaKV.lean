/- The document's Unpack. -/
import Derived.Test.YtpmbgjoilfdkaaaM5
import Derived.Test.YtpmbgjoilfdkaaaPYL
import Derived.Deep.RegionLaw
namespace Go.Proofs.Ytpmbgjoilfdkaaa
open Go.RowKit Fl Ieee
attribute [local go_sem] store_complex

theorem bat_cell {w wr : World} {a : Option Addr} {g o : Nat} {L : List Nat} (h : BAt w a g o L) (hb : Below w.heap.size w wr) {i : Nat} (hi : i < L.length) : wr.cell? ⟨g, o + i, none⟩ = some (.int .u8 (L.getD i 0 : Nat)) := (bat_keep h hb).cell i hi

theorem from32n (b : Nat) (w : World) : (callFunc 44 #[.int .u32 b]).run Try.prog w = .ok (.value (.float .f32 b)) w := by
  rw [run_callFunc_extern (e := Extern.MathFloatBits.float32frombits) Try.func44 (by kernel_rfl) (by kernel_rfl) (by kernel_rfl) (by kernel_rfl)]
  rfl
theorem wide_lt {c x : Nat} (h : floatToFloatBits .f32 c .f64 = some x ∨ (floatToFloatBits .f32 c .f64 = none ∧ x < 18446744073709551616 ∧ ∃ s f, double.read x = .nan s f)) : x < 18446744073709551616 := by
  rcases h with h | ⟨_, h, _⟩
  · unfold floatToFloatBits at h
    rw [if_neg (by decide)] at h
    split at h
    · cases h
    · cases h; exact Nat.lt_of_lt_of_le (double.write_lt _) (by decide)
    · split at h
      · cases h
      · cases h; exact Nat.lt_of_lt_of_le (double.write_lt _) (by decide)
  · exact h
theorem wide_or {c x : Nat} (h : floatToFloatBits .f32 c .f64 = some x ∨ (floatToFloatBits .f32 c .f64 = none ∧ x < 18446744073709551616 ∧ ∃ s f, double.read x = .nan s f)) : floatToFloatBits .f32 c .f64 = some x ∨ (floatToFloatBits .f32 c .f64 = none ∧ ∃ s f, double.read x = .nan s f) := by
  rcases h with h | ⟨h1, _, h2⟩
  · exact .inl h
  · exact .inr ⟨h1, h2⟩
theorem two_set {W : World} {s : Nat} {a b : Value} {t : TypeId} (h : W.heap[s]? = some (.cells #[a, b] t (0, 0))) (x y : Value) :
    ((W.setCell ⟨s, 0, none⟩ x).setCell ⟨s, 1, none⟩ y).cell? ⟨s, 0, none⟩ = some x ∧ ((W.setCell ⟨s, 0, none⟩ x).setCell ⟨s, 1, none⟩ y).cell? ⟨s, 1, none⟩ = some y ∧ (∀ g, g ≠ s → ((W.setCell ⟨s, 0, none⟩ x).setCell ⟨s, 1, none⟩ y).heap[g]? = W.heap[g]?) ∧ True := by
  have h1 : (W.setCell ⟨s, 0, none⟩ x).heap[s]? = some (.cells #[x, b] t (0, 0)) := heap_setCell_same W s 0 _ _ _ h
  have h2 : ((W.setCell ⟨s, 0, none⟩ x).setCell ⟨s, 1, none⟩ y).heap[s]? = some (.cells #[x, y] t (0, 0)) := heap_setCell_same _ s 1 _ _ _ h1
  refine ⟨by simp [World.cell?, h2], by simp [World.cell?, h2], fun g hg => ?_, trivial⟩
  rw [Below.heap_setCell _ _ _ _ hg, Below.heap_setCell _ _ _ _ hg]
theorem step_append_own {P : Program} {ops : Array Oper} {o : Oper} {a : Act} {w : World} {K : Act → World → Prop} {Q : Exit → Act → World → Prop} {E : Prop}
    (hgd : o.guard = none) (s x : Operand) (t : TypeId) (ho : o.op = Op.call { callee := Callee.builtin Builtin.append, args := #[s, x], argTypes := #[t, t] })
    (base : Nat) (e : TypeId) (i : TypeInfo) (z : Value) (size bytes : Nat) (ht : P.underlying t = some (.slice e)) (hi : P.info? e = some i) (hz : i.zero = some z)
    (hsize : i.size = size) (hby : i.bytes = bytes) (hzs : z.cells.size = size) (hsz : 0 < size)
    (v : Value) (n : Nat) (xs : List Value) (hs : a.eval s = v) (hown : w.ownsRow base e size v n xs)
    (ad : Addr) (m c : Nat) (news : List Value) (hx : a.eval x = .slice (some ad) m c) (hl : news.length = m * size) (hnews : ∀ j u, news[j]? = some u → w.cell? (ad.add j) = some u) (h1 : ∀ u ∈ news, u.oneCell' = true)
    (h63 : n + m ≤ maxLen) (hbytes : (n + m) * bytes ≤ 140737488355328) (hbase : base ≤ w.heap.size)
    (h : ∀ v' w', w'.ownsRow base e size v' (n + m) (xs ++ news) → w.grownBy w' v.ownBlock → K (a.put o.dst v') w') :
    if Region.wanted o (yielded ops a.tmps) = true then Oper.wp P o a w K Q else E := by
  have hw : Region.wanted o (yielded ops a.tmps) = true := by simp [Region.wanted, hgd]
  rw [if_pos hw]
  obtain ⟨v', w', hr, h2, h3, _⟩ := run_append_own (P := P) w base t o.type e i z size bytes ht hi hz hsize hby hzs hsz v n xs hown ad m c news hl hnews h1 h63 hbytes hbase
  unfold Oper.wp execOp
  simp only [ho, resolve, invoke, builtin, Sem.run_bind, Sem.run_pure, Result.andThen_ok, List.map_toArray, List.map_cons, List.map_nil, hs, hx, hr]
  exact h v' w' h2 h3

theorem mixedK : Try.prog.follows .mixedOrders = true := by kernel_rfl
theorem not_false_ofK {b : Bool} (h : b = true) (h' : b = false) : False := by rw [h] at h'; cases h'
def o16_0 : Oper := { dst := some 84, op := Go.Op.fieldAddr 30 (Go.Operand.tmp 4) 1, type := 0, pos := "ref.go:145", after := #[], guard := none }
def o16_1 : Oper := { dst := some 85, op := Go.Op.load 28 (Go.Operand.tmp 84), type := 28, pos := "ref.go:145", after := #[{ on := 0, ground := Go.Ground.data }], guard := none }
def o16_2 : Oper := { dst := some 86, op := Go.Op.move (Go.Operand.tmp 0), type := 22, pos := "ref.go:145", after := #[], guard := none }
def o16_3 : Oper := { dst := some 87, op := Go.Op.move (Go.Operand.tmp 5), type := 3, pos := "ref.go:145", after := #[], guard := none }
def o16_4 : Oper := { dst := some 88, op := Go.Op.call { callee := Go.Callee.value (Go.Operand.func 43), args := #[Go.Operand.tmp 86, Go.Operand.tmp 87, Go.Operand.const (Go.Value.int Go.IntKind.i64 8)], argTypes := #[22, 3, 3] }, type := 45, pos := "ref.go:145", after := #[{ on := 2, ground := Go.Ground.data }, { on := 3, ground := Go.Ground.data }], guard := none }
def o16_5 : Oper := { dst := some 89, op := Go.Op.call { callee := Go.Callee.value (Go.Operand.func 42), args := #[Go.Operand.tmp 88], argTypes := #[45] }, type := 47, pos := "ref.go:145", after := #[{ on := 4, ground := Go.Ground.data }, { on := 4, ground := Go.Ground.chain }], guard := none }
def o16_6 : Oper := { dst := some 90, op := Go.Op.move (Go.Operand.tmp 0), type := 22, pos := "ref.go:145", after := #[], guard := none }
def o16_7 : Oper := { dst := some 91, op := Go.Op.move (Go.Operand.tmp 5), type := 3, pos := "ref.go:145", after := #[], guard := none }
def o16_8 : Oper := { dst := some 92, op := Go.Op.binOp Go.BinOp.add 3 (Go.Operand.tmp 91) (Go.Operand.const (Go.Value.int Go.IntKind.i64 8)) 3, type := 3, pos := "ref.go:145", after := #[{ on := 7, ground := Go.Ground.data }], guard := none }
def o16_9 : Oper := { dst := some 93, op := Go.Op.call { callee := Go.Callee.value (Go.Operand.func 43), args := #[Go.Operand.tmp 90, Go.Operand.tmp 92, Go.Operand.const (Go.Value.int Go.IntKind.i64 8)], argTypes := #[22, 3, 3] }, type := 45, pos := "ref.go:145", after := #[{ on := 6, ground := Go.Ground.data }, { on := 8, ground := Go.Ground.data }, { on := 5, ground := Go.Ground.chain }], guard := none }
def o16_10 : Oper := { dst := some 94, op := Go.Op.call { callee := Go.Callee.value (Go.Operand.func 42), args := #[Go.Operand.tmp 93], argTypes := #[45] }, type := 47, pos := "ref.go:145", after := #[{ on := 9, ground := Go.Ground.data }, { on := 9, ground := Go.Ground.chain }], guard := none }
def o16_11 : Oper := { dst := some 95, op := Go.Op.call { callee := Go.Callee.builtin Go.Builtin.complex, args := #[Go.Operand.tmp 89, Go.Operand.tmp 94], argTypes := #[47, 47] }, type := 40, pos := "ref.go:145", after := #[{ on := 5, ground := Go.Ground.data }, { on := 10, ground := Go.Ground.data }], guard := none }
def o16_12 : Oper := { dst := some 96, op := Go.Op.buildSlice 28 1 #[(0, Go.Operand.tmp 95)], type := 28, pos := "ref.go:145", after := #[{ on := 11, ground := Go.Ground.data }], guard := none }
def o16_13 : Oper := { dst := some 97, op := Go.Op.call { callee := Go.Callee.builtin Go.Builtin.append, args := #[Go.Operand.tmp 85, Go.Operand.tmp 96], argTypes := #[28, 28] }, type := 28, pos := "ref.go:145", after := #[{ on := 1, ground := Go.Ground.data }, { on := 12, ground := Go.Ground.data }, { on := 10, ground := Go.Ground.chain }], guard := none }
def o16_14 : Oper := { dst := some 98, op := Go.Op.fieldAddr 30 (Go.Operand.tmp 4) 1, type := 0, pos := "ref.go:145", after := #[{ on := 0, ground := Go.Ground.phase }, { on := 1, ground := Go.Ground.phase }, { on := 2, ground := Go.Ground.phase }, { on := 3, ground := Go.Ground.phase }, { on := 4, ground := Go.Ground.phase }, { on := 5, ground := Go.Ground.phase }, { on := 6, ground := Go.Ground.phase }, { on := 7, ground := Go.Ground.phase }, { on := 8, ground := Go.Ground.phase }, { on := 9, ground := Go.Ground.phase }, { on := 10, ground := Go.Ground.phase }, { on := 11, ground := Go.Ground.phase }, { on := 12, ground := Go.Ground.phase }, { on := 13, ground := Go.Ground.phase }], guard := none }
def o16_15 : Oper := { dst := none, op := Go.Op.store 28 (Go.Operand.tmp 98) (Go.Operand.tmp 97), type := 0, pos := "ref.go:145", after := #[{ on := 14, ground := Go.Ground.data }, { on := 13, ground := Go.Ground.data }, { on := 13, ground := Go.Ground.chain }, { on := 0, ground := Go.Ground.phase }, { on := 1, ground := Go.Ground.phase }, { on := 2, ground := Go.Ground.phase }, { on := 3, ground := Go.Ground.phase }, { on := 4, ground := Go.Ground.phase }, { on := 5, ground := Go.Ground.phase }, { on := 6, ground := Go.Ground.phase }, { on := 7, ground := Go.Ground.phase }, { on := 8, ground := Go.Ground.phase }, { on := 9, ground := Go.Ground.phase }, { on := 10, ground := Go.Ground.phase }, { on := 11, ground := Go.Ground.phase }, { on := 12, ground := Go.Ground.phase }, { on := 13, ground := Go.Ground.phase }], guard := none }
def R16 : Array Oper := #[o16_0, o16_1, o16_2, o16_3, o16_4, o16_5, o16_6, o16_7, o16_8, o16_9, o16_10, o16_11, o16_12, o16_13, o16_14, o16_15]
/-- A call that leaves the world, as one step of a region that draws. -/
theorem step_call {P : Program} {ops : Array Oper} {o : Oper} {a : Act} {w : World} {K : Act → World → Prop} {Q : Exit → Act → World → Prop} {E : Prop} {f : FuncId} {args : Array Value} {v : Value}
    (hg : o.guard = none) (hr : (execOp a.eval o).run P w = .ok (.enter f args) w) (hc : Calls P f args w fun r w' => r = .returned v ∧ w' = w) (hK : K (a.put o.dst v) w) :
    if Region.wanted o (yielded ops a.tmps) = true then Oper.wp P o a w K Q else E := by
  have hw : Region.wanted o (yielded ops a.tmps) = true := by simp [Region.wanted, hg]
  rw [if_pos hw]
  unfold Oper.wp
  rw [hr, Oper.upon_enter]
  exact hc.mono fun e w' ⟨h1, h2⟩ => by subst h1 h2; exact hK
theorem float_lt (n : Int) : floatOfInt .f64 n < 18446744073709551616 := Nat.lt_of_lt_of_le (double.write_lt (.number (n < 0) n.natAbs 0)) (by decide)
theorem one_newC (w : World) (x : Value) (t : TypeId) : ∀ j u, [x][j]? = some u → (w.alloc (.cells #[x] t)).cell? ((⟨w.heap.size, 0, none⟩ : Addr).add j) = some u := one_newB w x t

set_option maxRecDepth 100000 in
set_option maxHeartbeats 12800000 in
theorem unpackHead {a : Option Addr} {g o c : Nat} {L : List Nat} (w : World) (h : BAt w a g o L) (hH : Head L) :
    Calls Try.prog 35 #[.slice a L.length c] w fun r w' => ((∃ f gz cz, Good L f ∧ r = .returned (.tuple #[fieldV (side L) gz (side L * side L) cz, .int .i64 0]) ∧ Row w' gz (side L * side L) f ∧ w.heap.size ≤ gz) ∨ ((∀ f, ¬ Good L f) ∧ r = .returned (.tuple #[.agg #[.int .i64 0, .slice none 0 0], .int .i64 210]))) ∧ Below w.heap.size w w' := by
  obtain ⟨hl, hw, hlo, hhi⟩ := hH
  obtain ⟨rfl, hg⟩ := h.at_ (by omega)
  have HH : Hid (Head L) := ⟨hl, hw, hlo, hhi⟩
  have HB := hide h
  have q1 : ((L.length : Int) < 2) = False := by simp; omega
  have q1' : ((0 : Int) < (L.length : Int)) = True := by simp; omega
  have q1'' : ((1 : Int) < (L.length : Int)) = True := by simp; omega
  have c0 : (w.alloc (.cells #[.int .i64 0, .slice none 0 0] 30)).cell? ⟨g, o, none⟩ = some (.int .u8 (L.getD 0 0 : Nat)) := bat_cell h ((Below.refl _ _).alloc (Nat.le_refl _) _) (i := 0) (by omega)
  have c1 : (w.alloc (.cells #[.int .i64 0, .slice none 0 0] 30)).cell? ⟨g, o + 1, none⟩ = some (.int .u8 (L.getD 1 0 : Nat)) := bat_cell h ((Below.refl _ _).alloc (Nat.le_refl _) _) (i := 1) (by omega)
  have S0 := hide (fun n f => um_start w n f)
  clear h
  generalize hz : L.getD 0 0 = z at *
  generalize hn : L.getD 1 0 = n at *
  have HZ := hide hz
  have HZ' : Hid (L.getD 0 0 = z) := hz
  have HN' : Hid (L.getD 1 0 = n) := hn
  clear hz hn
  have q2 : ((2 : Int) < (z : Int)) = False := by simp; omega
  have q3 : ((n : Int) < 1) = False := by simp; omega
  have q4 : ((64 : Int) < (n : Int)) = False := by simp; omega
  go_enter Try.func35, Try.ntmps35
  go_wp2_with fail
  obtain ⟨M, hM⟩ : ∃ M, M = n * n := ⟨_, rfl⟩
  have hM2 : M ≤ 4096 := by rw [hM]; exact Nat.mul_le_mul (show n ≤ 64 from hhi) hhi
  have hM1 : 1 ≤ M := by rw [hM]; exact Nat.mul_le_mul hlo hlo
  have nn : (n : Int) * (n : Int) = (M : Int) := by rw [hM, Int.natCast_mul]
  have nw : IntKind.i64.wrap ((n : Int) * (n : Int)) = (M : Int) := by rw [nn, IntKind.wrap_i64]; omega
  have HM := hide hM
  clear hM
  have ST := hide (stU_le L z)
  obtain ⟨i0, hi0, hz0, hz1, hz2⟩ := info_parts infoCx
  go_loopw [5, 6, 7, 8] (fun tv rv sv iv wr => ∃ (i t : Nat) (r s : Int) (v : Value) (f : Nat → Nat × Nat), i ≤ M ∧ tv = .int .i64 t ∧ rv = .int .i64 r ∧ sv = .int .i64 s ∧ iv = .int .i64 i ∧ Hid (stU L z i = (t, r, s)) ∧ Hid (∀ j, j < i → CellIs L z j (f j)) ∧ Hid (∀ j, j < i → (f j).1 < 18446744073709551616 ∧ (f j).2 < 18446744073709551616) ∧ Hid (UM w wr n v i f)) (fun _ _ _ iv _ => M - (intOf iv).toNat)
  case atStart => exact ⟨0, 2, 0, 0, .slice none 0 0, fun _ => (0, 0), Nat.zero_le _, rfl, rfl, rfl, rfl, rfl, fun j hj => absurd hj (Nat.not_lt_zero j), fun j hj => absurd hj (Nat.not_lt_zero j), unhide S0 n _⟩
  case round =>
    clear S0 c0 c1
    obtain ⟨i, t, r, s, v, f, hi, rfl, rfl, rfl, rfl, hst, hcs, hbs, hU⟩ := hrel
    obtain ⟨b1, b2, b3⟩ := um_cell (unhide hU)
    obtain ⟨l1, l2, l3⟩ := unhide ST i
    rw [unhide hst] at l1 l2 l3
    dsimp only at l1 l2 l3
    have BW := hide (bat_keep (unhide HB) (unhide hU).bel)
    by_cases hc : i < M
    · have q5 : ((i : Int) < (M : Int)) = True := by simp; omega
      have cz := (unhide BW).cell 0 (by omega)
      rw [unhide HZ, Nat.add_zero] at cz
      have hz' : z = 0 ∨ z = 1 ∨ z = 2 := by omega
      rcases hz' with rfl | rfl | rfl
      · have e1 : Hid (stU L 0 (i + 1) = (t + 16, r, s)) := by
          show _ = _
          rw [stU, if_pos rfl, unhide hst]
        have BW' : Hid (BAt wr.drew (some ⟨g, o, none⟩) g o L) := ⟨(unhide BW).lt, (unhide BW).at_, (unhide BW).cell⟩
        have k1 := hide (refNumber (c := c) (i := t) (n := 8) (by decide) (by omega) wr.drew (unhide BW'))
        have k2 := hide (refNumber (c := c) (i := t + 8) (n := 8) (by decide) (by omega) wr.drew (unhide BW'))
        have y1 := numB_lt (unhide BW).lt t 8
        have y2 := numB_lt (unhide BW).lt (t + 8) 8
        rw [show (256 : Nat) ^ 8 = 18446744073709551616 by decide] at y1 y2
        have hci : Hid (CellIs L 0 i (numB L t 8, numB L (t + 8) 8)) := .inl ⟨rfl, by rw [unhide hst]⟩
        obtain ⟨t8, ht8⟩ : ∃ t8, t8 = t + 8 := ⟨_, rfl⟩
        rw [← ht8] at k2 y2 hci
        have m1 : IntKind.i64.wrap ((t : Int) + 8) = (t8 : Int) := by rw [IntKind.wrap_i64]; omega
        have m1' : (t : Int) + 8 = (t8 : Int) := by omega
        have ht8l : t8 ≤ 65546 := by omega
        clear ht8
        generalize numB L t 8 = x1 at *
        generalize numB L t8 8 = x2 at *
        have kf := from31
        have hcs2 : Hid (∀ j, j < i + 1 → CellIs L 0 j (updC f i (x1, x2) j)) := fun j hj => by
          unfold updC
          by_cases e : j = i
          · rw [if_pos e, e]
            exact unhide hci
          · rw [if_neg e]
            exact unhide hcs j (by omega)
        have hbs2 : Hid (∀ j, j < i + 1 → (updC f i (x1, x2) j).1 < 18446744073709551616 ∧ (updC f i (x1, x2) j).2 < 18446744073709551616) := fun j hj => by
          unfold updC
          by_cases e : j = i
          · rw [if_pos e]
            exact ⟨y1, y2⟩
          · rw [if_neg e]
            exact unhide hbs j (by omega)
        clear hcs hbs hst hci
        have hU' : Hid (UM w wr.drew n v i f) := um_drew (d := 1) (unhide hU)
        have hO : Hid ((wr.drew.alloc (.cells #[.complex .f64 x1 x2] 40)).ownsRow (w.heap.size + 2) 40 1 v i (cL f i)) := (unhide hU').own.alloc _
        have hnw : Hid (∀ j u, [Value.complex .f64 x1 x2][j]? = some u → (wr.drew.alloc (.cells #[.complex .f64 x1 x2] 40)).cell? ((⟨wr.drew.heap.size, 0, none⟩ : Addr).add j) = some u) := one_newC wr.drew _ _
        have h1c : Hid (∀ u ∈ [Value.complex .f64 x1 x2], u.oneCell' = true) := fun u hu => by simp at hu; subst hu; rfl
        have hsz := um_size (unhide hU')
        go_wp2_with fail
        change Code.wp Try.prog (Code.region 16 R16 true) _ _ _
        refine wp_region_L (S := SL (fun _ => True) (fun W => W.cell? ⟨w.heap.size + 1, 1, none⟩ = some v) (fun _ => True) 15 15) mixedK ⟨trivial, fun _ => (um_cell (unhide hU')).2.1, fun _ => trivial⟩ (fun hcl hS => ?_)
        generalize wr.drew = Wc at *
        refine anyL_take (i := 0) (oi := o16_0) (v := .pointer (some ⟨w.heap.size + 1, 1, none⟩)) (S0 := (fun _ => True)) rfl (by kernel_rfl) (by kernel_rfl) (by kernel_rfl) (fun _ _ _ h => h) (sl_set (by decide) (by decide)) (fun _ _ _ _ _ => trivial) hcl hS (Or.inl ⟨by rfl, ?_⟩) (fun hcl hS => ?_)
        · intro W hSw
          simp only [o16_0]
          go_simp
        simp only [o16_0, Act.put, List.setIfInBounds_toArray, List.set_cons_zero, List.set_cons_succ]
        refine anyL_take (i := 1) (oi := o16_1) (v := v) (S0 := (fun W => W.cell? ⟨w.heap.size + 1, 1, none⟩ = some v)) rfl (by kernel_rfl) (by kernel_rfl) (by kernel_rfl) (fun _ _ _ h => h) (sl_set (by decide) (by decide)) (sl_b2 (by decide) (by kernel_rfl)) hcl hS (Or.inl ⟨by rfl, ?_⟩) (fun hcl hS => ?_)
        · intro W hSw
          simp only [o16_1]
          go_simp
        simp only [o16_1, Act.put, List.setIfInBounds_toArray, List.set_cons_zero, List.set_cons_succ]
        refine anyL_take (i := 2) (oi := o16_2) (v := .slice (some ⟨g, o, none⟩) L.length c) (S0 := (fun _ => True)) rfl (by kernel_rfl) (by kernel_rfl) (by kernel_rfl) (fun _ _ _ h => h) (sl_set (by decide) (by decide)) (fun _ _ _ _ _ => trivial) hcl hS (Or.inl ⟨by rfl, ?_⟩) (fun hcl hS => ?_)
        · intro W hSw
          simp only [o16_2]
          go_simp
        simp only [o16_2, Act.put, List.setIfInBounds_toArray, List.set_cons_zero, List.set_cons_succ]
        refine anyL_take (i := 3) (oi := o16_3) (v := .int .i64 t) (S0 := (fun _ => True)) rfl (by kernel_rfl) (by kernel_rfl) (by kernel_rfl) (fun _ _ _ h => h) (sl_set (by decide) (by decide)) (fun _ _ _ _ _ => trivial) hcl hS (Or.inl ⟨by rfl, ?_⟩) (fun hcl hS => ?_)
        · intro W hSw
          simp only [o16_3]
          go_simp
        simp only [o16_3, Act.put, List.setIfInBounds_toArray, List.set_cons_zero, List.set_cons_succ]
        refine anyL_take (i := 6) (oi := o16_6) (v := .slice (some ⟨g, o, none⟩) L.length c) (S0 := (fun _ => True)) rfl (by kernel_rfl) (by kernel_rfl) (by kernel_rfl) (fun _ _ _ h => h) (sl_set (by decide) (by decide)) (fun _ _ _ _ _ => trivial) hcl hS (Or.inl ⟨by rfl, ?_⟩) (fun hcl hS => ?_)
        · intro W hSw
          simp only [o16_6]
          go_simp
        simp only [o16_6, Act.put, List.setIfInBounds_toArray, List.set_cons_zero, List.set_cons_succ]
        refine anyL_take (i := 7) (oi := o16_7) (v := .int .i64 t) (S0 := (fun _ => True)) rfl (by kernel_rfl) (by kernel_rfl) (by kernel_rfl) (fun _ _ _ h => h) (sl_set (by decide) (by decide)) (fun _ _ _ _ _ => trivial) hcl hS (Or.inl ⟨by rfl, ?_⟩) (fun hcl hS => ?_)
        · intro W hSw
          simp only [o16_7]
          go_simp
        simp only [o16_7, Act.put, List.setIfInBounds_toArray, List.set_cons_zero, List.set_cons_succ]
        refine anyL_take (i := 8) (oi := o16_8) (v := .int .i64 t8) (S0 := (fun _ => True)) rfl (by kernel_rfl) (by kernel_rfl) (by kernel_rfl) (fun _ _ _ h => h) (sl_set (by decide) (by decide)) (fun _ _ _ _ _ => trivial) hcl hS (Or.inl ⟨by rfl, ?_⟩) (fun hcl hS => ?_)
        · intro W hSw
          simp only [o16_8]
          go_simp
          rw [IntKind.wrap_i64]; omega
        simp only [o16_8, Act.put, List.setIfInBounds_toArray, List.set_cons_zero, List.set_cons_succ]
        refine anyL_one (i := 4) (o := o16_4) (by kernel_rfl) rfl hcl ?_
        intro K hK
        refine step_call rfl ?_ (unhide k1) ?_
        · simp only [o16_4]
          go_simp
        simp only [o16_4, Act.put, List.setIfInBounds_toArray, List.set_cons_zero, List.set_cons_succ]
        refine hK.out _ _ ⟨trivial, fun _ => (um_cell (unhide hU')).2.1, fun _ => trivial⟩ (fun hcl hS => ?_)
        clear hK K
        refine anyL_take (i := 5) (oi := o16_5) (v := .float .f64 x1) (S0 := (fun _ => True)) rfl (by kernel_rfl) (by kernel_rfl) (by kernel_rfl) (fun _ _ _ h => h) (sl_set (by decide) (by decide)) (fun _ _ _ _ _ => trivial) hcl hS (Or.inl ⟨by rfl, ?_⟩) (fun hcl hS => ?_)
        · intro W hSw
          simp only [o16_5]
          go_simp
        simp only [o16_5, Act.put, List.setIfInBounds_toArray, List.set_cons_zero, List.set_cons_succ]
        refine anyL_one (i := 9) (o := o16_9) (by kernel_rfl) rfl hcl ?_
        intro K hK
        refine step_call rfl ?_ (unhide k2) ?_
        · simp only [o16_9]
          go_simp
        simp only [o16_9, Act.put, List.setIfInBounds_toArray, List.set_cons_zero, List.set_cons_succ]
        refine hK.out _ _ ⟨trivial, fun _ => (um_cell (unhide hU')).2.1, fun _ => trivial⟩ (fun hcl hS => ?_)
        clear hK K
        refine anyL_take (i := 10) (oi := o16_10) (v := .float .f64 x2) (S0 := (fun _ => True)) rfl (by kernel_rfl) (by kernel_rfl) (by kernel_rfl) (fun _ _ _ h => h) (sl_set (by decide) (by decide)) (fun _ _ _ _ _ => trivial) hcl hS (Or.inl ⟨by rfl, ?_⟩) (fun hcl hS => ?_)
        · intro W hSw
          simp only [o16_10]
          go_simp
        simp only [o16_10, Act.put, List.setIfInBounds_toArray, List.set_cons_zero, List.set_cons_succ]
        refine anyL_take (i := 11) (oi := o16_11) (v := .complex .f64 x1 x2) (S0 := (fun _ => True)) rfl (by kernel_rfl) (by kernel_rfl) (by kernel_rfl) (fun _ _ _ h => h) (sl_set (by decide) (by decide)) (fun _ _ _ _ _ => trivial) hcl hS (Or.inl ⟨by rfl, ?_⟩) (fun hcl hS => ?_)
        · intro W hSw
          simp only [o16_11]
          go_simp
        simp only [o16_11, Act.put, List.setIfInBounds_toArray, List.set_cons_zero, List.set_cons_succ]
        refine anyL_one (i := 12) (o := o16_12) (by kernel_rfl) rfl hcl ?_
        intro K hK
        simp only [o16_12]
        go_simp
        refine hK.out _ _ ⟨trivial, fun _ => (World.cell?_of_block (Below.heap_alloc Wc _ _ (um_size (unhide hU')))).trans (um_cell (unhide hU')).2.1, fun _ => trivial⟩ (fun hcl hS => ?_)
        clear hK K
        refine anyL_one (i := 13) (o := o16_13) (by kernel_rfl) rfl hcl ?_
        intro K hK
        refine step_append_own rfl (.tmp 85) (.tmp 96) 28 rfl (w.heap.size + 2) 40 i0 (.complex .f64 0 0) 1 16 Try.underlying28 hi0 hz0 hz1 hz2 rfl (by decide) v i (cL f i) rfl (unhide hO) ⟨Wc.heap.size, 0, none⟩ 1 1 [.complex .f64 x1 x2] rfl rfl (unhide hnw) (unhide h1c) (by unfold maxLen; omega) (by omega) (by simp; omega) ?_
        intro v' w2 hown' hgrow
        obtain ⟨b5, b6⟩ := um_mid (unhide hU') hgrow
        have hU2 := hide (um_step (c := (x1, x2)) (unhide hU') hown' hgrow)
        obtain ⟨g5, c5, rfl⟩ := own_sliceC hown' (by omega)
        clear hown' hgrow hO hU hU' hnw
        simp only [o16_13, Act.put, List.setIfInBounds_toArray, List.set_cons_zero, List.set_cons_succ]
        refine hK.out _ _ ⟨trivial, fun _ => b5, fun _ => trivial⟩ (fun hcl hS => ?_)
        clear hK K
        refine anyL_take (i := 14) (oi := o16_14) (v := .pointer (some ⟨w.heap.size + 1, 1, none⟩)) (S0 := (fun _ => True)) rfl (by kernel_rfl) (by kernel_rfl) (by kernel_rfl) (fun _ _ _ h => h) (sl_set (by decide) (by decide)) (fun _ _ _ _ _ => trivial) hcl hS (Or.inl ⟨by rfl, ?_⟩) (fun hcl hS => ?_)
        · intro W hSw
          simp only [o16_14]
          go_simp
        simp only [o16_14, Act.put, List.setIfInBounds_toArray, List.set_cons_zero, List.set_cons_succ]
        refine anyL_one (i := 15) (o := o16_15) (by kernel_rfl) rfl hcl ?_
        intro K hK
        simp only [o16_15]
        go_simp
        refine hK.out _ _ ⟨trivial, fun h => (not_false_ofK (by kernel_rfl) h).elim, fun _ => trivial⟩ (fun hcl hS => ?_)
        clear hK K
        refine anyL_done (by kernel_rfl) ?_ _
        go_wp2_with fail
        go_roundw
        case rel => exact ⟨_, _, _, _, _, _, _, _, _, _, _, _, _, _, _, _, _, _, _, _, _, _, _, _, _, _, _, _, _, _, _, _, _, _, _, _, _, _, _, _, _, _, _, _, _, _, _, _, _, _, _, _, _, _, _, _, _, _, _, _, _, _, _, _, _, _, _, _, _, _, _, _, _, _, _, _, _, _, _, _, _, _, _, _, _, _, _, _, _, _, _, ⟨i + 1, t + 16, r, s, _, _, hc, by go_num, rfl, rfl, by go_num, e1, hcs2, hbs2, hU2⟩, rfl⟩
        case measure => simp [intOf]; omega
      · have e1 : Hid (stU L 1 (i + 1) = (t + 8, r, s)) := by
          show _ = _
          rw [stU, if_neg (by decide), if_pos rfl, unhide hst]
        have k1 := hide (refNumber (c := c) (i := t) (n := 4) (by decide) (by omega) wr (unhide BW))
        have k2 := hide (refNumber (c := c) (i := t + 4) (n := 4) (by decide) (by omega) wr (unhide BW))
        have y1 := numB_lt (unhide BW).lt t 4
        have y2 := numB_lt (unhide BW).lt (t + 4) 4
        rw [show (256 : Nat) ^ 4 = 4294967296 by decide] at y1 y2
        have hci : Hid (∀ d, WideOk (numB L t 4) d.1 → WideOk (numB L (t + 4) 4) d.2 → CellIs L 1 i d) := fun d h1 h2 => .inr (.inl ⟨rfl, by rw [unhide hst]; exact h1, by rw [unhide hst]; exact h2⟩)
        have m1 : IntKind.i64.wrap ((t : Int) + 4) = ((t + 4 : Nat) : Int) := by rw [IntKind.wrap_i64]; omega
        have m2 : IntKind.i64.wrap ((t : Int) + 8) = ((t + 8 : Nat) : Int) := by rw [IntKind.wrap_i64]; omega
        generalize numB L t 4 = x1 at *
        generalize numB L (t + 4) 4 = x2 at *
        have kf := from32n
        obtain ⟨y1', y2', d, cw, h1, h2⟩ := run_wide x1 x2 wr
        have W1 : Hid (WideOk x1 y1') := ⟨wide_lt h1, wide_or h1⟩
        have W2 : Hid (WideOk x2 y2') := ⟨wide_lt h2, wide_or h2⟩
        have hcs2 : Hid (∀ j, j < i + 1 → CellIs L 1 j (updC f i (y1', y2') j)) := fun j hj => by
          unfold updC
          by_cases e : j = i
          · rw [if_pos e, e]
            exact unhide hci _ (unhide W1) (unhide W2)
          · rw [if_neg e]
            exact unhide hcs j (by omega)
        have hbs2 : Hid (∀ j, j < i + 1 → (updC f i (y1', y2') j).1 < 18446744073709551616 ∧ (updC f i (y1', y2') j).2 < 18446744073709551616) := fun j hj => by
          unfold updC
          by_cases e : j = i
          · rw [if_pos e]
            exact ⟨(unhide W1).1, (unhide W2).1⟩
          · rw [if_neg e]
            exact unhide hbs j (by omega)
        clear hcs hbs hst h1 h2 W1 W2 hci
        go_wp2_with fail
        refine (unhide k1).mono ?_
        rintro e w2 ⟨rfl, hw'⟩
        obtain rfl := hw'.symm
        go_wp2_with fail
        refine (unhide k2).mono ?_
        rintro e w2 ⟨rfl, hw'⟩
        obtain rfl := hw'.symm
        have hO := hide (um_drew (d := d) (unhide hU)).own
        have hU' := hide (um_drew (d := d) (unhide hU))
        go_wp2_with (first
          | (at_builtin; refine wpList_append_own _ rfl (.tmp 115) (.tmp 120) 28 rfl (w.heap.size + 2) 40 i0 (.complex .f64 0 0) 1 16 Try.underlying28 hi0 hz0 hz1 hz2 rfl (by decide) _ _ _ rfl ((unhide hO).alloc _) ⟨wr.heap.size, 0, none⟩ 1 1 [.complex .f64 y1' y2'] rfl rfl (one_newC _ _ _) ?c2 ?c3 ?c4 ?c5 ?_))
        case c2 => intro u hu; simp at hu; subst hu; rfl
        case c3 => unfold maxLen; omega
        case c4 => have := um_size (unhide hU); omega
        case c5 => have := um_size (unhide hU); simp; omega
        intro v' w2 hown' hgrow _
        obtain ⟨b5, b6⟩ := um_mid (unhide hU') hgrow
        have hU2 := hide (um_step (c := (y1', y2')) (unhide hU') hown' hgrow)
        obtain ⟨g5, c5, rfl⟩ := own_sliceC hown' (by omega)
        clear hown' hgrow hO hU hU'
        go_wp2_with fail
        go_roundw
        case rel => exact ⟨_, _, _, _, _, _, _, _, _, _, _, _, _, _, _, _, _, _, _, _, _, _, _, _, _, _, _, _, _, _, _, _, _, _, _, _, _, _, _, _, _, _, _, _, _, _, _, _, _, _, _, _, _, _, _, _, _, _, _, _, _, _, _, _, _, _, _, _, _, _, _, _, _, _, _, _, _, _, _, _, _, _, _, _, _, _, _, _, _, _, _, ⟨i + 1, t + 8, r, s, _, _, hc, by go_num, rfl, rfl, by go_num, e1, hcs2, hbs2, hU2⟩, rfl⟩
        case measure => simp [intOf]; omega
      · have g1 := hide (refGroup (c := c) (i := t) (by omega) wr (unhide BW))
        have a1 := grp_at L t
        have g2 := hide (refGroup (c := c) (i := (grp L t).2) (by omega) wr (unhide BW))
        have u1 := unfoldZ_le (grp_lt L t)
        have u2 := unfoldZ_le (grp_lt L (grp L t).2)
        have hst2 : Hid (stU L 2 (i + 1) = ((grp L (grp L t).2).2, r + unfoldZ (grp L t).1, s + unfoldZ (grp L (grp L t).2).1)) := by
          show _ = _
          rw [stU, if_neg (by decide), if_neg (by decide), unhide hst]
        generalize grp L t = p1 at *
        generalize grp L p1.2 = p2 at *
        obtain ⟨x1, t1⟩ := p1
        obtain ⟨x2, t2⟩ := p2
        dsimp only at g1 g2 a1 u1 u2 hst2
        generalize unfoldZ x1 = z1 at *
        generalize unfoldZ x2 = z2 at *
        obtain ⟨r', hr'⟩ : ∃ r', r' = r + z1 := ⟨_, rfl⟩
        obtain ⟨s', hs'⟩ : ∃ s', s' = s + z2 := ⟨_, rfl⟩
        rw [← hr', ← hs'] at hst2
        have m1 : IntKind.i64.wrap (r + z1) = r' := by rw [IntKind.wrap_i64]; omega
        have m2 : IntKind.i64.wrap (s + z2) = s' := by rw [IntKind.wrap_i64]; omega
        have m1' : r + z1 = r' := hr'.symm
        have m2' : s + z2 = s' := hs'.symm
        have hcs2 : Hid (∀ j, j < i + 1 → CellIs L 2 j (updC f i (floatOfInt .f64 r', floatOfInt .f64 s') j)) := fun j hj => by
          unfold updC
          by_cases e : j = i
          · rw [if_pos e, e]
            exact .inr (.inr ⟨rfl, by rw [unhide hst2]⟩)
          · rw [if_neg e]
            exact unhide hcs j (by omega)
        have hbs2 : Hid (∀ j, j < i + 1 → (updC f i (floatOfInt .f64 r', floatOfInt .f64 s') j).1 < 18446744073709551616 ∧ (updC f i (floatOfInt .f64 r', floatOfInt .f64 s') j).2 < 18446744073709551616) := fun j hj => by
          unfold updC
          by_cases e : j = i
          · rw [if_pos e]
            exact ⟨float_lt _, float_lt _⟩
          · rw [if_neg e]
            exact unhide hbs j (by omega)
        clear hcs hbs hst hr' hs'
        go_wp2_with fail
        refine (unhide g1).mono ?_
        rintro e w2 ⟨rfl, hw'⟩
        obtain rfl := hw'.symm
        go_wp2_with fail
        refine (unhide g2).mono ?_
        rintro e w2 ⟨rfl, hw'⟩
        obtain rfl := hw'.symm
        have hO := hide (unhide hU).own
        go_wp2_with (first
          | (at_builtin; refine wpList_append_own _ rfl (.tmp 73) (.tmp 79) 28 rfl (w.heap.size + 2) 40 i0 (.complex .f64 0 0) 1 16 Try.underlying28 hi0 hz0 hz1 hz2 rfl (by decide) _ _ _ rfl ((unhide hO).alloc _) ⟨wr.heap.size, 0, none⟩ 1 1 [.complex .f64 (floatOfInt .f64 r') (floatOfInt .f64 s')] rfl rfl (one_newC _ _ _) ?c2 ?c3 ?c4 ?c5 ?_))
        case c2 => intro u hu; simp at hu; subst hu; rfl
        case c3 => unfold maxLen; omega
        case c4 => have := um_size (unhide hU); omega
        case c5 => have := um_size (unhide hU); simp; omega
        intro v' w2 hown' hgrow _
        obtain ⟨b5, b6⟩ := um_mid (unhide hU) hgrow
        have hU2 := hide (um_step (c := (floatOfInt .f64 r', floatOfInt .f64 s')) (unhide hU) hown' hgrow)
        obtain ⟨g5, c5, rfl⟩ := own_sliceC hown' (by omega)
        clear hown' hgrow hO hU
        go_wp2_with fail
        go_roundw
        case rel => exact ⟨_, _, _, _, _, _, _, _, _, _, _, _, _, _, _, _, _, _, _, _, _, _, _, _, _, _, _, _, _, _, _, _, _, _, _, _, _, _, _, _, _, _, _, _, _, _, _, _, _, _, _, _, _, _, _, _, _, _, _, _, _, _, _, _, _, _, _, _, _, _, _, _, _, _, _, _, _, _, _, _, _, _, _, _, _, _, _, _, _, _, _, ⟨i + 1, t2, r', s', _, _, hc, rfl, rfl, rfl, by go_num, hst2, hcs2, hbs2, hU2⟩, rfl⟩
        case measure => simp [intOf]; omega
    · have q5 : ((i : Int) < (M : Int)) = False := by simp; omega
      have e : i = M := by omega
      subst e
      obtain ⟨gz, cz, rfl, hgz, hRz⟩ := um_row (unhide hU) hM1
      have kS := hide (refShort n gz i cz f wr hhi hM2 (unhide hbs) hRz)
      unfold fieldV at kS
      have RZ := hide hRz
      have cr1 : wr.cell? ⟨w.heap.size, 0, none⟩ = some (.int .i64 0) := by simp [World.cell?, (unhide hU).res]
      have cr2 : wr.cell? ⟨w.heap.size, 1, none⟩ = some (.slice none 0 0) := by simp [World.cell?, (unhide hU).res]
      clear hRz
      go_wp2_with fail
      refine (unhide kS).mono ?_
      rintro e w2 ⟨aw, g2, c2, rfl, hSh, hOwn, hb2⟩
      have B2 := hide ((unhide hU).bel.trans (hb2.mono (unhide hU).bel.size))
      have hcan := sh_can hSh
      have e1 := run_str (w := w2) (g := g2) (o := 0) (cap := c2) (L := byL aw n i f) (own_cellsB hOwn)
      have e2 := run_str (w := w2) (g := g) (o := o) (cap := c) (L := L) (fun j hj => bat_cell (unhide HB) (unhide B2) hj)
      have ec := str_same (by_lt hcan.1 hcan.2 hhi) (mem_getD (unhide HB).lt)
      have SH := hide hSh
      have r0 : w2.heap[w.heap.size]? = some (.cells #[.int .i64 0, .slice none 0 0] 30 (0, 0)) := by
        rw [hb2.block _ (by have := um_size (unhide hU); omega)]
        exact (unhide hU).res
      have r1 : w2.heap[w.heap.size + 1]? = some (.cells #[.int .i64 n, .slice (some ⟨gz, 0, none⟩) i cz] 30 (0, 0)) := by
        rw [hb2.block _ (um_size (unhide hU))]
        exact (unhide hU).box
      have R0 := hide r0
      have RZ2 := hide (row_keep (unhide RZ) (hb2.block gz (row_lt (unhide RZ))))
      have f0 : w2.cell? ⟨w.heap.size + 1, 0, none⟩ = some (.int .i64 n) := by simp [World.cell?, r1]
      have f1 : w2.cell? ⟨w.heap.size + 1, 1, none⟩ = some (.slice (some ⟨gz, 0, none⟩) i cz) := by simp [World.cell?, r1]
      have z0 : w2.cell? ⟨w.heap.size, 0, none⟩ = some (.int .i64 0) := by simp [World.cell?, r0]
      have z1 : w2.cell? ⟨w.heap.size, 1, none⟩ = some (.slice none 0 0) := by simp [World.cell?, r0]
      have z2 : w2.frozen? ⟨w.heap.size, 0, none⟩ = false := by simp [World.frozen?, r0]
      have z3 : w2.frozen? ⟨w.heap.size, 1, none⟩ = false := by simp [World.frozen?, r0]
      clear r0 r1 hOwn hb2 hSh hcan cr1 cr2 b1 b2 b3 kS RZ
      by_cases hq : byL aw n i f = L
      · have ec' : ((strB (byL aw n i f)).toList == (strB L).toList) = true := by rw [ec]; exact decide_eq_true hq
        have HQ := hide hq
        clear ec hq
        generalize strB (byL aw n i f) = S1 at *
        generalize strB L = S2 at *
        go_wp2_with fail
        obtain ⟨t1, t2, t3, t4⟩ := two_set (unhide R0) (.int .i64 n) (.slice (some ⟨gz, 0, none⟩) i cz)
        refine bodyPost_ret (results_two_tmp (P := Try.prog) rfl _ _ w.heap.size (.int .i64 n) (.slice (some ⟨gz, 0, none⟩) i cz) (.int .i64 0) _ rfl rfl t1 t2 Try.underlying30 rfl (by kernel_rfl)) rfl ?_
        have es : side L = n := unhide HN'
        have em : side L * side L = i := by rw [es]; exact (unhide HM).symm
        refine ⟨.inl ⟨f, gz, cz, ⟨unhide HH, ?_, aw, ?_, ?_⟩, ?_, ?_, by omega⟩, ((unhide B2).setCell (Nat.le_refl _) _).setCell (Nat.le_refl _) _⟩
        · rw [em, unhide HZ']
          exact unhide hcs
        · rw [em, es]
          exact unhide SH
        · rw [em, es]
          exact unhide HQ
        · unfold fieldV
          rw [em, es]
        · rw [em]
          exact row_keep (unhide RZ2) (t3 gz (by omega))
      · have ec' : ((strB (byL aw n i f)).toList == (strB L).toList) = false := by rw [ec]; exact decide_eq_false hq
        have HQ := hide hq
        clear ec hq
        generalize strB (byL aw n i f) = S1 at *
        generalize strB L = S2 at *
        go_wp2_with fail
        obtain ⟨t1, t2, t3, t4⟩ := two_set (unhide R0) (.int .i64 0) (.slice none 0 0)
        refine bodyPost_ret (results_two_tmp (P := Try.prog) rfl _ _ w.heap.size (.int .i64 0) (.slice none 0 0) (.int .i64 210) _ rfl rfl t1 t2 Try.underlying30 rfl (by kernel_rfl)) rfl ?_
        have es : side L = n := unhide HN'
        have em : side L * side L = i := by rw [es]; exact (unhide HM).symm
        refine ⟨.inr ⟨fun f' => ?_, rfl⟩, ((unhide B2).setCell (Nat.le_refl _) _).setCell (Nat.le_refl _) _⟩
        refine good_of (f' := f) (a := aw) ?_ ?_ ?_
        · rw [em, unhide HZ']
          exact unhide hcs
        · rw [em, es]
          exact unhide SH
        · rw [em, es]
          exact unhide HQ
end Go.Proofs.Ytpmbgjoilfdkaaa
