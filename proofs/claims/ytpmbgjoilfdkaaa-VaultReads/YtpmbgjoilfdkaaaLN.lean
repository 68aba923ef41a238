/- The program's field, read in whichever way. -/
import Derived.Test.YtpmbgjoilfdkaaaM6
import Derived.Test.YtpmbgjoilfdkaaaPYL
namespace Go.Proofs.Ytpmbgjoilfdkaaa
open Go.RowKit Fl Ieee

def o4_0 : Oper := { dst := some 24, op := Go.Op.move (Go.Operand.tmp 0), type := 22, pos := "ways.go:54", after := #[], guard := none }
def o4_1 : Oper := { dst := some 25, op := Go.Op.indexAddr 22 (Go.Operand.tmp 24) (Go.Operand.const (Go.Value.int Go.IntKind.i64 0)), type := 0, pos := "ways.go:54", after := #[{ on := 0, ground := Go.Ground.data }], guard := none }
def o4_2 : Oper := { dst := some 26, op := Go.Op.load 5 (Go.Operand.tmp 25), type := 5, pos := "ways.go:54", after := #[{ on := 1, ground := Go.Ground.data }], guard := none }
def o4_3 : Oper := { dst := some 27, op := Go.Op.convert 5 3 (Go.Operand.tmp 26), type := 3, pos := "ways.go:54", after := #[{ on := 2, ground := Go.Ground.data }], guard := none }
def o4_4 : Oper := { dst := some 28, op := Go.Op.move (Go.Operand.tmp 0), type := 22, pos := "ways.go:54", after := #[], guard := none }
def o4_5 : Oper := { dst := some 29, op := Go.Op.slice 22 (Go.Operand.tmp 28) (some (Go.Operand.const (Go.Value.int Go.IntKind.i64 2))) none none, type := 22, pos := "ways.go:54", after := #[{ on := 4, ground := Go.Ground.data }], guard := none }
def o4_6 : Oper := { dst := some 30, op := Go.Op.move (Go.Operand.tmp 4), type := 3, pos := "ways.go:54", after := #[], guard := none }
def o4_7 : Oper := { dst := some 31, op := Go.Op.move (Go.Operand.tmp 4), type := 3, pos := "ways.go:54", after := #[], guard := none }
def o4_8 : Oper := { dst := some 32, op := Go.Op.binOp Go.BinOp.mul 3 (Go.Operand.tmp 30) (Go.Operand.tmp 31) 3, type := 3, pos := "ways.go:54", after := #[{ on := 6, ground := Go.Ground.data }, { on := 7, ground := Go.Ground.data }], guard := none }
def o4_9 : Oper := { dst := some 33, op := Go.Op.call { callee := Go.Callee.value (Go.Operand.func 53), args := #[Go.Operand.tmp 27, Go.Operand.tmp 29, Go.Operand.tmp 32], argTypes := #[3, 22, 3] }, type := 86, pos := "ways.go:54", after := #[{ on := 3, ground := Go.Ground.data }, { on := 5, ground := Go.Ground.data }, { on := 8, ground := Go.Ground.data }], guard := none }
def o4_10 : Oper := { dst := some 23, op := Go.Op.move (Go.Operand.tmp 33), type := 86, pos := "ways.go:54", after := #[{ on := 9, ground := Go.Ground.data }], guard := none }
def o4_11 : Oper := { dst := some 34, op := Go.Op.extract (Go.Operand.tmp 23) 0, type := 28, pos := "ways.go:54", after := #[{ on := 10, ground := Go.Ground.data }], guard := none }
def o4_12 : Oper := { dst := some 35, op := Go.Op.extract (Go.Operand.tmp 23) 1, type := 4, pos := "ways.go:54", after := #[{ on := 10, ground := Go.Ground.data }, { on := 13, ground := Go.Ground.gcOnly Go.Departure.lateStores }], guard := none }
def o4_13 : Oper := { dst := some 5, op := Go.Op.assign (Go.Operand.tmp 34), type := 28, pos := "ways.go:54", after := #[{ on := 11, ground := Go.Ground.data }, { on := 9, ground := Go.Ground.chain }, { on := 0, ground := Go.Ground.phase }, { on := 1, ground := Go.Ground.phase }, { on := 2, ground := Go.Ground.phase }, { on := 3, ground := Go.Ground.phase }, { on := 4, ground := Go.Ground.phase }, { on := 5, ground := Go.Ground.phase }, { on := 6, ground := Go.Ground.phase }, { on := 7, ground := Go.Ground.phase }, { on := 8, ground := Go.Ground.phase }, { on := 9, ground := Go.Ground.phase }, { on := 10, ground := Go.Ground.phase }, { on := 11, ground := Go.Ground.phase }, { on := 12, ground := Go.Ground.textOnly Go.Departure.lateStores }], guard := none }
def o4_14 : Oper := { dst := some 6, op := Go.Op.assign (Go.Operand.tmp 35), type := 4, pos := "ways.go:54", after := #[{ on := 12, ground := Go.Ground.data }, { on := 13, ground := Go.Ground.chain }, { on := 0, ground := Go.Ground.phase }, { on := 1, ground := Go.Ground.phase }, { on := 2, ground := Go.Ground.phase }, { on := 3, ground := Go.Ground.phase }, { on := 4, ground := Go.Ground.phase }, { on := 5, ground := Go.Ground.phase }, { on := 6, ground := Go.Ground.phase }, { on := 7, ground := Go.Ground.phase }, { on := 8, ground := Go.Ground.phase }, { on := 9, ground := Go.Ground.phase }, { on := 10, ground := Go.Ground.phase }, { on := 11, ground := Go.Ground.phase }, { on := 12, ground := Go.Ground.phase }, { on := 13, ground := Go.Ground.phase }], guard := none }
def R4 : Array Oper := #[o4_0, o4_1, o4_2, o4_3, o4_4, o4_5, o4_6, o4_7, o4_8, o4_9, o4_10, o4_11, o4_12, o4_13, o4_14]
/-- A call of any kind, as one step of a region that draws. -/
theorem step_callG {P : Program} {ops : Array Oper} {o : Oper} {a : Act} {w : World} {K : Act → World → Prop} {Q : Exit → Act → World → Prop} {E : Prop} {f : FuncId} {args : Array Value} {post : Ending → World → Prop}
    (hg : o.guard = none) (hr : (execOp a.eval o).run P w = .ok (.enter f args) w) (hc : Calls P f args w post) (hret : ∀ r w', post r w' → ∃ v, r = .returned v) (hK : ∀ v w', post (.returned v) w' → K (a.put o.dst v) w') :
    if Region.wanted o (yielded ops a.tmps) = true then Oper.wp P o a w K Q else E := by
  have hw : Region.wanted o (yielded ops a.tmps) = true := by simp [Region.wanted, hg]
  rw [if_pos hw]
  unfold Oper.wp
  rw [hr, Oper.upon_enter]
  exact hc.mono fun e w' h => by
    obtain ⟨v, rfl⟩ := hret e w' h
    exact hK v w' h

theorem bat_drew0 {w : World} {a : Option Addr} {g o : Nat} {L : List Nat} (h : BAt w a g o L) : BAt w.drew a g o L := ⟨h.lt, h.at_, h.cell⟩
theorem read_below {w W1 W4 : World} (h : Below w.heap.size w W1) (h2 : Below W1.drew.heap.size W1.drew W4) : Below w.heap.size w W4 := h.trans (Below.mono (⟨h2.os, h2.tape, h2.output, h2.size, h2.block⟩ : Below W1.heap.size W1 W4) h.size)

def ReadPost (w : World) (L : List Nat) (r : Ending) (w' : World) : Prop :=
  ((∃ gz f, r = .returned (.tuple #[fieldV (side L) gz (side L * side L) (side L * side L), .bool true]) ∧ Row w' gz (side L * side L) f ∧ w.heap.size ≤ gz ∧ (∀ j, j < side L * side L → (f j).1 < 18446744073709551616 ∧ (f j).2 < 18446744073709551616) ∧ Rd L f ∧ side L ≤ 64) ∨ ((∀ f, ¬ Good L f) ∧ ∃ x : Int, r = .returned (.tuple #[.agg #[.int .i64 x, .slice none 0 0], .bool false]))) ∧ Below w.heap.size w w'

set_option maxRecDepth 100000 in
set_option maxHeartbeats 6400000 in
theorem readOk {a : Option Addr} {g o c : Nat} {L : List Nat} (hc : L.length ≤ c) (hbig : L.length ≤ 140737488355328) (w : World) (h : BAt w a g o L) :
    Calls Try.prog 41 #[.slice a L.length c] w (ReadPost w L) := by
  have ks := hide isSideOk
  have r0 : (w.alloc (.cells #[.int .i64 0, .slice none 0 0] 30)).heap[w.heap.size]? = some (.cells #[.int .i64 0, .slice none 0 0] 30 (0, 0)) := heap_alloc_new w _
  have bel0 : Below w.heap.size w (w.alloc (.cells #[.int .i64 0, .slice none 0 0] 30)) := (Below.refl _ _).alloc (Nat.le_refl _) _
  have H := hide (bat_keep h bel0)
  have R0 := hide r0
  have B0 := hide bel0
  clear r0 bel0
  by_cases hl : L.length < 2
  · have q1 : ((L.length : Int) < 2) = True := by simp; omega
    have NO : Hid (∀ f, ¬ Good L f) := fun f hf => by have := hf.1.len; omega
    clear h
    go_enter Try.func41, Try.ntmps41
    go_wp2_with fail
    refine bodyPost_ret (results_two_tmp (P := Try.prog) rfl _ _ w.heap.size (.int .i64 0) (.slice none 0 0) (.bool false) _ rfl rfl (by simp [go_sem]) (by simp [go_sem]) Try.underlying30 rfl (by kernel_rfl)) rfl ?_
    exact ⟨.inr ⟨unhide NO, 0, rfl⟩, unhide B0⟩
  · have q1 : ((L.length : Int) < 2) = False := by simp; omega
    have q1' : ((0 : Int) < (L.length : Int)) = True := by simp; omega
    have q1'' : ((1 : Int) < (L.length : Int)) = True := by simp; omega
    obtain ⟨rfl, hg⟩ := h.at_ (by omega)
    have c0 := (unhide H).cell 0 (by omega)
    have c1 := (unhide H).cell 1 (by omega)
    rw [Nat.add_zero] at c0
    have hlt0 := h.lt 0
    have hlt1 := h.lt 1
    have HZ : Hid (∀ z, z = L.getD 0 0 → L.getD 0 0 = z) := fun z hz => hz.symm
    obtain ⟨z, hz⟩ : ∃ z, z = L.getD 0 0 := ⟨_, rfl⟩
    obtain ⟨n, hn⟩ : ∃ n, n = L.getD 1 0 := ⟨_, rfl⟩
    rw [← hz] at c0 hlt0
    rw [← hn] at c1 hlt1
    have Z := hide hz
    have NN := hide hn
    clear hz hn h HZ
    go_enter Try.func41, Try.ntmps41
    go_wp2_with fail
    refine (unhide ks n _).mono ?_
    rintro e w1 ⟨t, rfl, ht, hw⟩
    obtain rfl := hw.symm
    have T := hide ht
    clear ht ks
    cases t
    · have NO : Hid (∀ f, ¬ Good L f) := fun f hf => by
        have h1 := hf.1.lo
        have h2 := hf.1.hi
        have := unhide NN
        exact absurd ((unhide T).2 ⟨by omega, by omega⟩) (by decide)
      go_wp2_with fail
      refine bodyPost_ret (results_two_tmp (P := Try.prog) rfl _ _ w.heap.size (.int .i64 0) (.slice none 0 0) (.bool false) _ rfl rfl (by simp [go_sem]) (by simp [go_sem]) Try.underlying30 rfl (by kernel_rfl)) rfl ?_
      exact ⟨.inr ⟨unhide NO, 0, rfl⟩, unhide B0⟩
    · obtain ⟨hn1, hn2⟩ := (unhide T).1 (by trivial)
      clear T
      obtain ⟨M, hM⟩ : ∃ M, M = n * n := ⟨_, rfl⟩
      have hM2 : M ≤ 4096 := by rw [hM]; exact Nat.mul_le_mul hn2 hn2
      have nn : (n : Int) * (n : Int) = (M : Int) := by rw [hM, Int.natCast_mul]
      have nw : IntKind.i64.wrap ((n : Int) * (n : Int)) = (M : Int) := by rw [nn, IntKind.wrap_i64]; omega
      have hsn : side L = n := (unhide NN).symm
      have HS := hide hsn
      have HM : Hid (side L * side L = M) := by show _ = _; rw [hsn]; exact hM.symm
      clear hM hsn
      go_wp2_with fail
      have kC : Hid (∀ (a' : Option Addr) (W : World), BAt W a' g (o + 2) (L.drop 2) → Calls Try.prog 53 #[.int .i64 z, .slice a' (L.length - 2) (c - 2), .int .i64 M] W fun r w' => ∃ (v : Value) (t : Bool), r = .returned (.tuple #[v, .bool t]) ∧ Hid (RcPost W L r w')) := fun a' W hW => by
        refine (readCellsOk (by omega) (by rw [unhide HS]; exact hn1) (by rw [unhide HS]; exact hn2) (unhide Z).symm (unhide HM) (by rw [List.length_drop]) (by omega) (by omega) W hW).mono ?_
        rintro r w' hP
        have hP' := hP
        rcases hP.1 with ⟨gz, f, rfl, _⟩ | ⟨_, rfl⟩
        · exact ⟨_, _, rfl, hP'⟩
        · exact ⟨_, _, rfl, hP'⟩
      generalize w.alloc (.cells #[.int .i64 0, .slice none 0 0] 30) = W1 at *
      have n2 : (2 : Int) ≤ (L.length : Int) := by omega
      have c0' : W1.drew.cell? ⟨g, o, none⟩ = some (.int .u8 z) := c0
      by_cases hc2 : c = 2
      · have hc2' : (c = 2) = True := by simp; omega
        have kC2 : Hid (Calls Try.prog 53 #[.int .i64 z, .slice (some ⟨g, o, none⟩) (L.length - 2) (c - 2), .int .i64 M] W1.drew fun r w' => ∃ (v : Value) (t : Bool), r = .returned (.tuple #[v, .bool t]) ∧ Hid (RcPost W1.drew L r w')) := unhide kC (some ⟨g, o, none⟩) W1.drew (bat_none (by rw [List.length_drop]; omega))
        clear kC hc2
        change Code.wp Try.prog (Code.region 4 R4 true) _ _ _
        refine wp_region_L (S := SL (fun _ => True) (fun W => W.cell? ⟨g, o, none⟩ = some (.int .u8 z)) (fun _ => True) 9 9) mixedK ⟨trivial, fun _ => c0, fun _ => trivial⟩ (fun hcl hS => ?_)
        refine anyL_take (i := 0) (oi := o4_0) (v := .slice (some ⟨g, o, none⟩) L.length c) (S0 := (fun _ => True)) rfl (by kernel_rfl) (by kernel_rfl) (by kernel_rfl) (fun _ _ _ h => h) (sl_set (by decide) (by decide)) (fun _ _ _ _ _ => trivial) hcl hS (Or.inl ⟨by rfl, ?_⟩) (fun hcl hS => ?_)
        · intro W hSw
          simp only [o4_0]
          go_simp
        simp only [o4_0, Act.put, List.setIfInBounds_toArray, List.set_cons_zero, List.set_cons_succ]
        refine anyL_take (i := 1) (oi := o4_1) (v := .pointer (some ⟨g, o, none⟩)) (S0 := (fun _ => True)) rfl (by kernel_rfl) (by kernel_rfl) (by kernel_rfl) (fun _ _ _ h => h) (sl_set (by decide) (by decide)) (fun _ _ _ _ _ => trivial) hcl hS (Or.inl ⟨by rfl, ?_⟩) (fun hcl hS => ?_)
        · intro W hSw
          simp only [o4_1]
          go_simp
          intro e; exfalso; rw [e] at hl; exact hl (by decide)
        simp only [o4_1, Act.put, List.setIfInBounds_toArray, List.set_cons_zero, List.set_cons_succ]
        refine anyL_take (i := 2) (oi := o4_2) (v := .int .u8 z) (S0 := (fun W => W.cell? ⟨g, o, none⟩ = some (.int .u8 z))) rfl (by kernel_rfl) (by kernel_rfl) (by kernel_rfl) (fun _ _ _ h => h) (sl_set (by decide) (by decide)) (sl_b2 (by decide) (by kernel_rfl)) hcl hS (Or.inl ⟨by rfl, ?_⟩) (fun hcl hS => ?_)
        · intro W hSw
          simp only [o4_2]
          go_simp
        simp only [o4_2, Act.put, List.setIfInBounds_toArray, List.set_cons_zero, List.set_cons_succ]
        refine anyL_take (i := 3) (oi := o4_3) (v := .int .i64 z) (S0 := (fun _ => True)) rfl (by kernel_rfl) (by kernel_rfl) (by kernel_rfl) (fun _ _ _ h => h) (sl_set (by decide) (by decide)) (fun _ _ _ _ _ => trivial) hcl hS (Or.inl ⟨by rfl, ?_⟩) (fun hcl hS => ?_)
        · intro W hSw
          simp only [o4_3]
          go_simp
          rw [IntKind.wrap_i64]; omega
        simp only [o4_3, Act.put, List.setIfInBounds_toArray, List.set_cons_zero, List.set_cons_succ]
        refine anyL_take (i := 4) (oi := o4_4) (v := .slice (some ⟨g, o, none⟩) L.length c) (S0 := (fun _ => True)) rfl (by kernel_rfl) (by kernel_rfl) (by kernel_rfl) (fun _ _ _ h => h) (sl_set (by decide) (by decide)) (fun _ _ _ _ _ => trivial) hcl hS (Or.inl ⟨by rfl, ?_⟩) (fun hcl hS => ?_)
        · intro W hSw
          simp only [o4_4]
          go_simp
        simp only [o4_4, Act.put, List.setIfInBounds_toArray, List.set_cons_zero, List.set_cons_succ]
        refine anyL_take (i := 5) (oi := o4_5) (v := .slice (some ⟨g, o, none⟩) (L.length - 2) (c - 2)) (S0 := (fun _ => True)) rfl (by kernel_rfl) (by kernel_rfl) (by kernel_rfl) (fun _ _ _ h => h) (sl_set (by decide) (by decide)) (fun _ _ _ _ _ => trivial) hcl hS (Or.inl ⟨by rfl, ?_⟩) (fun hcl hS => ?_)
        · intro W hSw
          simp only [o4_5]
          go_simp
        simp only [o4_5, Act.put, List.setIfInBounds_toArray, List.set_cons_zero, List.set_cons_succ]
        refine anyL_take (i := 6) (oi := o4_6) (v := .int .i64 n) (S0 := (fun _ => True)) rfl (by kernel_rfl) (by kernel_rfl) (by kernel_rfl) (fun _ _ _ h => h) (sl_set (by decide) (by decide)) (fun _ _ _ _ _ => trivial) hcl hS (Or.inl ⟨by rfl, ?_⟩) (fun hcl hS => ?_)
        · intro W hSw
          simp only [o4_6]
          go_simp
        simp only [o4_6, Act.put, List.setIfInBounds_toArray, List.set_cons_zero, List.set_cons_succ]
        refine anyL_take (i := 7) (oi := o4_7) (v := .int .i64 n) (S0 := (fun _ => True)) rfl (by kernel_rfl) (by kernel_rfl) (by kernel_rfl) (fun _ _ _ h => h) (sl_set (by decide) (by decide)) (fun _ _ _ _ _ => trivial) hcl hS (Or.inl ⟨by rfl, ?_⟩) (fun hcl hS => ?_)
        · intro W hSw
          simp only [o4_7]
          go_simp
        simp only [o4_7, Act.put, List.setIfInBounds_toArray, List.set_cons_zero, List.set_cons_succ]
        refine anyL_take (i := 8) (oi := o4_8) (v := .int .i64 M) (S0 := (fun _ => True)) rfl (by kernel_rfl) (by kernel_rfl) (by kernel_rfl) (fun _ _ _ h => h) (sl_set (by decide) (by decide)) (fun _ _ _ _ _ => trivial) hcl hS (Or.inl ⟨by rfl, ?_⟩) (fun hcl hS => ?_)
        · intro W hSw
          simp only [o4_8]
          go_simp
          rw [IntKind.wrap_i64]; omega
        simp only [o4_8, Act.put, List.setIfInBounds_toArray, List.set_cons_zero, List.set_cons_succ]
        refine anyL_one (i := 9) (o := o4_9) (by kernel_rfl) rfl hcl ?_
        intro K hK
        refine step_callG rfl ?_ (unhide kC2) (fun r w' ⟨v, t, h, _⟩ => ⟨_, h⟩) ?_
        · simp only [o4_9]
          go_simp
        rintro v0 W4 ⟨v4, t4, hv4, hP4⟩
        obtain rfl := Ending.returned.inj hv4
        simp only [o4_9, Act.put, List.setIfInBounds_toArray, List.set_cons_zero, List.set_cons_succ]
        refine hK.out _ _ ⟨trivial, fun h => (not_false_ofK (by kernel_rfl) h).elim, fun _ => trivial⟩ (fun hcl hS => ?_)
        clear hK K hv4
        refine anyL_take (i := 10) (oi := o4_10) (v := .tuple #[v4, .bool t4]) (S0 := (fun _ => True)) rfl (by kernel_rfl) (by kernel_rfl) (by kernel_rfl) (fun _ _ _ h => h) (sl_set (by decide) (by decide)) (fun _ _ _ _ _ => trivial) hcl hS (Or.inl ⟨by rfl, ?_⟩) (fun hcl hS => ?_)
        · intro W hSw
          simp only [o4_10]
          go_simp
        simp only [o4_10, Act.put, List.setIfInBounds_toArray, List.set_cons_zero, List.set_cons_succ]
        refine anyL_take (i := 11) (oi := o4_11) (v := v4) (S0 := (fun _ => True)) rfl (by kernel_rfl) (by kernel_rfl) (by kernel_rfl) (fun _ _ _ h => h) (sl_set (by decide) (by decide)) (fun _ _ _ _ _ => trivial) hcl hS (Or.inl ⟨by rfl, ?_⟩) (fun hcl hS => ?_)
        · intro W hSw
          simp only [o4_11]
          go_simp
        simp only [o4_11, Act.put, List.setIfInBounds_toArray, List.set_cons_zero, List.set_cons_succ]
        refine anyL_take (i := 12) (oi := o4_12) (v := .bool t4) (S0 := (fun _ => True)) rfl (by kernel_rfl) (by kernel_rfl) (by kernel_rfl) (fun _ _ _ h => h) (sl_set (by decide) (by decide)) (fun _ _ _ _ _ => trivial) hcl hS (Or.inl ⟨by rfl, ?_⟩) (fun hcl hS => ?_)
        · intro W hSw
          simp only [o4_12]
          go_simp
        simp only [o4_12, Act.put, List.setIfInBounds_toArray, List.set_cons_zero, List.set_cons_succ]
        refine anyL_take (i := 13) (oi := o4_13) (v := v4) (S0 := (fun _ => True)) rfl (by kernel_rfl) (by kernel_rfl) (by kernel_rfl) (fun _ _ _ h => h) (sl_set (by decide) (by decide)) (fun _ _ _ _ _ => trivial) hcl hS (Or.inl ⟨by rfl, ?_⟩) (fun hcl hS => ?_)
        · intro W hSw
          simp only [o4_13]
          go_simp
        simp only [o4_13, Act.put, List.setIfInBounds_toArray, List.set_cons_zero, List.set_cons_succ]
        refine anyL_take (i := 14) (oi := o4_14) (v := .bool t4) (S0 := (fun _ => True)) rfl (by kernel_rfl) (by kernel_rfl) (by kernel_rfl) (fun _ _ _ h => h) (sl_set (by decide) (by decide)) (fun _ _ _ _ _ => trivial) hcl hS (Or.inl ⟨by rfl, ?_⟩) (fun hcl hS => ?_)
        · intro W hSw
          simp only [o4_14]
          go_simp
        simp only [o4_14, Act.put, List.setIfInBounds_toArray, List.set_cons_zero, List.set_cons_succ]
        refine anyL_done (by kernel_rfl) ?_ _
        obtain ⟨hP5, hB5⟩ := unhide hP4
        have r4 : W4.heap[w.heap.size]? = some (.cells #[.int .i64 0, .slice none 0 0] 30 (0, 0)) := by
          rw [hB5.block w.heap.size (by show _ < W1.heap.size; exact (Array.getElem?_eq_some_iff.1 (unhide R0)).1)]
          exact unhide R0
        have B6 := hide (read_below (unhide B0) hB5)
        have z0 : W4.cell? ⟨w.heap.size, 0, none⟩ = some (.int .i64 0) := by simp [World.cell?, r4]
        have z1 : W4.cell? ⟨w.heap.size, 1, none⟩ = some (.slice none 0 0) := by simp [World.cell?, r4]
        have z2 : W4.frozen? ⟨w.heap.size, 0, none⟩ = false := by simp [World.frozen?, r4]
        have z3 : W4.frozen? ⟨w.heap.size, 1, none⟩ = false := by simp [World.frozen?, r4]
        have R4' := hide r4
        have s1 : w.heap.size < W1.heap.size := (Array.getElem?_eq_some_iff.1 (unhide R0)).1
        clear hP4 r4 hB5 kC2 hS hcl
        rcases hP5 with ⟨gz, f, he, hR, hgz, hbs, hRd⟩ | ⟨hno, he⟩
        · simp only [Ending.returned.injEq, Value.tuple.injEq, Array.mk.injEq, List.cons.injEq, Value.bool.injEq, and_true] at he
          obtain ⟨rfl, rfl⟩ := he
          have RW := hide hR
          have BS := hide hbs
          have RD := hide hRd
          have hgz' : W1.heap.size ≤ gz := hgz
          clear hR hbs hRd hgz
          rw [unhide HM]
          go_wp2_with fail
          obtain ⟨t1, t2, t3, t4⟩ := two_set (unhide R4') (.int .i64 n) (.slice (some ⟨gz, 0, none⟩) M M)
          refine bodyPost_ret (results_two_tmp (P := Try.prog) rfl _ _ w.heap.size (.int .i64 n) (.slice (some ⟨gz, 0, none⟩) M M) (.bool true) _ rfl rfl t1 t2 Try.underlying30 rfl (by kernel_rfl)) rfl ?_
          refine ⟨.inl ⟨gz, f, by unfold fieldV; rw [unhide HM, unhide HS], row_keep (unhide RW) (t3 gz (by omega)), by omega, unhide BS, unhide RD, by rw [unhide HS]; exact hn2⟩, ((unhide B6).setCell (Nat.le_refl _) _).setCell (Nat.le_refl _) _⟩
        · simp only [Ending.returned.injEq, Value.tuple.injEq, Array.mk.injEq, List.cons.injEq, Value.bool.injEq, and_true] at he
          obtain ⟨rfl, rfl⟩ := he
          have NO := hide hno
          clear hno
          go_wp2_with fail
          obtain ⟨t1, t2, t3, t4⟩ := two_set (unhide R4') (.int .i64 n) (.slice none 0 0)
          refine bodyPost_ret (results_two_tmp (P := Try.prog) rfl _ _ w.heap.size (.int .i64 n) (.slice none 0 0) (.bool false) _ rfl rfl t1 t2 Try.underlying30 rfl (by kernel_rfl)) rfl ?_
          exact ⟨.inr ⟨unhide NO, n, rfl⟩, ((unhide B6).setCell (Nat.le_refl _) _).setCell (Nat.le_refl _) _⟩
      · have hc2' : (c = 2) = False := by simp; omega
        have kC2 : Hid (Calls Try.prog 53 #[.int .i64 z, .slice (some ⟨g, o + 2, none⟩) (L.length - 2) (c - 2), .int .i64 M] W1.drew fun r w' => ∃ (v : Value) (t : Bool), r = .returned (.tuple #[v, .bool t]) ∧ Hid (RcPost W1.drew L r w')) := unhide kC _ W1.drew (bat_drew0 (bat_from (unhide H)))
        clear kC
        change Code.wp Try.prog (Code.region 4 R4 true) _ _ _
        refine wp_region_L (S := SL (fun _ => True) (fun W => W.cell? ⟨g, o, none⟩ = some (.int .u8 z)) (fun _ => True) 9 9) mixedK ⟨trivial, fun _ => c0, fun _ => trivial⟩ (fun hcl hS => ?_)
        refine anyL_take (i := 0) (oi := o4_0) (v := .slice (some ⟨g, o, none⟩) L.length c) (S0 := (fun _ => True)) rfl (by kernel_rfl) (by kernel_rfl) (by kernel_rfl) (fun _ _ _ h => h) (sl_set (by decide) (by decide)) (fun _ _ _ _ _ => trivial) hcl hS (Or.inl ⟨by rfl, ?_⟩) (fun hcl hS => ?_)
        · intro W hSw
          simp only [o4_0]
          go_simp
        simp only [o4_0, Act.put, List.setIfInBounds_toArray, List.set_cons_zero, List.set_cons_succ]
        refine anyL_take (i := 1) (oi := o4_1) (v := .pointer (some ⟨g, o, none⟩)) (S0 := (fun _ => True)) rfl (by kernel_rfl) (by kernel_rfl) (by kernel_rfl) (fun _ _ _ h => h) (sl_set (by decide) (by decide)) (fun _ _ _ _ _ => trivial) hcl hS (Or.inl ⟨by rfl, ?_⟩) (fun hcl hS => ?_)
        · intro W hSw
          simp only [o4_1]
          go_simp
          intro e; exfalso; rw [e] at hl; exact hl (by decide)
        simp only [o4_1, Act.put, List.setIfInBounds_toArray, List.set_cons_zero, List.set_cons_succ]
        refine anyL_take (i := 2) (oi := o4_2) (v := .int .u8 z) (S0 := (fun W => W.cell? ⟨g, o, none⟩ = some (.int .u8 z))) rfl (by kernel_rfl) (by kernel_rfl) (by kernel_rfl) (fun _ _ _ h => h) (sl_set (by decide) (by decide)) (sl_b2 (by decide) (by kernel_rfl)) hcl hS (Or.inl ⟨by rfl, ?_⟩) (fun hcl hS => ?_)
        · intro W hSw
          simp only [o4_2]
          go_simp
        simp only [o4_2, Act.put, List.setIfInBounds_toArray, List.set_cons_zero, List.set_cons_succ]
        refine anyL_take (i := 3) (oi := o4_3) (v := .int .i64 z) (S0 := (fun _ => True)) rfl (by kernel_rfl) (by kernel_rfl) (by kernel_rfl) (fun _ _ _ h => h) (sl_set (by decide) (by decide)) (fun _ _ _ _ _ => trivial) hcl hS (Or.inl ⟨by rfl, ?_⟩) (fun hcl hS => ?_)
        · intro W hSw
          simp only [o4_3]
          go_simp
          rw [IntKind.wrap_i64]; omega
        simp only [o4_3, Act.put, List.setIfInBounds_toArray, List.set_cons_zero, List.set_cons_succ]
        refine anyL_take (i := 4) (oi := o4_4) (v := .slice (some ⟨g, o, none⟩) L.length c) (S0 := (fun _ => True)) rfl (by kernel_rfl) (by kernel_rfl) (by kernel_rfl) (fun _ _ _ h => h) (sl_set (by decide) (by decide)) (fun _ _ _ _ _ => trivial) hcl hS (Or.inl ⟨by rfl, ?_⟩) (fun hcl hS => ?_)
        · intro W hSw
          simp only [o4_4]
          go_simp
        simp only [o4_4, Act.put, List.setIfInBounds_toArray, List.set_cons_zero, List.set_cons_succ]
        refine anyL_take (i := 5) (oi := o4_5) (v := .slice (some ⟨g, o + 2, none⟩) (L.length - 2) (c - 2)) (S0 := (fun _ => True)) rfl (by kernel_rfl) (by kernel_rfl) (by kernel_rfl) (fun _ _ _ h => h) (sl_set (by decide) (by decide)) (fun _ _ _ _ _ => trivial) hcl hS (Or.inl ⟨by rfl, ?_⟩) (fun hcl hS => ?_)
        · intro W hSw
          simp only [o4_5]
          go_simp
        simp only [o4_5, Act.put, List.setIfInBounds_toArray, List.set_cons_zero, List.set_cons_succ]
        refine anyL_take (i := 6) (oi := o4_6) (v := .int .i64 n) (S0 := (fun _ => True)) rfl (by kernel_rfl) (by kernel_rfl) (by kernel_rfl) (fun _ _ _ h => h) (sl_set (by decide) (by decide)) (fun _ _ _ _ _ => trivial) hcl hS (Or.inl ⟨by rfl, ?_⟩) (fun hcl hS => ?_)
        · intro W hSw
          simp only [o4_6]
          go_simp
        simp only [o4_6, Act.put, List.setIfInBounds_toArray, List.set_cons_zero, List.set_cons_succ]
        refine anyL_take (i := 7) (oi := o4_7) (v := .int .i64 n) (S0 := (fun _ => True)) rfl (by kernel_rfl) (by kernel_rfl) (by kernel_rfl) (fun _ _ _ h => h) (sl_set (by decide) (by decide)) (fun _ _ _ _ _ => trivial) hcl hS (Or.inl ⟨by rfl, ?_⟩) (fun hcl hS => ?_)
        · intro W hSw
          simp only [o4_7]
          go_simp
        simp only [o4_7, Act.put, List.setIfInBounds_toArray, List.set_cons_zero, List.set_cons_succ]
        refine anyL_take (i := 8) (oi := o4_8) (v := .int .i64 M) (S0 := (fun _ => True)) rfl (by kernel_rfl) (by kernel_rfl) (by kernel_rfl) (fun _ _ _ h => h) (sl_set (by decide) (by decide)) (fun _ _ _ _ _ => trivial) hcl hS (Or.inl ⟨by rfl, ?_⟩) (fun hcl hS => ?_)
        · intro W hSw
          simp only [o4_8]
          go_simp
          rw [IntKind.wrap_i64]; omega
        simp only [o4_8, Act.put, List.setIfInBounds_toArray, List.set_cons_zero, List.set_cons_succ]
        refine anyL_one (i := 9) (o := o4_9) (by kernel_rfl) rfl hcl ?_
        intro K hK
        refine step_callG rfl ?_ (unhide kC2) (fun r w' ⟨v, t, h, _⟩ => ⟨_, h⟩) ?_
        · simp only [o4_9]
          go_simp
        rintro v0 W4 ⟨v4, t4, hv4, hP4⟩
        obtain rfl := Ending.returned.inj hv4
        simp only [o4_9, Act.put, List.setIfInBounds_toArray, List.set_cons_zero, List.set_cons_succ]
        refine hK.out _ _ ⟨trivial, fun h => (not_false_ofK (by kernel_rfl) h).elim, fun _ => trivial⟩ (fun hcl hS => ?_)
        clear hK K hv4
        refine anyL_take (i := 10) (oi := o4_10) (v := .tuple #[v4, .bool t4]) (S0 := (fun _ => True)) rfl (by kernel_rfl) (by kernel_rfl) (by kernel_rfl) (fun _ _ _ h => h) (sl_set (by decide) (by decide)) (fun _ _ _ _ _ => trivial) hcl hS (Or.inl ⟨by rfl, ?_⟩) (fun hcl hS => ?_)
        · intro W hSw
          simp only [o4_10]
          go_simp
        simp only [o4_10, Act.put, List.setIfInBounds_toArray, List.set_cons_zero, List.set_cons_succ]
        refine anyL_take (i := 11) (oi := o4_11) (v := v4) (S0 := (fun _ => True)) rfl (by kernel_rfl) (by kernel_rfl) (by kernel_rfl) (fun _ _ _ h => h) (sl_set (by decide) (by decide)) (fun _ _ _ _ _ => trivial) hcl hS (Or.inl ⟨by rfl, ?_⟩) (fun hcl hS => ?_)
        · intro W hSw
          simp only [o4_11]
          go_simp
        simp only [o4_11, Act.put, List.setIfInBounds_toArray, List.set_cons_zero, List.set_cons_succ]
        refine anyL_take (i := 12) (oi := o4_12) (v := .bool t4) (S0 := (fun _ => True)) rfl (by kernel_rfl) (by kernel_rfl) (by kernel_rfl) (fun _ _ _ h => h) (sl_set (by decide) (by decide)) (fun _ _ _ _ _ => trivial) hcl hS (Or.inl ⟨by rfl, ?_⟩) (fun hcl hS => ?_)
        · intro W hSw
          simp only [o4_12]
          go_simp
        simp only [o4_12, Act.put, List.setIfInBounds_toArray, List.set_cons_zero, List.set_cons_succ]
        refine anyL_take (i := 13) (oi := o4_13) (v := v4) (S0 := (fun _ => True)) rfl (by kernel_rfl) (by kernel_rfl) (by kernel_rfl) (fun _ _ _ h => h) (sl_set (by decide) (by decide)) (fun _ _ _ _ _ => trivial) hcl hS (Or.inl ⟨by rfl, ?_⟩) (fun hcl hS => ?_)
        · intro W hSw
          simp only [o4_13]
          go_simp
        simp only [o4_13, Act.put, List.setIfInBounds_toArray, List.set_cons_zero, List.set_cons_succ]
        refine anyL_take (i := 14) (oi := o4_14) (v := .bool t4) (S0 := (fun _ => True)) rfl (by kernel_rfl) (by kernel_rfl) (by kernel_rfl) (fun _ _ _ h => h) (sl_set (by decide) (by decide)) (fun _ _ _ _ _ => trivial) hcl hS (Or.inl ⟨by rfl, ?_⟩) (fun hcl hS => ?_)
        · intro W hSw
          simp only [o4_14]
          go_simp
        simp only [o4_14, Act.put, List.setIfInBounds_toArray, List.set_cons_zero, List.set_cons_succ]
        refine anyL_done (by kernel_rfl) ?_ _
        obtain ⟨hP5, hB5⟩ := unhide hP4
        have r4 : W4.heap[w.heap.size]? = some (.cells #[.int .i64 0, .slice none 0 0] 30 (0, 0)) := by
          rw [hB5.block w.heap.size (by show _ < W1.heap.size; exact (Array.getElem?_eq_some_iff.1 (unhide R0)).1)]
          exact unhide R0
        have B6 := hide (read_below (unhide B0) hB5)
        have z0 : W4.cell? ⟨w.heap.size, 0, none⟩ = some (.int .i64 0) := by simp [World.cell?, r4]
        have z1 : W4.cell? ⟨w.heap.size, 1, none⟩ = some (.slice none 0 0) := by simp [World.cell?, r4]
        have z2 : W4.frozen? ⟨w.heap.size, 0, none⟩ = false := by simp [World.frozen?, r4]
        have z3 : W4.frozen? ⟨w.heap.size, 1, none⟩ = false := by simp [World.frozen?, r4]
        have R4' := hide r4
        have s1 : w.heap.size < W1.heap.size := (Array.getElem?_eq_some_iff.1 (unhide R0)).1
        clear hP4 r4 hB5 kC2 hS hcl
        rcases hP5 with ⟨gz, f, he, hR, hgz, hbs, hRd⟩ | ⟨hno, he⟩
        · simp only [Ending.returned.injEq, Value.tuple.injEq, Array.mk.injEq, List.cons.injEq, Value.bool.injEq, and_true] at he
          obtain ⟨rfl, rfl⟩ := he
          have RW := hide hR
          have BS := hide hbs
          have RD := hide hRd
          have hgz' : W1.heap.size ≤ gz := hgz
          clear hR hbs hRd hgz
          rw [unhide HM]
          go_wp2_with fail
          obtain ⟨t1, t2, t3, t4⟩ := two_set (unhide R4') (.int .i64 n) (.slice (some ⟨gz, 0, none⟩) M M)
          refine bodyPost_ret (results_two_tmp (P := Try.prog) rfl _ _ w.heap.size (.int .i64 n) (.slice (some ⟨gz, 0, none⟩) M M) (.bool true) _ rfl rfl t1 t2 Try.underlying30 rfl (by kernel_rfl)) rfl ?_
          refine ⟨.inl ⟨gz, f, by unfold fieldV; rw [unhide HM, unhide HS], row_keep (unhide RW) (t3 gz (by omega)), by omega, unhide BS, unhide RD, by rw [unhide HS]; exact hn2⟩, ((unhide B6).setCell (Nat.le_refl _) _).setCell (Nat.le_refl _) _⟩
        · simp only [Ending.returned.injEq, Value.tuple.injEq, Array.mk.injEq, List.cons.injEq, Value.bool.injEq, and_true] at he
          obtain ⟨rfl, rfl⟩ := he
          have NO := hide hno
          clear hno
          go_wp2_with fail
          obtain ⟨t1, t2, t3, t4⟩ := two_set (unhide R4') (.int .i64 n) (.slice none 0 0)
          refine bodyPost_ret (results_two_tmp (P := Try.prog) rfl _ _ w.heap.size (.int .i64 n) (.slice none 0 0) (.bool false) _ rfl rfl t1 t2 Try.underlying30 rfl (by kernel_rfl)) rfl ?_
          exact ⟨.inr ⟨unhide NO, n, rfl⟩, ((unhide B6).setCell (Nat.le_refl _) _).setCell (Nat.le_refl _) _⟩
end Go.Proofs.Ytpmbgjoilfdkaaa
