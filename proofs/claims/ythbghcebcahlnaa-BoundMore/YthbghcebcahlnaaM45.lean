/- BoundMore: behind ray.All. -/
import Derived.Test.YthbghcebcahlnaaM42
import Derived.Test.YthbghcebcahlnaaM43
import Derived.Test.YthbghcebcahlnaaM44
import Derived.Deep.DeepCutAuto
namespace Go.Proofs.Ythbghcebcahlnaa
open Go.RowKit Go.Shelf

def o9_0 : Oper := { dst := some 66, op := Go.Op.fieldAddr 27 (Go.Operand.tmp 7) 0, type := 0, pos := "law.go:127", after := #[], guard := none }
def o9_1 : Oper := { dst := some 67, op := Go.Op.load 3 (Go.Operand.tmp 66), type := 3, pos := "law.go:127", after := #[{ on := 0, ground := Go.Ground.data }], guard := none }
def o9_2 : Oper := { dst := some 68, op := Go.Op.fieldAddr 31 (Go.Operand.tmp 8) 1, type := 0, pos := "law.go:127", after := #[], guard := none }
def o9_3 : Oper := { dst := some 69, op := Go.Op.load 29 (Go.Operand.tmp 68), type := 29, pos := "law.go:127", after := #[{ on := 2, ground := Go.Ground.data }], guard := none }
def o9_4 : Oper := { dst := some 70, op := Go.Op.move (Go.Operand.tmp 13), type := 3, pos := "law.go:127", after := #[], guard := none }
def o9_5 : Oper := { dst := some 71, op := Go.Op.slice 29 (Go.Operand.tmp 69) none (some (Go.Operand.tmp 70)) none, type := 29, pos := "law.go:127", after := #[{ on := 3, ground := Go.Ground.data }, { on := 4, ground := Go.Ground.data }], guard := none }
def o9_6 : Oper := { dst := some 72, op := Go.Op.move (Go.Operand.tmp 10), type := 35, pos := "law.go:127", after := #[], guard := none }
def o9_7 : Oper := { dst := some 73, op := Go.Op.move (Go.Operand.tmp 11), type := 35, pos := "law.go:127", after := #[], guard := none }
def o9_8 : Oper := { dst := some 74, op := Go.Op.call { callee := Go.Callee.value (Go.Operand.func 9), args := #[Go.Operand.tmp 67, Go.Operand.tmp 71, Go.Operand.tmp 72, Go.Operand.tmp 73], argTypes := #[3, 29, 35, 35] }, type := 36, pos := "law.go:127", after := #[{ on := 1, ground := Go.Ground.data }, { on := 5, ground := Go.Ground.data }, { on := 6, ground := Go.Ground.data }, { on := 7, ground := Go.Ground.data }], guard := none }
def o9_9 : Oper := { dst := some 65, op := Go.Op.move (Go.Operand.tmp 74), type := 36, pos := "law.go:127", after := #[{ on := 8, ground := Go.Ground.data }], guard := none }
def o9_10 : Oper := { dst := some 75, op := Go.Op.extract (Go.Operand.tmp 65) 0, type := 35, pos := "law.go:127", after := #[{ on := 9, ground := Go.Ground.data }], guard := none }
def o9_11 : Oper := { dst := some 76, op := Go.Op.extract (Go.Operand.tmp 65) 1, type := 35, pos := "law.go:127", after := #[{ on := 9, ground := Go.Ground.data }, { on := 13, ground := Go.Ground.gcOnly Go.Departure.lateStores }], guard := none }
def o9_12 : Oper := { dst := some 77, op := Go.Op.extract (Go.Operand.tmp 65) 2, type := 32, pos := "law.go:127", after := #[{ on := 9, ground := Go.Ground.data }, { on := 14, ground := Go.Ground.gcOnly Go.Departure.lateStores }], guard := none }
def o9_13 : Oper := { dst := some 14, op := Go.Op.assign (Go.Operand.tmp 75), type := 35, pos := "law.go:127", after := #[{ on := 10, ground := Go.Ground.data }, { on := 8, ground := Go.Ground.chain }, { on := 0, ground := Go.Ground.phase }, { on := 1, ground := Go.Ground.phase }, { on := 2, ground := Go.Ground.phase }, { on := 3, ground := Go.Ground.phase }, { on := 4, ground := Go.Ground.phase }, { on := 5, ground := Go.Ground.phase }, { on := 6, ground := Go.Ground.phase }, { on := 7, ground := Go.Ground.phase }, { on := 8, ground := Go.Ground.phase }, { on := 9, ground := Go.Ground.phase }, { on := 10, ground := Go.Ground.phase }, { on := 11, ground := Go.Ground.textOnly Go.Departure.lateStores }, { on := 12, ground := Go.Ground.textOnly Go.Departure.lateStores }], guard := none }
def o9_14 : Oper := { dst := some 15, op := Go.Op.assign (Go.Operand.tmp 76), type := 35, pos := "law.go:127", after := #[{ on := 11, ground := Go.Ground.data }, { on := 13, ground := Go.Ground.chain }, { on := 0, ground := Go.Ground.phase }, { on := 1, ground := Go.Ground.phase }, { on := 2, ground := Go.Ground.phase }, { on := 3, ground := Go.Ground.phase }, { on := 4, ground := Go.Ground.phase }, { on := 5, ground := Go.Ground.phase }, { on := 6, ground := Go.Ground.phase }, { on := 7, ground := Go.Ground.phase }, { on := 8, ground := Go.Ground.phase }, { on := 9, ground := Go.Ground.phase }, { on := 10, ground := Go.Ground.phase }, { on := 11, ground := Go.Ground.phase }, { on := 12, ground := Go.Ground.textOnly Go.Departure.lateStores }, { on := 13, ground := Go.Ground.phase }], guard := none }
def o9_15 : Oper := { dst := some 9, op := Go.Op.assign (Go.Operand.tmp 77), type := 32, pos := "law.go:127", after := #[{ on := 12, ground := Go.Ground.data }, { on := 14, ground := Go.Ground.chain }, { on := 0, ground := Go.Ground.phase }, { on := 1, ground := Go.Ground.phase }, { on := 2, ground := Go.Ground.phase }, { on := 3, ground := Go.Ground.phase }, { on := 4, ground := Go.Ground.phase }, { on := 5, ground := Go.Ground.phase }, { on := 6, ground := Go.Ground.phase }, { on := 7, ground := Go.Ground.phase }, { on := 8, ground := Go.Ground.phase }, { on := 9, ground := Go.Ground.phase }, { on := 10, ground := Go.Ground.phase }, { on := 11, ground := Go.Ground.phase }, { on := 12, ground := Go.Ground.phase }, { on := 13, ground := Go.Ground.phase }, { on := 14, ground := Go.Ground.phase }], guard := none }
def R9 : Array Oper := #[o9_0, o9_1, o9_2, o9_3, o9_4, o9_5, o9_6, o9_7, o9_8, o9_9, o9_10, o9_11, o9_12, o9_13, o9_14, o9_15]
/-- A call of any kind, as one step of a region that draws. -/
theorem step_callG {P : Program} {ops : Array Oper} {o : Oper} {a : Act} {w : World} {K : Act → World → Prop} {Q : Exit → Act → World → Prop} {E : Prop} {f : FuncId} {args : Array Value} {post : Ending → World → Prop}
    (hg : o.guard = none) (hr : (execOp a.eval o).run P w = .ok (.enter f args) w) (hc : Calls P f args w post) (hret : ∀ r w', post r w' → ∃ v, r = .returned v) (hK : ∀ v w', post (.returned v) w' → K (a.put o.dst v) w') :
    if Region.wanted o (yielded ops a.tmps) = true then Oper.wp P o a w K Q else E := by
  have hw : Region.wanted o (yielded ops a.tmps) = true := by simp [Region.wanted, hg]
  rw [if_pos hw]
  unfold Oper.wp
  rw [hr, Oper.upon_enter]
  exact hc.mono fun e w' h => by
    obtain ⟨v, rfl⟩ := hret e w' h
    exact hK v w' h

theorem mixed4 : (barP Try.prog).follows .mixedOrders = true := by kernel_rfl
theorem not_false4 {b : Bool} (h : b = true) (h' : b = false) : False := by rw [h] at h'; cases h'
theorem mod_small (k : Int) {N : Nat} (h1 : 1 ≤ N) (h64 : N ≤ 64) : ∃ m : Nat, m < N ∧ wrap64 ((IntKind.u64.wrap k).tmod (N : Int)) = (m : Int) := by
  have h0 : 0 ≤ IntKind.u64.wrap k := by rw [IntKind.wrap_u64]; omega
  generalize IntKind.u64.wrap k = u at h0
  rw [Int.tmod_eq_emod_of_nonneg h0]
  have a := Int.emod_nonneg u (show (N : Int) ≠ 0 by omega)
  have b := Int.emod_lt_of_pos u (show (0 : Int) < N by omega)
  exact ⟨(u % (N : Int)).toNat, by omega, by rw [wrap_in (by omega) (by omega)]; omega⟩
/-- What a run leaves in three variables. -/
def RunOut (n M : Nat) (ps : List PD) (L : List Int) (lo hi : Nat → Int) (w : World) (ev av bv : Value) (w' : World) : Prop :=
  ((ev = .int .i64 112 ∧ av = .slice none 0 0 ∧ bv = .slice none 0 0) ∨ (ev = .int .i64 0 ∧ ∃ gl cl gh ch lo' hi', av = .slice (some ⟨gl, 0, none⟩) M cl ∧ bv = .slice (some ⟨gh, 0, none⟩) M ch ∧
    IRow w' gl M lo' ∧ IRow w' gh M hi' ∧ Great M (lk n ps ps.length 0) lo hi lo' hi' ∧ Abt M (fun k => (zL L k).1) lo' hi')) ∧ Below w.heap.size w w'
/-- It returns true; the old memory lies as it lay. -/
def Ret4 (w : World) : Exit → Act → World → Prop
  | .ret, a, w' => a.defers = [] ∧ a.tmps[6]?.getD undef = .bool true ∧ Below w.heap.size w w'
  | _, _, _ => False
theorem runAtV {n M gq cq gl cl gh ch : Nat} {ps : List PD} {L : List Int} {lo hi : Nat → Int} (h1 : 1 ≤ n) (h2 : n ≤ 8) (hM : n * n = M) (w W : World) (hb : Below w.heap.size w W) (ha : Asked n ps (fun k => (zL L k).1) gq W) (hA : Abt M (fun k => (zL L k).1) lo hi) (r1 : IRow W gl M lo) (r2 : IRow W gh M hi) :
    Calls (barP Try.prog) 9 #[.int .i64 n, .slice (some ⟨gq, 0, none⟩) ps.length cq, .slice (some ⟨gl, 0, none⟩) M cl, .slice (some ⟨gh, 0, none⟩) M ch] W fun e w' => ∃ av bv ev, e = .returned (.tuple #[av, bv, ev]) ∧ RunOut n M ps L lo hi w ev av bv w' := by
  refine (runAt (cq := cq) (cl := cl) (ch := ch) h1 h2 hM W ha hA r1 r2).mono ?_
  rintro e w' ⟨hc, hb2⟩
  have hb3 := hb.trans (hb2.mono hb.size)
  rcases hc with rfl | ⟨gl', cl', gh', ch', lo', hi', rfl, q1, q2, q3, q4⟩
  · exact ⟨_, _, _, rfl, .inl ⟨rfl, rfl, rfl⟩, hb3⟩
  · exact ⟨_, _, _, rfl, .inr ⟨rfl, gl', cl', gh', ch', lo', hi', rfl, rfl, q1, q2, q3, q4⟩, hb3⟩
/-- What the law has in hand behind All. -/
structure Hand4 (w : World) (n gg gb sb gq : Nat) (ps : List PD) (L : List Int) : Prop where
  g0 : w.heap[gb]? = some (.cells #[.int .i64 n, .slice (some ⟨gg, 0, none⟩) (n * n : Nat) (n * n : Nat)] 27)
  s0 : w.heap[sb]? = some (.cells #[.int .i64 n, .slice (some ⟨gq, 0, none⟩) ps.length ps.length] 31)
  asked : Asked n ps (fun k => (zL L k).1) gq w
set_option maxRecDepth 100000 in
set_option maxHeartbeats 8000000 in
theorem rest4Ok {n gg gb sb gq : Nat} {ps : List PD} {L : List Int} {k : Int} {x0 x1 x3 x4 x5 x6 x10 x11 x12 x13 x14 x15 x16 x17 x18 x19 x20 x21 x22 x23 x24 x25 x26 x27 x28 x29 x30 x31 x32 x33 x34 x35 x36 x37 x38 x39 x40 x41 x42 x43 x44 x45 x46 x47 x48 x49 x50 x51 x52 x53 x54 x55 x56 x57 x58 x59 x60 x61 x62 x63 x64 x65 x66 x67 x68 x69 x70 x71 x72 x73 x74 x75 x76 x77 x78 x79 x80 x81 x82 x83 x84 x85 x86 x87 x88 x89 x90 x91 x92 x93 x94 x95 x96 x97 x98 x99 x100 x101 x102 x103 x104 x105 x106 x107 x108 x109 x110 x111 x112 x113 x114 x115 x116 x117 x118 x119 x120 x121 x122 x123 x124 x125 x126 x127 x128 x129 x130 x131 x132 x133 x134 x135 x136 x137 x138 x139 x140 x141 x142 x143 x144 x145 x146 x147 x148 x149 x150 x151 x152 x153 x154 x155 x156 x157 x158 x159 x160 x161 x162 x163 x164 x165 x166 x167 x168 x169 x170 x171 x172 x173 x174 x175 x176 x177 x178 x179 x180 x181 x182 : Value} (w : World) (h1 : 1 ≤ n) (h2 : n ≤ 8) (hL : Byte8 L) (h : Hand4 w n gg gb sb gq ps L) :
    Code.wp (barP Try.prog) (rest4 Try.f4) (Ret4 w) ⟨#[x0, x1, .int .i64 k, x3, x4, x5, x6, .pointer (some ⟨gb, 0, none⟩), .pointer (some ⟨sb, 0, none⟩), .int .i64 0, x10, x11, x12, x13, x14, x15, x16, x17, x18, x19, x20, x21, x22, x23, x24, x25, x26, x27, x28, x29, x30, x31, x32, x33, x34, x35, x36, x37, x38, x39, x40, x41, x42, x43, x44, x45, x46, x47, x48, x49, x50, x51, x52, x53, x54, x55, x56, x57, x58, x59, x60, x61, x62, x63, x64, x65, x66, x67, x68, x69, x70, x71, x72, x73, x74, x75, x76, x77, x78, x79, x80, x81, x82, x83, x84, x85, x86, x87, x88, x89, x90, x91, x92, x93, x94, x95, x96, x97, x98, x99, x100, x101, x102, x103, x104, x105, x106, x107, x108, x109, x110, x111, x112, x113, x114, x115, x116, x117, x118, x119, x120, x121, x122, x123, x124, x125, x126, x127, x128, x129, x130, x131, x132, x133, x134, x135, x136, x137, x138, x139, x140, x141, x142, x143, x144, x145, x146, x147, x148, x149, x150, x151, x152, x153, x154, x155, x156, x157, x158, x159, x160, x161, x162, x163, x164, x165, x166, x167, x168, x169, x170, x171, x172, x173, x174, x175, x176, x177, x178, x179, x180, x181, x182], []⟩ w := by
  have hsq : n * n ≤ 64 := Nat.mul_le_mul h2 h2
  have hsq1 : 1 ≤ n * n := Nat.mul_le_mul h1 h1
  have c0 : w.cell? ⟨gb, 0, none⟩ = some (.int .i64 n) := by simp [World.cell?, h.g0]
  have c1 : w.cell? ⟨sb, 1, none⟩ = some (.slice (some ⟨gq, 0, none⟩) ps.length ps.length) := by simp [World.cell?, h.s0]
  have hN64 : ps.length ≤ 64 := h.asked.so.few
  have kW := hide (wideFresh n w h1 (by omega))
  have H := hide h
  clear h
  obtain ⟨M, hM⟩ : ∃ M, n * n = M := ⟨_, rfl⟩
  obtain ⟨N, hN⟩ : ∃ N, ps.length = N := ⟨_, rfl⟩
  rw [hM] at hsq hsq1 kW
  rw [hN] at c1 hN64
  have hMh := hide hM
  have hNh := hide hN
  clear hM hN
  simp only [rest4, body4, csnd, Try.f4, Option.getD_some]
  by_cases e0 : N = 0
  · subst e0
    go_wp2_with fail
    exact ⟨rfl, rfl, Below.refl _ _⟩
  · have q0 : ((N : Int) = 0) = False := by simp; omega
    have q1 : ((N : Int) == 0) = false := by simp; omega
    obtain ⟨m, hm, em⟩ := mod_small k (N := N) (by omega) hN64
    have em' : (m : Int) ≤ (N : Int) := by omega
    go_wp2_with fail
    refine (unhide kW).mono ?_
    rintro e w1 ⟨gl, gh, rfl, ⟨r1, r2, hne, hb1⟩, hgl, hgh⟩
    have lb := (Array.getElem?_eq_some_iff.1 (unhide H).g0).1
    have ls := (Array.getElem?_eq_some_iff.1 (unhide H).s0).1
    have d0 := (hb1.cell (p := ⟨gb, 0, none⟩) lb).trans c0
    have d1 := (hb1.cell (p := ⟨sb, 1, none⟩) ls).trans c1
    have R1 : Hid (IRow w1 gl M (fun _ => 0)) := r1
    have R2 : Hid (IRow w1 gh M (fun _ => 255)) := r2
    have B1 := hide hb1
    have A1 : Hid (Asked n ps (fun k => (zL L k).1) gq w1) := (unhide H).asked.sub (unhide H).asked.so.few (fun p hp => hp) ((unhide H).asked.at_.below hb1)
    have hA0 : Hid (Abt M (fun k => (zL L k).1) (fun _ => 0) (fun _ => 255)) := fun i _ => by have := zL_bounds hL i; dsimp only; omega
    have lt : (ps.take m).length = m := by rw [List.length_take]; have := unhide hNh; omega
    have kR1 := hide (fun (W : World) (hb : Below w1.heap.size w1 W) => runAtV (cq := N) (cl := M) (ch := M) (ps := ps.take m) h1 h2 (unhide hMh) w1 W hb ((unhide A1).sub (by omega) (fun p hp => List.mem_of_mem_take hp) ((unhide A1).at_.below hb).take) (unhide hA0) (vrow_keep (unhide R1) (hb.block _ (vrow_lt (unhide R1)))) (vrow_keep (unhide R2) (hb.block _ (vrow_lt (unhide R2)))))
    rw [lt] at kR1
    clear r1 r2 kW hb1 lt
    go_wp2_with fail
    rw [em]
    go_cut [9, 14, 15] from 65 to 77 (fun ev av bv wx => Hid (RunOut n M (ps.take m) L (fun _ => 0) (fun _ => 255) w1 ev av bv wx))
    case first =>
      change Code.wp (barP Try.prog) (Code.region 9 R9 true) _ _ _
      refine wp_region_L (S := SL (fun _ => True) (fun W => W.cell? ⟨gb, 0, none⟩ = some (.int .i64 n) ∧ W.cell? ⟨sb, 1, none⟩ = some (.slice (some ⟨gq, 0, none⟩) N N)) (fun _ => True) 8 8) mixed4 ⟨trivial, fun _ => ⟨d0, d1⟩, fun _ => trivial⟩ (fun hcl hS => ?_)
      refine anyL_take (i := 0) (oi := o9_0) (v := .pointer (some ⟨gb, 0, none⟩)) (S0 := (fun _ => True)) rfl (by kernel_rfl) (by kernel_rfl) (by kernel_rfl) (fun _ _ _ h => h) (sl_set (by decide) (by decide)) (fun _ _ _ _ _ => trivial) hcl hS (Or.inl ⟨by rfl, ?_⟩) (fun hcl hS => ?_)
      · intro W hSw
        simp only [o9_0]
        go_simp
      simp only [o9_0, Act.put, List.setIfInBounds_toArray, List.set_cons_zero, List.set_cons_succ]
      refine anyL_take (i := 1) (oi := o9_1) (v := .int .i64 n) (S0 := (fun W => W.cell? ⟨gb, 0, none⟩ = some (.int .i64 n) ∧ W.cell? ⟨sb, 1, none⟩ = some (.slice (some ⟨gq, 0, none⟩) N N))) rfl (by kernel_rfl) (by kernel_rfl) (by kernel_rfl) (fun _ _ _ h => h) (sl_set (by decide) (by decide)) (sl_b2 (by decide) (by kernel_rfl)) hcl hS (Or.inl ⟨by rfl, ?_⟩) (fun hcl hS => ?_)
      · intro W hSw
        obtain ⟨hS1, hS2⟩ := hSw
        simp only [o9_1]
        go_simp
      simp only [o9_1, Act.put, List.setIfInBounds_toArray, List.set_cons_zero, List.set_cons_succ]
      refine anyL_take (i := 2) (oi := o9_2) (v := .pointer (some ⟨sb, 1, none⟩)) (S0 := (fun _ => True)) rfl (by kernel_rfl) (by kernel_rfl) (by kernel_rfl) (fun _ _ _ h => h) (sl_set (by decide) (by decide)) (fun _ _ _ _ _ => trivial) hcl hS (Or.inl ⟨by rfl, ?_⟩) (fun hcl hS => ?_)
      · intro W hSw
        simp only [o9_2]
        go_simp
      simp only [o9_2, Act.put, List.setIfInBounds_toArray, List.set_cons_zero, List.set_cons_succ]
      refine anyL_take (i := 3) (oi := o9_3) (v := .slice (some ⟨gq, 0, none⟩) N N) (S0 := (fun W => W.cell? ⟨gb, 0, none⟩ = some (.int .i64 n) ∧ W.cell? ⟨sb, 1, none⟩ = some (.slice (some ⟨gq, 0, none⟩) N N))) rfl (by kernel_rfl) (by kernel_rfl) (by kernel_rfl) (fun _ _ _ h => h) (sl_set (by decide) (by decide)) (sl_b2 (by decide) (by kernel_rfl)) hcl hS (Or.inl ⟨by rfl, ?_⟩) (fun hcl hS => ?_)
      · intro W hSw
        obtain ⟨hS1, hS2⟩ := hSw
        simp only [o9_3]
        go_simp
      simp only [o9_3, Act.put, List.setIfInBounds_toArray, List.set_cons_zero, List.set_cons_succ]
      refine anyL_take (i := 4) (oi := o9_4) (v := .int .i64 m) (S0 := (fun _ => True)) rfl (by kernel_rfl) (by kernel_rfl) (by kernel_rfl) (fun _ _ _ h => h) (sl_set (by decide) (by decide)) (fun _ _ _ _ _ => trivial) hcl hS (Or.inl ⟨by rfl, ?_⟩) (fun hcl hS => ?_)
      · intro W hSw
        simp only [o9_4]
        go_simp
      simp only [o9_4, Act.put, List.setIfInBounds_toArray, List.set_cons_zero, List.set_cons_succ]
      refine anyL_take (i := 5) (oi := o9_5) (v := .slice (some ⟨gq, 0, none⟩) m N) (S0 := (fun _ => True)) rfl (by kernel_rfl) (by kernel_rfl) (by kernel_rfl) (fun _ _ _ h => h) (sl_set (by decide) (by decide)) (fun _ _ _ _ _ => trivial) hcl hS (Or.inl ⟨by rfl, ?_⟩) (fun hcl hS => ?_)
      · intro W hSw
        simp only [o9_5]
        go_simp
      simp only [o9_5, Act.put, List.setIfInBounds_toArray, List.set_cons_zero, List.set_cons_succ]
      refine anyL_take (i := 6) (oi := o9_6) (v := .slice (some ⟨gl, 0, none⟩) M M) (S0 := (fun _ => True)) rfl (by kernel_rfl) (by kernel_rfl) (by kernel_rfl) (fun _ _ _ h => h) (sl_set (by decide) (by decide)) (fun _ _ _ _ _ => trivial) hcl hS (Or.inl ⟨by rfl, ?_⟩) (fun hcl hS => ?_)
      · intro W hSw
        simp only [o9_6]
        go_simp
      simp only [o9_6, Act.put, List.setIfInBounds_toArray, List.set_cons_zero, List.set_cons_succ]
      refine anyL_take (i := 7) (oi := o9_7) (v := .slice (some ⟨gh, 0, none⟩) M M) (S0 := (fun _ => True)) rfl (by kernel_rfl) (by kernel_rfl) (by kernel_rfl) (fun _ _ _ h => h) (sl_set (by decide) (by decide)) (fun _ _ _ _ _ => trivial) hcl hS (Or.inl ⟨by rfl, ?_⟩) (fun hcl hS => ?_)
      · intro W hSw
        simp only [o9_7]
        go_simp
      simp only [o9_7, Act.put, List.setIfInBounds_toArray, List.set_cons_zero, List.set_cons_succ]
      refine anyL_one (i := 8) (o := o9_8) (by kernel_rfl) rfl hcl ?_
      intro K hK
      refine step_callG rfl ?_ (unhide kR1 _ (by exact ⟨rfl, rfl, rfl, Nat.le_refl _, fun _ _ => rfl⟩)) (fun r w' ⟨av, bv, ev, h, _⟩ => ⟨_, h⟩) ?_
      · simp only [o9_8]
        go_simp
      rintro v0 W4 ⟨av, bv, ev, hv4, hr1⟩
      obtain rfl := Ending.returned.inj hv4
      simp only [o9_8, Act.put, List.setIfInBounds_toArray, List.set_cons_zero, List.set_cons_succ]
      refine hK.out _ _ ⟨trivial, fun h => (not_false4 (by kernel_rfl) h).elim, fun _ => trivial⟩ (fun hcl hS => ?_)
      clear hK K hv4
      refine anyL_take (i := 9) (oi := o9_9) (v := .tuple #[av, bv, ev]) (S0 := (fun _ => True)) rfl (by kernel_rfl) (by kernel_rfl) (by kernel_rfl) (fun _ _ _ h => h) (sl_set (by decide) (by decide)) (fun _ _ _ _ _ => trivial) hcl hS (Or.inl ⟨by rfl, ?_⟩) (fun hcl hS => ?_)
      · intro W hSw
        simp only [o9_9]
        go_simp
      simp only [o9_9, Act.put, List.setIfInBounds_toArray, List.set_cons_zero, List.set_cons_succ]
      refine anyL_take (i := 10) (oi := o9_10) (v := av) (S0 := (fun _ => True)) rfl (by kernel_rfl) (by kernel_rfl) (by kernel_rfl) (fun _ _ _ h => h) (sl_set (by decide) (by decide)) (fun _ _ _ _ _ => trivial) hcl hS (Or.inl ⟨by rfl, ?_⟩) (fun hcl hS => ?_)
      · intro W hSw
        simp only [o9_10]
        go_simp
      simp only [o9_10, Act.put, List.setIfInBounds_toArray, List.set_cons_zero, List.set_cons_succ]
      refine anyL_take (i := 11) (oi := o9_11) (v := bv) (S0 := (fun _ => True)) rfl (by kernel_rfl) (by kernel_rfl) (by kernel_rfl) (fun _ _ _ h => h) (sl_set (by decide) (by decide)) (fun _ _ _ _ _ => trivial) hcl hS (Or.inl ⟨by rfl, ?_⟩) (fun hcl hS => ?_)
      · intro W hSw
        simp only [o9_11]
        go_simp
      simp only [o9_11, Act.put, List.setIfInBounds_toArray, List.set_cons_zero, List.set_cons_succ]
      refine anyL_take (i := 12) (oi := o9_12) (v := ev) (S0 := (fun _ => True)) rfl (by kernel_rfl) (by kernel_rfl) (by kernel_rfl) (fun _ _ _ h => h) (sl_set (by decide) (by decide)) (fun _ _ _ _ _ => trivial) hcl hS (Or.inl ⟨by rfl, ?_⟩) (fun hcl hS => ?_)
      · intro W hSw
        simp only [o9_12]
        go_simp
      simp only [o9_12, Act.put, List.setIfInBounds_toArray, List.set_cons_zero, List.set_cons_succ]
      refine anyL_take (i := 13) (oi := o9_13) (v := av) (S0 := (fun _ => True)) rfl (by kernel_rfl) (by kernel_rfl) (by kernel_rfl) (fun _ _ _ h => h) (sl_set (by decide) (by decide)) (fun _ _ _ _ _ => trivial) hcl hS (Or.inl ⟨by rfl, ?_⟩) (fun hcl hS => ?_)
      · intro W hSw
        simp only [o9_13]
        go_simp
      simp only [o9_13, Act.put, List.setIfInBounds_toArray, List.set_cons_zero, List.set_cons_succ]
      refine anyL_take (i := 14) (oi := o9_14) (v := bv) (S0 := (fun _ => True)) rfl (by kernel_rfl) (by kernel_rfl) (by kernel_rfl) (fun _ _ _ h => h) (sl_set (by decide) (by decide)) (fun _ _ _ _ _ => trivial) hcl hS (Or.inl ⟨by rfl, ?_⟩) (fun hcl hS => ?_)
      · intro W hSw
        simp only [o9_14]
        go_simp
      simp only [o9_14, Act.put, List.setIfInBounds_toArray, List.set_cons_zero, List.set_cons_succ]
      refine anyL_take (i := 15) (oi := o9_15) (v := ev) (S0 := (fun _ => True)) rfl (by kernel_rfl) (by kernel_rfl) (by kernel_rfl) (fun _ _ _ h => h) (sl_set (by decide) (by decide)) (fun _ _ _ _ _ => trivial) hcl hS (Or.inl ⟨by rfl, ?_⟩) (fun hcl hS => ?_)
      · intro W hSw
        simp only [o9_15]
        go_simp
      simp only [o9_15, Act.put, List.setIfInBounds_toArray, List.set_cons_zero, List.set_cons_succ]
      refine anyL_done (by kernel_rfl) ?_ _
      go_wp2_with fail
      go_meet
      exact hr1
    case rest =>
      obtain ⟨hcase, hb2⟩ := unhide hcut
      have s1 := (unhide B1).size
      have e0c := (hb2.cell (p := ⟨gb, 0, none⟩) (by show gb < _; omega)).trans d0
      have e1c := (hb2.cell (p := ⟨sb, 1, none⟩) (by show sb < _; omega)).trans d1
      have B2 := hide ((unhide B1).trans (hb2.mono s1))
      have A2 : Hid (Asked n ps (fun k => (zL L k).1) gq wc) := (unhide A1).sub (unhide A1).so.few (fun p hp => hp) ((unhide A1).at_.below hb2)
      have R1c := hide (vrow_keep (w' := wc) (unhide R1) (hb2.block _ (vrow_lt (unhide R1))))
      have R2c := hide (vrow_keep (w' := wc) (unhide R2) (hb2.block _ (vrow_lt (unhide R2))))
      have kR2 := hide (runAtV (cq := N) (cl := M) (ch := M) (ps := ps) h1 h2 (unhide hMh) wc wc (Below.refl _ _) (unhide A2) (unhide hA0) (unhide R1c) (unhide R2c))
      rw [unhide hNh] at kR2
      have HC := hide hcase
      clear hcase hb2 hcut kR1 A1 R1 R2 B1 d0 d1
      go_wp2_with fail
      refine (unhide kR2).mono ?_
      rintro e w3 ⟨cv, dv, fv, rfl, hr2, hb3⟩
      have B3 := hide ((unhide B2).trans (hb3.mono (unhide B2).size))
      have s2 := (unhide B2).size
      rcases hr2 with ⟨rfl, rfl, rfl⟩ | ⟨rfl, gc, cc, gd, cd, c, d, rfl, rfl, r1, r2, hG, hT⟩
      · clear kR2 hb3
        rcases unhide HC with ⟨rfl, rfl, rfl⟩ | ⟨rfl, ga, ca, ge, ce, a, b, rfl, rfl, p1, p2, p3, p4⟩
        · go_wp2_with fail
          exact ⟨rfl, rfl, unhide B3⟩
        · clear p1 p2 p3 p4
          go_wp2_with fail
          exact ⟨rfl, rfl, unhide B3⟩
      · have e0d := (hb3.cell (p := ⟨gb, 0, none⟩) (by show gb < _; omega)).trans e0c
        have e1d := (hb3.cell (p := ⟨sb, 1, none⟩) (by show sb < _; omega)).trans e1c
        have A3 : Hid (Asked n ps (fun k => (zL L k).1) gq w3) := (unhide A2).sub (unhide A2).so.few (fun p hp => hp) ((unhide A2).at_.below hb3)
        have R1d := hide (vrow_keep (w' := w3) (unhide R1c) (hb3.block _ (vrow_lt (unhide R1c))))
        have R2d := hide (vrow_keep (w' := w3) (unhide R2c) (hb3.block _ (vrow_lt (unhide R2c))))
        have C3 := hide r1
        have D3 := hide r2
        have G2 := hide hG
        have T2 := hide hT
        have W0 : Hid (Below wc.heap.size wc w3) := hb3
        clear kR2 hb3 r1 r2 hG hT A2 R1c R2c e0c e1c
        rcases unhide HC with ⟨rfl, rfl, rfl⟩ | ⟨rfl, ga, ca, ge, ce, a, b, rfl, rfl, p1, p2, p3, p4⟩
        focus
          obtain ⟨w6, e6⟩ : ∃ w6, w6 = w3 := ⟨_, rfl⟩
          subst e6
          have B6 := B3
          have C6 := C3
          have D6 := D3
          have A6 := A3
          have R1e := R1d
          have R2e := R2d
          have e0e := e0d
          have e1e := e1d
          clear B3 C3 D3 A3 R1d R2d e0d e1d W0 HC B2
          go_wp2_with fail
        rotate_left
        focus
          have s3 := (unhide W0).size
          have p1 := vrow_keep (w' := w3) p1 ((unhide W0).block _ (vrow_lt p1))
          have p2 := vrow_keep (w' := w3) p2 ((unhide W0).block _ (vrow_lt p2))
          have i1 := hide (ints_row (cap := ca) p1)
          have i2 := hide (ints_row (cap := ce) p2)
          have i3 := hide (ints_row (cap := cc) (unhide C3))
          have i4 := hide (ints_row (cap := cd) (unhide D3))
          have hsub : ∀ X, X ∈ lk n (ps.take m) (ps.take m).length 0 → X ∈ lk n ps ps.length 0 := fun X hX => by
            obtain ⟨q, hq, hx⟩ := lk_mem.1 hX
            exact lk_mem.2 ⟨q, List.mem_of_mem_take hq, hx⟩
          have hW := great_more hsub p3 (unhide G2)
          have hle : widS (tab M c) (tab M d) ≤ widS (tab M a) (tab M b) := wid_less (fun i hi => by have := p4 i hi; dsimp only at this; omega) (fun i hi => by have := unhide T2 i hi; dsimp only at this; omega) hW (by omega)
          have kV := hide (withinYes (A := tab M c) (B := tab M d) (C := tab M a) (D := tab M b) (by rw [tab_len]; omega) (by rw [tab_len, tab_len]) (by rw [tab_len, tab_len]) (by rw [tab_len, tab_len]) (fun k hk => by
            rw [tab_len] at hk
            rw [tab_get hk, tab_get hk, tab_get hk, tab_get hk]
            exact hW k hk) w3 (unhide i3) (unhide i4) (unhide i1) (unhide i2))
          have hlt : (widS (tab M a) (tab M b) < widS (tab M c) (tab M d)) = False := by simp; omega
          have HL := hide hlt
          clear p1 p2 p3 p4 hsub hW HC hle hlt
          go_wp2_with fail
          refine (unhide kV).mono ?_
          rintro e w4 ⟨rfl, hb4⟩
          have kX := hide (boundWidth (tab M c) (tab M d) _ _ w4 (by rw [tab_len]; omega) (by rw [tab_len]; omega) (ints_below (unhide i3) hb4) (ints_below (unhide i4) hb4))
          have F4 := hide hb4
          clear kV hb4
          go_wp2_with fail
          refine (unhide kX).mono ?_
          rintro e w5 ⟨rfl, hb5⟩
          have F5 := hide ((unhide F4).trans (hb5.mono (unhide F4).size))
          have kY := hide (boundWidth (tab M a) (tab M b) _ _ w5 (by rw [tab_len]; omega) (by rw [tab_len]; omega) (ints_below (unhide i1) (unhide F5)) (ints_below (unhide i2) (unhide F5)))
          clear kX hb5 F4
          go_wp2_with fail
          refine (unhide kY).mono ?_
          rintro e w6 ⟨rfl, hb6⟩
          have F6 := hide ((unhide F5).trans (hb6.mono (unhide F5).size))
          have hlt := unhide HL
          have B6 := hide ((unhide B3).trans ((unhide F6).mono (unhide B3).size))
          have C6 := hide (vrow_keep (w' := w6) (unhide C3) ((unhide F6).block _ (vrow_lt (unhide C3))))
          have D6 := hide (vrow_keep (w' := w6) (unhide D3) ((unhide F6).block _ (vrow_lt (unhide D3))))
          have A6 : Hid (Asked n ps (fun k => (zL L k).1) gq w6) := (unhide A3).sub (unhide A3).so.few (fun p hp => hp) ((unhide A3).at_.below (unhide F6))
          have R1e := hide (vrow_keep (w' := w6) (unhide R1d) ((unhide F6).block _ (vrow_lt (unhide R1d))))
          have R2e := hide (vrow_keep (w' := w6) (unhide R2d) ((unhide F6).block _ (vrow_lt (unhide R2d))))
          have e0e := ((unhide F6).cell (p := ⟨gb, 0, none⟩) (by show gb < _; omega)).trans e0d
          have e1e := ((unhide F6).cell (p := ⟨sb, 1, none⟩) (by show sb < _; omega)).trans e1d
          clear kY hb6 F5 B3 C3 D3 A3 R1d R2d e0d e1d W0 B2 i1 i2 i3 i4 HL
          generalize widS (tab M c) (tab M d) = W1 at *
          generalize widS (tab M a) (tab M b) = W2 at *
          go_wp2_with fail
        all_goals (
          have kR3 := hide (runDone (cq := N) (cl := cc) (ch := cd) (ps := ps) h1 h2 (unhide hMh) (by rw [unhide hNh]; omega) w6 (unhide A6) (unhide T2) (unhide G2).stab (unhide C6) (unhide D6))
          rw [unhide hNh] at kR3
          refine (unhide kR3).mono ?_
          rintro e w7 ⟨gx, cx, gy, cy, rfl, x1, x2, hb7⟩
          have B7 := hide ((unhide B6).trans (hb7.mono (unhide B6).size))
          have C7 := hide (vrow_keep (w' := w7) (unhide C6) (hb7.block _ (vrow_lt (unhide C6))))
          have D7 := hide (vrow_keep (w' := w7) (unhide D6) (hb7.block _ (vrow_lt (unhide D6))))
          have i5 := hide (ints_row (cap := cc) (unhide C7))
          have i6 := hide (ints_row (cap := cd) (unhide D7))
          have i7 := hide (ints_row (cap := cx) x1)
          have i8 := hide (ints_row (cap := cy) x2)
          have F7 := hide hb7
          have kS1 := hide (sameYes (L := tab M c) (by rw [tab_len]; omega) w7 (unhide i7) (unhide i5))
          have s6 := (unhide B6).size
          clear kR3 hb7 x1 x2 C6 D6 B6
          go_wp2_with fail
          refine (unhide kS1).mono ?_
          rintro e w8 ⟨rfl, hb8⟩
          have kS2 := hide (sameYes (L := tab M d) (by rw [tab_len]; omega) w8 (ints_below (unhide i8) hb8) (ints_below (unhide i6) hb8))
          have F8 := hide hb8
          clear kS1 hb8
          go_wp2_with fail
          refine (unhide kS2).mono ?_
          rintro e w9 ⟨rfl, hb9⟩
          have F9 := hide ((unhide F8).trans (hb9.mono (unhide F8).size))
          have F69 := hide ((unhide F7).trans ((unhide F9).mono (unhide F7).size))
          have B9 := hide ((unhide B7).trans ((unhide F9).mono (unhide B7).size))
          have C9 := hide (ints_below (unhide i5) (unhide F9))
          have D9 := hide (ints_below (unhide i6) (unhide F9))
          have A9 : Hid (Asked n ps (fun k => (zL L k).1) gq w9) := (unhide A6).sub (unhide A6).so.few (fun p hp => hp) ((unhide A6).at_.below (unhide F69))
          have R1f := hide (vrow_keep (w' := w9) (unhide R1e) ((unhide F69).block _ (vrow_lt (unhide R1e))))
          have R2f := hide (vrow_keep (w' := w9) (unhide R2e) ((unhide F69).block _ (vrow_lt (unhide R2e))))
          have e0f := ((unhide F69).cell (p := ⟨gb, 0, none⟩) (by show gb < _; omega)).trans e0e
          have e1f := ((unhide F69).cell (p := ⟨sb, 1, none⟩) (by show sb < _; omega)).trans e1e
          clear kS2 hb9 F8 F7 B7 C7 D7 i5 i6 i7 i8 A6 R1e R2e e0e e1e
          go_wp2_with fail
          obtain ⟨i0, hi0, hz0, hz1, hz2⟩ := info_parts infoProj
          go_loopw [22, 23] (fun lv iv wr => ∃ i : Nat, i ≤ N ∧ iv = .int .i64 ((i : Int) - 1) ∧ Hid (wr.ownsRow w9.heap.size 49 3 lv (N - i) (flatP (ps.reverse.take (N - i)))) ∧ Hid (Below w9.heap.size w9 wr)) (fun _ iv _ => (intOf iv + 1).toNat)
          case atStart => exact ⟨N, Nat.le_refl _, rfl, by rw [Nat.sub_self]; exact World.ownsRow_nil _ _ _ _, Below.refl _ _⟩
          case round =>
            obtain ⟨i, hi, rfl, hO, hF⟩ := hrel
            have s9 := (unhide B9).size
            cases i with
            | zero =>
              have z0 : ((0 : Nat) : Int) - 1 = -1 := rfl
              rw [z0]
              have hlr : ps.reverse.length = N := by rw [List.length_reverse]; exact unhide hNh
              have hown : wr.ownsRow w9.heap.size 49 3 u22 ps.reverse.length (flatP ps.reverse) := by
                have := unhide hO
                rw [Nat.sub_zero] at this
                rw [hlr]
                rw [show ps.reverse.take N = ps.reverse by rw [← hlr]; exact List.take_length] at this
                exact this
              have hmem : ∀ q, q ∈ ps.reverse → q ∈ ps := fun q hq => List.mem_reverse.1 hq
              have hbins : ∀ i, i < ps.reverse.length → VRow wr 39 (ps.reverse.getD i p0).gb (ps.reverse.getD i p0).nb (fun j => .complex .f64 ((ps.reverse.getD i p0).z j).1 ((ps.reverse.getD i p0).z j).2) := fun i hi => by
                have hm : ps.reverse.getD i p0 ∈ ps.reverse := by
                  rw [List.getD_eq_getElem?_getD, List.getElem?_eq_getElem hi]
                  exact List.getElem_mem hi
                obtain ⟨j, hj, e⟩ := pd_mem (hmem _ hm)
                rw [← e]
                exact ((unhide A9).at_.below (unhide hF)).bins j hj
              obtain ⟨gr, cr, rfl, hP⟩ := projs_own hown (by rw [hlr]; omega) hbins
              have kR4 := hide (runAtV (cq := cr) (cl := M) (ch := M) (ps := ps.reverse) h1 h2 (unhide hMh) wr wr (Below.refl _ _) ((unhide A9).sub (by rw [hlr]; omega) hmem hP) (unhide hA0) (vrow_keep (w' := wr) (unhide R1f) ((unhide hF).block _ (vrow_lt (unhide R1f)))) (vrow_keep (w' := wr) (unhide R2f) ((unhide hF).block _ (vrow_lt (unhide R2f)))))
              rw [hlr] at kR4 ⊢
              have e0g := ((unhide hF).cell (p := ⟨gb, 0, none⟩) (by show gb < _; omega)).trans e0f
              have hlrh := hide hlr
              clear hown hP hbins hO hlr hz0 hz1 hz2 hi0 z0
              go_wp2_with fail
              refine (unhide kR4).mono ?_
              rintro e wz ⟨xv, yv, hv, rfl, hr4, hb10⟩
              have FZ := hide ((unhide hF).trans (hb10.mono (unhide hF).size))
              have BZ := hide ((unhide B9).trans ((unhide FZ).mono (unhide B9).size))
              rcases hr4 with ⟨rfl, rfl, rfl⟩ | ⟨rfl, gz, cz, gt, ct, x, y, rfl, rfl, y1, y2, hG4, hT4⟩
              · clear kR4 hb10
                go_wp2_with fail
                exact ⟨rfl, rfl, unhide BZ⟩
              · have hsm := great_same (fun X => ⟨fun hX => by
                    obtain ⟨q, hq, hx⟩ := lk_mem.1 hX
                    exact lk_mem.2 ⟨q, hmem q hq, hx⟩, fun hX => by
                    obtain ⟨q, hq, hx⟩ := lk_mem.1 hX
                    exact lk_mem.2 ⟨q, List.mem_reverse.2 hq, hx⟩⟩) hG4 (unhide G2)
                have t1 : tab M x = tab M c := List.map_congr_left fun i hi => (hsm i (List.mem_range.1 hi)).1
                have t2 : tab M y = tab M d := List.map_congr_left fun i hi => (hsm i (List.mem_range.1 hi)).2
                have i1 := ints_row (cap := cz) y1
                have i2 := ints_row (cap := ct) y2
                rw [t1] at i1
                rw [t2] at i2
                have kS3 := hide (sameYes (L := tab M c) (by rw [tab_len]; omega) wz i1 (ints_below (unhide C9) (unhide FZ)))
                have D10 := hide (ints_below (unhide D9) (unhide FZ))
                have i2 := hide i2
                clear kR4 hb10 hsm t1 t2 i1 y1 y2 hG4 hT4
                go_wp2_with fail
                refine (unhide kS3).mono ?_
                rintro e w11 ⟨rfl, hb11⟩
                have kS4 := hide (sameYes (L := tab M d) (by rw [tab_len]; omega) w11 (ints_below (unhide i2) hb11) (ints_below (unhide D10) hb11))
                have B11 := hide ((unhide BZ).trans (hb11.mono (unhide BZ).size))
                clear kS3 hb11
                go_wp2_with fail
                refine (unhide kS4).mono ?_
                rintro e w12 ⟨rfl, hb12⟩
                have B12 := hide ((unhide B11).trans (hb12.mono (unhide B11).size))
                clear kS4 hb12
                go_wp2_with fail
                exact ⟨rfl, rfl, unhide B12⟩
            | succ i =>
              have z0 : ((i + 1 : Nat) : Int) - 1 = (i : Int) := by omega
              rw [z0]
              have q2 : (0 ≤ (i : Int)) = True := by simp
              have q3 : ((i : Int) < (N : Int)) = True := by simp; omega
              have e1g := ((unhide hF).cell (p := ⟨sb, 1, none⟩) (by show sb < _; omega)).trans e1f
              have hil : i < ps.length := by rw [unhide hNh]; omega
              obtain ⟨c1', c2', c3'⟩ := ((unhide A9).at_.below (unhide hF)).cells i hil
              have hfl := take_rev (ps := ps) (j := N - (i + 1)) (by rw [unhide hNh]; omega)
              rw [show ps.length - 1 - (N - (i + 1)) = i by rw [unhide hNh]; omega, show N - (i + 1) + 1 = N - i by omega] at hfl
              have HF := hide hfl
              clear hfl
              generalize ps.getD i p0 = p at *
              obtain ⟨⟨d1', d2'⟩, gb', cb', nb', z', iz'⟩ := p
              dsimp only at c1' c2' c3'
              have y5 := (Below.refl wr.heap.size wr).alloc (Nat.le_refl _) (.cells #[.int .i64 d1', .int .i64 d2', .slice (some ⟨gb', 0, none⟩) nb' cb'] 49)
              have own5 := own_stay (unhide hO) (fun b hb => y5.block b ((unhide hO).lt b hb).2)
              have F5 := hide ((unhide hF).trans (y5.mono (unhide hF).size))
              have hs5 : w9.heap.size ≤ wr.heap.size := (unhide hF).size
              have hsz5 : (wr.alloc (.cells #[.int .i64 d1', .int .i64 d2', .slice (some ⟨gb', 0, none⟩) nb' cb'] 49)).heap.size = wr.heap.size + 1 := World.size_alloc _ _
              have m1 : i * 3 < N * 3 := by omega
              clear hO hF y5 z0
              go_wp2_with (first
                | (at_builtin; refine wpList_append_own _ rfl (.tmp 149) (.tmp 155) 29 rfl w9.heap.size 49 i0 (.agg #[.int .i64 0, .int .i64 0, .slice none 0 0]) 3 40 Bar.underlying29 hi0 hz0 hz1 hz2 rfl (by decide) _ _ _ rfl own5 ⟨wr.heap.size, 0, none⟩ 1 1 [.int .i64 d1', .int .i64 d2', .slice (some ⟨gb', 0, none⟩) nb' cb'] rfl rfl (three_new _ _ _ _ _) ?c2 ?c3 ?c4 ?c5 ?_))
              case c2 => intro u hu; simp at hu; rcases hu with rfl | rfl | rfl <;> rfl
              case c3 => unfold maxLen; omega
              case c4 => omega
              case c5 => rw [hsz5]; omega
              intro x' w10 hown' hgrow _
              have F10 : Hid (Below w9.heap.size w9 w10) := ⟨hgrow.os.trans (unhide F5).os, hgrow.tape.trans (unhide F5).tape, hgrow.output.trans (unhide F5).output, Nat.le_trans (unhide F5).size hgrow.size, fun x hx => (hgrow.block x (by omega) (fun e => by have := (own5.lt x e.symm).1; omega)).trans ((unhide F5).block x hx)⟩
              have O10 : Hid (w10.ownsRow w9.heap.size 49 3 x' (N - i) (flatP (ps.reverse.take (N - i)))) := by
                rw [unhide HF, show N - i = N - (i + 1) + 1 by omega]
                exact hown'
              clear hown' hgrow own5 F5 HF hsz5 c1' c2' c3' e1g
              go_wp2_with fail
              exact ⟨⟨i, by omega, by go_num, O10, F10⟩, by simp [intOf]⟩)
end Go.Proofs.Ythbghcebcahlnaa
