/- byWorkers by one worker: goroutine 0 alone, up to its go statement. Words of a walk out, one shape each. -/
import Derived.Test.YtfnbcpeipoobkaaGreatM11
import Derived.Test.YtfnbcpeipoobkaaGreatM12
import Derived.Test.YtfnbcpeipoobkaaGreatM14
import Derived.Conc.MuWords
import Derived.Conc.AppendWalk
set_option linter.unusedSectionVars false
namespace Go.Proofs.YtfnbcpeipoobkaaGreat
open Go Go.Conc Go.RowKit Go.Conc.Lib Go.ConcR.Gen Go.ConcM
open Go.ConcR (AtMkS)

def body15 (fn : Func) : Code := fn.body.getD .skip
/-- The cells of so many projections. -/
def zP (m : Nat) : Array Value := madeCells #[.int .i64 0, .int .i64 0, .slice none 0 0] (m * 3)
section
variable (v : World) (n : Int) (cS : Value) (da : Option Addr) (m dc : Nat)
/-- The world at group.Add(1): seven new blocks. -/
def bw1 : World := (v.alloc (.cells #[.int .i64 n, cS] 27)).alloc (.cells #[.slice da m dc] 23)
def bw2 : World := (bw1 v n cS da m dc).alloc (.cells (zP m) 40)
def bw3 : World := (bw2 v n cS da m dc).alloc (.cells #[.slice (some ⟨v.heap.size + 2, 0, none⟩) m m] 31)
def bw4 : World := (bw3 v n cS da m dc).alloc (.cells #[.int .i64 0] 64)
def bw5 : World := (bw4 v n cS da m dc).alloc (.cells #[.func (.func 20) #[] #[.pointer (some ⟨v.heap.size + 4, 0, none⟩)]] 66)
def bw6 : World := (bw5 v n cS da m dc).alloc (.cells #[.int .u64 0, .int .u32 0] 73)
def bw7 : World := (bw6 v n cS da m dc).setCell (ConcR.stA (v.heap.size + 6)) (.int .u64 ConcR.KK)
theorem bw_wg : ConcR.WgAt 73 (v.heap.size + 6) (bw6 v n cS da m dc) 0 0 := by
  unfold bw6 ConcR.WgAt ConcR.wgBlock
  have := heap_alloc_new (bw5 v n cS da m dc) (.cells #[.int .u64 0, .int .u32 0] 73)
  simpa only [bw5, bw4, bw3, bw2, bw1, World.size_alloc, Nat.add_assoc, Nat.reduceAdd] using this
end
theorem evW_at {Wg b : Nat} {off : Nat} {x s : Bool} (h : b ≠ Wg) : EvW Wg ⟨.cell ⟨b, off, none⟩, x, s⟩ := evW_cell _ _ _ h
/-- Parts of a code. -/
def cfst : Code → Code
  | .seq a _ => a
  | c => c
def csnd : Code → Code
  | .seq _ b => b
  | c => c
def cops : Code → Array Oper
  | .region _ ops _ => ops
  | _ => #[]
/-- What stands behind group.Wait(), and the call of it. -/
def rest15 (fn : Func) : Code := csnd (csnd (csnd (csnd (csnd (csnd (csnd (body15 fn)))))))
def ops15 (fn : Func) : Array Oper := cops (cfst (csnd (csnd (csnd (csnd (csnd (csnd (body15 fn))))))))
/-- The caller behind its Wait. -/
def fr15 (fn : Func) (b : Nat) (n : Int) (cS : Value) (da : Option Addr) (m dc : Nat) : Frame := (base 11).at ⟨#[.agg #[.int .i64 n, cS], .slice da m dc, .int .i64 1, .pointer (some ⟨b, 0, none⟩), .pointer (some ⟨b + 1, 0, none⟩), undef, .slice none 0 0, .pointer (some ⟨b + 3, 0, none⟩), .pointer (some ⟨b + 4, 0, none⟩), .pointer (some ⟨b + 5, 0, none⟩), .pointer (some ⟨b + 6, 0, none⟩), .slice da m dc, .int .i64 m, .slice (some ⟨b + 2, 0, none⟩) m m, .func (.func 20) #[] #[.pointer (some ⟨b + 4, 0, none⟩)], .int .i64 1, .int .i64 1, .bool false, .tuple #[], .func (.func 23) #[] #[.pointer (some ⟨b + 6, 0, none⟩), .pointer (some ⟨b + 5, 0, none⟩), .pointer (some ⟨b + 1, 0, none⟩), .pointer (some ⟨b, 0, none⟩), .pointer (some ⟨b + 3, 0, none⟩)], .int .i64 1, .tuple #[], undef], []⟩ [.inRegion (ops15 fn) [], .code (rest15 fn)]
/-- The child's call. -/
def call28 (b : Nat) : Deferred := { target := .fn (.func 23) #[.pointer (some ⟨b + 6, 0, none⟩), .pointer (some ⟨b + 5, 0, none⟩), .pointer (some ⟨b + 1, 0, none⟩), .pointer (some ⟨b, 0, none⟩), .pointer (some ⟨b + 3, 0, none⟩)], args := #[] }

theorem infoP : (Tryz.prog.info? 40).map (fun i => (i.zero, i.size, i.bytes)) = some (some (.agg #[.int .i64 0, .int .i64 0, .slice none 0 0]), 3, 40) := by kernel_rfl
theorem run_makeP (m : Nat) (hm : m ≤ 64) (w : World) : (Instr.makeSlice 31 (.int .i64 (m : Int)) (.int .i64 (m : Int))).run Tryz.prog w = .ok (.slice (some ⟨w.heap.size, 0, none⟩) m m) (w.alloc (.cells (zP m) 40)) := by
  obtain ⟨i, hi, hz⟩ := Option.map_eq_some_iff.1 infoP
  simp only [Prod.mk.injEq] at hz
  obtain ⟨h1, h2, h3⟩ := hz
  have := run_make (P := Tryz.prog) w 31 40 i _ Tryz.underlying31 hi h1 .i64 .i64 (m : Int) (m : Int) (by omega) (by omega) (by rw [h3]; omega) (by omega)
  rw [this, h2]
  simp [zP, Value.cells]
theorem events_makeP (m : Nat) (hm : m ≤ 64) (w : World) (es : Array Event) : (Instr.makeSlice 31 (.int .i64 (m : Int)) (.int .i64 (m : Int))).events Tryz.prog w es = es := by
  obtain ⟨i, hi, hz⟩ := Option.map_eq_some_iff.1 infoP
  simp only [Prod.mk.injEq] at hz
  obtain ⟨h1, h2, h3⟩ := hz
  exact events_make (P := Tryz.prog) w 31 40 i _ Tryz.underlying31 hi h1 .i64 .i64 (m : Int) (m : Int) (by omega) (by omega) (by rw [h3]; omega) (by omega) (by rw [h3]; omega) es
section
variable (v : World) (n : Int) (cS : Value) (da : Option Addr) (m dc : Nat)
theorem bw1_size : (bw1 v n cS da m dc).heap.size = v.heap.size + 2 := by simp [bw1]
theorem bw2_size : (bw2 v n cS da m dc).heap.size = v.heap.size + 3 := by simp [bw2, bw1_size]
theorem bw3_size : (bw3 v n cS da m dc).heap.size = v.heap.size + 4 := by simp [bw3, bw2_size]
theorem bw4_size : (bw4 v n cS da m dc).heap.size = v.heap.size + 5 := by simp [bw4, bw3_size]
theorem bw5_size : (bw5 v n cS da m dc).heap.size = v.heap.size + 6 := by simp [bw5, bw4_size]
theorem bw6_size : (bw6 v n cS da m dc).heap.size = v.heap.size + 7 := by simp [bw6, bw5_size]
theorem bw1_dirs : (bw1 v n cS da m dc).cell? ⟨v.heap.size + 1, 0, none⟩ = some (.slice da m dc) := by
  have := heap_alloc_new (v.alloc (.cells #[.int .i64 n, cS] 27)) (.cells #[.slice da m dc] 23)
  rw [World.size_alloc] at this
  unfold bw1 World.cell?
  rw [this]
  rfl
end

section
variable (P : Program) (w : World) (es : Array Event) (a : Addr) (m : Mode)
theorem ev_store_slice (x : Option Addr) (l c : Nat) : (store a (.slice x l c) m).events P w es = storedEv P w es a (.slice x l c) m := events_store P w es a _ m rfl
theorem ev_store_func (f : Fn) (x y : Array Value) : (store a (.func f x y) m).events P w es = storedEv P w es a (.func f x y) m := events_store P w es a _ m rfl
theorem store_func' (f : Fn) (x y : Array Value) : (store a (.func f x y) m).run P w = stored P w a (.func f x y) m := run_store P w a _ m rfl
end
attribute [local go_sem] ev_store_slice ev_store_func store_func'
variable [Inhabited Junk]
set_option maxRecDepth 100000 in
set_option maxHeartbeats 16000000 in
theorem bw_start (v : World) (n : Int) (cS : Value) (da : Option Addr) (m dc : Nat) (hm : m ≤ 64) (cs : List Frame) : ∃ k, Goes Tryz.prog true Eq (DE (EvW (v.heap.size + 6))) (AtMkS Tryz.prog .disable fun a w => ∃ k, Goes Tryz.prog true Eq (DE (EvW (v.heap.size + 6))) (AtMkS Tryz.prog .enable fun a w => ∃ k, Goes Tryz.prog true Eq (DE (EvW (v.heap.size + 6))) (AtGoW Tryz.prog fun a' child w => w = bw7 v n cS da m dc ∧ child = born Tryz.prog (call28 v.heap.size) ∧ Cal Tryz.prog 73 (v.heap.size + 6) (fun g => g = runG (fr15 Tryz.f11 v.heap.size n cS da m dc) cs) 9400 ⟨0, false, 0⟩ a') k a w) k a w) k
    (G ((base 11).at ⟨#[.agg #[.int .i64 n, cS], .slice da m dc, .int .i64 1, undef, undef, undef, undef, undef, undef, undef, undef, undef, undef, undef, undef, undef, undef, undef, undef, undef, undef, undef, undef], []⟩ [.code (body15 Tryz.f11)]) cs) v := by
  refine ⟨80, ?_⟩
  simp only [body15, Tryz.f11, Option.getD_some]
  repeat l_go (evW_at (by omega))
  refine (?_ : Goes Tryz.prog true Eq (DE (EvW (v.heap.size + 6))) _ _ _ (bw1 v n cS da m dc))
  have s1 := bw1_size v n cS da m dc
  have c1 := bw1_dirs v n cS da m dc
  have k1 := run_makeP m hm
  have k2 := events_makeP m hm
  l_go (evW_at (by omega))
  l_go (evW_at (by omega))
  l_go (evW_at (by omega))
  refine (?_ : Goes Tryz.prog true Eq (DE (EvW (v.heap.size + 6))) _ _ _ (bw2 v n cS da m dc))
  have s2 := bw2_size v n cS da m dc
  l_go (evW_at (by omega))
  l_go (evW_at (by omega))
  refine (?_ : Goes Tryz.prog true Eq (DE (EvW (v.heap.size + 6))) _ _ _ (bw3 v n cS da m dc))
  have s3 := bw3_size v n cS da m dc
  l_go (evW_at (by omega))
  l_go (evW_at (by omega))
  l_go (evW_at (by omega))
  l_go (evW_at (by omega))
  refine (?_ : Goes Tryz.prog true Eq (DE (EvW (v.heap.size + 6))) _ _ _ (bw4 v n cS da m dc))
  have s4 := bw4_size v n cS da m dc
  repeat (first | l_go (evW_at (by omega)) | l_c stepG_block | l_c stepG_loop)
  refine (?_ : Goes Tryz.prog true Eq (DE (EvW (v.heap.size + 6))) _ _ _ (bw6 v n cS da m dc))
  simp only [Nat.add_assoc, Nat.reduceAdd]
  l_in
  refine goes_call rfl rfl (by k_ne) rfl wgLib.f_add (nm_add link) rfl ⟨by u_nil, ?_⟩
  walk_nrmf addFn
  refine goes_le (by omega) (addPosE (mT := 10) wgLib (fun x y _ => evW_atomic x y) (fun x _ => evW_said x) (bw6 v n cS da m dc) (bw_wg v n cS da m dc) ?_)
  show Goes Tryz.prog true Eq _ _ 10 _ (bw7 v n cS da m dc)
  walk_nrm
  repeat l_go (evW_at (by omega))
  refine Goes.stop (fun _ h₁ => ?_)
  subst h₁
  refine ⟨rfl, _, _, (stepG_spawn (d := call28 v.heap.size) (w' := bw7 v n cS da m dc) (f := .func 23) (c := #[.pointer (some ⟨v.heap.size + 6, 0, none⟩), .pointer (some ⟨v.heap.size + 5, 0, none⟩), .pointer (some ⟨v.heap.size + 1, 0, none⟩), .pointer (some ⟨v.heap.size, 0, none⟩), .pointer (some ⟨v.heap.size + 3, 0, none⟩)]) rfl rfl (by k_ne) (by simp [go_sem, call28, Deferred.ofValue]) rfl).trans (congrArg _ ?ev), rfl, rfl, ?cal⟩
  case ev =>
    refine Array.eq_empty_iff_forall_not_mem.2 fun e he => ?_
    have hm := mem_listed he
    simp [go_sem, Deferred.ofValue] at hm
  case cal =>
    walk_nrm
    clear k1 k2 c1 s1 s2 s3 s4
    have hF : True := trivial
    refine goes_cal (m := 400) (N := 9000) (w := v) (by decide) ?_
    repeat (first
      | u_c stepG_seq (fun _ h => h) hF | u_c stepG_skip (fun _ h => h) hF | u_c stepG_block (fun _ h => h) hF | u_c stepG_loop (fun _ h => h) hF | u_c stepG_inLoop (fun _ h => h) hF | u_c stepG_inBlock (fun _ h => h) hF
      | u_reg (fun _ h => h) hF | u_c stepG_region_end (fun _ h => h) hF | u_cond true (fun _ h => h) hF | u_cond false (fun _ h => h) hF | u_exit (fun _ h => h) hF
      | u_skip (fun _ h => h) hF
      | (fail_if_success (refine at_call rfl rfl ?_)
         u_op (fun _ h => h) hF))
    have hw : IntKind.i64.wrap 1 = 1 := by decide
    have hd : decide ((1 : Int) < 1) = false := by decide
    simp only [hw, hd]
    u_call wgLib.f_wait (nm_wait link) waitFn (fun _ h => h) hF
    refine Goes.stop (fun _ _ => ?_)
    clear hF
    refine cal_wait wgLib v ?_
    show G _ _ = runG _ _
    rfl
end Go.Proofs.YtfnbcpeipoobkaaGreat

set_option linter.unusedSectionVars false
namespace Go.Proofs.YtfnbcpeipoobkaaGreat
open Go Go.Conc
variable {P : Program} {b : Frame} {a : Act} {k : List Item} {cs : List Frame} {n d : Nat}
theorem qseq {x y : Code} (h : QuitsD P n d (G (b.at a (.code x :: .code y :: k)) cs)) : QuitsD P (n + 1) d (G (b.at a (.code (.seq x y) :: k)) cs) := .ctl rfl (fun _ => stepG_seq) h
theorem qskip (h : QuitsD P n d (G (b.at a k) cs)) : QuitsD P (n + 1) d (G (b.at a (.code .skip :: k)) cs) := .ctl rfl (fun _ => stepG_skip) h
theorem qout {ops : Array Oper} (h : QuitsD P n d (G (b.at a k) cs)) : QuitsD P (n + 1) d (G (b.at a (.inRegion ops [] :: k)) cs) := .ctl rfl (fun _ => stepG_region_end) h
theorem qreg {id : Nat} {ops : Array Oper} (h : QuitsD P n d (G (b.at a (.inRegion ops (List.range ops.size) :: k)) cs)) : QuitsD P (n + 1) d (G (b.at a (.code (.region id ops false) :: k)) cs) := .ctl rfl (fun _ => stepG_region) h
theorem qcond {c : Operand} {x y : Code} (t : Bool) (ht : a.eval c = .bool t) (h : QuitsD P n d (G (b.at a (.code (if t then x else y) :: k)) cs)) : QuitsD P (n + 1) d (G (b.at a (.code (.cond c x y) :: k)) cs) := .ctl rfl (fun _ => stepG_cond ht) h
theorem qcondT {c : Operand} {x y : Code} (ht : a.eval c = .bool true) (h : QuitsD P n d (G (b.at a (.code x :: k)) cs)) : QuitsD P (n + 1) d (G (b.at a (.code (.cond c x y) :: k)) cs) := .ctl rfl (fun _ => stepG_cond ht) h
theorem qcondF {c : Operand} {x y : Code} (ht : a.eval c = .bool false) (h : QuitsD P n d (G (b.at a (.code y :: k)) cs)) : QuitsD P (n + 1) d (G (b.at a (.code (.cond c x y) :: k)) cs) := .ctl rfl (fun _ => stepG_cond ht) h
theorem qret (h : QuitsD P n d (G { b.at a (.code .ret :: k) with mode := .returning } cs)) : QuitsD P (n + 1) d (G (b.at a (.code .ret :: k)) cs) := .ctl rfl (fun _ => stepG_ret') h
theorem qend (h : QuitsD P n d (G { b.at a [] with mode := .returning } cs)) : QuitsD P (n + 1) d (G (b.at a []) cs) := .ctl rfl (fun _ => stepG_end) h
theorem qinBlock {id : Nat} (h : QuitsD P n d (G (b.at a k) cs)) : QuitsD P (n + 1) d (G (b.at a (.inBlock id :: k)) cs) := .ctl rfl (fun _ => stepG_inBlock) h
theorem qinLoop {c : Code} (h : QuitsD P n d (G (b.at a (.code c :: .inLoop c :: k)) cs)) : QuitsD P (n + 1) d (G (b.at a (.inLoop c :: k)) cs) := .ctl rfl (fun _ => stepG_inLoop) h
theorem qexit {id : Nat} {k' : List Item} (he : exitTo id k = some k') (h : QuitsD P n d (G (b.at a k') cs)) : QuitsD P (n + 1) d (G (b.at a (.code (.exit id) :: k)) cs) := .ctl rfl (fun _ => stepG_exit he) h
theorem qmore : ∀ {n d : Nat} {g : Goroutine}, QuitsD P n d g → QuitsD P (n + 1) d g
  | 0, _, _, h => .inl h
  | _ + 1, _, _, h => h.elim .inl fun ⟨hs, g', es, hm, hst, hq⟩ => .inr ⟨hs, g', es, hm, hst, qmore hq⟩
theorem qmono {m : Nat} {g : Goroutine} (h : QuitsD P n d g) (hnm : n ≤ m) : QuitsD P m d g := by
  induction hnm with
  | refl => exact h
  | step _ ih => exact qmore ih
/-- The frame's head is an operation. -/
theorem qat {ops : Array Oper} {i : Nat} {rest : List Nat} (h : QuitsD P n d (G (b.at a (.inRegion ops (i :: rest) :: k)) cs)) : QuitsD P n d (G (b.at a (.inRegion ops (i :: rest) :: k)) cs) := h
end Go.Proofs.YtfnbcpeipoobkaaGreat
