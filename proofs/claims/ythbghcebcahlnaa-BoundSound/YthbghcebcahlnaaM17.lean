/- The child of byWorkers: its first steps, and its way out. Behind the join: goroutine 0 goes on beside the child that only leaves. The end of the run. Fences by lists. -/
import Derived.Test.YthbghcebcahlnaaM15
import Derived.Test.YthbghcebcahlnaaM16
import Derived.Test.YthbghcebcahlnaaM10
import Derived.Test.YthbghcebcahlnaaM11
import Derived.Test.YthbghcebcahlnaaM13
import Derived.Test.YthbghcebcahlnaaM8
import Derived.KernelRfl
set_option linter.unusedSectionVars false
namespace Go.Proofs.Ythbghcebcahlnaa
open Go Go.Conc Go.RowKit Go.Conc.Lib Go.ConcR.Gen
variable [Inhabited Junk]

def body28 (fn : Func) : Code := fn.body.getD .skip
/-- Its loop. -/
def rest28 (fn : Func) : Code := csnd (body28 fn)
def bot28 (P : Program) : Frame := { (default : Frame) with fn := P.funcs.size, defers := [], mode := .panicking [goexitEntry] }
def done28 (b : Nat) : Deferred := { target := .fn (.func 29) #[], args := #[.pointer (some ⟨b + 6, 0, none⟩)] }
def tmps28 (b : Nat) : Array Value := #[.pointer (some ⟨b + 6, 0, none⟩), .pointer (some ⟨b + 5, 0, none⟩), .pointer (some ⟨b + 1, 0, none⟩), .pointer (some ⟨b, 0, none⟩), .pointer (some ⟨b + 3, 0, none⟩), undef, undef, undef, undef, undef, undef, undef, undef, undef, undef, undef, undef, undef, undef, undef, undef, undef, undef]
/-- Where its work begins. -/
def fr28 (fn : Func) (b : Nat) : Frame := (baseD 28).at ⟨tmps28 b, [done28 b]⟩ [.code (rest28 fn)]
/-- Where it ends. -/
def out28 (b : Nat) (T : Array Value) : Frame := { (baseD 28).at ⟨T, [done28 b]⟩ [] with mode := .returning }

theorem born28 (b : Nat) (w : World) : stepG Try.prog false (born Try.prog (call28 b)) w = .go (G ((baseD 28).at ⟨tmps28 b, []⟩ [.code (body28 Try.f28)]) [(bot28 Try.prog)]) w #[] := by
  simp [born, call28, stepG, unwind, callDeferred, invoke, callFunc, Try.func28, Try.f28, seen, GStep.after, G, Frame.enter, Frame.at, baseD, bot28, body28, tmps28]
set_option maxRecDepth 100000 in
theorem idle28 (b : Nat) : Idle Try.prog (runG (fr28 Try.f28 b) [(bot28 Try.prog)]) 5 (born Try.prog (call28 b)) := by
  refine ⟨rfl, _, born28 b, ?_⟩
  simp only [body28, Try.f28, Option.getD_some]
  refine ⟨rfl, _, fun w => stepG_seq, ?_⟩
  refine ⟨rfl, _, fun w => stepG_region, ?_⟩
  refine ⟨rfl, _, fun w => stepG_defer rfl rfl (by decide) rfl, ?_⟩
  refine ⟨rfl, _, fun w => stepG_region_end, ?_⟩
  show G _ _ = runG (fr28 Try.f28 b) [(bot28 Try.prog)]
  have e : Array.map (Act.eval ⟨tmps28 b, []⟩) #[Operand.tmp 0] = #[.pointer (some ⟨b + 6, 0, none⟩)] := by simp [Act.eval, tmps28]
  rw [e]
  rfl
/-- The literal's own way out, once Done has left: it only leaves. -/
theorem quits28 (T : Array Value) : QuitsD Try.prog 2 0 (G { (baseD 28).at ⟨T, []⟩ [] with mode := .returning } [(bot28 Try.prog)]) := by
  refine QuitsD.ctl (g' := G (bot28 Try.prog) []) rfl (fun w => ?_) ?_
  · simp [G, stepG, unwind, doReturn, results, Frame.at, baseD, bot28, Try.func28, Try.f28, seen, GStep.after, goexitEntry]
  refine QuitsD.ctl (g' := { G (bot28 Try.prog) [] with status := .finished }) rfl (fun w => ?_) ⟨rfl, rfl⟩
  simp [G, stepG, unwind, bot28, goexitEntry, Frame.catches]
  rfl
/-- THE CHILD, ITS WORK DONE: Done. -/
theorem chi28 (b : Nat) (T : Array Value) : Chi Try.prog 77 (b + 6) 9001 ⟨0, 0⟩ (runG (out28 b T) [(bot28 Try.prog)]) := by
  refine ⟨rfl, .inl fun w st sm _ => ⟨_, ?_, chi_done wgLib (c := { (baseD 28).at ⟨T, []⟩ [] with mode := .returning }) (cs := [(bot28 Try.prog)]) w rfl (quits28 T)⟩⟩
  simp [out28, done28, runG, stepG, unwind, callDeferred, invoke, callFunc, Try.func29, Try.f29, seen, GStep.after, G, Frame.enter, Frame.at, baseD, body_done, doneFn]
end Go.Proofs.Ythbghcebcahlnaa

set_option linter.unusedSectionVars false
namespace Go.Proofs.Ythbghcebcahlnaa
open Go Go.Conc
variable {P : Program} {F : Array Func} [Inhabited Junk]

/-- ████ BEHIND THE JOIN. ████ -/
theorem joined_go (hF : FenceB P F) (hB : Bodies P F) {ty : TypeId} {Wg : Nat} {End : Goroutine → Prop} {w v0 : World} {m : Machine} {t : Trace} {r : Nat} {E : Frame → List Frame → World → Prop} {cs : List Frame} {fr : Frame} {up : List Frame} (hJ : Joined P ty Wg End w v0 m t) (hE : ∀ g, End g → g = runG fr (up ++ cs)) (hg : GoesW (bar P F) r E fr up w) (hf : okFrame P fr) (hu : ∀ f ∈ up, okFrame P f) :
    ∃ N m' t', runNT P N m t = (.next m', t') ∧ Arrived P (fun x => x = Wg) E cs v0 2 m' t' := by
  obtain ⟨a, b, v, sl, q, rfl, ha, hG, hS, hQ, hP, hA, o1, o2, o3⟩ := hJ
  obtain rfl := hE a ha
  obtain ⟨N, m', t', hr, gs2, fr2, up2, w2, v2, sl2, q2, a1, a2, a3, a4, a5, a6, a7, a8, a9, a10, a11⟩ := beside_goesW hF hB (V := fun x => x = Wg) (cs := cs) hg #[runG fr (up ++ cs), b] v sl t (fun _ => q) (by simp)
    ⟨fun i x hi hx => by
      have hlt := (Array.getElem?_eq_some_iff.1 hx).1
      have hlt : i < 2 := by simpa using hlt
      obtain rfl : i = 1 := by omega
      have : b = x := by simpa using hx
      rw [← this]
      exact hQ, fun j hj => hA j (by simpa using hj)⟩ hP hS hf hu
  exact ⟨N, m', t', by rw [duo_eq_crowd]; exact hr, gs2, fr2, up2, w2, v2, sl2, q2, a1, a2, a3, a4, a5, a6, a7, a8, a9.trans o1, a10.trans o2, a11.trans o3⟩
end Go.Proofs.Ythbghcebcahlnaa

set_option linter.unusedSectionVars false
namespace Go.Proofs.Ythbghcebcahlnaa
open Go Go.Conc
variable {P : Program} {F : Array Func} [Inhabited Junk]

/-- A frame that leaves a function whose one result lies in a temporary. -/
structure Out (f : FuncId) (fr : Frame) (up : List Frame) : Prop where
  up : up = []
  mode : fr.mode = .returning
  defers : fr.defers = []
  kind : fr.kind = .normal
  fn : fr.fn = f
theorem stepG_out {f : FuncId} {fn : Func} {i : Nat} (hf : P.funcs[f]? = some fn) (hr : fn.results = #[.tmp i]) (hi : P.inits.idxOf? f = none) {fr : Frame} {up : List Frame} (h : Out f fr up) (w : World) : stepG P true (runG fr []) w = .ended (.done (fr.tmps.getD i undef)) w #[] := by
  obtain ⟨_, h2, h3, h4, h5⟩ := h
  subst h5
  have hres : results fn fr.tmps = pure (fr.tmps.getD i undef) := by
    unfold results
    rw [hr]
    simp
  simp [runG, stepG, unwind, doReturn, h2, h3, h4, hf, hi, hres, seen, GStep.after]
/-- ████ THE RUN ENDS, AND WELL. ████ -/
theorem arrived_ends {V : Nat → Prop} {E : Frame → List Frame → World → Prop} {v0 : World} {n : Nat} {m : Machine} {t : Trace} {f : FuncId} {fn : Func} {i : Nat} (hf : P.funcs[f]? = some fn) (hr : fn.results = #[.tmp i]) (hi : P.inits.idxOf? f = none) {Post : Value → World → Prop}
    (hE : ∀ fr up w, E fr up w → Out f fr up ∧ ∀ v', Sib P V w v' → v'.os = v0.os → v'.output = v0.output → v'.tape = v0.tape → Post (fr.tmps.getD i undef) v') (hA : Arrived P V E [] v0 n m t) :
    ∃ N last o w' t', runNT P (N + 1) m t = (.ended o w', t') ∧ runN P N m = .next last ∧ step P last = .ended o w' ∧ Go.Conc.Good P Post last o w' t' := by
  obtain ⟨gs, fr, up, w, v', sl, q, rfl, _, h0, he, hS, _, hL, ⟨B, hP⟩, o1, o2, o3⟩ := hA
  obtain ⟨hO, hPo⟩ := hE fr up w he
  obtain rfl := hO.up
  refine beside_ends (D := fun _ _ _ => False) (Shun := Veil V) (B := B) (n := 0) (fun _ _ _ x => x.elim) h0 hL hP ?_
  intro w1 hw1
  obtain ⟨d, rfl⟩ := hw1
  exact ⟨rfl, _, _, stepG_out hf hr hi hO _, by simp, hPo _ (sib_at hS d) o1 o2 o3⟩
end Go.Proofs.Ythbghcebcahlnaa

set_option linter.unusedSectionVars false
namespace Go.Proofs.Ythbghcebcahlnaa
open Go
variable {P : Program} {F : Array Func} [Inhabited Junk]

/-- A list of functions, of which some are barred. -/
def Fen : List Func → List Func → Prop
  | [], [] => True
  | a :: l, b :: m => (a = b ∨ a = stub b) ∧ Fen l m
  | _, _ => False
theorem fen_at : ∀ (l m : List Func), Fen l m → ∀ f : Nat, l[f]? = m[f]? ∨ ∃ b, m[f]? = some b ∧ l[f]? = some (stub b)
  | [], [], _, f => .inl rfl
  | a :: l, b :: m, ⟨h, hr⟩, 0 => by
    rcases h with rfl | rfl
    · exact .inl rfl
    · exact .inr ⟨b, rfl, rfl⟩
  | a :: l, b :: m, ⟨_, hr⟩, f + 1 => by simpa using fen_at l m hr f
/-- What the functions without a body are. -/
def EndsF (E : Func → Prop) : List Func → Prop
  | [] => True
  | a :: l => (a.body.isSome = true ∨ (∃ b, a = stub b) ∨ E a) ∧ EndsF E l
theorem ends_at {E : Func → Prop} : ∀ (l : List Func), EndsF E l → ∀ (f : Nat) (a : Func), l[f]? = some a → a.body.isSome = true ∨ (∃ b, a = stub b) ∨ E a
  | a :: l, ⟨h, _⟩, 0, x, e => by
    have : a = x := by simpa using e
    exact this ▸ h
  | a :: l, ⟨_, hr⟩, f + 1, x, e => ends_at l hr f x (by simpa using e)
theorem nextRows_barred : Extern.allNextRows.lookup "barred" = none := by kernel_rfl
theorem nextRows_empty : Extern.allNextRows.lookup "" = none := by kernel_rfl
theorem rows_barred : Extern.allRows.lookup "barred" = none := by kernel_rfl
theorem rows_empty : Extern.allRows.lookup "" = none := by kernel_rfl
theorem typedRows_barred : Extern.allTypedRows.lookup "barred" = none := by kernel_rfl
theorem typedRows_empty : Extern.allTypedRows.lookup "" = none := by kernel_rfl
theorem genericRows_barred : Extern.allGenericRows.lookup "barred" = none := by kernel_rfl
theorem genericRows_empty : Extern.allGenericRows.lookup "" = none := by kernel_rfl
theorem stub_next (b : Func) : Extern.findNext (stub b) = none := by
  unfold Extern.findNext stub
  simp only [nextRows_barred, nextRows_empty]
  rfl
theorem stub_find (b : Func) : Extern.find (stub b) = none := by
  unfold Extern.find stub
  simp only [rows_barred, rows_empty, typedRows_barred, typedRows_empty, genericRows_barred, genericRows_empty]
  rfl
theorem num_barred : ("barred" == "runtime.NumGoroutine") = false := by kernel_rfl
theorem init_barred : ("barred".endsWith ".init" && !("barred".startsWith "(") && !("barred".startsWith "gosem.")) = false := by kernel_rfl

theorem fence_of {l m : List Func} (hl : F = l.toArray) (hm : P.funcs = m.toArray) (h : Fen l m) (hn : l.all (fun fn => !(fn.name == "runtime.NumGoroutine")) = true) {E : Func → Prop} (he : EndsF E l)
    (hE : ∀ fn, E fn → Extern.findNext fn = none ∧ ∀ e, Extern.find fn = some e → ∀ [Inhabited Junk] (args : Array Value), Sim (bar P F) P (e args)) : FenceB P F := by
  have eF : ∀ f : Nat, F[f]? = l[f]? := fun f => by rw [hl]; simp
  have eP : ∀ f : Nat, P.funcs[f]? = m[f]? := fun f => by rw [hm]; simp
  refine ⟨fun f => ?_, fun f fn hf => ?_, fun f => ?_, fun f fn hf hb => ?_⟩
  · rw [eF, eP]
    rcases fen_at l m h f with h1 | ⟨b, _, h2⟩
    · exact .inl h1
    · exact .inr ⟨stub b, h2, rfl, num_barred, stub_next b, stub_find b, init_barred⟩
  · rw [eF] at hf
    have := List.all_eq_true.1 hn fn (List.mem_of_getElem? hf)
    simpa using this
  · rw [eF, eP]
    rcases fen_at l m h f with h1 | ⟨b, h1, h2⟩
    · rw [h1]
    · rw [h1, h2]; rfl
  · rw [eF] at hf
    rcases ends_at l he f fn hf with h1 | ⟨b, rfl⟩ | h1
    · rw [hb] at h1; cases h1
    · exact ⟨stub_next b, fun e h2 => by rw [stub_find b] at h2; cases h2⟩
    · exact hE fn h1
/-- Good bodies. -/
def Bods (P : Program) : List Func → Prop
  | [] => True
  | a :: l => (a.body = none ∨ ∃ c, a.body = some c ∧ okCode P c = true) ∧ Bods P l
theorem bodies_of {l : List Func} (hl : F = l.toArray) (h : Bods P l) : Bodies P F := by
  intro f fn c hf hb
  have hf : l[f]? = some fn := by rw [hl] at hf; simpa using hf
  have key : ∀ (l : List Func), Bods P l → ∀ f : Nat, l[f]? = some fn → okCode P c = true := by
    intro l
    induction l with
    | nil => intro _ f hf; simp at hf
    | cons a l ih =>
      intro hB f hf
      cases f with
      | zero =>
        have e : a = fn := by simpa using hf
        subst e
        rcases hB.1 with h1 | ⟨c', h1, h2⟩
        · rw [h1] at hb; cases hb
        · rw [h1] at hb; cases hb; exact h2
      | succ f => exact ih hB.2 f (by simpa using hf)
  exact key l h f hf

/-- The functions of the library without a body that a program may call. -/
theorem sim_atomicRead (t : Extern.Atomic.T) (a : Addr) : Sim (bar P F) P (Extern.Atomic.read t a) := by
  unfold Extern.Atomic.read
  refine sim_bind (sim_load' _ _) fun v => ?_
  split
  · split
    · exact sim_pure _
    · exact sim_rawOp _
  · exact sim_pure _
  · exact sim_pure _
  · exact sim_rawOp _
theorem sim_addInt64 (args : Array Value) : Sim (bar P F) P (Extern.Atomic.update (Op.intArith .add) .i64 true args) := by
  obtain ⟨l⟩ := args
  rcases l with _ | ⟨x, _ | ⟨y, _ | ⟨z, l⟩⟩⟩
  · exact sim_stuck _
  · exact sim_stuck _
  · refine sim_bind (sim_asAddr _) fun a => ?_
    refine sim_bind (sim_atomicRead _ _) fun old => ?_
    refine sim_bind (sim_asInt _) fun x => ?_
    refine sim_bind (sim_asInt _) fun y => ?_
    refine sim_bind (sim_intArith _ _ _ _) fun new => ?_
    exact sim_bind (sim_store' _ _ _) fun _ => sim_pure _
  · exact sim_stuck _
theorem sim_float64bits (args : Array Value) : Sim (bar P F) P (Extern.MathFloatBits.float64bits args) := by
  obtain ⟨l⟩ := args
  rcases l with _ | ⟨x, _ | ⟨y, l⟩⟩
  · exact sim_stuck _
  · cases x with
    | float k b =>
      cases k with
      | f64 => exact sim_pure _
      | f32 => exact sim_stuck _
    | _ => exact sim_stuck _
  · exact sim_stuck _
theorem sim_float64frombits (args : Array Value) : Sim (bar P F) P (Extern.MathFloatBits.float64frombits args) := by
  obtain ⟨l⟩ := args
  rcases l with _ | ⟨x, _ | ⟨y, l⟩⟩
  · exact sim_stuck _
  · cases x with
    | int k b =>
      cases k with
      | u64 => exact sim_pure _
      | _ => exact sim_stuck _
    | _ => exact sim_stuck _
  · exact sim_stuck _
theorem sim_toIntegral (s : String) (t : Ieee.Toward) (args : Array Value) : Sim (bar P F) P (Extern.MathFloor.toIntegral s t args) := by
  obtain ⟨l⟩ := args
  rcases l with _ | ⟨x, _ | ⟨y, l⟩⟩
  · exact sim_stuck _
  · cases x with
    | float k b =>
      cases k with
      | f64 =>
        show Sim (bar P F) P (match FloatKind.f64.decode b with | .nan _ _ => _ | d => _)
        split
        · split
          · exact sim_pure _
          · exact sim_bind (sim_choose' _) fun _ => sim_pure _
        · exact sim_pure _
      | f32 => exact sim_stuck _
    | _ => exact sim_stuck _
  · exact sim_stuck _
end Go.Proofs.Ythbghcebcahlnaa
