/- Fences by lists. -/
import Derived.Test.YthbghcebcahlnaaSE
import Derived.Test.YthbghcebcahlnaaRR
import Derived.KernelRfl
set_option linter.unusedSectionVars false
namespace Go.Proofs.Ythbghcebcahlnaa
open Go
variable {P : Program} {F : Array Func} [Inhabited Junk]

/-- A list of functions, of which some are barred. -/
def Fen : List Func → List Func → Prop
  | [], [] => True
  | a :: l, b :: m => (a = b ∨ a = stub b) ∧ Fen l m
  | _, _ => False
theorem fen_at : ∀ (l m : List Func), Fen l m → ∀ f : Nat, l[f]? = m[f]? ∨ ∃ b, m[f]? = some b ∧ l[f]? = some (stub b)
  | [], [], _, f => .inl rfl
  | a :: l, b :: m, ⟨h, hr⟩, 0 => by
    rcases h with rfl | rfl
    · exact .inl rfl
    · exact .inr ⟨b, rfl, rfl⟩
  | a :: l, b :: m, ⟨_, hr⟩, f + 1 => by simpa using fen_at l m hr f
/-- What the functions without a body are. -/
def EndsF (E : Func → Prop) : List Func → Prop
  | [] => True
  | a :: l => (a.body.isSome = true ∨ (∃ b, a = stub b) ∨ E a) ∧ EndsF E l
theorem ends_at {E : Func → Prop} : ∀ (l : List Func), EndsF E l → ∀ (f : Nat) (a : Func), l[f]? = some a → a.body.isSome = true ∨ (∃ b, a = stub b) ∨ E a
  | a :: l, ⟨h, _⟩, 0, x, e => by
    have : a = x := by simpa using e
    exact this ▸ h
  | a :: l, ⟨_, hr⟩, f + 1, x, e => ends_at l hr f x (by simpa using e)
theorem nextRows_barred : Extern.allNextRows.lookup "barred" = none := by kernel_rfl
theorem nextRows_empty : Extern.allNextRows.lookup "" = none := by kernel_rfl
theorem rows_barred : Extern.allRows.lookup "barred" = none := by kernel_rfl
theorem rows_empty : Extern.allRows.lookup "" = none := by kernel_rfl
theorem typedRows_barred : Extern.allTypedRows.lookup "barred" = none := by kernel_rfl
theorem typedRows_empty : Extern.allTypedRows.lookup "" = none := by kernel_rfl
theorem genericRows_barred : Extern.allGenericRows.lookup "barred" = none := by kernel_rfl
theorem genericRows_empty : Extern.allGenericRows.lookup "" = none := by kernel_rfl
theorem stub_next (b : Func) : Extern.findNext (stub b) = none := by
  unfold Extern.findNext stub
  simp only [nextRows_barred, nextRows_empty]
  rfl
theorem stub_find (b : Func) : Extern.find (stub b) = none := by
  unfold Extern.find stub
  simp only [rows_barred, rows_empty, typedRows_barred, typedRows_empty, genericRows_barred, genericRows_empty]
  rfl
theorem num_barred : ("barred" == "runtime.NumGoroutine") = false := by kernel_rfl
theorem init_barred : ("barred".endsWith ".init" && !("barred".startsWith "(") && !("barred".startsWith "gosem.")) = false := by kernel_rfl

theorem fence_of {l m : List Func} (hl : F = l.toArray) (hm : P.funcs = m.toArray) (h : Fen l m) (hn : l.all (fun fn => !(fn.name == "runtime.NumGoroutine")) = true) {E : Func → Prop} (he : EndsF E l)
    (hE : ∀ fn, E fn → Extern.findNext fn = none ∧ ∀ e, Extern.find fn = some e → ∀ [Inhabited Junk] (args : Array Value), Sim (bar P F) P (e args)) : FenceB P F := by
  have eF : ∀ f : Nat, F[f]? = l[f]? := fun f => by rw [hl]; simp
  have eP : ∀ f : Nat, P.funcs[f]? = m[f]? := fun f => by rw [hm]; simp
  refine ⟨fun f => ?_, fun f fn hf => ?_, fun f => ?_, fun f fn hf hb => ?_⟩
  · rw [eF, eP]
    rcases fen_at l m h f with h1 | ⟨b, _, h2⟩
    · exact .inl h1
    · exact .inr ⟨stub b, h2, rfl, num_barred, stub_next b, stub_find b, init_barred⟩
  · rw [eF] at hf
    have := List.all_eq_true.1 hn fn (List.mem_of_getElem? hf)
    simpa using this
  · rw [eF, eP]
    rcases fen_at l m h f with h1 | ⟨b, h1, h2⟩
    · rw [h1]
    · rw [h1, h2]; rfl
  · rw [eF] at hf
    rcases ends_at l he f fn hf with h1 | ⟨b, rfl⟩ | h1
    · rw [hb] at h1; cases h1
    · exact ⟨stub_next b, fun e h2 => by rw [stub_find b] at h2; cases h2⟩
    · exact hE fn h1
/-- Good bodies. -/
def Bods (P : Program) : List Func → Prop
  | [] => True
  | a :: l => (a.body = none ∨ ∃ c, a.body = some c ∧ okCode P c = true) ∧ Bods P l
theorem bodies_of {l : List Func} (hl : F = l.toArray) (h : Bods P l) : Bodies P F := by
  intro f fn c hf hb
  have hf : l[f]? = some fn := by rw [hl] at hf; simpa using hf
  have key : ∀ (l : List Func), Bods P l → ∀ f : Nat, l[f]? = some fn → okCode P c = true := by
    intro l
    induction l with
    | nil => intro _ f hf; simp at hf
    | cons a l ih =>
      intro hB f hf
      cases f with
      | zero =>
        have e : a = fn := by simpa using hf
        subst e
        rcases hB.1 with h1 | ⟨c', h1, h2⟩
        · rw [h1] at hb; cases hb
        · rw [h1] at hb; cases hb; exact h2
      | succ f => exact ih hB.2 f (by simpa using hf)
  exact key l h f hf

/-- The functions of the library without a body that a program may call. -/
theorem sim_atomicRead (t : Extern.Atomic.T) (a : Addr) : Sim (bar P F) P (Extern.Atomic.read t a) := by
  unfold Extern.Atomic.read
  refine sim_bind (sim_load' _ _) fun v => ?_
  split
  · split
    · exact sim_pure _
    · exact sim_unsafe _
  · exact sim_pure _
  · exact sim_pure _
  · exact sim_unsafe _
theorem sim_addInt64 (args : Array Value) : Sim (bar P F) P (Extern.Atomic.update (Op.intArith .add) .i64 true args) := by
  obtain ⟨l⟩ := args
  rcases l with _ | ⟨x, _ | ⟨y, _ | ⟨z, l⟩⟩⟩
  · exact sim_stuck _
  · exact sim_stuck _
  · refine sim_bind (sim_asAddr _) fun a => ?_
    refine sim_bind (sim_atomicRead _ _) fun old => ?_
    refine sim_bind (sim_asInt _) fun x => ?_
    refine sim_bind (sim_asInt _) fun y => ?_
    refine sim_bind (sim_intArith _ _ _ _) fun new => ?_
    exact sim_bind (sim_store' _ _ _) fun _ => sim_pure _
  · exact sim_stuck _
theorem sim_float64bits (args : Array Value) : Sim (bar P F) P (Extern.MathFloatBits.float64bits args) := by
  obtain ⟨l⟩ := args
  rcases l with _ | ⟨x, _ | ⟨y, l⟩⟩
  · exact sim_stuck _
  · cases x with
    | float k b =>
      cases k with
      | f64 => exact sim_pure _
      | f32 => exact sim_stuck _
    | _ => exact sim_stuck _
  · exact sim_stuck _
theorem sim_float64frombits (args : Array Value) : Sim (bar P F) P (Extern.MathFloatBits.float64frombits args) := by
  obtain ⟨l⟩ := args
  rcases l with _ | ⟨x, _ | ⟨y, l⟩⟩
  · exact sim_stuck _
  · cases x with
    | int k b =>
      cases k with
      | u64 => exact sim_pure _
      | _ => exact sim_stuck _
    | _ => exact sim_stuck _
  · exact sim_stuck _
theorem sim_toIntegral (s : String) (t : Ieee.Toward) (args : Array Value) : Sim (bar P F) P (Extern.MathFloor.toIntegral s t args) := by
  obtain ⟨l⟩ := args
  rcases l with _ | ⟨x, _ | ⟨y, l⟩⟩
  · exact sim_stuck _
  · cases x with
    | float k b =>
      cases k with
      | f64 =>
        show Sim (bar P F) P (match FloatKind.f64.decode b with | .nan _ _ => _ | d => _)
        split
        · split
          · exact sim_pure _
          · exact sim_bind (sim_choose' _) fun _ => sim_pure _
        · exact sim_pure _
      | f32 => exact sim_stuck _
    | _ => exact sim_stuck _
  · exact sim_stuck _
end Go.Proofs.Ythbghcebcahlnaa
