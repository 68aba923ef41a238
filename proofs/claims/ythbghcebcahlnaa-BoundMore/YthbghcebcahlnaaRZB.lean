/- Words of a walk out, one shape each. -/
import Derived.Test.YthbghcebcahlnaaRZ
set_option linter.unusedSectionVars false
namespace Go.Proofs.Ythbghcebcahlnaa
open Go Go.Conc
variable {P : Program} {b : Frame} {a : Act} {k : List Item} {cs : List Frame} {n d : Nat}
theorem qseq {x y : Code} (h : QuitsD P n d (G (b.at a (.code x :: .code y :: k)) cs)) : QuitsD P (n + 1) d (G (b.at a (.code (.seq x y) :: k)) cs) := .ctl rfl (fun _ => stepG_seq) h
theorem qskip (h : QuitsD P n d (G (b.at a k) cs)) : QuitsD P (n + 1) d (G (b.at a (.code .skip :: k)) cs) := .ctl rfl (fun _ => stepG_skip) h
theorem qout {ops : Array Oper} (h : QuitsD P n d (G (b.at a k) cs)) : QuitsD P (n + 1) d (G (b.at a (.inRegion ops [] :: k)) cs) := .ctl rfl (fun _ => stepG_region_end) h
theorem qreg {id : Nat} {ops : Array Oper} (h : QuitsD P n d (G (b.at a (.inRegion ops (List.range ops.size) :: k)) cs)) : QuitsD P (n + 1) d (G (b.at a (.code (.region id ops false) :: k)) cs) := .ctl rfl (fun _ => stepG_region) h
theorem qcond {c : Operand} {x y : Code} (t : Bool) (ht : a.eval c = .bool t) (h : QuitsD P n d (G (b.at a (.code (if t then x else y) :: k)) cs)) : QuitsD P (n + 1) d (G (b.at a (.code (.cond c x y) :: k)) cs) := .ctl rfl (fun _ => stepG_cond ht) h
theorem qcondT {c : Operand} {x y : Code} (ht : a.eval c = .bool true) (h : QuitsD P n d (G (b.at a (.code x :: k)) cs)) : QuitsD P (n + 1) d (G (b.at a (.code (.cond c x y) :: k)) cs) := .ctl rfl (fun _ => stepG_cond ht) h
theorem qcondF {c : Operand} {x y : Code} (ht : a.eval c = .bool false) (h : QuitsD P n d (G (b.at a (.code y :: k)) cs)) : QuitsD P (n + 1) d (G (b.at a (.code (.cond c x y) :: k)) cs) := .ctl rfl (fun _ => stepG_cond ht) h
theorem qret (h : QuitsD P n d (G { b.at a (.code .ret :: k) with mode := .returning } cs)) : QuitsD P (n + 1) d (G (b.at a (.code .ret :: k)) cs) := .ctl rfl (fun _ => stepG_ret') h
theorem qend (h : QuitsD P n d (G { b.at a [] with mode := .returning } cs)) : QuitsD P (n + 1) d (G (b.at a []) cs) := .ctl rfl (fun _ => stepG_end) h
theorem qinBlock {id : Nat} (h : QuitsD P n d (G (b.at a k) cs)) : QuitsD P (n + 1) d (G (b.at a (.inBlock id :: k)) cs) := .ctl rfl (fun _ => stepG_inBlock) h
theorem qinLoop {c : Code} (h : QuitsD P n d (G (b.at a (.code c :: .inLoop c :: k)) cs)) : QuitsD P (n + 1) d (G (b.at a (.inLoop c :: k)) cs) := .ctl rfl (fun _ => stepG_inLoop) h
theorem qexit {id : Nat} {k' : List Item} (he : exitTo id k = some k') (h : QuitsD P n d (G (b.at a k') cs)) : QuitsD P (n + 1) d (G (b.at a (.code (.exit id) :: k)) cs) := .ctl rfl (fun _ => stepG_exit he) h
theorem qmore : ∀ {n d : Nat} {g : Goroutine}, QuitsD P n d g → QuitsD P (n + 1) d g
  | 0, _, _, h => .inl h
  | _ + 1, _, _, h => h.elim .inl fun ⟨hs, g', es, hm, hst, hq⟩ => .inr ⟨hs, g', es, hm, hst, qmore hq⟩
theorem qmono {m : Nat} {g : Goroutine} (h : QuitsD P n d g) (hnm : n ≤ m) : QuitsD P m d g := by
  induction hnm with
  | refl => exact h
  | step _ ih => exact qmore ih
/-- The frame's head is an operation. -/
theorem qat {ops : Array Oper} {i : Nat} {rest : List Nat} (h : QuitsD P n d (G (b.at a (.inRegion ops (i :: rest) :: k)) cs)) : QuitsD P n d (G (b.at a (.inRegion ops (i :: rest) :: k)) cs) := h
end Go.Proofs.Ythbghcebcahlnaa
