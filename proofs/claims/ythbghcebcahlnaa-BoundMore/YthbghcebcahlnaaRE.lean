/- The veil, of the operators. -/
import Derived.Test.YthbghcebcahlnaaRD
set_option linter.unusedSectionVars false
set_option linter.unusedSimpArgs false
namespace Go.Proofs.Ythbghcebcahlnaa
open Go
variable {P : Program} {F : Array Func} [Inhabited Junk]

def stS (u : World) (a : Addr) : Bool := u.frozen? a || (match u.shape? a.block with | some (_, n) => u.frozen? { block := a.block, off := n } | none => false)
theorem stringish_run (p : Program) (u : World) (a : Addr) (es : Array Event) : (stringish a).runT p u es = (.ok (stS u a) u, es) := by
  unfold stringish stS
  show ((if u.frozen? a = true then (pure true : Sem Bool) else _).runT p u es) = _
  cases hg : u.frozen? a with
  | true => rfl
  | false =>
    show ((match u.shape? a.block with | some (_, n) => frozen { block := a.block, off := n } | none => pure false : Sem Bool).runT p u es) = _
    cases hs : u.shape? a.block with
    | none => rfl
    | some x => rfl
theorem sib_stringish {V : Nat → Prop} {w v : World} (h : Sib P V w v) (a : Addr) : stS v a = stS w a ∧ (V a.block → stS w a = false) := by
  unfold stS
  by_cases hr : V a.block
  · obtain ⟨c, ty, h1, h2⟩ := h.veil _ hr
    have f1 : ∀ n, w.frozen? { block := a.block, off := n } = false := fun n => by unfold World.frozen?; rw [h1]; simp
    have f2 : ∀ n, v.frozen? { block := a.block, off := n } = false := fun n => by unfold World.frozen?; rw [h2]; simp
    have g1 : w.frozen? a = false := by unfold World.frozen?; rw [h1]; simp
    have g2 : v.frozen? a = false := by unfold World.frozen?; rw [h2]; simp
    have e1 : w.shape? a.block = some (ty, 0) := by unfold World.shape?; rw [h1]; rfl
    have e2 : v.shape? a.block = some (ty, c.size) := by unfold World.shape?; rw [h2]
    simp [f1, f2, g1, g2, e1, e2]
  · have e : v.shape? a.block = w.shape? a.block := sib_shape h _ hr
    have f : ∀ n, v.frozen? { block := a.block, off := n } = w.frozen? { block := a.block, off := n } := fun n => sib_frozen h _
    have g : v.frozen? a = w.frozen? a := sib_frozen h a
    exact ⟨by simp only [e, f, g], fun x => absurd x hr⟩
def emptyS (u : World) (c : Addr) : Bool := (u.shape? c.block) matches some (_, 0)
theorem mayBeOne_run (p : Program) (u : World) (a b : Addr) (es : Array Event) : (mayBeOne a b).runT p u es = (.ok ((stS u a && stS u b) || (stS u a && emptyS u a) || (stS u b && emptyS u b)) u, es) := by
  unfold mayBeOne
  simp only [bind, Sem.runT_bind', stringish_run, shape, Sem.runT, pure]
  unfold emptyS
  cases stS u a <;> cases stS u b <;> simp <;> rfl
theorem sim_mayBeOne (a b : Addr) : Sim (bar P F) P (mayBeOne a b) := by
  intro V w v es h
  obtain ⟨hx2, hx3⟩ := sib_stringish h a
  obtain ⟨hy2, hy3⟩ := sib_stringish h b
  have same : ((stS v a && stS v b) || (stS v a && emptyS v a) || (stS v b && emptyS v b)) = ((stS w a && stS w b) || (stS w a && emptyS w a) || (stS w b && emptyS w b)) := by
    have k : ∀ c : Addr, ¬ V c.block → emptyS v c = emptyS w c := fun c hc => by
      have : v.shape? c.block = w.shape? c.block := sib_shape h _ hc
      simp only [emptyS, this]
    rw [hx2, hy2]
    by_cases ha : V a.block
    · rw [hx3 ha]
      by_cases hb : V b.block
      · rw [hy3 hb]; rfl
      · rw [k b hb]; rfl
    · rw [k a ha]
      by_cases hb : V b.block
      · rw [hy3 hb]; simp
      · rw [k b hb]
  rw [mayBeOne_run, mayBeOne_run, same]
  exact at_pure h trivial
theorem sim_sameAddr (a b : Addr) : Sim (bar P F) P (sameAddr a b) := by unfold sameAddr; (repeat' (first | (with_reducible (first | exact sim_mayBeOne _ _ | exact sim_fieldPlace _ _ | exact sim_partAt _ _ _ | exact sim_byteOf _ | exact sim_noView _ | exact sim_behindNumber _ | exact sim_asAddr _ | exact sim_boundsPanic _ _ _ _ | exact sim_askRoom _ | exact sim_numberAt _ | exact sim_runtimePanic _ | exact sim_asInt _ | exact sim_loadVar _ _ | exact sim_storeVar _ _ _ | exact sim_part _ _ _ | exact sim_typeStr _ | exact sim_zeroValue _ | exact sim_sizeOf _ | exact sim_isAgg _ | exact sim_asIntOf _ | exact sim_asBool _ | exact sim_asString _ | exact sim_asAgg _ | exact sim_elemOf _ | exact sim_newRow _ _ | exact sim_newVar _ _ | exact sim_loadCells _ _ | exact sim_storeCells _ _ _ | exact sim_pure' _ | exact sim_stuck _ | exact sim_noEntry _ | exact sim_resource _ | exact sim_unsafe _ | exact sim_observed | exact sim_goPanic _ | exact sim_halt _ | exact sim_load' _ _ | exact sim_store' _ _ _ | exact sim_newCells _ _ | exact sim_frozen' _ | exact sim_choose' _ | exact sim_typeInfo _ | exact sim_underlying _)) | (with_reducible assumption) | ((with_reducible refine sim_prog ?_ ?_); (first | (simp only [types_bar, globals_bar, info_bar, under_bar, depth_bar]; done) | rfl)) | ((with_reducible refine sim_getThen ?_ (fun _ => ?_)); focus (intros; trivial)) | (with_reducible refine sim_bind ?_ (fun _ => ?_)) | (with_reducible refine sim_ite ?_ ?_) | split | dsimp only))
theorem sim_samePointer (a b : Option Addr) : Sim (bar P F) P (samePointer a b) := by unfold samePointer; (repeat' (first | (with_reducible (first | exact sim_sameAddr _ _ | exact sim_mayBeOne _ _ | exact sim_fieldPlace _ _ | exact sim_partAt _ _ _ | exact sim_byteOf _ | exact sim_noView _ | exact sim_behindNumber _ | exact sim_asAddr _ | exact sim_boundsPanic _ _ _ _ | exact sim_askRoom _ | exact sim_numberAt _ | exact sim_runtimePanic _ | exact sim_asInt _ | exact sim_loadVar _ _ | exact sim_storeVar _ _ _ | exact sim_part _ _ _ | exact sim_typeStr _ | exact sim_zeroValue _ | exact sim_sizeOf _ | exact sim_isAgg _ | exact sim_asIntOf _ | exact sim_asBool _ | exact sim_asString _ | exact sim_asAgg _ | exact sim_elemOf _ | exact sim_newRow _ _ | exact sim_newVar _ _ | exact sim_loadCells _ _ | exact sim_storeCells _ _ _ | exact sim_pure' _ | exact sim_stuck _ | exact sim_noEntry _ | exact sim_resource _ | exact sim_unsafe _ | exact sim_observed | exact sim_goPanic _ | exact sim_halt _ | exact sim_load' _ _ | exact sim_store' _ _ _ | exact sim_newCells _ _ | exact sim_frozen' _ | exact sim_choose' _ | exact sim_typeInfo _ | exact sim_underlying _)) | (with_reducible assumption) | ((with_reducible refine sim_prog ?_ ?_); (first | (simp only [types_bar, globals_bar, info_bar, under_bar, depth_bar]; done) | rfl)) | ((with_reducible refine sim_getThen ?_ (fun _ => ?_)); focus (intros; trivial)) | (with_reducible refine sim_bind ?_ (fun _ => ?_)) | (with_reducible refine sim_ite ?_ ?_) | split | dsimp only))

theorem sim_forL {α β : Type} {f : α → β → Sem (ForInStep β)} (hf : ∀ a b, Sim (bar P F) P (f a b)) : ∀ (l : List α) (b : β), Sim (bar P F) P (forIn l b f)
  | [], b => by simp only [List.forIn_nil]; exact sim_pure _
  | a :: l, b => by
    simp only [List.forIn_cons]
    refine sim_bind (hf a b) fun r => ?_
    cases r with
    | done b => exact sim_pure _
    | yield b => exact sim_forL hf l b
theorem sim_forA {α β : Type} {f : α → β → Sem (ForInStep β)} (hf : ∀ a b, Sim (bar P F) P (f a b)) (l : Array α) (b : β) : Sim (bar P F) P (forIn l b f) := by
  rw [← Array.forIn_toList]
  exact sim_forL hf _ _
theorem sim_forR {β : Type} {f : Nat → β → Sem (ForInStep β)} (hf : ∀ a b, Sim (bar P F) P (f a b)) (n : Nat) (b : β) : Sim (bar P F) P (forIn [0:n] b f) := by
  rw [Std.Legacy.Range.forIn_eq_forIn_range']
  exact sim_forL hf _ _
theorem sim_mapA {α β : Type} {f : α → Sem β} (hf : ∀ a, Sim (bar P F) P (f a)) (l : Array α) : Sim (bar P F) P (l.mapM f) := by
  rw [Array.mapM_eq_mapM_toList]
  exact sim_bind (sim_mapL hf _) fun _ => sim_pure _

theorem alike_bar : ∀ (n : Nat) (t u : TypeId), (bar P F).alikeButTags n t u = P.alikeButTags n t u
  | 0, _, _ => rfl
  | n + 1, t, u => by
    unfold Program.alikeButTags
    simp only [alike_bar n, info_bar]
theorem own_bar (c : String × TypeId) : (bar P F).ownRow c = P.ownRow c := by
  unfold Program.ownRow
  simp only [cut_bar, info_bar, under_bar]
theorem packed1_bar (t : TypeId) : (bar P F).packed t = P.packed t := by
  unfold Program.packed Program.packedAs
  simp only [cut_bar, info_bar, under_bar, own_bar, uid_bar, depth_bar, alike_bar]
theorem packed_bar : ∀ (d : Nat) (t : TypeId), (bar P F).holdsPacked d t = P.holdsPacked d t
  | 0, _ => rfl
  | d + 1, t => by
    unfold Program.holdsPacked
    simp only [packed_bar d, packed1_bar, under_bar]
theorem held_bar (t : TypeId) : (bar P F).stoodInHeld t = P.stoodInHeld t := by
  unfold Program.stoodInHeld Program.stoodInAs
  simp only [cut_bar, info_bar, under_bar, uid_bar, depth_bar, alike_bar]
theorem guard_bar : ∀ (d : Nat) (t : TypeId), (bar P F).eqGuardType d t = P.eqGuardType d t
  | 0, _ => rfl
  | d + 1, t => by
    unfold Program.eqGuardType
    simp only [guard_bar d, under_bar]
theorem sim_equalIn : ∀ (d : Nat) (t : TypeId) (x y : Value), Sim (bar P F) P (Op.equalIn d t x y)
  | 0, _, _, _ => sim_unsupported _
  | d + 1, t, x, y => by
    have ih : ∀ t x y, Sim (bar P F) P (Op.equalIn d t x y) := sim_equalIn d
    unfold Op.equalIn
    refine sim_bind (sim_underlying _) fun u => ?_
    split
    all_goals first | (with_reducible (first | exact sim_samePointer _ _ | exact sim_sameAddr _ _ | exact sim_mayBeOne _ _ | exact sim_fieldPlace _ _ | exact sim_partAt _ _ _ | exact sim_byteOf _ | exact sim_noView _ | exact sim_behindNumber _ | exact sim_asAddr _ | exact sim_boundsPanic _ _ _ _ | exact sim_askRoom _ | exact sim_numberAt _ | exact sim_runtimePanic _ | exact sim_asInt _ | exact sim_loadVar _ _ | exact sim_storeVar _ _ _ | exact sim_part _ _ _ | exact sim_typeStr _ | exact sim_zeroValue _ | exact sim_sizeOf _ | exact sim_isAgg _ | exact sim_asIntOf _ | exact sim_asBool _ | exact sim_asString _ | exact sim_asAgg _ | exact sim_elemOf _ | exact sim_newRow _ _ | exact sim_newVar _ _ | exact sim_loadCells _ _ | exact sim_storeCells _ _ _ | exact sim_pure' _ | exact sim_stuck _ | exact sim_noEntry _ | exact sim_resource _ | exact sim_unsafe _ | exact sim_observed | exact sim_goPanic _ | exact sim_halt _ | exact sim_load' _ _ | exact sim_store' _ _ _ | exact sim_newCells _ _ | exact sim_frozen' _ | exact sim_choose' _ | exact sim_typeInfo _ | exact sim_underlying _)) | (with_reducible refine sim_ite ?_ ?_ <;> with_reducible (first | exact sim_samePointer _ _ | exact sim_sameAddr _ _ | exact sim_mayBeOne _ _ | exact sim_fieldPlace _ _ | exact sim_partAt _ _ _ | exact sim_byteOf _ | exact sim_noView _ | exact sim_behindNumber _ | exact sim_asAddr _ | exact sim_boundsPanic _ _ _ _ | exact sim_askRoom _ | exact sim_numberAt _ | exact sim_runtimePanic _ | exact sim_asInt _ | exact sim_loadVar _ _ | exact sim_storeVar _ _ _ | exact sim_part _ _ _ | exact sim_typeStr _ | exact sim_zeroValue _ | exact sim_sizeOf _ | exact sim_isAgg _ | exact sim_asIntOf _ | exact sim_asBool _ | exact sim_asString _ | exact sim_asAgg _ | exact sim_elemOf _ | exact sim_newRow _ _ | exact sim_newVar _ _ | exact sim_loadCells _ _ | exact sim_storeCells _ _ _ | exact sim_pure' _ | exact sim_stuck _ | exact sim_noEntry _ | exact sim_resource _ | exact sim_unsafe _ | exact sim_observed | exact sim_goPanic _ | exact sim_halt _ | exact sim_load' _ _ | exact sim_store' _ _ _ | exact sim_newCells _ _ | exact sim_frozen' _ | exact sim_choose' _ | exact sim_typeInfo _ | exact sim_underlying _)) | skip
    · refine sim_bind (sim_behindNumber _) fun _ => sim_bind (sim_behindNumber _) fun _ => ?_
      dsimp only
      refine sim_prog rfl (sim_ite ?_ (sim_bind (sim_typeInfo _) fun i => ?_))
      · exact sim_bind (sim_byteOf _) fun _ => sim_bind (sim_byteOf _) fun _ => sim_pure _
      · split
        · exact sim_ite (sim_pure _) (sim_unsupported _)
        · exact sim_unsupported _
    · refine sim_bind (sim_sizeOf _) fun _ => sim_ite (sim_sameAddr _ _) (sim_ite (sim_pure _) (sim_bind (sim_choose' _) fun _ => sim_pure _))
    · refine sim_ite (sim_pure _) (sim_bind (sim_typeInfo _) fun i => sim_ite ?_ (ih _ _ _))
      refine sim_prog (by simp only [packed_bar]) (sim_prog (by simp only [depth_bar]; exact ite_congr rfl (fun _ => rfl) (fun _ => rfl)) (sim_ite ?_ ?_))
      · exact sim_bind (sim_unsupported _) fun _ => sim_bind (sim_typeStr _) fun _ => sim_runtimePanic _
      · exact sim_bind (sim_typeStr _) fun _ => sim_runtimePanic _
    · refine sim_prog (by simp only [held_bar]) (sim_ite (sim_bind (sim_unsupported _) fun _ => ?_) ?_)
      all_goals
        refine sim_bind (sim_forA (fun f _ => sim_ite (sim_bind (sim_part _ _ _) fun _ => sim_bind (sim_part _ _ _) fun _ => sim_bind (ih _ _ _) fun _ => sim_ite (sim_pure _) (sim_pure _)) (sim_pure _)) _ _) fun s => ?_
        dsimp only
        split <;> exact sim_pure _
    · refine sim_bind (sim_sizeOf _) fun n => sim_bind (sim_forR (fun i _ => sim_bind (sim_part _ _ _) fun _ => sim_bind (sim_part _ _ _) fun _ => sim_bind (ih _ _ _) fun _ => sim_ite (sim_pure _) (sim_pure _)) _ _) fun s => ?_
      dsimp only
      split <;> exact sim_pure _
theorem sim_equal (t : TypeId) (x y : Value) : Sim (bar P F) P (Op.equal t x y) := sim_equalIn _ _ _ _
theorem sim_eqGuardIn : ∀ (d : Nat) (t : TypeId) (x y : Value), Sim (bar P F) P (Op.eqGuardIn d t x y)
  | 0, _, _, _ => sim_unsupported _
  | d + 1, t, x, y => by
    have ih : ∀ t x y, Sim (bar P F) P (Op.eqGuardIn d t x y) := sim_eqGuardIn d
    unfold Op.eqGuardIn
    refine sim_bind (sim_underlying _) fun u => ?_
    split
    · exact sim_pure _
    · refine sim_bind (sim_forA (fun f _ => sim_ite (sim_bind (sim_part _ _ _) fun _ => sim_bind (sim_part _ _ _) fun _ => sim_bind (ih _ _ _) fun _ => sim_ite (sim_pure _) (sim_pure _)) (sim_pure _)) _ _) fun s => ?_
      dsimp only
      split <;> exact sim_pure _
    · refine sim_bind (sim_sizeOf _) fun n => sim_bind (sim_forR (fun i _ => sim_bind (sim_part _ _ _) fun _ => sim_bind (sim_part _ _ _) fun _ => sim_bind (ih _ _ _) fun _ => sim_ite (sim_pure _) (sim_pure _)) _ _) fun s => ?_
      dsimp only
      split <;> exact sim_pure _
    · exact sim_pure _
theorem sim_eqGuard (op : BinOp) (t : TypeId) (x y : Operand) (a b : Value) : Sim (bar P F) P (eqGuard op t x y a b) := by
  unfold eqGuard
  refine sim_ite (sim_pure _) ?_
  split
  · refine sim_ite (sim_pure _) (sim_bind (sim_eqGuardIn _ _ _ _) fun _ => sim_ite (sim_unsupported _) (sim_pure _))
  · refine sim_prog (by simp only [guard_bar]) (sim_prog (by simp only [depth_bar]; exact ite_congr rfl (fun _ => rfl) (fun _ => rfl)) (sim_ite (sim_pure _) (sim_bind (sim_eqGuardIn _ _ _ _) fun _ => sim_ite (sim_unsupported _) (sim_pure _))))
  · exact sim_pure _
end Go.Proofs.Ythbghcebcahlnaa
