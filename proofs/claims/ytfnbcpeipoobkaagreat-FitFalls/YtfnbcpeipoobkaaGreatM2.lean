/- The veil, of the helpers of the operations. P with other functions: the barred program. The veil, of the operators. -/
import Derived.Test.YtfnbcpeipoobkaaGreatM1
import GoSem.Dispatch
set_option linter.unusedSectionVars false
set_option linter.unusedSimpArgs false
namespace Go.Proofs.YtfnbcpeipoobkaaGreat
open Go

/-- The program, with other functions. -/
def bar (P : Program) (F : Array Func) : Program := { P with funcs := F, godebug := "", rt := { P.rt with panicNilError := P.types.size } }
/-- The first number behind the types' is none's. -/
theorem under_size (P : Program) : P.underlying P.types.size = none := by
  have h : P.info? P.types.size = none := by
    unfold Tables.info?
    rw [if_neg (Nat.lt_irrefl _)]
    show Made.infoAt P.toTables 100 P.types.size = none
    unfold Made.infoAt
    rw [if_neg (Nat.lt_irrefl _), Nat.sub_self, show Made.decode 0 = none from rfl]
    rfl
  unfold Program.underlying
  rw [h]

variable {P : Program} {F : Array Func}

theorem infoAt_same (T T' : Tables) (h : T'.types = T.types) : ∀ (f : Nat) (t : TypeId), Made.infoAt T' f t = Made.infoAt T f t
  | 0, _ => rfl
  | f + 1, t => by
    have : Made.infoAt T' f = Made.infoAt T f := funext (infoAt_same T T' h f)
    unfold Made.infoAt
    rw [this, h]
theorem info_bar (t : TypeId) : (bar P F).info? t = P.info? t := by
  unfold Tables.info?
  rw [infoAt_same P.toTables (bar P F).toTables rfl]
  rfl
theorem under_bar (t : TypeId) : (bar P F).underlying t = P.underlying t := by
  unfold Program.underlying
  simp only [info_bar]
theorem uid_bar (t : TypeId) : (bar P F).underlyingId t = P.underlyingId t := by
  unfold Program.underlyingId
  simp only [info_bar]
theorem cells_bar (t : TypeId) : (bar P F).cellsOf t = P.cellsOf t := by
  unfold Program.cellsOf
  simp only [info_bar]
theorem bytes_bar (t : TypeId) : (bar P F).bytesOf t = P.bytesOf t := by
  unfold Program.bytesOf
  simp only [info_bar]
theorem depth_bar : (bar P F).depth = P.depth := rfl
theorem cut_bar : (bar P F).cutTypes = P.cutTypes := rfl
theorem types_bar : (bar P F).types = P.types := rfl
theorem globals_bar : (bar P F).globals = P.globals := rfl

variable [Inhabited Junk]
theorem sim_pure' {α : Type} (a : α) : Sim (bar P F) P (pure a : Sem α) := sim_pure a
theorem sim_goPanic {α : Type} (v : Value) : Sim (bar P F) P (goPanic v : Sem α) := sim_halt _
theorem sim_load' (a : Addr) (m : Mode) : Sim (bar P F) P (load a m) := sim_load fun _ => sim_pure _
theorem sim_store' (a : Addr) (v : Value) (m : Mode) : Sim (bar P F) P (store a v m) := sim_store (sim_pure _)
theorem sim_newCells (c : Array Value) (t : TypeId) : Sim (bar P F) P (newObj (.cells c t)) := sim_new trivial fun _ => sim_pure _
theorem sim_frozen' (a : Addr) : Sim (bar P F) P (frozen a) := sim_frozen fun _ => sim_pure _
theorem sim_choose' (q : Question) : Sim (bar P F) P (choose q) := sim_choose fun _ => sim_pure _
/-- What looks at the program, but at no function of it. -/
theorem sim_prog {α : Type} {k : Program → Sem α} (hk : k (bar P F) = k P) (h : Sim (bar P F) P (k P)) : Sim (bar P F) P (program >>= k) := sim_program hk h
theorem sim_typeInfo (t : TypeId) : Sim (bar P F) P (typeInfo t) := by
  unfold typeInfo
  refine sim_prog (by simp only [info_bar]) ?_
  split
  · exact sim_pure _
  · exact sim_stuck _
theorem sim_underlying (t : TypeId) : Sim (bar P F) P (underlying t) := by
  unfold underlying
  refine sim_prog (by simp only [under_bar]) ?_
  split
  · exact sim_pure _
  · exact sim_stuck _
theorem sim_ite {α : Type} {c : Prop} [Decidable c] {a b : Sem α} (ha : Sim (bar P F) P a) (hb : Sim (bar P F) P b) : Sim (bar P F) P (if c then a else b) := by split <;> assumption

theorem sim_noEntry {α : Type} (s : String) : Sim (bar P F) P (unsupported (.noEntry s) : Sem α) := sim_unsupported _
theorem sim_resource {α : Type} (s : String) : Sim (bar P F) P (unsupported (.resourceLimit s) : Sem α) := sim_unsupported _
theorem sim_rawOp {α : Type} (s : String) : Sim (bar P F) P (unsupported (.unsafePointer s) : Sem α) := sim_unsupported _
theorem sim_observed {α : Type} : Sim (bar P F) P (unsupported .addressObserved : Sem α) := sim_unsupported _
/-- An object is looked at by one that stops at a view. -/
theorem sim_getThen {α : Type} {r : Nat} {k : Obj → Sem α} (hd : ∀ (x : Addr) (t : TypeId) (w : World) (es : Array Event), Bad ((k (.view x t)).runT (bar P F) w es).1) (hk : ∀ o, Sim (bar P F) P (k o)) : Sim (bar P F) P (getObj r >>= k) :=
  sim_getObj (k := k) (fun o _ => hk o) fun x t _ _ => .inl (hd x t)

theorem sim_mapL {α β : Type} {f : α → Sem β} (hf : ∀ a, Sim (bar P F) P (f a)) : ∀ l : List α, Sim (bar P F) P (l.mapM f)
  | [] => by simp only [List.mapM_nil]; exact sim_pure _
  | a :: l => by
    simp only [List.mapM_cons]
    exact sim_bind (hf a) fun _ => sim_bind (sim_mapL hf l) fun _ => sim_pure _
theorem sim_foldL {α β : Type} {f : β → α → Sem β} (hf : ∀ b a, Sim (bar P F) P (f b a)) : ∀ (l : List α) (b : β), Sim (bar P F) P (l.foldlM f b)
  | [], b => by simp only [List.foldlM_nil]; exact sim_pure _
  | a :: l, b => by
    simp only [List.foldlM_cons]
    exact sim_bind (hf b a) fun _ => sim_foldL hf l _

theorem sim_typeStr (t : TypeId) : Sim (bar P F) P (typeStr t) := by unfold typeStr; (repeat' (first | (with_reducible (first | exact sim_pure' _ | exact sim_stuck _ | exact sim_noEntry _ | exact sim_resource _ | exact sim_rawOp _ | exact sim_observed | exact sim_goPanic _ | exact sim_halt _ | exact sim_load' _ _ | exact sim_store' _ _ _ | exact sim_newCells _ _ | exact sim_frozen' _ | exact sim_choose' _ | exact sim_typeInfo _ | exact sim_underlying _)) | (with_reducible assumption) | ((with_reducible refine sim_prog ?_ ?_); (first | (simp only [types_bar, globals_bar, info_bar, under_bar, depth_bar]; done) | rfl)) | ((with_reducible refine sim_getThen ?_ (fun _ => ?_)); focus (intros; trivial)) | (with_reducible refine sim_bind ?_ (fun _ => ?_)) | (with_reducible refine sim_ite ?_ ?_) | split | dsimp only))
theorem sim_zeroValue (t : TypeId) : Sim (bar P F) P (zeroValue t) := by unfold zeroValue; (repeat' (first | (with_reducible (first | exact sim_pure' _ | exact sim_stuck _ | exact sim_noEntry _ | exact sim_resource _ | exact sim_rawOp _ | exact sim_observed | exact sim_goPanic _ | exact sim_halt _ | exact sim_load' _ _ | exact sim_store' _ _ _ | exact sim_newCells _ _ | exact sim_frozen' _ | exact sim_choose' _ | exact sim_typeInfo _ | exact sim_underlying _)) | (with_reducible assumption) | ((with_reducible refine sim_prog ?_ ?_); (first | (simp only [types_bar, globals_bar, info_bar, under_bar, depth_bar]; done) | rfl)) | ((with_reducible refine sim_getThen ?_ (fun _ => ?_)); focus (intros; trivial)) | (with_reducible refine sim_bind ?_ (fun _ => ?_)) | (with_reducible refine sim_ite ?_ ?_) | split | dsimp only))
theorem sim_sizeOf (t : TypeId) : Sim (bar P F) P (sizeOf t) := by unfold sizeOf; (repeat' (first | (with_reducible (first | exact sim_pure' _ | exact sim_stuck _ | exact sim_noEntry _ | exact sim_resource _ | exact sim_rawOp _ | exact sim_observed | exact sim_goPanic _ | exact sim_halt _ | exact sim_load' _ _ | exact sim_store' _ _ _ | exact sim_newCells _ _ | exact sim_frozen' _ | exact sim_choose' _ | exact sim_typeInfo _ | exact sim_underlying _)) | (with_reducible assumption) | ((with_reducible refine sim_prog ?_ ?_); (first | (simp only [types_bar, globals_bar, info_bar, under_bar, depth_bar]; done) | rfl)) | ((with_reducible refine sim_getThen ?_ (fun _ => ?_)); focus (intros; trivial)) | (with_reducible refine sim_bind ?_ (fun _ => ?_)) | (with_reducible refine sim_ite ?_ ?_) | split | dsimp only))
theorem sim_isAgg (t : TypeId) : Sim (bar P F) P (isAgg t) := by unfold isAgg; (repeat' (first | (with_reducible (first | exact sim_pure' _ | exact sim_stuck _ | exact sim_noEntry _ | exact sim_resource _ | exact sim_rawOp _ | exact sim_observed | exact sim_goPanic _ | exact sim_halt _ | exact sim_load' _ _ | exact sim_store' _ _ _ | exact sim_newCells _ _ | exact sim_frozen' _ | exact sim_choose' _ | exact sim_typeInfo _ | exact sim_underlying _)) | (with_reducible assumption) | ((with_reducible refine sim_prog ?_ ?_); (first | (simp only [types_bar, globals_bar, info_bar, under_bar, depth_bar]; done) | rfl)) | ((with_reducible refine sim_getThen ?_ (fun _ => ?_)); focus (intros; trivial)) | (with_reducible refine sim_bind ?_ (fun _ => ?_)) | (with_reducible refine sim_ite ?_ ?_) | split | dsimp only))
theorem sim_asIntOf (v : Value) : Sim (bar P F) P (asIntOf v) := by unfold asIntOf; (repeat' (first | (with_reducible (first | exact sim_pure' _ | exact sim_stuck _ | exact sim_noEntry _ | exact sim_resource _ | exact sim_rawOp _ | exact sim_observed | exact sim_goPanic _ | exact sim_halt _ | exact sim_load' _ _ | exact sim_store' _ _ _ | exact sim_newCells _ _ | exact sim_frozen' _ | exact sim_choose' _ | exact sim_typeInfo _ | exact sim_underlying _)) | (with_reducible assumption) | ((with_reducible refine sim_prog ?_ ?_); (first | (simp only [types_bar, globals_bar, info_bar, under_bar, depth_bar]; done) | rfl)) | ((with_reducible refine sim_getThen ?_ (fun _ => ?_)); focus (intros; trivial)) | (with_reducible refine sim_bind ?_ (fun _ => ?_)) | (with_reducible refine sim_ite ?_ ?_) | split | dsimp only))
theorem sim_asBool (v : Value) : Sim (bar P F) P (asBool v) := by unfold asBool; (repeat' (first | (with_reducible (first | exact sim_pure' _ | exact sim_stuck _ | exact sim_noEntry _ | exact sim_resource _ | exact sim_rawOp _ | exact sim_observed | exact sim_goPanic _ | exact sim_halt _ | exact sim_load' _ _ | exact sim_store' _ _ _ | exact sim_newCells _ _ | exact sim_frozen' _ | exact sim_choose' _ | exact sim_typeInfo _ | exact sim_underlying _)) | (with_reducible assumption) | ((with_reducible refine sim_prog ?_ ?_); (first | (simp only [types_bar, globals_bar, info_bar, under_bar, depth_bar]; done) | rfl)) | ((with_reducible refine sim_getThen ?_ (fun _ => ?_)); focus (intros; trivial)) | (with_reducible refine sim_bind ?_ (fun _ => ?_)) | (with_reducible refine sim_ite ?_ ?_) | split | dsimp only))
theorem sim_asString (v : Value) : Sim (bar P F) P (asString v) := by unfold asString; (repeat' (first | (with_reducible (first | exact sim_pure' _ | exact sim_stuck _ | exact sim_noEntry _ | exact sim_resource _ | exact sim_rawOp _ | exact sim_observed | exact sim_goPanic _ | exact sim_halt _ | exact sim_load' _ _ | exact sim_store' _ _ _ | exact sim_newCells _ _ | exact sim_frozen' _ | exact sim_choose' _ | exact sim_typeInfo _ | exact sim_underlying _)) | (with_reducible assumption) | ((with_reducible refine sim_prog ?_ ?_); (first | (simp only [types_bar, globals_bar, info_bar, under_bar, depth_bar]; done) | rfl)) | ((with_reducible refine sim_getThen ?_ (fun _ => ?_)); focus (intros; trivial)) | (with_reducible refine sim_bind ?_ (fun _ => ?_)) | (with_reducible refine sim_ite ?_ ?_) | split | dsimp only))
theorem sim_asAgg (v : Value) : Sim (bar P F) P (asAgg v) := by unfold asAgg; (repeat' (first | (with_reducible (first | exact sim_pure' _ | exact sim_stuck _ | exact sim_noEntry _ | exact sim_resource _ | exact sim_rawOp _ | exact sim_observed | exact sim_goPanic _ | exact sim_halt _ | exact sim_load' _ _ | exact sim_store' _ _ _ | exact sim_newCells _ _ | exact sim_frozen' _ | exact sim_choose' _ | exact sim_typeInfo _ | exact sim_underlying _)) | (with_reducible assumption) | ((with_reducible refine sim_prog ?_ ?_); (first | (simp only [types_bar, globals_bar, info_bar, under_bar, depth_bar]; done) | rfl)) | ((with_reducible refine sim_getThen ?_ (fun _ => ?_)); focus (intros; trivial)) | (with_reducible refine sim_bind ?_ (fun _ => ?_)) | (with_reducible refine sim_ite ?_ ?_) | split | dsimp only))
theorem sim_elemOf (t : TypeId) : Sim (bar P F) P (elemOf t) := by unfold elemOf; (repeat' (first | (with_reducible (first | exact sim_pure' _ | exact sim_stuck _ | exact sim_noEntry _ | exact sim_resource _ | exact sim_rawOp _ | exact sim_observed | exact sim_goPanic _ | exact sim_halt _ | exact sim_load' _ _ | exact sim_store' _ _ _ | exact sim_newCells _ _ | exact sim_frozen' _ | exact sim_choose' _ | exact sim_typeInfo _ | exact sim_underlying _)) | (with_reducible assumption) | ((with_reducible refine sim_prog ?_ ?_); (first | (simp only [types_bar, globals_bar, info_bar, under_bar, depth_bar]; done) | rfl)) | ((with_reducible refine sim_getThen ?_ (fun _ => ?_)); focus (intros; trivial)) | (with_reducible refine sim_bind ?_ (fun _ => ?_)) | (with_reducible refine sim_ite ?_ ?_) | split | dsimp only))
theorem sim_newRow (t : TypeId) (c : Array Value) : Sim (bar P F) P (newRow t c) := by unfold newRow; (repeat' (first | (with_reducible (first | exact sim_pure' _ | exact sim_stuck _ | exact sim_noEntry _ | exact sim_resource _ | exact sim_rawOp _ | exact sim_observed | exact sim_goPanic _ | exact sim_halt _ | exact sim_load' _ _ | exact sim_store' _ _ _ | exact sim_newCells _ _ | exact sim_frozen' _ | exact sim_choose' _ | exact sim_typeInfo _ | exact sim_underlying _)) | (with_reducible assumption) | ((with_reducible refine sim_prog ?_ ?_); (first | (simp only [types_bar, globals_bar, info_bar, under_bar, depth_bar]; done) | rfl)) | ((with_reducible refine sim_getThen ?_ (fun _ => ?_)); focus (intros; trivial)) | (with_reducible refine sim_bind ?_ (fun _ => ?_)) | (with_reducible refine sim_ite ?_ ?_) | split | dsimp only))
theorem sim_newVar (t : TypeId) (v : Value) : Sim (bar P F) P (newVar t v) := sim_newRow _ _
theorem sim_loadCellsFrom (a : Addr) : ∀ (n i : Nat) (acc : Array Value), Sim (bar P F) P (loadCellsFrom a i n acc)
  | 0, _, _ => sim_pure _
  | n + 1, i, acc => by
    unfold loadCellsFrom
    exact sim_bind (sim_load' _ _) fun v => sim_loadCellsFrom a n (i + 1) (acc.push v)
theorem sim_loadCells (a : Addr) (n : Nat) : Sim (bar P F) P (loadCells a n) := sim_loadCellsFrom a n 0 #[]
theorem sim_storeCells (a : Addr) : ∀ (vs : List Value) (i : Nat), Sim (bar P F) P (storeCells a vs i)
  | [], _ => sim_pure _
  | v :: rest, i => by
    unfold storeCells
    exact sim_bind (sim_store' _ _ _) fun _ => sim_storeCells a rest (i + 1)
theorem bad_panicNil {α : Type} (w : World) (es : Array Event) : Bad ((runtimePanic .panicNil : Sem α).runT (bar P F) w es).1 := by
  show Bad ((((match (bar P F).underlying P.types.size with | some d => (pure d : Sem TypeDesc) | none => stuck "no such type").bind fun x => (match x with | .pointer e => (pure e : Sem TypeId) | _ => stuck "pointer type expected")).bind _).runT (bar P F) w es).1
  rw [under_bar, under_size]
  trivial
theorem sim_runtimePanic {α : Type} (e : RuntimeError) : Sim (bar P F) P (runtimePanic e : Sem α) := by
  cases e with
  | panicNil => exact sim_bad bad_panicNil
  | _ =>
    unfold runtimePanic
    refine sim_prog rfl ?_
    (repeat' (first | (with_reducible (first | exact sim_typeStr _ | exact sim_zeroValue _ | exact sim_sizeOf _ | exact sim_isAgg _ | exact sim_asIntOf _ | exact sim_asBool _ | exact sim_asString _ | exact sim_asAgg _ | exact sim_elemOf _ | exact sim_newRow _ _ | exact sim_newVar _ _ | exact sim_loadCells _ _ | exact sim_storeCells _ _ _ | exact sim_pure' _ | exact sim_stuck _ | exact sim_noEntry _ | exact sim_resource _ | exact sim_rawOp _ | exact sim_observed | exact sim_goPanic _ | exact sim_halt _ | exact sim_load' _ _ | exact sim_store' _ _ _ | exact sim_newCells _ _ | exact sim_frozen' _ | exact sim_choose' _ | exact sim_typeInfo _ | exact sim_underlying _)) | (with_reducible assumption) | ((with_reducible refine sim_prog ?_ ?_); (first | (simp only [types_bar, globals_bar, info_bar, under_bar, depth_bar]; done) | rfl)) | ((with_reducible refine sim_getThen ?_ (fun _ => ?_)); focus (intros; trivial)) | (with_reducible refine sim_bind ?_ (fun _ => ?_)) | (with_reducible refine sim_ite ?_ ?_) | split | dsimp only))
theorem sim_asInt (v : Value) : Sim (bar P F) P (asInt v) := by unfold asInt; (repeat' (first | (with_reducible (first | exact sim_typeStr _ | exact sim_zeroValue _ | exact sim_sizeOf _ | exact sim_isAgg _ | exact sim_asIntOf _ | exact sim_asBool _ | exact sim_asString _ | exact sim_asAgg _ | exact sim_elemOf _ | exact sim_newRow _ _ | exact sim_newVar _ _ | exact sim_loadCells _ _ | exact sim_storeCells _ _ _ | exact sim_pure' _ | exact sim_stuck _ | exact sim_noEntry _ | exact sim_resource _ | exact sim_rawOp _ | exact sim_observed | exact sim_goPanic _ | exact sim_halt _ | exact sim_load' _ _ | exact sim_store' _ _ _ | exact sim_newCells _ _ | exact sim_frozen' _ | exact sim_choose' _ | exact sim_typeInfo _ | exact sim_underlying _)) | (with_reducible assumption) | ((with_reducible refine sim_prog ?_ ?_); (first | (simp only [types_bar, globals_bar, info_bar, under_bar, depth_bar]; done) | rfl)) | ((with_reducible refine sim_getThen ?_ (fun _ => ?_)); focus (intros; trivial)) | (with_reducible refine sim_bind ?_ (fun _ => ?_)) | (with_reducible refine sim_ite ?_ ?_) | split | dsimp only))
theorem sim_loadVar (t : TypeId) (a : Addr) : Sim (bar P F) P (loadVar t a) := by unfold loadVar; (repeat' (first | (with_reducible (first | exact sim_typeStr _ | exact sim_zeroValue _ | exact sim_sizeOf _ | exact sim_isAgg _ | exact sim_asIntOf _ | exact sim_asBool _ | exact sim_asString _ | exact sim_asAgg _ | exact sim_elemOf _ | exact sim_newRow _ _ | exact sim_newVar _ _ | exact sim_loadCells _ _ | exact sim_storeCells _ _ _ | exact sim_pure' _ | exact sim_stuck _ | exact sim_noEntry _ | exact sim_resource _ | exact sim_rawOp _ | exact sim_observed | exact sim_goPanic _ | exact sim_halt _ | exact sim_load' _ _ | exact sim_store' _ _ _ | exact sim_newCells _ _ | exact sim_frozen' _ | exact sim_choose' _ | exact sim_typeInfo _ | exact sim_underlying _)) | (with_reducible assumption) | ((with_reducible refine sim_prog ?_ ?_); (first | (simp only [types_bar, globals_bar, info_bar, under_bar, depth_bar]; done) | rfl)) | ((with_reducible refine sim_getThen ?_ (fun _ => ?_)); focus (intros; trivial)) | (with_reducible refine sim_bind ?_ (fun _ => ?_)) | (with_reducible refine sim_ite ?_ ?_) | split | dsimp only))
theorem sim_storeVar (t : TypeId) (a : Addr) (v : Value) : Sim (bar P F) P (storeVar t a v) := by unfold storeVar; (repeat' (first | (with_reducible (first | exact sim_typeStr _ | exact sim_zeroValue _ | exact sim_sizeOf _ | exact sim_isAgg _ | exact sim_asIntOf _ | exact sim_asBool _ | exact sim_asString _ | exact sim_asAgg _ | exact sim_elemOf _ | exact sim_newRow _ _ | exact sim_newVar _ _ | exact sim_loadCells _ _ | exact sim_storeCells _ _ _ | exact sim_pure' _ | exact sim_stuck _ | exact sim_noEntry _ | exact sim_resource _ | exact sim_rawOp _ | exact sim_observed | exact sim_goPanic _ | exact sim_halt _ | exact sim_load' _ _ | exact sim_store' _ _ _ | exact sim_newCells _ _ | exact sim_frozen' _ | exact sim_choose' _ | exact sim_typeInfo _ | exact sim_underlying _)) | (with_reducible assumption) | ((with_reducible refine sim_prog ?_ ?_); (first | (simp only [types_bar, globals_bar, info_bar, under_bar, depth_bar]; done) | rfl)) | ((with_reducible refine sim_getThen ?_ (fun _ => ?_)); focus (intros; trivial)) | (with_reducible refine sim_bind ?_ (fun _ => ?_)) | (with_reducible refine sim_ite ?_ ?_) | split | dsimp only))
theorem sim_part (t : TypeId) (cs : Array Value) (off : Nat) : Sim (bar P F) P (part t cs off) := by unfold part; (repeat' (first | (with_reducible (first | exact sim_typeStr _ | exact sim_zeroValue _ | exact sim_sizeOf _ | exact sim_isAgg _ | exact sim_asIntOf _ | exact sim_asBool _ | exact sim_asString _ | exact sim_asAgg _ | exact sim_elemOf _ | exact sim_newRow _ _ | exact sim_newVar _ _ | exact sim_loadCells _ _ | exact sim_storeCells _ _ _ | exact sim_pure' _ | exact sim_stuck _ | exact sim_noEntry _ | exact sim_resource _ | exact sim_rawOp _ | exact sim_observed | exact sim_goPanic _ | exact sim_halt _ | exact sim_load' _ _ | exact sim_store' _ _ _ | exact sim_newCells _ _ | exact sim_frozen' _ | exact sim_choose' _ | exact sim_typeInfo _ | exact sim_underlying _)) | (with_reducible assumption) | ((with_reducible refine sim_prog ?_ ?_); (first | (simp only [types_bar, globals_bar, info_bar, under_bar, depth_bar]; done) | rfl)) | ((with_reducible refine sim_getThen ?_ (fun _ => ?_)); focus (intros; trivial)) | (with_reducible refine sim_bind ?_ (fun _ => ?_)) | (with_reducible refine sim_ite ?_ ?_) | split | dsimp only))
theorem sim_asAddr (v : Value) : Sim (bar P F) P (asAddr v) := by unfold asAddr; (repeat' (first | (with_reducible (first | exact sim_runtimePanic _ | exact sim_asInt _ | exact sim_loadVar _ _ | exact sim_storeVar _ _ _ | exact sim_part _ _ _ | exact sim_typeStr _ | exact sim_zeroValue _ | exact sim_sizeOf _ | exact sim_isAgg _ | exact sim_asIntOf _ | exact sim_asBool _ | exact sim_asString _ | exact sim_asAgg _ | exact sim_elemOf _ | exact sim_newRow _ _ | exact sim_newVar _ _ | exact sim_loadCells _ _ | exact sim_storeCells _ _ _ | exact sim_pure' _ | exact sim_stuck _ | exact sim_noEntry _ | exact sim_resource _ | exact sim_rawOp _ | exact sim_observed | exact sim_goPanic _ | exact sim_halt _ | exact sim_load' _ _ | exact sim_store' _ _ _ | exact sim_newCells _ _ | exact sim_frozen' _ | exact sim_choose' _ | exact sim_typeInfo _ | exact sim_underlying _)) | (with_reducible assumption) | ((with_reducible refine sim_prog ?_ ?_); (first | (simp only [types_bar, globals_bar, info_bar, under_bar, depth_bar]; done) | rfl)) | ((with_reducible refine sim_getThen ?_ (fun _ => ?_)); focus (intros; trivial)) | (with_reducible refine sim_bind ?_ (fun _ => ?_)) | (with_reducible refine sim_ite ?_ ?_) | split | dsimp only))
theorem sim_boundsPanic {α : Type} (k : IntKind) (x y : Int) (c : BoundsCode) : Sim (bar P F) P (boundsPanic k x y c : Sem α) := by
  unfold boundsPanic
  dsimp only
  split
  · exact sim_bind (sim_bind (sim_choose' _) fun _ => sim_pure _) fun _ => sim_runtimePanic _
  · exact sim_bind (sim_pure _) fun _ => sim_runtimePanic _
theorem sim_askRoom (n : Nat) : Sim (bar P F) P (askRoom n) := by
  unfold askRoom
  split
  · exact sim_mark (.inr rfl) (sim_pure _)
  · exact sim_pure _
/-- Does a view lie there? Then none goes on. -/
theorem sim_viewAt {α : Type} (r : Nat) {k : Bool → Sem α} (hb : ∀ w es, Bad ((k true).runT (bar P F) w es).1) (hk : Sim (bar P F) P (k false)) : Sim (bar P F) P (viewAt r >>= fun x => k x.isSome) := by
  unfold viewAt
  refine sim_shape (k := fun s => (if s.isSome = true then (pure none : Sem (Option (Addr × TypeId))) else getObj r >>= fun o => match o with | .view a t => pure (some (a, t)) | _ => pure none) >>= fun x => k x.isSome) (fun ty n m => rfl) fun s => ?_
  cases s with
  | some s => exact hk
  | none =>
    show Sim (bar P F) P (.getObj r fun o => (match o with | .view a t => (pure (some (a, t)) : Sem (Option (Addr × TypeId))) | _ => pure none) >>= fun x => k x.isSome)
    refine sim_getObj (fun o ho => ?_) fun x t o ho => .inl hb
    cases o <;> first | exact hk | exact sim_bad hb
theorem sim_numberAt (r : Nat) : Sim (bar P F) P (numberAt r) := by
  unfold numberAt
  refine sim_shape (fun ty n m => rfl) fun s => ?_
  cases s with
  | some s => exact sim_pure _
  | none =>
    show Sim (bar P F) P (.getObj r fun o => match o with | .number a lost => pure (some (a, lost)) | _ => pure none)
    refine sim_getObj (fun o ho => ?_) fun x t o ho => .inr ?_
    · cases o <;> exact sim_pure _
    · cases o <;> first | rfl | cases ho
theorem sim_noView (a : Addr) : Sim (bar P F) P (noView a) := by
  unfold noView
  exact sim_viewAt a.block (k := fun b => if b = true then unsupported (.unsafePointer "memory seen as another type") else pure ()) (fun _ _ => trivial) (sim_pure _)
theorem sim_behindNumber (a : Addr) : Sim (bar P F) P (behindNumber a) := by unfold behindNumber; (repeat' (first | (with_reducible (first | exact sim_asAddr _ | exact sim_boundsPanic _ _ _ _ | exact sim_askRoom _ | exact sim_numberAt _ | exact sim_runtimePanic _ | exact sim_asInt _ | exact sim_loadVar _ _ | exact sim_storeVar _ _ _ | exact sim_part _ _ _ | exact sim_typeStr _ | exact sim_zeroValue _ | exact sim_sizeOf _ | exact sim_isAgg _ | exact sim_asIntOf _ | exact sim_asBool _ | exact sim_asString _ | exact sim_asAgg _ | exact sim_elemOf _ | exact sim_newRow _ _ | exact sim_newVar _ _ | exact sim_loadCells _ _ | exact sim_storeCells _ _ _ | exact sim_pure' _ | exact sim_stuck _ | exact sim_noEntry _ | exact sim_resource _ | exact sim_rawOp _ | exact sim_observed | exact sim_goPanic _ | exact sim_halt _ | exact sim_load' _ _ | exact sim_store' _ _ _ | exact sim_newCells _ _ | exact sim_frozen' _ | exact sim_choose' _ | exact sim_typeInfo _ | exact sim_underlying _)) | (with_reducible assumption) | ((with_reducible refine sim_prog ?_ ?_); (first | (simp only [types_bar, globals_bar, info_bar, under_bar, depth_bar]; done) | rfl)) | ((with_reducible refine sim_getThen ?_ (fun _ => ?_)); focus (intros; trivial)) | (with_reducible refine sim_bind ?_ (fun _ => ?_)) | (with_reducible refine sim_ite ?_ ?_) | split | dsimp only))
theorem byteOfCell_bar : ∀ (d : Nat) (t : TypeId) (off : Nat), byteOfCell (bar P F) d t off = byteOfCell P d t off
  | 0, _, _ => rfl
  | d + 1, t, off => by
    unfold byteOfCell
    simp only [byteOfCell_bar d, under_bar, cells_bar, bytes_bar]
theorem sim_byteOf (a : Addr) : Sim (bar P F) P (byteOf a) := by
  unfold byteOf
  split
  · exact sim_pure _
  · refine sim_prog ?_ ?_
    · simp only [byteOfCell_bar, depth_bar, cells_bar, bytes_bar]
    · refine sim_bind (sim_noView _) fun _ => sim_shape (fun ty n m => rfl) fun s => ?_
      show Sim (bar P F) P (match s with | some (e, _) => _ | _ => _)
      (repeat' (first | (with_reducible (first | exact sim_noView _ | exact sim_behindNumber _ | exact sim_asAddr _ | exact sim_boundsPanic _ _ _ _ | exact sim_askRoom _ | exact sim_numberAt _ | exact sim_runtimePanic _ | exact sim_asInt _ | exact sim_loadVar _ _ | exact sim_storeVar _ _ _ | exact sim_part _ _ _ | exact sim_typeStr _ | exact sim_zeroValue _ | exact sim_sizeOf _ | exact sim_isAgg _ | exact sim_asIntOf _ | exact sim_asBool _ | exact sim_asString _ | exact sim_asAgg _ | exact sim_elemOf _ | exact sim_newRow _ _ | exact sim_newVar _ _ | exact sim_loadCells _ _ | exact sim_storeCells _ _ _ | exact sim_pure' _ | exact sim_stuck _ | exact sim_noEntry _ | exact sim_resource _ | exact sim_rawOp _ | exact sim_observed | exact sim_goPanic _ | exact sim_halt _ | exact sim_load' _ _ | exact sim_store' _ _ _ | exact sim_newCells _ _ | exact sim_frozen' _ | exact sim_choose' _ | exact sim_typeInfo _ | exact sim_underlying _)) | (with_reducible assumption) | ((with_reducible refine sim_prog ?_ ?_); (first | (simp only [types_bar, globals_bar, info_bar, under_bar, depth_bar]; done) | rfl)) | ((with_reducible refine sim_getThen ?_ (fun _ => ?_)); focus (intros; trivial)) | (with_reducible refine sim_bind ?_ (fun _ => ?_)) | (with_reducible refine sim_ite ?_ ?_) | split | dsimp only))
theorem sim_partAt (b : Addr) (c n : Nat) : Sim (bar P F) P (partAt b c n) := by unfold partAt; (repeat' (first | (with_reducible (first | exact sim_byteOf _ | exact sim_noView _ | exact sim_behindNumber _ | exact sim_asAddr _ | exact sim_boundsPanic _ _ _ _ | exact sim_askRoom _ | exact sim_numberAt _ | exact sim_runtimePanic _ | exact sim_asInt _ | exact sim_loadVar _ _ | exact sim_storeVar _ _ _ | exact sim_part _ _ _ | exact sim_typeStr _ | exact sim_zeroValue _ | exact sim_sizeOf _ | exact sim_isAgg _ | exact sim_asIntOf _ | exact sim_asBool _ | exact sim_asString _ | exact sim_asAgg _ | exact sim_elemOf _ | exact sim_newRow _ _ | exact sim_newVar _ _ | exact sim_loadCells _ _ | exact sim_storeCells _ _ _ | exact sim_pure' _ | exact sim_stuck _ | exact sim_noEntry _ | exact sim_resource _ | exact sim_rawOp _ | exact sim_observed | exact sim_goPanic _ | exact sim_halt _ | exact sim_load' _ _ | exact sim_store' _ _ _ | exact sim_newCells _ _ | exact sim_frozen' _ | exact sim_choose' _ | exact sim_typeInfo _ | exact sim_underlying _)) | (with_reducible assumption) | ((with_reducible refine sim_prog ?_ ?_); (first | (simp only [types_bar, globals_bar, info_bar, under_bar, depth_bar]; done) | rfl)) | ((with_reducible refine sim_getThen ?_ (fun _ => ?_)); focus (intros; trivial)) | (with_reducible refine sim_bind ?_ (fun _ => ?_)) | (with_reducible refine sim_ite ?_ ?_) | split | dsimp only))
theorem sim_fieldPlace (a : Addr) (f : Field) : Sim (bar P F) P (fieldPlace a f) := by unfold fieldPlace; (repeat' (first | (with_reducible (first | exact sim_partAt _ _ _ | exact sim_byteOf _ | exact sim_noView _ | exact sim_behindNumber _ | exact sim_asAddr _ | exact sim_boundsPanic _ _ _ _ | exact sim_askRoom _ | exact sim_numberAt _ | exact sim_runtimePanic _ | exact sim_asInt _ | exact sim_loadVar _ _ | exact sim_storeVar _ _ _ | exact sim_part _ _ _ | exact sim_typeStr _ | exact sim_zeroValue _ | exact sim_sizeOf _ | exact sim_isAgg _ | exact sim_asIntOf _ | exact sim_asBool _ | exact sim_asString _ | exact sim_asAgg _ | exact sim_elemOf _ | exact sim_newRow _ _ | exact sim_newVar _ _ | exact sim_loadCells _ _ | exact sim_storeCells _ _ _ | exact sim_pure' _ | exact sim_stuck _ | exact sim_noEntry _ | exact sim_resource _ | exact sim_rawOp _ | exact sim_observed | exact sim_goPanic _ | exact sim_halt _ | exact sim_load' _ _ | exact sim_store' _ _ _ | exact sim_newCells _ _ | exact sim_frozen' _ | exact sim_choose' _ | exact sim_typeInfo _ | exact sim_underlying _)) | (with_reducible assumption) | ((with_reducible refine sim_prog ?_ ?_); (first | (simp only [types_bar, globals_bar, info_bar, under_bar, depth_bar]; done) | rfl)) | ((with_reducible refine sim_getThen ?_ (fun _ => ?_)); focus (intros; trivial)) | (with_reducible refine sim_bind ?_ (fun _ => ?_)) | (with_reducible refine sim_ite ?_ ?_) | split | dsimp only))
end Go.Proofs.YtfnbcpeipoobkaaGreat

set_option linter.unusedSectionVars false
set_option linter.unusedSimpArgs false
namespace Go.Proofs.YtfnbcpeipoobkaaGreat
open Go
variable {P : Program} {F : Array Func} [Inhabited Junk]

def stS (u : World) (a : Addr) : Bool := u.frozen? a || (match u.shape? a.block with | some (_, n) => u.frozen? { block := a.block, off := n } | none => false)
theorem stringish_run (p : Program) (u : World) (a : Addr) (es : Array Event) : (stringish a).runT p u es = (.ok (stS u a) u, es) := by
  unfold stringish stS
  show ((if u.frozen? a = true then (pure true : Sem Bool) else _).runT p u es) = _
  cases hg : u.frozen? a with
  | true => rfl
  | false =>
    show ((match u.shape? a.block with | some (_, n) => frozen { block := a.block, off := n } | none => pure false : Sem Bool).runT p u es) = _
    cases hs : u.shape? a.block with
    | none => rfl
    | some x => rfl
theorem sib_stringish {V : Nat → Prop} {w v : World} (h : Sib P V w v) (a : Addr) : stS v a = stS w a ∧ (V a.block → stS w a = false) := by
  unfold stS
  by_cases hr : V a.block
  · obtain ⟨c, ty, h1, h2⟩ := h.veil _ hr
    have f1 : ∀ n, w.frozen? { block := a.block, off := n } = false := fun n => by unfold World.frozen?; rw [h1]; simp
    have f2 : ∀ n, v.frozen? { block := a.block, off := n } = false := fun n => by unfold World.frozen?; rw [h2]; simp
    have g1 : w.frozen? a = false := by unfold World.frozen?; rw [h1]; simp
    have g2 : v.frozen? a = false := by unfold World.frozen?; rw [h2]; simp
    have e1 : w.shape? a.block = some (ty, 0) := by unfold World.shape?; rw [h1]; rfl
    have e2 : v.shape? a.block = some (ty, c.size) := by unfold World.shape?; rw [h2]
    simp [f1, f2, g1, g2, e1, e2]
  · have e : v.shape? a.block = w.shape? a.block := sib_shape h _ hr
    have f : ∀ n, v.frozen? { block := a.block, off := n } = w.frozen? { block := a.block, off := n } := fun n => sib_frozen h _
    have g : v.frozen? a = w.frozen? a := sib_frozen h a
    exact ⟨by simp only [e, f, g], fun x => absurd x hr⟩
def emptyS (u : World) (c : Addr) : Bool := (u.shape? c.block) matches some (_, 0)
theorem mayBeOne_run (p : Program) (u : World) (a b : Addr) (es : Array Event) : (mayBeOne a b).runT p u es = (.ok ((stS u a && stS u b) || (stS u a && emptyS u a) || (stS u b && emptyS u b)) u, es) := by
  unfold mayBeOne
  simp only [bind, Sem.runT_bind', stringish_run, shape, Sem.runT, pure]
  unfold emptyS
  cases stS u a <;> cases stS u b <;> simp <;> rfl
theorem sim_mayBeOne (a b : Addr) : Sim (bar P F) P (mayBeOne a b) := by
  intro V w v es h
  obtain ⟨hx2, hx3⟩ := sib_stringish h a
  obtain ⟨hy2, hy3⟩ := sib_stringish h b
  have same : ((stS v a && stS v b) || (stS v a && emptyS v a) || (stS v b && emptyS v b)) = ((stS w a && stS w b) || (stS w a && emptyS w a) || (stS w b && emptyS w b)) := by
    have k : ∀ c : Addr, ¬ V c.block → emptyS v c = emptyS w c := fun c hc => by
      have : v.shape? c.block = w.shape? c.block := sib_shape h _ hc
      simp only [emptyS, this]
    rw [hx2, hy2]
    by_cases ha : V a.block
    · rw [hx3 ha]
      by_cases hb : V b.block
      · rw [hy3 hb]; rfl
      · rw [k b hb]; rfl
    · rw [k a ha]
      by_cases hb : V b.block
      · rw [hy3 hb]; simp
      · rw [k b hb]
  rw [mayBeOne_run, mayBeOne_run, same]
  exact at_pure h trivial
theorem sim_sameAddr (a b : Addr) : Sim (bar P F) P (sameAddr a b) := by unfold sameAddr; (repeat' (first | (with_reducible (first | exact sim_mayBeOne _ _ | exact sim_fieldPlace _ _ | exact sim_partAt _ _ _ | exact sim_byteOf _ | exact sim_noView _ | exact sim_behindNumber _ | exact sim_asAddr _ | exact sim_boundsPanic _ _ _ _ | exact sim_askRoom _ | exact sim_numberAt _ | exact sim_runtimePanic _ | exact sim_asInt _ | exact sim_loadVar _ _ | exact sim_storeVar _ _ _ | exact sim_part _ _ _ | exact sim_typeStr _ | exact sim_zeroValue _ | exact sim_sizeOf _ | exact sim_isAgg _ | exact sim_asIntOf _ | exact sim_asBool _ | exact sim_asString _ | exact sim_asAgg _ | exact sim_elemOf _ | exact sim_newRow _ _ | exact sim_newVar _ _ | exact sim_loadCells _ _ | exact sim_storeCells _ _ _ | exact sim_pure' _ | exact sim_stuck _ | exact sim_noEntry _ | exact sim_resource _ | exact sim_rawOp _ | exact sim_observed | exact sim_goPanic _ | exact sim_halt _ | exact sim_load' _ _ | exact sim_store' _ _ _ | exact sim_newCells _ _ | exact sim_frozen' _ | exact sim_choose' _ | exact sim_typeInfo _ | exact sim_underlying _)) | (with_reducible assumption) | ((with_reducible refine sim_prog ?_ ?_); (first | (simp only [types_bar, globals_bar, info_bar, under_bar, depth_bar]; done) | rfl)) | ((with_reducible refine sim_getThen ?_ (fun _ => ?_)); focus (intros; trivial)) | (with_reducible refine sim_bind ?_ (fun _ => ?_)) | (with_reducible refine sim_ite ?_ ?_) | split | dsimp only))
theorem sim_samePointer (a b : Option Addr) : Sim (bar P F) P (samePointer a b) := by unfold samePointer; (repeat' (first | (with_reducible (first | exact sim_sameAddr _ _ | exact sim_mayBeOne _ _ | exact sim_fieldPlace _ _ | exact sim_partAt _ _ _ | exact sim_byteOf _ | exact sim_noView _ | exact sim_behindNumber _ | exact sim_asAddr _ | exact sim_boundsPanic _ _ _ _ | exact sim_askRoom _ | exact sim_numberAt _ | exact sim_runtimePanic _ | exact sim_asInt _ | exact sim_loadVar _ _ | exact sim_storeVar _ _ _ | exact sim_part _ _ _ | exact sim_typeStr _ | exact sim_zeroValue _ | exact sim_sizeOf _ | exact sim_isAgg _ | exact sim_asIntOf _ | exact sim_asBool _ | exact sim_asString _ | exact sim_asAgg _ | exact sim_elemOf _ | exact sim_newRow _ _ | exact sim_newVar _ _ | exact sim_loadCells _ _ | exact sim_storeCells _ _ _ | exact sim_pure' _ | exact sim_stuck _ | exact sim_noEntry _ | exact sim_resource _ | exact sim_rawOp _ | exact sim_observed | exact sim_goPanic _ | exact sim_halt _ | exact sim_load' _ _ | exact sim_store' _ _ _ | exact sim_newCells _ _ | exact sim_frozen' _ | exact sim_choose' _ | exact sim_typeInfo _ | exact sim_underlying _)) | (with_reducible assumption) | ((with_reducible refine sim_prog ?_ ?_); (first | (simp only [types_bar, globals_bar, info_bar, under_bar, depth_bar]; done) | rfl)) | ((with_reducible refine sim_getThen ?_ (fun _ => ?_)); focus (intros; trivial)) | (with_reducible refine sim_bind ?_ (fun _ => ?_)) | (with_reducible refine sim_ite ?_ ?_) | split | dsimp only))

theorem sim_forL {α β : Type} {f : α → β → Sem (ForInStep β)} (hf : ∀ a b, Sim (bar P F) P (f a b)) : ∀ (l : List α) (b : β), Sim (bar P F) P (forIn l b f)
  | [], b => by simp only [List.forIn_nil]; exact sim_pure _
  | a :: l, b => by
    simp only [List.forIn_cons]
    refine sim_bind (hf a b) fun r => ?_
    cases r with
    | done b => exact sim_pure _
    | yield b => exact sim_forL hf l b
theorem sim_forA {α β : Type} {f : α → β → Sem (ForInStep β)} (hf : ∀ a b, Sim (bar P F) P (f a b)) (l : Array α) (b : β) : Sim (bar P F) P (forIn l b f) := by
  rw [← Array.forIn_toList]
  exact sim_forL hf _ _
theorem sim_forR {β : Type} {f : Nat → β → Sem (ForInStep β)} (hf : ∀ a b, Sim (bar P F) P (f a b)) (n : Nat) (b : β) : Sim (bar P F) P (forIn [0:n] b f) := by
  rw [Std.Legacy.Range.forIn_eq_forIn_range']
  exact sim_forL hf _ _
theorem sim_mapA {α β : Type} {f : α → Sem β} (hf : ∀ a, Sim (bar P F) P (f a)) (l : Array α) : Sim (bar P F) P (l.mapM f) := by
  rw [Array.mapM_eq_mapM_toList]
  exact sim_bind (sim_mapL hf _) fun _ => sim_pure _

theorem alike_bar : ∀ (n : Nat) (t u : TypeId), (bar P F).alikeButTags n t u = P.alikeButTags n t u
  | 0, _, _ => rfl
  | n + 1, t, u => by
    unfold Program.alikeButTags
    simp only [alike_bar n, info_bar]
theorem own_bar (c : String × TypeId) : (bar P F).ownRow c = P.ownRow c := by
  unfold Program.ownRow
  simp only [cut_bar, info_bar, under_bar]
theorem packed1_bar (t : TypeId) : (bar P F).packed t = P.packed t := by
  unfold Program.packed Program.packedAs
  simp only [cut_bar, info_bar, under_bar, own_bar, uid_bar, depth_bar, alike_bar]
theorem packed_bar : ∀ (d : Nat) (t : TypeId), (bar P F).holdsPacked d t = P.holdsPacked d t
  | 0, _ => rfl
  | d + 1, t => by
    unfold Program.holdsPacked
    simp only [packed_bar d, packed1_bar, under_bar]
theorem held_bar (t : TypeId) : (bar P F).stoodInHeld t = P.stoodInHeld t := by
  unfold Program.stoodInHeld Program.stoodInAs
  simp only [cut_bar, info_bar, under_bar, uid_bar, depth_bar, alike_bar]
theorem guard_bar : ∀ (d : Nat) (t : TypeId), (bar P F).eqGuardType d t = P.eqGuardType d t
  | 0, _ => rfl
  | d + 1, t => by
    unfold Program.eqGuardType
    simp only [guard_bar d, under_bar]
theorem sim_equalIn : ∀ (d : Nat) (t : TypeId) (x y : Value), Sim (bar P F) P (Op.equalIn d t x y)
  | 0, _, _, _ => sim_unsupported _
  | d + 1, t, x, y => by
    have ih : ∀ t x y, Sim (bar P F) P (Op.equalIn d t x y) := sim_equalIn d
    unfold Op.equalIn
    refine sim_bind (sim_underlying _) fun u => ?_
    split
    all_goals first | (with_reducible (first | exact sim_samePointer _ _ | exact sim_sameAddr _ _ | exact sim_mayBeOne _ _ | exact sim_fieldPlace _ _ | exact sim_partAt _ _ _ | exact sim_byteOf _ | exact sim_noView _ | exact sim_behindNumber _ | exact sim_asAddr _ | exact sim_boundsPanic _ _ _ _ | exact sim_askRoom _ | exact sim_numberAt _ | exact sim_runtimePanic _ | exact sim_asInt _ | exact sim_loadVar _ _ | exact sim_storeVar _ _ _ | exact sim_part _ _ _ | exact sim_typeStr _ | exact sim_zeroValue _ | exact sim_sizeOf _ | exact sim_isAgg _ | exact sim_asIntOf _ | exact sim_asBool _ | exact sim_asString _ | exact sim_asAgg _ | exact sim_elemOf _ | exact sim_newRow _ _ | exact sim_newVar _ _ | exact sim_loadCells _ _ | exact sim_storeCells _ _ _ | exact sim_pure' _ | exact sim_stuck _ | exact sim_noEntry _ | exact sim_resource _ | exact sim_rawOp _ | exact sim_observed | exact sim_goPanic _ | exact sim_halt _ | exact sim_load' _ _ | exact sim_store' _ _ _ | exact sim_newCells _ _ | exact sim_frozen' _ | exact sim_choose' _ | exact sim_typeInfo _ | exact sim_underlying _)) | (with_reducible refine sim_ite ?_ ?_ <;> with_reducible (first | exact sim_samePointer _ _ | exact sim_sameAddr _ _ | exact sim_mayBeOne _ _ | exact sim_fieldPlace _ _ | exact sim_partAt _ _ _ | exact sim_byteOf _ | exact sim_noView _ | exact sim_behindNumber _ | exact sim_asAddr _ | exact sim_boundsPanic _ _ _ _ | exact sim_askRoom _ | exact sim_numberAt _ | exact sim_runtimePanic _ | exact sim_asInt _ | exact sim_loadVar _ _ | exact sim_storeVar _ _ _ | exact sim_part _ _ _ | exact sim_typeStr _ | exact sim_zeroValue _ | exact sim_sizeOf _ | exact sim_isAgg _ | exact sim_asIntOf _ | exact sim_asBool _ | exact sim_asString _ | exact sim_asAgg _ | exact sim_elemOf _ | exact sim_newRow _ _ | exact sim_newVar _ _ | exact sim_loadCells _ _ | exact sim_storeCells _ _ _ | exact sim_pure' _ | exact sim_stuck _ | exact sim_noEntry _ | exact sim_resource _ | exact sim_rawOp _ | exact sim_observed | exact sim_goPanic _ | exact sim_halt _ | exact sim_load' _ _ | exact sim_store' _ _ _ | exact sim_newCells _ _ | exact sim_frozen' _ | exact sim_choose' _ | exact sim_typeInfo _ | exact sim_underlying _)) | skip
    · refine sim_bind (sim_behindNumber _) fun _ => sim_bind (sim_behindNumber _) fun _ => ?_
      dsimp only
      refine sim_prog rfl (sim_ite ?_ (sim_bind (sim_typeInfo _) fun i => ?_))
      · exact sim_bind (sim_byteOf _) fun _ => sim_bind (sim_byteOf _) fun _ => sim_pure _
      · split
        · exact sim_ite (sim_pure _) (sim_unsupported _)
        · exact sim_unsupported _
    · refine sim_bind (sim_sizeOf _) fun _ => sim_ite (sim_sameAddr _ _) (sim_ite (sim_pure _) (sim_bind (sim_choose' _) fun _ => sim_pure _))
    · refine sim_ite (sim_pure _) (sim_bind (sim_typeInfo _) fun i => sim_ite ?_ (ih _ _ _))
      refine sim_prog (by simp only [packed_bar]) (sim_prog (by simp only [depth_bar]; exact ite_congr rfl (fun _ => rfl) (fun _ => rfl)) (sim_ite ?_ ?_))
      · exact sim_bind (sim_unsupported _) fun _ => sim_bind (sim_typeStr _) fun _ => sim_runtimePanic _
      · exact sim_bind (sim_typeStr _) fun _ => sim_runtimePanic _
    · refine sim_prog (by simp only [held_bar]) (sim_ite (sim_bind (sim_unsupported _) fun _ => ?_) ?_)
      all_goals
        refine sim_bind (sim_forA (fun f _ => sim_ite (sim_bind (sim_part _ _ _) fun _ => sim_bind (sim_part _ _ _) fun _ => sim_bind (ih _ _ _) fun _ => sim_ite (sim_pure _) (sim_pure _)) (sim_pure _)) _ _) fun s => ?_
        dsimp only
        split <;> exact sim_pure _
    · refine sim_bind (sim_sizeOf _) fun n => sim_bind (sim_forR (fun i _ => sim_bind (sim_part _ _ _) fun _ => sim_bind (sim_part _ _ _) fun _ => sim_bind (ih _ _ _) fun _ => sim_ite (sim_pure _) (sim_pure _)) _ _) fun s => ?_
      dsimp only
      split <;> exact sim_pure _
theorem sim_equal (t : TypeId) (x y : Value) : Sim (bar P F) P (Op.equal t x y) := sim_equalIn _ _ _ _
theorem sim_eqGuardIn : ∀ (d : Nat) (t : TypeId) (x y : Value), Sim (bar P F) P (Op.eqGuardIn d t x y)
  | 0, _, _, _ => sim_unsupported _
  | d + 1, t, x, y => by
    have ih : ∀ t x y, Sim (bar P F) P (Op.eqGuardIn d t x y) := sim_eqGuardIn d
    unfold Op.eqGuardIn
    refine sim_bind (sim_underlying _) fun u => ?_
    split
    · exact sim_pure _
    · refine sim_bind (sim_forA (fun f _ => sim_ite (sim_bind (sim_part _ _ _) fun _ => sim_bind (sim_part _ _ _) fun _ => sim_bind (ih _ _ _) fun _ => sim_ite (sim_pure _) (sim_pure _)) (sim_pure _)) _ _) fun s => ?_
      dsimp only
      split <;> exact sim_pure _
    · refine sim_bind (sim_sizeOf _) fun n => sim_bind (sim_forR (fun i _ => sim_bind (sim_part _ _ _) fun _ => sim_bind (sim_part _ _ _) fun _ => sim_bind (ih _ _ _) fun _ => sim_ite (sim_pure _) (sim_pure _)) _ _) fun s => ?_
      dsimp only
      split <;> exact sim_pure _
    · exact sim_pure _
theorem sim_eqGuard (op : BinOp) (t : TypeId) (x y : Operand) (a b : Value) : Sim (bar P F) P (eqGuard op t x y a b) := by
  unfold eqGuard
  refine sim_ite (sim_pure _) ?_
  split
  · refine sim_ite (sim_pure _) (sim_bind (sim_eqGuardIn _ _ _ _) fun _ => sim_ite (sim_unsupported _) (sim_pure _))
  · refine sim_prog (by simp only [guard_bar]) (sim_prog (by simp only [depth_bar]; exact ite_congr rfl (fun _ => rfl) (fun _ => rfl)) (sim_ite (sim_pure _) (sim_bind (sim_eqGuardIn _ _ _ _) fun _ => sim_ite (sim_unsupported _) (sim_pure _))))
  · exact sim_pure _
end Go.Proofs.YtfnbcpeipoobkaaGreat
