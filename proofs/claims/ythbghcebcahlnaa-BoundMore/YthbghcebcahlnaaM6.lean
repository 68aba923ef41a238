/- The veil, of the operations: methods, calls, all that a good program does. The veil, of the operations: loops over functions, calls by value, and all of execOp that good code has. A step of good code, veiled and not. -/
import Derived.Test.YthbghcebcahlnaaM5
import GoSem.Step
set_option linter.unusedSectionVars false
set_option linter.unusedSimpArgs false
namespace Go.Proofs.Ythbghcebcahlnaa
open Go
variable {P : Program} {F : Array Func} [Inhabited Junk]

theorem sim_get (t : TypeId) (x : Place) : Sim (bar P F) P (x.get t) := by unfold Place.get; (repeat' (first | (with_reducible (first | exact sim_loadAt _ _ | exact sim_storeAt _ _ _ | exact sim_fieldAt _ _ _ | exact sim_indexAt _ _ _ | exact sim_index _ _ _ | exact sim_field _ _ _ | exact sim_extract _ _ | exact sim_makeFunc _ _ _ | exact sim_makeInterface _ _ | exact sim_sliceAt _ _ _ _ _ | exact sim_arrayAt _ _ | exact sim_makeSlice _ _ _ | exact sim_slice _ _ _ _ _ | exact sim_sliceBounds _ _ _ _ _ _ | exact sim_sliceBound _ _ _ | exact sim_alloc _ _ _ | exact sim_box _ _ | exact sim_build _ _ | exact sim_buildSlice _ _ _ | exact sim_sureAddr _ | exact sim_append _ _ _ | exact sim_copy _ _ _ | exact sim_len _ _ _ | exact sim_cap _ _ _ | exact sim_max _ _ _ | exact sim_min _ _ _ | exact sim_real _ _ _ | exact sim_imag _ _ _ | exact sim_complex _ _ _ | exact sim_binOp _ _ _ _ | exact sim_eqGuard _ _ _ _ _ _ | exact sim_lenOf _ | exact sim_firstCells _ _ _ | exact sim_addrSub _ _ _ | exact sim_addrCmp _ _ _ | exact sim_addrMod _ _ _ | exact sim_movedNumber _ _ _ | exact sim_movedPointer _ _ _ | exact sim_twoPlaces _ _ | exact sim_asNumber _ _ | exact sim_unsafeAdd _ _ _ | exact sim_shift _ _ _ _ _ | exact sim_intArith _ _ _ _ | exact sim_intDiv _ _ _ _ | exact sim_intBits _ _ _ _ | exact sim_intCmp _ _ _ | exact sim_complexOp _ _ _ _ _ _ | exact sim_stringOp _ _ _ | exact sim_unary _ _ | exact sim_quotient _ _ _ _ | exact sim_product _ _ _ _ | exact sim_corrected _ _ _ _ _ | exact sim_carith _ _ _ _ | exact sim_ccmp _ _ _ _ | exact sim_cconv _ _ _ | exact sim_cadd _ _ | exact sim_csub _ _ | exact sim_cmul _ _ | exact sim_cquo _ _ | exact sim_floatArith _ _ _ _ | exact sim_floatCmp _ _ _ _ | exact sim_floatToFloat _ _ _ | exact sim_equal _ _ _ | exact sim_eqGuardIn _ _ _ _ | exact sim_samePointer _ _ | exact sim_sameAddr _ _ | exact sim_mayBeOne _ _ | exact sim_fieldPlace _ _ | exact sim_partAt _ _ _ | exact sim_byteOf _ | exact sim_noView _ | exact sim_behindNumber _ | exact sim_asAddr _ | exact sim_boundsPanic _ _ _ _ | exact sim_askRoom _ | exact sim_numberAt _ | exact sim_runtimePanic _ | exact sim_asInt _ | exact sim_loadVar _ _ | exact sim_storeVar _ _ _ | exact sim_part _ _ _ | exact sim_typeStr _ | exact sim_zeroValue _ | exact sim_sizeOf _ | exact sim_isAgg _ | exact sim_asIntOf _ | exact sim_asBool _ | exact sim_asString _ | exact sim_asAgg _ | exact sim_elemOf _ | exact sim_newRow _ _ | exact sim_newVar _ _ | exact sim_loadCells _ _ | exact sim_storeCells _ _ _ | exact sim_pure' _ | exact sim_stuck _ | exact sim_noEntry _ | exact sim_resource _ | exact sim_rawOp _ | exact sim_observed | exact sim_goPanic _ | exact sim_halt _ | exact sim_load' _ _ | exact sim_store' _ _ _ | exact sim_newCells _ _ | exact sim_frozen' _ | exact sim_choose' _ | exact sim_typeInfo _ | exact sim_underlying _)) | (with_reducible assumption) | ((with_reducible refine sim_prog ?_ ?_); (first | (simp only [types_bar, globals_bar, info_bar, under_bar, depth_bar, packed_bar, held_bar, guard_bar]; done) | rfl)) | ((with_reducible refine sim_getThen ?_ (fun _ => ?_)); focus (intros; trivial)) | (with_reducible refine sim_bind ?_ (fun _ => ?_)) | (with_reducible refine sim_ite ?_ ?_) | (with_reducible refine sim_forA (fun _ _ => ?_) _ _) | (with_reducible refine sim_forR (fun _ _ => ?_) _ _) | (with_reducible refine sim_mapA (fun _ => ?_) _) | (with_reducible refine sim_foldL (fun _ _ => ?_) _ _) | split | dsimp only))
theorem sim_follow : ∀ (l : List FieldStep) (t : TypeId) (x : Place), Sim (bar P F) P (follow l t x)
  | [], _, _ => sim_pure _
  | s :: rest, t, x => by
    have ih : ∀ t x, Sim (bar P F) P (follow rest t x) := sim_follow rest
    unfold follow
    refine sim_bind (sim_underlying _) fun u => ?_
    split
    · split
      · refine sim_ite (sim_bind (sim_get _ _) fun _ => sim_bind (sim_asAddr _) fun _ => sim_bind (sim_fieldPlace _ _) fun _ => ih _ _) ?_
        split
        · exact sim_bind (sim_fieldPlace _ _) fun _ => ih _ _
        · exact sim_bind (sim_part _ _ _) fun _ => ih _ _
        · exact sim_stuck _
      · exact sim_stuck _
    · exact sim_stuck _
theorem sim_nilChk (ts : Array TypeId) (t : TypeId) (args : Array Value) : Sim (bar P F) P (Builtin.ssaWrapNilChk_ ts t args) := by
  obtain ⟨l⟩ := args
  have body : ∀ (ptr : Value) (a b : ByteArray), Sim (bar P F) P (Builtin.ssaWrapNilChk_ ts t #[ptr, .string a, .string b]) := by
    intro ptr a b
    cases ptr with
    | pointer p =>
      cases p with
      | some a => exact sim_pure _
      | none =>
        refine sim_bind (sim_choose' _) fun _ => ?_
        refine sim_ite (sim_bind (sim_runtimePanic _) fun _ => ?_) ?_
        all_goals
          dsimp only
          (repeat' (first | (with_reducible (first | exact sim_get _ _ | exact sim_loadAt _ _ | exact sim_storeAt _ _ _ | exact sim_fieldAt _ _ _ | exact sim_indexAt _ _ _ | exact sim_index _ _ _ | exact sim_field _ _ _ | exact sim_extract _ _ | exact sim_makeFunc _ _ _ | exact sim_makeInterface _ _ | exact sim_sliceAt _ _ _ _ _ | exact sim_arrayAt _ _ | exact sim_makeSlice _ _ _ | exact sim_slice _ _ _ _ _ | exact sim_sliceBounds _ _ _ _ _ _ | exact sim_sliceBound _ _ _ | exact sim_alloc _ _ _ | exact sim_box _ _ | exact sim_build _ _ | exact sim_buildSlice _ _ _ | exact sim_sureAddr _ | exact sim_append _ _ _ | exact sim_copy _ _ _ | exact sim_len _ _ _ | exact sim_cap _ _ _ | exact sim_max _ _ _ | exact sim_min _ _ _ | exact sim_real _ _ _ | exact sim_imag _ _ _ | exact sim_complex _ _ _ | exact sim_binOp _ _ _ _ | exact sim_eqGuard _ _ _ _ _ _ | exact sim_lenOf _ | exact sim_firstCells _ _ _ | exact sim_addrSub _ _ _ | exact sim_addrCmp _ _ _ | exact sim_addrMod _ _ _ | exact sim_movedNumber _ _ _ | exact sim_movedPointer _ _ _ | exact sim_twoPlaces _ _ | exact sim_asNumber _ _ | exact sim_unsafeAdd _ _ _ | exact sim_shift _ _ _ _ _ | exact sim_intArith _ _ _ _ | exact sim_intDiv _ _ _ _ | exact sim_intBits _ _ _ _ | exact sim_intCmp _ _ _ | exact sim_complexOp _ _ _ _ _ _ | exact sim_stringOp _ _ _ | exact sim_unary _ _ | exact sim_quotient _ _ _ _ | exact sim_product _ _ _ _ | exact sim_corrected _ _ _ _ _ | exact sim_carith _ _ _ _ | exact sim_ccmp _ _ _ _ | exact sim_cconv _ _ _ | exact sim_cadd _ _ | exact sim_csub _ _ | exact sim_cmul _ _ | exact sim_cquo _ _ | exact sim_floatArith _ _ _ _ | exact sim_floatCmp _ _ _ _ | exact sim_floatToFloat _ _ _ | exact sim_equal _ _ _ | exact sim_eqGuardIn _ _ _ _ | exact sim_samePointer _ _ | exact sim_sameAddr _ _ | exact sim_mayBeOne _ _ | exact sim_fieldPlace _ _ | exact sim_partAt _ _ _ | exact sim_byteOf _ | exact sim_noView _ | exact sim_behindNumber _ | exact sim_asAddr _ | exact sim_boundsPanic _ _ _ _ | exact sim_askRoom _ | exact sim_numberAt _ | exact sim_runtimePanic _ | exact sim_asInt _ | exact sim_loadVar _ _ | exact sim_storeVar _ _ _ | exact sim_part _ _ _ | exact sim_typeStr _ | exact sim_zeroValue _ | exact sim_sizeOf _ | exact sim_isAgg _ | exact sim_asIntOf _ | exact sim_asBool _ | exact sim_asString _ | exact sim_asAgg _ | exact sim_elemOf _ | exact sim_newRow _ _ | exact sim_newVar _ _ | exact sim_loadCells _ _ | exact sim_storeCells _ _ _ | exact sim_pure' _ | exact sim_stuck _ | exact sim_noEntry _ | exact sim_resource _ | exact sim_rawOp _ | exact sim_observed | exact sim_goPanic _ | exact sim_halt _ | exact sim_load' _ _ | exact sim_store' _ _ _ | exact sim_newCells _ _ | exact sim_frozen' _ | exact sim_choose' _ | exact sim_typeInfo _ | exact sim_underlying _)) | (with_reducible assumption) | ((with_reducible refine sim_prog ?_ ?_); (first | (simp only [types_bar, globals_bar, info_bar, under_bar, depth_bar, packed_bar, held_bar, guard_bar]; done) | rfl)) | ((with_reducible refine sim_getThen ?_ (fun _ => ?_)); focus (intros; trivial)) | (with_reducible refine sim_bind ?_ (fun _ => ?_)) | (with_reducible refine sim_ite ?_ ?_) | (with_reducible refine sim_forA (fun _ _ => ?_) _ _) | (with_reducible refine sim_forR (fun _ _ => ?_) _ _) | (with_reducible refine sim_mapA (fun _ => ?_) _) | (with_reducible refine sim_foldL (fun _ _ => ?_) _ _) | split | dsimp only))
    | _ => exact sim_stuck _
  rcases l with _ | ⟨x, _ | ⟨y, _ | ⟨z, _ | ⟨u, l⟩⟩⟩⟩
  · exact sim_stuck _
  · exact sim_stuck _
  · exact sim_stuck _
  · cases y <;> first | exact sim_stuck _ | (cases z <;> first | exact sim_stuck _ | exact body _ _ _)
  · exact sim_stuck _
theorem sim_receiverAt (t : TypeId) (x : Place) (b : Bool) (n : Option String) : Sim (bar P F) P (receiverAt t x b n) := by unfold receiverAt; (repeat' (first | (with_reducible (first | exact sim_follow _ _ _ | exact sim_nilChk _ _ _ | exact sim_get _ _ | exact sim_loadAt _ _ | exact sim_storeAt _ _ _ | exact sim_fieldAt _ _ _ | exact sim_indexAt _ _ _ | exact sim_index _ _ _ | exact sim_field _ _ _ | exact sim_extract _ _ | exact sim_makeFunc _ _ _ | exact sim_makeInterface _ _ | exact sim_sliceAt _ _ _ _ _ | exact sim_arrayAt _ _ | exact sim_makeSlice _ _ _ | exact sim_slice _ _ _ _ _ | exact sim_sliceBounds _ _ _ _ _ _ | exact sim_sliceBound _ _ _ | exact sim_alloc _ _ _ | exact sim_box _ _ | exact sim_build _ _ | exact sim_buildSlice _ _ _ | exact sim_sureAddr _ | exact sim_append _ _ _ | exact sim_copy _ _ _ | exact sim_len _ _ _ | exact sim_cap _ _ _ | exact sim_max _ _ _ | exact sim_min _ _ _ | exact sim_real _ _ _ | exact sim_imag _ _ _ | exact sim_complex _ _ _ | exact sim_binOp _ _ _ _ | exact sim_eqGuard _ _ _ _ _ _ | exact sim_lenOf _ | exact sim_firstCells _ _ _ | exact sim_addrSub _ _ _ | exact sim_addrCmp _ _ _ | exact sim_addrMod _ _ _ | exact sim_movedNumber _ _ _ | exact sim_movedPointer _ _ _ | exact sim_twoPlaces _ _ | exact sim_asNumber _ _ | exact sim_unsafeAdd _ _ _ | exact sim_shift _ _ _ _ _ | exact sim_intArith _ _ _ _ | exact sim_intDiv _ _ _ _ | exact sim_intBits _ _ _ _ | exact sim_intCmp _ _ _ | exact sim_complexOp _ _ _ _ _ _ | exact sim_stringOp _ _ _ | exact sim_unary _ _ | exact sim_quotient _ _ _ _ | exact sim_product _ _ _ _ | exact sim_corrected _ _ _ _ _ | exact sim_carith _ _ _ _ | exact sim_ccmp _ _ _ _ | exact sim_cconv _ _ _ | exact sim_cadd _ _ | exact sim_csub _ _ | exact sim_cmul _ _ | exact sim_cquo _ _ | exact sim_floatArith _ _ _ _ | exact sim_floatCmp _ _ _ _ | exact sim_floatToFloat _ _ _ | exact sim_equal _ _ _ | exact sim_eqGuardIn _ _ _ _ | exact sim_samePointer _ _ | exact sim_sameAddr _ _ | exact sim_mayBeOne _ _ | exact sim_fieldPlace _ _ | exact sim_partAt _ _ _ | exact sim_byteOf _ | exact sim_noView _ | exact sim_behindNumber _ | exact sim_asAddr _ | exact sim_boundsPanic _ _ _ _ | exact sim_askRoom _ | exact sim_numberAt _ | exact sim_runtimePanic _ | exact sim_asInt _ | exact sim_loadVar _ _ | exact sim_storeVar _ _ _ | exact sim_part _ _ _ | exact sim_typeStr _ | exact sim_zeroValue _ | exact sim_sizeOf _ | exact sim_isAgg _ | exact sim_asIntOf _ | exact sim_asBool _ | exact sim_asString _ | exact sim_asAgg _ | exact sim_elemOf _ | exact sim_newRow _ _ | exact sim_newVar _ _ | exact sim_loadCells _ _ | exact sim_storeCells _ _ _ | exact sim_pure' _ | exact sim_stuck _ | exact sim_noEntry _ | exact sim_resource _ | exact sim_rawOp _ | exact sim_observed | exact sim_goPanic _ | exact sim_halt _ | exact sim_load' _ _ | exact sim_store' _ _ _ | exact sim_newCells _ _ | exact sim_frozen' _ | exact sim_choose' _ | exact sim_typeInfo _ | exact sim_underlying _)) | (with_reducible assumption) | ((with_reducible refine sim_prog ?_ ?_); (first | (simp only [types_bar, globals_bar, info_bar, under_bar, depth_bar, packed_bar, held_bar, guard_bar]; done) | rfl)) | ((with_reducible refine sim_getThen ?_ (fun _ => ?_)); focus (intros; trivial)) | (with_reducible refine sim_bind ?_ (fun _ => ?_)) | (with_reducible refine sim_ite ?_ ?_) | (with_reducible refine sim_forA (fun _ _ => ?_) _ _) | (with_reducible refine sim_forR (fun _ _ => ?_) _ _) | (with_reducible refine sim_mapA (fun _ => ?_) _) | (with_reducible refine sim_foldL (fun _ _ => ?_) _ _) | split | dsimp only))
theorem sim_receiverVia (t : TypeId) (v : Value) (p : Array FieldStep) (b : Bool) : Sim (bar P F) P (receiverVia t v p b) := by unfold receiverVia; (repeat' (first | (with_reducible (first | exact sim_receiverAt _ _ _ _ | exact sim_follow _ _ _ | exact sim_nilChk _ _ _ | exact sim_get _ _ | exact sim_loadAt _ _ | exact sim_storeAt _ _ _ | exact sim_fieldAt _ _ _ | exact sim_indexAt _ _ _ | exact sim_index _ _ _ | exact sim_field _ _ _ | exact sim_extract _ _ | exact sim_makeFunc _ _ _ | exact sim_makeInterface _ _ | exact sim_sliceAt _ _ _ _ _ | exact sim_arrayAt _ _ | exact sim_makeSlice _ _ _ | exact sim_slice _ _ _ _ _ | exact sim_sliceBounds _ _ _ _ _ _ | exact sim_sliceBound _ _ _ | exact sim_alloc _ _ _ | exact sim_box _ _ | exact sim_build _ _ | exact sim_buildSlice _ _ _ | exact sim_sureAddr _ | exact sim_append _ _ _ | exact sim_copy _ _ _ | exact sim_len _ _ _ | exact sim_cap _ _ _ | exact sim_max _ _ _ | exact sim_min _ _ _ | exact sim_real _ _ _ | exact sim_imag _ _ _ | exact sim_complex _ _ _ | exact sim_binOp _ _ _ _ | exact sim_eqGuard _ _ _ _ _ _ | exact sim_lenOf _ | exact sim_firstCells _ _ _ | exact sim_addrSub _ _ _ | exact sim_addrCmp _ _ _ | exact sim_addrMod _ _ _ | exact sim_movedNumber _ _ _ | exact sim_movedPointer _ _ _ | exact sim_twoPlaces _ _ | exact sim_asNumber _ _ | exact sim_unsafeAdd _ _ _ | exact sim_shift _ _ _ _ _ | exact sim_intArith _ _ _ _ | exact sim_intDiv _ _ _ _ | exact sim_intBits _ _ _ _ | exact sim_intCmp _ _ _ | exact sim_complexOp _ _ _ _ _ _ | exact sim_stringOp _ _ _ | exact sim_unary _ _ | exact sim_quotient _ _ _ _ | exact sim_product _ _ _ _ | exact sim_corrected _ _ _ _ _ | exact sim_carith _ _ _ _ | exact sim_ccmp _ _ _ _ | exact sim_cconv _ _ _ | exact sim_cadd _ _ | exact sim_csub _ _ | exact sim_cmul _ _ | exact sim_cquo _ _ | exact sim_floatArith _ _ _ _ | exact sim_floatCmp _ _ _ _ | exact sim_floatToFloat _ _ _ | exact sim_equal _ _ _ | exact sim_eqGuardIn _ _ _ _ | exact sim_samePointer _ _ | exact sim_sameAddr _ _ | exact sim_mayBeOne _ _ | exact sim_fieldPlace _ _ | exact sim_partAt _ _ _ | exact sim_byteOf _ | exact sim_noView _ | exact sim_behindNumber _ | exact sim_asAddr _ | exact sim_boundsPanic _ _ _ _ | exact sim_askRoom _ | exact sim_numberAt _ | exact sim_runtimePanic _ | exact sim_asInt _ | exact sim_loadVar _ _ | exact sim_storeVar _ _ _ | exact sim_part _ _ _ | exact sim_typeStr _ | exact sim_zeroValue _ | exact sim_sizeOf _ | exact sim_isAgg _ | exact sim_asIntOf _ | exact sim_asBool _ | exact sim_asString _ | exact sim_asAgg _ | exact sim_elemOf _ | exact sim_newRow _ _ | exact sim_newVar _ _ | exact sim_loadCells _ _ | exact sim_storeCells _ _ _ | exact sim_pure' _ | exact sim_stuck _ | exact sim_noEntry _ | exact sim_resource _ | exact sim_rawOp _ | exact sim_observed | exact sim_goPanic _ | exact sim_halt _ | exact sim_load' _ _ | exact sim_store' _ _ _ | exact sim_newCells _ _ | exact sim_frozen' _ | exact sim_choose' _ | exact sim_typeInfo _ | exact sim_underlying _)) | (with_reducible assumption) | ((with_reducible refine sim_prog ?_ ?_); (first | (simp only [types_bar, globals_bar, info_bar, under_bar, depth_bar, packed_bar, held_bar, guard_bar]; done) | rfl)) | ((with_reducible refine sim_getThen ?_ (fun _ => ?_)); focus (intros; trivial)) | (with_reducible refine sim_bind ?_ (fun _ => ?_)) | (with_reducible refine sim_ite ?_ ?_) | (with_reducible refine sim_forA (fun _ _ => ?_) _ _) | (with_reducible refine sim_forR (fun _ _ => ?_) _ _) | (with_reducible refine sim_mapA (fun _ => ?_) _) | (with_reducible refine sim_foldL (fun _ _ => ?_) _ _) | split | dsimp only))
theorem sim_method : ∀ (n : Nat) (t : TypeId) (v : Value) (name : String), Sim (bar P F) P (method n t v name)
  | 0, _, _, _ => sim_unsupported _
  | n + 1, t, v, name => by
    have ih : ∀ t v name, Sim (bar P F) P (method n t v name) := sim_method n
    unfold method
    refine sim_bind (sim_typeInfo _) fun i => ?_
    split
    · refine sim_bind (sim_follow _ _ _) fun r => ?_
      dsimp only
      split
      · refine sim_bind (sim_get _ _) fun _ => ?_
        split
        · exact ih _ _ _
        · exact sim_runtimePanic _
        · exact sim_stuck _
      · exact sim_bind (sim_receiverAt _ _ _ _) fun _ => sim_pure _
    · exact sim_stuck _
theorem sim_followBlind : ∀ (l : List FieldStep) (t : TypeId) (x : Option Value), Sim (bar P F) P (followBlind l t x)
  | [], _, _ => sim_pure _
  | s :: rest, t, x => by
    have ih : ∀ t x, Sim (bar P F) P (followBlind rest t x) := sim_followBlind rest
    unfold followBlind
    refine sim_bind (sim_underlying _) fun u => ?_
    split
    · split
      · split
        · exact sim_pure _
        · exact ih _ _
        · exact sim_stuck _
        · exact sim_pure _
        · exact sim_bind (sim_part _ _ _) fun _ => ih _ _
        · exact sim_stuck _
        · exact ih _ _
      · exact sim_stuck _
    · exact sim_stuck _
theorem sim_nilAhead : ∀ (n : Nat) (t : TypeId) (v : Value) (name : String), Sim (bar P F) P (nilAhead n t v name)
  | 0, _, _, _ => sim_pure _
  | n + 1, t, v, name => by
    have ih : ∀ t v name, Sim (bar P F) P (nilAhead n t v name) := sim_nilAhead n
    unfold nilAhead
    refine sim_bind (sim_typeInfo _) fun i => ?_
    split
    · refine sim_bind (sim_followBlind _ _ _) fun r => ?_
      split
      · exact sim_pure _
      · split
        · exact ih _ _ _
        · exact sim_pure _
        · exact sim_stuck _
        · exact sim_pure _
        · exact sim_pure _
        · refine sim_bind (sim_underlying _) fun u => ?_
          split <;> exact sim_pure _
    · exact sim_stuck _

/-- F's functions are P's, or barred; and those without a body are veiled too. -/
structure FenceB (P : Program) (F : Array Func) : Prop where
  fn : ∀ f : FuncId, F[f]? = P.funcs[f]? ∨ ∃ fn, F[f]? = some fn ∧ fn.body = none ∧ (fn.name == "runtime.NumGoroutine") = false ∧ Extern.findNext fn = none ∧ Extern.find fn = none ∧ (fn.name.endsWith ".init" && !fn.name.startsWith "(" && !fn.name.startsWith "gosem.") = false
  num : ∀ (f : FuncId) (fn : Func), F[f]? = some fn → (fn.name == "runtime.NumGoroutine") = false
  same : ∀ f : FuncId, (F[f]?).map (fun fn => (fn.norace, fn.results)) = (P.funcs[f]?).map (fun fn => (fn.norace, fn.results))
  ext : ∀ (f : FuncId) (fn : Func), F[f]? = some fn → fn.body = none → Extern.findNext fn = none ∧ ∀ e, Extern.find fn = some e → ∀ [Inhabited Junk] (args : Array Value), Sim (bar P F) P (e args)

theorem q_prog {α : Type} {k : Program → Sem α} {Q : α → Prop} (hk : k (bar P F) = k P) (h : SimQ (bar P F) P (k P) Q) : SimQ (bar P F) P (program >>= k) Q := by
  intro V w v es hs
  show At P V ((k (bar P F)).runT (bar P F) w es) ((k P).runT P v es) es w v Q
  rw [hk]
  exact h V w v es hs
theorem q_ite {α : Type} {c : Prop} [Decidable c] {a b : Sem α} {Q : α → Prop} (ha : SimQ (bar P F) P a Q) (hb : SimQ (bar P F) P b Q) : SimQ (bar P F) P (if c then a else b) Q := by split <;> assumption
theorem q_bad {α : Type} {s : Sem α} {Q : α → Prop} (h : ∀ w es, Bad (s.runT (bar P F) w es).1) : SimQ (bar P F) P s Q := fun _ w _ es _ => .inl (h w es)
theorem q_stuck {α : Type} {Q : α → Prop} (s : String) : SimQ (bar P F) P (stuck s : Sem α) Q := q_bad fun _ _ => trivial
theorem q_unsupported {α : Type} {Q : α → Prop} (u : Unsupported) (hu : notInit u := by trivial) : SimQ (bar P F) P (unsupported u : Sem α) Q := q_bad fun w _ => bad_uns hu w
/-- What follows a run that answers anything. -/
theorem q_then {α β : Type} {x : Sem α} {f : α → Sem β} {Q : β → Prop} (hx : Sim (bar P F) P x) (hf : ∀ a, SimQ (bar P F) P (f a) Q) : SimQ (bar P F) P (x >>= f) Q := q_bind (R := fun _ => True) (q_of hx fun _ => trivial) fun a _ => hf a
theorem q_panics {α : Type} {Q : α → Prop} (e : RuntimeError) : SimQ (bar P F) P (runtimePanic e : Sem α) Q := by
  have h : ∀ (p : Program) (w : World) (es : Array Event) (a : α) (w' : World), ((runtimePanic e : Sem α).runT p w es).1 ≠ .ok a w' := by
    intro p w es a w' hh
    cases e <;> first | (cases hh; done) | skip
    all_goals
      revert hh
      unfold runtimePanic
      simp only [program, bind, Sem.bind, Sem.runT, Sem.runT_bind']
      generalize (elemOf _).runT p w es = R
      obtain ⟨r, es1⟩ := R
      cases r with
      | halt x w1 => intro hh; cases hh
      | ok t w1 => intro hh; cases hh
  exact q_none (sim_runtimePanic e) fun w es a w' => h _ w es a w'
theorem q_callFunc (hF : FenceB P F) (f : FuncId) (args : Array Value) : SimQ (bar P F) P (callFunc f args) (okNext P F) := by
  unfold callFunc
  rcases hF.fn f with h | ⟨fn, h, hb, hn, h1, h2, h3⟩
  · refine q_prog ?_ ?_
    · show (match F[f]? with | none => _ | some fn => _) = _
      rw [h]
      cases P.funcs[f]? <;> rfl
    · rw [← h]
      cases hf : F[f]? with
      | none => exact q_stuck _
      | some fn =>
        dsimp only
        simp only [hF.num f fn hf]
        cases hb : fn.body with
        | some c => exact q_pure ⟨fn, c, hf, h ▸ hf, hb⟩
        | none =>
          obtain ⟨e1, e2⟩ := hF.ext f fn hf hb
          simp only [Option.isNone_none, if_true]
          refine q_then (sim_mark (.inl ⟨f, rfl⟩) (sim_pure _)) fun _ => ?_
          simp only [e1]
          show SimQ (bar P F) P (match Extern.find fn with | some e => _ | none => _) _
          cases he : Extern.find fn with
          | some e => exact q_then (e2 e he args) fun _ => q_pure trivial
          | none => exact q_ite (q_pure trivial) (q_unsupported _)
  · refine q_bad fun w es => ?_
    show Bad ((match F[f]? with | none => _ | some fn => _ : Sem Next).runT (bar P F) w es).1
    rw [h]
    simp only [hn, hb, h1, h2, h3]
    trivial
end Go.Proofs.Ythbghcebcahlnaa

set_option linter.unusedSectionVars false
set_option linter.unusedSimpArgs false
namespace Go.Proofs.Ythbghcebcahlnaa
open Go
variable {P : Program} {F : Array Func} [Inhabited Junk]

theorem sim_setObj' (r : Nat) (o : Obj) (h : okObj P o) : Sim (bar P F) P (setObj r o) := sim_setObj h (sim_pure _)
theorem q_getLoop (l : Nat) : SimQ (bar P F) P (Instr.getLoop l) (okLoop P) := by
  unfold Instr.getLoop
  refine sim_getObj (fun o ho => ?_) fun x t o ho => .inl fun _ _ => trivial
  cases o <;> first | exact q_pure ho | exact q_stuck _
theorem sim_setLoop (l : Nat) (r : Loop) (h : okLoop P r) : Sim (bar P F) P (setObj l (.loop r)) := sim_setObj' _ _ h
theorem q_enterLoop (fn : FuncId) (tmps : Array Value) (params : Array Tmp) (assign body : Code) (around : Option Nat) (ha : okCode P assign = true) (hb : okCode P body = true) : SimQ (bar P F) P (Instr.enterLoop fn tmps params assign body around) fun r => ∀ d ∈ r.2, okTarget d.target = true := by
  have hl : ∀ (n : Nat), okObj P (.loop { state := .ready, pending := none, fn, tmps, params, assign, body, defers := n }) := fun n => ⟨ha, hb, fun c h => by cases h⟩
  unfold Instr.enterLoop
  cases around with
  | some l => exact q_then (q_getLoop _).sim fun r => q_bind (R := fun x => ∀ d ∈ x.2, okTarget d.target = true) (q_pure (by simp)) fun x hx => q_then (sim_new (hl _) fun _ => sim_pure _) fun _ => q_pure hx
  | none => exact q_then (sim_new (fun d h => by cases h) fun _ => sim_pure _) fun r => q_bind (R := fun x => ∀ d ∈ x.2, okTarget d.target = true) (q_pure (by simp [okTarget])) fun x hx => q_then (sim_new (hl _) fun _ => sim_pure _) fun _ => q_pure hx
theorem q_yield (l : Nat) (args : Array Value) : SimQ (bar P F) P (Instr.yield l args) (okNext P F) :=
  q_bind (q_getLoop _) fun _ hr => q_ite (q_then (sim_stuck _) fun _ => q_pure ⟨hr.1, hr.2.1⟩) (q_pure ⟨hr.1, hr.2.1⟩)
theorem sim_beginRound (l : Nat) : Sim (bar P F) P (Instr.beginRound l) := by
  unfold Instr.beginRound
  refine SimQ.sim (Q := fun _ => True) (q_bind (q_getLoop l) fun r hr => q_then (sim_setLoop l { r with state := .busy } hr) fun _ => q_of ?_ fun _ => trivial)
  cases r.state <;> first | exact sim_pure _ | exact sim_runtimePanic _
theorem sim_endRound (l : Nat) (j : Option Code) (hj : ∀ c, j = some c → okCode P c = true) : Sim (bar P F) P (Instr.endRound l j) :=
  SimQ.sim (Q := fun _ => True) (q_bind (q_getLoop l) fun r hr => q_then (sim_setLoop l { r with state := if j.isNone then .ready else .done, pending := j } ⟨hr.1, hr.2.1, hj⟩) fun _ => q_pure trivial)
theorem q_endLoop (l : Nat) : SimQ (bar P F) P (Instr.endLoop l) fun j => ∀ c, j = some c → okCode P c = true :=
  q_bind (q_getLoop _) fun _ hr => q_ite (q_then (sim_runtimePanic _) fun _ => q_then (sim_setLoop _ _ ⟨hr.1, hr.2.1, hr.2.2⟩) fun _ => q_pure hr.2.2) (q_then (sim_setLoop _ _ ⟨hr.1, hr.2.1, hr.2.2⟩) fun _ => q_pure hr.2.2)
theorem q_takeDeferred (b : Nat) : SimQ (bar P F) P (Instr.takeDeferred b) fun ds => ∀ d ∈ ds, okTarget d.target = true := by
  unfold Instr.takeDeferred
  refine sim_getObj (fun o ho => ?_) fun x t o ho => .inl fun _ _ => trivial
  rcases o with _ | _ | _ | _ | _ | _ | _ | _ | _ | ds | _ | _
  case deferred =>
    cases ds with
    | some ds =>
      show SimQ (bar P F) P (setObj b (.deferred none) >>= fun _ => pure ds) _
      exact q_then (sim_setObj' _ _ trivial) fun _ => q_pure ho
    | none => exact q_stuck _
  all_goals exact q_stuck _
theorem q_v {s : Sem Value} (h : Sim (bar P F) P s) : SimQ (bar P F) P (do pure (.value (← s)) : Sem Next) (okNext P F) := q_then h fun _ => q_pure trivial
theorem q_u {s : Sem Unit} (h : Sim (bar P F) P s) : SimQ (bar P F) P (do s; pure .skip : Sem Next) (okNext P F) := q_then h fun _ => q_pure trivial
theorem q_builtin (b : Builtin) (h : okBuiltin b = true) (ts : Array TypeId) (t : TypeId) (c : Array Bool) (args : Array Value) : SimQ (bar P F) P (builtin b ts t c args) (okNext P F) := by
  cases b <;> first
    | (cases h; done)
    | exact q_v (sim_append _ _ _) | exact q_v (sim_cap _ _ _) | exact q_v (sim_complex _ _ _) | exact q_v (sim_copy _ _ _) | exact q_v (sim_imag _ _ _) | exact q_v (sim_len _ _ _)
    | exact q_v (sim_max _ _ _) | exact q_v (sim_min _ _ _) | exact q_v (sim_real _ _ _) | exact q_pure trivial
theorem q_callMethod (hF : FenceB P F) (recv : Value) (name : String) (args : Array Value) : SimQ (bar P F) P (callMethod recv name args) (okNext P F) := by
  unfold callMethod
  split
  · exact q_prog rfl (q_then (sim_method _ _ _ _) fun _ => q_callFunc hF _ _)
  · exact q_panics _
  · exact q_stuck _
theorem q_invoke (hF : FenceB P F) (t : Target) (ht : okTarget t = true) (args : Array Value) : SimQ (bar P F) P (invoke t args) (okNext P F) := by
  unfold invoke
  split
  · exact q_panics _
  · exact q_builtin _ ht _ _ _ _
  · exact q_callFunc hF _ _
  · split
    · exact q_callMethod hF _ _ _
    · exact q_stuck _
  · split
    · refine q_then (sim_underlying _) fun u => ?_
      dsimp only
      exact q_callMethod hF _ _ _
    · exact q_stuck _
  · split
    · exact q_then (sim_receiverVia _ _ _ _) fun _ => q_callFunc hF _ _
    · exact q_stuck _
  · exact q_yield _ _
  · exact q_stuck _
  · cases ht
theorem q_resolve (ρ : Operand → Value) (c : Call) (t : TypeId) (hc : okCall c = true) : SimQ (bar P F) P (resolve ρ c t) fun d => okTarget d.target = true := by
  unfold resolve
  unfold okCall at hc
  cases he : c.callee with
  | builtin b =>
    rw [he] at hc
    exact q_pure hc
  | invoke recv name => exact q_pure rfl
  | value f =>
    show SimQ (bar P F) P (Deferred.ofValue (ρ f) (c.args.map ρ)) _
    cases hv : ρ f <;> first | exact q_pure rfl | exact q_stuck _
theorem settings_none : Instr.readSettings "panicnil" .empty (Instr.readSettings "panicnil" "".toUTF8 0) = 0 := by decide
theorem sim_panic (x : Value) : Sim (bar P F) P (Instr.panic x) := by
  cases x <;> first | exact sim_stuck _ | exact sim_goPanic _ | skip
  intro V w v es h
  left
  have e1 : w.sys .env = (.strings #[], w) := by
    have : Kernel.perform .env w.os = .done (.strings w.os.env, w.os) := rfl
    unfold World.sys
    rw [this, h.env]
    rfl
  have e2 : ∀ es, Instr.panicnil.runT (bar P F) w es = (.ok 0 w, es.push ⟨.output, true, false⟩) := by
    intro es
    show ((match (w.sys .env).1 with
      | .strings env => (program >>= fun p => pure (Instr.readSettings "panicnil" (((env.find? fun s => s.extract 0 "GODEBUG=".toUTF8.size == "GODEBUG=".toUTF8).map fun s => s.extract "GODEBUG=".toUTF8.size s.size).getD .empty) (Instr.readSettings "panicnil" p.godebug.toUTF8 0)))
      | _ => stuck "strings expected" : Sem Int).runT (bar P F) (w.sys .env).2 (es.push ⟨.output, true, false⟩)) = _
    rw [e1]
    show (Result.ok (Instr.readSettings "panicnil" .empty (Instr.readSettings "panicnil" "".toUTF8 0)) w, _) = _
    rw [settings_none]
  show Bad ((Instr.panicnil.bind fun n => if (n == 1) = true then goPanic .nilIface else runtimePanic .panicNil).runT (bar P F) w es).1
  rw [Sem.runT_bind', e2]
  exact bad_panicNil _ _
theorem q_execOp (hF : FenceB P F) (ρ : Operand → Value) (o : Oper) (h : okOp P o.op = true) : SimQ (bar P F) P (execOp ρ o) (okNext P F) := by
  obtain ⟨dst, op, type, pos, after, guard⟩ := o
  cases op with
  | move x => exact q_pure trivial
  | assign x => exact q_pure trivial
  | pick c a b => exact q_then (sim_asBool _) fun _ => q_pure trivial
  | alloc e => exact q_v (sim_alloc _ _ _)
  | box e v => exact q_v (sim_box _ _)
  | build t ps => exact q_v (sim_build _ _)
  | buildSlice t n ps => exact q_v (sim_buildSlice _ _ _)
  | load t a => exact q_v (sim_loadAt _ _)
  | store t a x => exact q_u (sim_storeAt _ _ _)
  | nilCheck x =>
    unfold execOp
    dsimp only
    split
    · exact q_panics _
    · exact q_panics _
    · exact q_panics _
    · split
      · exact q_panics _
      · refine q_prog rfl (q_then (sim_nilAhead _ _ _ _) fun _ => q_ite (q_then (sim_unsupported _) fun _ => q_pure trivial) (q_pure trivial))
      · exact q_pure trivial
    · exact q_pure trivial
  | binOp op t x y u => exact q_v (sim_bind (sim_eqGuard _ _ _ _ _ _) fun _ => sim_binOp _ _ _ _)
  | unOp op t x => exact q_v (sim_unary _ _)
  | convert s d x =>
    have h' : ((P.underlying s).any isNumT && (P.underlying d).any isNumT) = true := h
    rw [Bool.and_eq_true] at h'
    exact q_v (sim_convert _ _ _ h'.1 h'.2)
  | sliceToArrayPointer t x => exact q_v (sim_arrayAt _ _)
  | makeInterface t x => exact q_v (sim_makeInterface _ _)
  | makeFunc f a b => exact q_v (sim_makeFunc _ _ _)
  | makeSlice t l c => exact q_v (sim_makeSlice _ _ _)
  | slice t x l h m => exact q_v (sim_sliceAt _ _ _ _ _)
  | fieldAddr t x f => exact q_v (sim_fieldAt _ _ _)
  | field t x f => exact q_v (sim_field _ _ _)
  | indexAddr t x i => exact q_v (sim_indexAt _ _ _)
  | index t x i => exact q_v (sim_index _ _ _)
  | extract t i => exact q_v (sim_extract _ _)
  | call c => exact q_bind (q_resolve ρ c type h) fun d hd => q_invoke hF _ hd _
  | panic x => exact q_v (sim_panic _)
  | _ => cases h
end Go.Proofs.Ythbghcebcahlnaa

set_option linter.unusedSectionVars false
namespace Go.Proofs.Ythbghcebcahlnaa
open Go
variable {P : Program} {F : Array Func} [Inhabited Junk]

def okFrame (P : Program) (fr : Frame) : Prop := (∀ i ∈ fr.todo, okItem P i = true) ∧ ∀ d ∈ fr.defers, okTarget d.target = true
/-- The frame that nothing may come back to. -/
def baseF (r : Nat) : Frame := { fn := 0, tmps := #[], todo := [.code (.refuse "")], defers := [{ target := .fn (.func r) #[], args := #[] }], mode := .run, kind := .normal }
def runG (fr : Frame) (cs : List Frame) : Goroutine := { frame := fr, callers := cs, status := .running, dying := none }

/-- What a step over the barred program, from w, says of the same step over the program, from v. -/
def Moves (P : Program) (V : Nat → Prop) (r : Nat) (cs : List Frame) (w v : World) (S : GStep) (x : GStep) : Prop :=
  (∃ o w1 es, x = .ended o w1 es) ∨
  (∃ fr w1 es, fr.todo = [.code (.refuse "")] ∧ fr.defers = [{ target := .fn (.func r) #[], args := #[] }] ∧ (∃ v', Sib P V w1 v') ∧ x = .go (runG fr []) w1 es) ∨
  ∃ fr up w1 es, w1.tape = w.tape ∧ w.drawn ≤ w1.drawn ∧ okFrame P fr ∧ (∀ f ∈ up, okFrame P f) ∧ (∀ e ∈ es, Fine V e) ∧ (w.heap.size ≤ w1.heap.size ∧ ∀ e ∈ es, evB e ≤ w1.heap.size) ∧
    (AgrT w (w1.drawn - w.drawn) v → ∃ v', S = .go (runG fr (up ++ cs)) v' es ∧ Sib P V w1 v' ∧ v'.os = v.os ∧ v'.output = v.output ∧ v'.tape = v.tape ∧ v'.drawn = v.drawn + (w1.drawn - w.drawn) ∧ ∀ x, V x → v'.heap[x]? = v.heap[x]?) ∧
    x = .go (runG fr (up ++ [baseF r])) w1 es
section
variable {V : Nat → Prop} {r : Nat} {cs : List Frame} {w v : World} {S : GStep}
theorem Moves.ended {o : Outcome} {w1 : World} {es : Array Event} : Moves P V r cs w v S (.ended o w1 es) := Or.inl ⟨o, w1, es, rfl⟩
theorem Moves.base {fr : Frame} {w1 : World} {es : Array Event} (h : fr.todo = [.code (.refuse "")]) (hd : fr.defers = [{ target := .fn (.func r) #[], args := #[] }]) (hs : ∃ v', Sib P V w1 v') : Moves P V r cs w v S (.go (runG fr []) w1 es) := Or.inr (Or.inl ⟨fr, w1, es, h, hd, hs, rfl⟩)
theorem Moves.go {fr : Frame} {up : List Frame} {w1 : World} {es : Array Event} (ht : w1.tape = w.tape) (hl : w.drawn ≤ w1.drawn) (hf : okFrame P fr) (hu : ∀ f ∈ up, okFrame P f) (he : ∀ e ∈ es, Fine V e) (hz : w.heap.size ≤ w1.heap.size ∧ ∀ e ∈ es, evB e ≤ w1.heap.size)
    (hS : AgrT w (w1.drawn - w.drawn) v → ∃ v', S = .go (runG fr (up ++ cs)) v' es ∧ Sib P V w1 v' ∧ v'.os = v.os ∧ v'.output = v.output ∧ v'.tape = v.tape ∧ v'.drawn = v.drawn + (w1.drawn - w.drawn) ∧ ∀ x, V x → v'.heap[x]? = v.heap[x]?) :
    Moves P V r cs w v S (.go (runG fr (up ++ [baseF r])) w1 es) := Or.inr (Or.inr ⟨fr, up, w1, es, ht, hl, hf, hu, he, hz, hS, rfl⟩)
end
theorem mv_go {V : Nat → Prop} {r : Nat} {cs up : List Frame} {w v : World} {fr : Frame} (hs : Sib P V w v) (hf : okFrame P fr) (hu : ∀ f ∈ up, okFrame P f) : Moves P V r cs w v (.go (runG fr (up ++ cs)) v) (.go (runG fr (up ++ [baseF r])) w) :=
  .go rfl (Nat.le_refl _) hf hu (by simp) ⟨Nat.le_refl _, by simp⟩ fun _ => ⟨v, rfl, hs, rfl, rfl, rfl, by simp, fun _ _ => rfl⟩

theorem seen_bar (hF : FenceB P F) (fn : FuncId) (es : Array Event) : seen (bar P F) fn es = seen P fn es := by
  have e : ∀ f : FuncId, ((bar P F).funcs[f]?).any (·.norace) = (P.funcs[f]?).any (·.norace) := by
    intro f
    have h := hF.same f
    show (F[f]?).any (·.norace) = _
    cases h1 : F[f]? <;> cases h2 : P.funcs[f]? <;> rw [h1, h2] at h <;> simp at h ⊢
    exact h.1
  unfold seen
  simp only [e]
theorem seen_sub (p : Program) (fn : FuncId) (es : Array Event) (e : Event) (h : e ∈ seen p fn es) : e ∈ es := by
  have key : ∀ (q0 : FuncId → Bool) (l : List Event) (q : Bool) (kept : Array Event), e ∈ (l.foldl (fun (x : Bool × Array Event) e => match e.loc with | .mark (.extern f) => (q0 f, x.2) | _ => (x.1, if x.1 && !e.sync then x.2 else x.2.push e)) (q, kept)).2 → e ∈ kept ∨ e ∈ l := by
    intro q0 l
    induction l with
    | nil => intro q kept h; exact .inl h
    | cons a l ih =>
      intro q kept h
      rw [List.foldl_cons] at h
      have : ∃ q' kept', (match a.loc with | .mark (.extern f) => (q0 f, kept) | _ => (q, if q && !a.sync then kept else kept.push a)) = (q', kept') ∧ ∀ x ∈ kept', x ∈ kept ∨ x = a := by
        split
        · exact ⟨_, _, rfl, fun x hx => .inl hx⟩
        · refine ⟨_, _, rfl, fun x hx => ?_⟩
          split at hx
          · exact .inl hx
          · exact Array.mem_push.mp hx
      obtain ⟨q', kept', e1, e2⟩ := this
      simp only [e1] at h
      rcases ih q' kept' h with h | h
      · rcases e2 e h with h | rfl
        · exact .inl h
        · exact .inr (List.mem_cons_self ..)
      · exact .inr (List.mem_cons_of_mem _ h)
  unfold seen at h
  dsimp only at h
  rw [← Array.foldl_toList] at h
  rcases key _ es.toList _ #[] h with h | h
  · simp at h
  · exact Array.mem_toList_iff.mp h

theorem ok_finish {fr : Frame} (h : okFrame P fr) (x : Value) : okFrame P (fr.finish x) := by
  obtain ⟨h1, h2⟩ := h
  unfold Frame.finish
  split
  all_goals
    rename_i e
    first | (rw [e] at h1) | skip
    refine ⟨fun i hi => ?_, h2⟩
  · rcases List.mem_cons.mp hi with rfl | hi
    · have := h1 _ (List.mem_cons_self ..)
      exact this
    · exact h1 _ (List.mem_cons_of_mem _ hi)
  · rcases List.mem_cons.mp hi with rfl | hi
    · rfl
    · exact h1 _ (List.mem_cons_of_mem _ hi)
  · exact h1 _ (List.mem_cons_of_mem _ hi)
  · exact absurd (h1 _ (List.mem_cons_self ..)) (by simp [okItem])
  · exact absurd (h1 _ (List.mem_cons_self ..)) (by simp [okItem])
  · exact h1 _ hi
theorem ok_raise {fr : Frame} (h : okFrame P fr) (c : List PanicEntry) : okFrame P (fr.raise c) := by
  unfold Frame.raise
  split <;> exact h
theorem ok_tail {fr : Frame} {i : Item} {k : List Item} (h : okFrame P fr) (e : fr.todo = i :: k) : (okItem P i = true) ∧ ∀ j ∈ k, okItem P j = true := by
  obtain ⟨h1, _⟩ := h
  rw [e] at h1
  exact ⟨h1 _ (List.mem_cons_self ..), fun j hj => h1 _ (List.mem_cons_of_mem _ hj)⟩

theorem moves_after {V : Nat → Prop} {r : Nat} {cs : List Frame} {w v : World} {S S0 : GStep} {es : Array Event} (h : Moves P V r cs w v S S0) (he : ∀ e ∈ es, Fine V e ∧ evB e ≤ w.heap.size) : Moves P V r cs w v (S.after es) (S0.after es) := by
  rcases h with ⟨o, w1, es1, rfl⟩ | ⟨fr, w1, es1, h, hd, hs, rfl⟩ | ⟨fr, up, w1, es1, ht, hl, hf, hu, he', hz, hS, rfl⟩
  · exact .ended
  · exact .base h hd hs
  · refine .go ht hl hf hu (fun e h => ?_) ⟨hz.1, fun e h => ?_⟩ fun hA => ?_
    · rcases Array.mem_append.mp h with h | h
      · exact (he e h).1
      · exact he' e h
    · rcases Array.mem_append.mp h with h | h
      · exact Nat.le_trans (he e h).2 hz.1
      · exact hz.2 e h
    · obtain ⟨v', e, rest⟩ := hS hA
      exact ⟨v', by rw [e]; rfl, rest⟩
/-- A run, and what is made of it. -/
theorem moves_run {α : Type} {V : Nat → Prop} {r : Nat} {cs : List Frame} {w v : World} {S S0 : GStep} {s : Sem α} {Q : α → Prop} (hs : Sib P V w v) (hq : SimQ (bar P F) P s Q)
    (hbad : ∀ x es, s.runT (bar P F) w #[] = (x, es) → Bad x → Moves P V r cs w v S S0)
    (hok : ∀ x es, s.runT (bar P F) w #[] = (x, es) → (∀ a w', x = .ok a w' → Q a) → (∀ h w', x = .halt h w' → ∃ z, h = .panic z) → (∀ fn e, e ∈ seen P fn es → Fine V e ∧ evB e ≤ (wOf x).heap.size) →
      ∃ K : World → GStep, (∀ v', s.runT P v #[] = (putW v' x, es) → S = K v') ∧ ∀ v', Sib P V (wOf x) v' → Moves P V r cs (wOf x) v' (K v') S0) : Moves P V r cs w v S S0 := by
  have h2 : Sib P V w { v with tape := w.tape, drawn := w.drawn } := ⟨hs.size, hs.like, hs.veil, hs.kind, hs.env⟩
  have hx1 := hq V w v #[] hs
  rcases hq V w _ #[] h2 with hb | ⟨hg, gq, gs⟩
  · exact hbad _ _ rfl hb
  · have gsib := (gs fun j q _ => rfl).sib
    have gs1 := (hx1.resolve_left (good_not hg)).2.2
    obtain ⟨K, hK, hM⟩ := hok _ _ rfl gq hg.halt (fun fn e he => (hg.fine e (seen_sub _ _ _ _ he)).resolve_left (by simp))
    by_cases hA : AgrT w ((wOf (s.runT (bar P F) w #[]).1).drawn - w.drawn) v
    · obtain ⟨s1, s2, s3, s4, s5, s6, s7⟩ := gs1 hA
      have hM := hM _ s2
      rw [← hK _ s1] at hM
      have g3 := hg.tape
      have g4 := hg.le
      have g5 := hg.grow
      generalize wOf (s.runT (bar P F) w #[]).1 = w1 at *
      generalize wOf (s.runT P v #[]).1 = v1 at *
      rcases hM with ⟨o, w2, es, rfl⟩ | ⟨fr, w2, es, h, hd, hs, rfl⟩ | ⟨fr, up, w2, es, ht, hl, hf, hu, he, hz, hS, rfl⟩
      · exact .ended
      · exact .base h hd hs
      · refine .go (ht.trans g3) (Nat.le_trans g4 hl) hf hu he ⟨Nat.le_trans g5 hz.1, hz.2⟩ fun hA2 => ?_
        obtain ⟨v', e, t1, t2, t3, t4, t5, t6⟩ := hS (fun j q hj => by
          rw [s5, s6, g3]
          have := hA2 (w1.drawn - w.drawn + j) q (by omega)
          rw [show v.drawn + (w1.drawn - w.drawn) + j = v.drawn + (w1.drawn - w.drawn + j) by omega, this]
          congr 1
          omega)
        exact ⟨v', e, t1, t2.trans s3, t3.trans s4, t4.trans s5, by rw [t5, s6]; omega, fun x hx => (t6 x hx).trans (s7 x hx)⟩
    · have hM := hM _ gsib
      have g3 := hg.tape
      have g4 := hg.le
      have g5 := hg.grow
      generalize wOf (s.runT (bar P F) w #[]).1 = w1 at *
      rcases hM with ⟨o, w2, es, rfl⟩ | ⟨fr, w2, es, h, hd, hs, rfl⟩ | ⟨fr, up, w2, es, ht, hl, hf, hu, he, hz, hS, rfl⟩
      · exact .ended
      · exact .base h hd hs
      · exact .go (ht.trans g3) (Nat.le_trans g4 hl) hf hu he ⟨Nat.le_trans g5 hz.1, hz.2⟩ fun hA2 => absurd (fun j q hj => hA2 j q (by omega)) hA

/-- The good functions' bodies are good. -/
def Bodies (P : Program) (F : Array Func) : Prop := ∀ (f : FuncId) (fn : Func) (c : Code), F[f]? = some fn → fn.body = some c → okCode P c = true

theorem enter_same {f : FuncId} {args : Array Value} (hB : Bodies P F) (h : okNext P F (.enter f args)) (k : CallKind) : Frame.enter (bar P F) f args k = Frame.enter P f args k ∧ okFrame P (Frame.enter P f args k) := by
  obtain ⟨fn, c, g1, g2, g3⟩ := h
  have g4 : (bar P F).funcs[f]? = some fn := g1
  unfold Frame.enter
  rw [g4, g2]
  refine ⟨rfl, fun i hi => ?_, by simp⟩
  have : i = .code c := by simpa [g3] using hi
  subst this
  exact hB f fn c g1 g3
theorem round_ok {l : Nat} {f : FuncId} {tmps : Array Value} {a b : Code} (h : okNext P F (.round l f tmps a b)) (k : CallKind) : okFrame P (Frame.round l f tmps a b k) := by
  refine ⟨fun i hi => ?_, by simp [Frame.round]⟩
  have : i = .code a ∨ i = .beginRound ∨ i = .code b := by simpa [Frame.round] using hi
  rcases this with rfl | rfl | rfl
  · exact h.1
  · rfl
  · exact h.2
theorem ok_more {fr : Frame} {up : List Frame} (hf : okFrame P fr) (hu : ∀ f ∈ up, okFrame P f) : ∀ f ∈ fr :: up, okFrame P f := by
  intro f hf'
  rcases List.mem_cons.mp hf' with rfl | h
  · exact hf
  · exact hu f h
theorem apply_sim (hF : FenceB P F) (hB : Bodies P F) {V : Nat → Prop} {w v : World} (hs : Sib P V w v) {fr : Frame} {up cs : List Frame} {r : Nat} (hf : okFrame P fr) (hu : ∀ f ∈ up, okFrame P f) (s : Sem Next) (hq : SimQ (bar P F) P s (okNext P F)) :
    Moves P V r cs w v (stepG.apply P true fr (up ++ cs) none s v) (stepG.apply (bar P F) true fr (up ++ [baseF r]) none s w) := by
  unfold stepG.apply
  simp only [if_true]
  refine moves_run hs hq (fun x es e hb => ?_) fun x es e ha hh hfine => ⟨fun v' => _, fun v' e' => by rw [e'], fun v' hs' => ?_⟩
  · rw [e]
    cases x with
    | ok a w' => exact hb.elim
    | halt h w' =>
      cases h with
      | unsupported u => cases u <;> first | exact hb.elim | exact .ended
      | stuck s => exact .ended
      | _ => exact hb.elim
  · rw [e]
    have hfine2 : ∀ e ∈ seen P fr.fn (if (fr.kind == CallKind.early) = true then #[] else es), Fine V e ∧ evB e ≤ (wOf x).heap.size := by
      intro e he
      split at he
      · have := seen_sub _ _ _ _ he
        simp at this
      · exact hfine _ e he
    cases x with
    | ok a w' =>
      have ha := ha a w' rfl
      dsimp only [putW, wOf]
      rw [seen_bar hF]
      refine moves_after ?_ hfine2
      cases a with
      | value z => exact mv_go hs' (ok_finish hf _) hu
      | skip => exact mv_go hs' (ok_finish hf _) hu
      | enter f args =>
        dsimp only
        rw [(enter_same hB ha _).1]
        exact mv_go (up := fr :: up) hs' (enter_same hB ha _).2 (ok_more hf hu)
      | round l f tmps assign body => exact mv_go (up := fr :: up) hs' (round_ok ha _) (ok_more hf hu)
      | _ => exact ha.elim
    | halt h w' =>
      obtain ⟨z, rfl⟩ := hh h w' rfl
      dsimp only [putW, wOf]
      rw [seen_bar hF]
      exact moves_after (mv_go hs' (ok_raise hf _) hu) hfine2
end Go.Proofs.Ythbghcebcahlnaa
