/- The veil, of the operations: methods, calls, all that a good program does. -/
import Derived.Test.YthbghcebcahlnaaRH
set_option linter.unusedSectionVars false
set_option linter.unusedSimpArgs false
namespace Go.Proofs.Ythbghcebcahlnaa
open Go
variable {P : Program} {F : Array Func} [Inhabited Junk]

theorem sim_get (t : TypeId) (x : Place) : Sim (bar P F) P (x.get t) := by unfold Place.get; (repeat' (first | (with_reducible (first | exact sim_loadAt _ _ | exact sim_storeAt _ _ _ | exact sim_fieldAt _ _ _ | exact sim_indexAt _ _ _ | exact sim_index _ _ _ | exact sim_field _ _ _ | exact sim_extract _ _ | exact sim_makeFunc _ _ _ | exact sim_makeInterface _ _ | exact sim_sliceAt _ _ _ _ _ | exact sim_arrayAt _ _ | exact sim_makeSlice _ _ _ | exact sim_slice _ _ _ _ _ | exact sim_sliceBounds _ _ _ _ _ _ | exact sim_sliceBound _ _ _ | exact sim_alloc _ _ _ | exact sim_box _ _ | exact sim_build _ _ | exact sim_buildSlice _ _ _ | exact sim_sureAddr _ | exact sim_append _ _ _ | exact sim_copy _ _ _ | exact sim_len _ _ _ | exact sim_cap _ _ _ | exact sim_max _ _ _ | exact sim_min _ _ _ | exact sim_real _ _ _ | exact sim_imag _ _ _ | exact sim_complex _ _ _ | exact sim_binOp _ _ _ _ | exact sim_eqGuard _ _ _ _ _ _ | exact sim_lenOf _ | exact sim_firstCells _ _ _ | exact sim_addrSub _ _ _ | exact sim_addrCmp _ _ _ | exact sim_addrMod _ _ _ | exact sim_movedNumber _ _ _ | exact sim_movedPointer _ _ _ | exact sim_twoPlaces _ _ | exact sim_asNumber _ _ | exact sim_unsafeAdd _ _ _ | exact sim_shift _ _ _ _ _ | exact sim_intArith _ _ _ _ | exact sim_intDiv _ _ _ _ | exact sim_intBits _ _ _ _ | exact sim_intCmp _ _ _ | exact sim_complexOp _ _ _ _ _ _ | exact sim_stringOp _ _ _ | exact sim_unary _ _ | exact sim_quotient _ _ _ _ | exact sim_product _ _ _ _ | exact sim_corrected _ _ _ _ _ | exact sim_carith _ _ _ _ | exact sim_ccmp _ _ _ _ | exact sim_cconv _ _ _ | exact sim_cadd _ _ | exact sim_csub _ _ | exact sim_cmul _ _ | exact sim_cquo _ _ | exact sim_floatArith _ _ _ _ | exact sim_floatCmp _ _ _ _ | exact sim_floatToFloat _ _ _ | exact sim_equal _ _ _ | exact sim_eqGuardIn _ _ _ _ | exact sim_samePointer _ _ | exact sim_sameAddr _ _ | exact sim_mayBeOne _ _ | exact sim_fieldPlace _ _ | exact sim_partAt _ _ _ | exact sim_byteOf _ | exact sim_noView _ | exact sim_behindNumber _ | exact sim_asAddr _ | exact sim_boundsPanic _ _ _ _ | exact sim_askRoom _ | exact sim_numberAt _ | exact sim_runtimePanic _ | exact sim_asInt _ | exact sim_loadVar _ _ | exact sim_storeVar _ _ _ | exact sim_part _ _ _ | exact sim_typeStr _ | exact sim_zeroValue _ | exact sim_sizeOf _ | exact sim_isAgg _ | exact sim_asIntOf _ | exact sim_asBool _ | exact sim_asString _ | exact sim_asAgg _ | exact sim_elemOf _ | exact sim_newRow _ _ | exact sim_newVar _ _ | exact sim_loadCells _ _ | exact sim_storeCells _ _ _ | exact sim_pure' _ | exact sim_stuck _ | exact sim_noEntry _ | exact sim_resource _ | exact sim_unsafe _ | exact sim_observed | exact sim_goPanic _ | exact sim_halt _ | exact sim_load' _ _ | exact sim_store' _ _ _ | exact sim_newCells _ _ | exact sim_frozen' _ | exact sim_choose' _ | exact sim_typeInfo _ | exact sim_underlying _)) | (with_reducible assumption) | ((with_reducible refine sim_prog ?_ ?_); (first | (simp only [types_bar, globals_bar, info_bar, under_bar, depth_bar, packed_bar, held_bar, guard_bar]; done) | rfl)) | ((with_reducible refine sim_getThen ?_ (fun _ => ?_)); focus (intros; trivial)) | (with_reducible refine sim_bind ?_ (fun _ => ?_)) | (with_reducible refine sim_ite ?_ ?_) | (with_reducible refine sim_forA (fun _ _ => ?_) _ _) | (with_reducible refine sim_forR (fun _ _ => ?_) _ _) | (with_reducible refine sim_mapA (fun _ => ?_) _) | (with_reducible refine sim_foldL (fun _ _ => ?_) _ _) | split | dsimp only))
theorem sim_follow : ∀ (l : List FieldStep) (t : TypeId) (x : Place), Sim (bar P F) P (follow l t x)
  | [], _, _ => sim_pure _
  | s :: rest, t, x => by
    have ih : ∀ t x, Sim (bar P F) P (follow rest t x) := sim_follow rest
    unfold follow
    refine sim_bind (sim_underlying _) fun u => ?_
    split
    · split
      · refine sim_ite (sim_bind (sim_get _ _) fun _ => sim_bind (sim_asAddr _) fun _ => sim_bind (sim_fieldPlace _ _) fun _ => ih _ _) ?_
        split
        · exact sim_bind (sim_fieldPlace _ _) fun _ => ih _ _
        · exact sim_bind (sim_part _ _ _) fun _ => ih _ _
        · exact sim_stuck _
      · exact sim_stuck _
    · exact sim_stuck _
theorem sim_nilChk (ts : Array TypeId) (t : TypeId) (args : Array Value) : Sim (bar P F) P (Builtin.ssaWrapNilChk_ ts t args) := by
  obtain ⟨l⟩ := args
  have body : ∀ (ptr : Value) (a b : ByteArray), Sim (bar P F) P (Builtin.ssaWrapNilChk_ ts t #[ptr, .string a, .string b]) := by
    intro ptr a b
    cases ptr with
    | pointer p =>
      cases p with
      | some a => exact sim_pure _
      | none =>
        refine sim_bind (sim_choose' _) fun _ => ?_
        refine sim_ite (sim_bind (sim_runtimePanic _) fun _ => ?_) ?_
        all_goals
          dsimp only
          (repeat' (first | (with_reducible (first | exact sim_get _ _ | exact sim_loadAt _ _ | exact sim_storeAt _ _ _ | exact sim_fieldAt _ _ _ | exact sim_indexAt _ _ _ | exact sim_index _ _ _ | exact sim_field _ _ _ | exact sim_extract _ _ | exact sim_makeFunc _ _ _ | exact sim_makeInterface _ _ | exact sim_sliceAt _ _ _ _ _ | exact sim_arrayAt _ _ | exact sim_makeSlice _ _ _ | exact sim_slice _ _ _ _ _ | exact sim_sliceBounds _ _ _ _ _ _ | exact sim_sliceBound _ _ _ | exact sim_alloc _ _ _ | exact sim_box _ _ | exact sim_build _ _ | exact sim_buildSlice _ _ _ | exact sim_sureAddr _ | exact sim_append _ _ _ | exact sim_copy _ _ _ | exact sim_len _ _ _ | exact sim_cap _ _ _ | exact sim_max _ _ _ | exact sim_min _ _ _ | exact sim_real _ _ _ | exact sim_imag _ _ _ | exact sim_complex _ _ _ | exact sim_binOp _ _ _ _ | exact sim_eqGuard _ _ _ _ _ _ | exact sim_lenOf _ | exact sim_firstCells _ _ _ | exact sim_addrSub _ _ _ | exact sim_addrCmp _ _ _ | exact sim_addrMod _ _ _ | exact sim_movedNumber _ _ _ | exact sim_movedPointer _ _ _ | exact sim_twoPlaces _ _ | exact sim_asNumber _ _ | exact sim_unsafeAdd _ _ _ | exact sim_shift _ _ _ _ _ | exact sim_intArith _ _ _ _ | exact sim_intDiv _ _ _ _ | exact sim_intBits _ _ _ _ | exact sim_intCmp _ _ _ | exact sim_complexOp _ _ _ _ _ _ | exact sim_stringOp _ _ _ | exact sim_unary _ _ | exact sim_quotient _ _ _ _ | exact sim_product _ _ _ _ | exact sim_corrected _ _ _ _ _ | exact sim_carith _ _ _ _ | exact sim_ccmp _ _ _ _ | exact sim_cconv _ _ _ | exact sim_cadd _ _ | exact sim_csub _ _ | exact sim_cmul _ _ | exact sim_cquo _ _ | exact sim_floatArith _ _ _ _ | exact sim_floatCmp _ _ _ _ | exact sim_floatToFloat _ _ _ | exact sim_equal _ _ _ | exact sim_eqGuardIn _ _ _ _ | exact sim_samePointer _ _ | exact sim_sameAddr _ _ | exact sim_mayBeOne _ _ | exact sim_fieldPlace _ _ | exact sim_partAt _ _ _ | exact sim_byteOf _ | exact sim_noView _ | exact sim_behindNumber _ | exact sim_asAddr _ | exact sim_boundsPanic _ _ _ _ | exact sim_askRoom _ | exact sim_numberAt _ | exact sim_runtimePanic _ | exact sim_asInt _ | exact sim_loadVar _ _ | exact sim_storeVar _ _ _ | exact sim_part _ _ _ | exact sim_typeStr _ | exact sim_zeroValue _ | exact sim_sizeOf _ | exact sim_isAgg _ | exact sim_asIntOf _ | exact sim_asBool _ | exact sim_asString _ | exact sim_asAgg _ | exact sim_elemOf _ | exact sim_newRow _ _ | exact sim_newVar _ _ | exact sim_loadCells _ _ | exact sim_storeCells _ _ _ | exact sim_pure' _ | exact sim_stuck _ | exact sim_noEntry _ | exact sim_resource _ | exact sim_unsafe _ | exact sim_observed | exact sim_goPanic _ | exact sim_halt _ | exact sim_load' _ _ | exact sim_store' _ _ _ | exact sim_newCells _ _ | exact sim_frozen' _ | exact sim_choose' _ | exact sim_typeInfo _ | exact sim_underlying _)) | (with_reducible assumption) | ((with_reducible refine sim_prog ?_ ?_); (first | (simp only [types_bar, globals_bar, info_bar, under_bar, depth_bar, packed_bar, held_bar, guard_bar]; done) | rfl)) | ((with_reducible refine sim_getThen ?_ (fun _ => ?_)); focus (intros; trivial)) | (with_reducible refine sim_bind ?_ (fun _ => ?_)) | (with_reducible refine sim_ite ?_ ?_) | (with_reducible refine sim_forA (fun _ _ => ?_) _ _) | (with_reducible refine sim_forR (fun _ _ => ?_) _ _) | (with_reducible refine sim_mapA (fun _ => ?_) _) | (with_reducible refine sim_foldL (fun _ _ => ?_) _ _) | split | dsimp only))
    | _ => exact sim_stuck _
  rcases l with _ | ⟨x, _ | ⟨y, _ | ⟨z, _ | ⟨u, l⟩⟩⟩⟩
  · exact sim_stuck _
  · exact sim_stuck _
  · exact sim_stuck _
  · cases y <;> first | exact sim_stuck _ | (cases z <;> first | exact sim_stuck _ | exact body _ _ _)
  · exact sim_stuck _
theorem sim_receiverAt (t : TypeId) (x : Place) (b : Bool) (n : Option String) : Sim (bar P F) P (receiverAt t x b n) := by unfold receiverAt; (repeat' (first | (with_reducible (first | exact sim_follow _ _ _ | exact sim_nilChk _ _ _ | exact sim_get _ _ | exact sim_loadAt _ _ | exact sim_storeAt _ _ _ | exact sim_fieldAt _ _ _ | exact sim_indexAt _ _ _ | exact sim_index _ _ _ | exact sim_field _ _ _ | exact sim_extract _ _ | exact sim_makeFunc _ _ _ | exact sim_makeInterface _ _ | exact sim_sliceAt _ _ _ _ _ | exact sim_arrayAt _ _ | exact sim_makeSlice _ _ _ | exact sim_slice _ _ _ _ _ | exact sim_sliceBounds _ _ _ _ _ _ | exact sim_sliceBound _ _ _ | exact sim_alloc _ _ _ | exact sim_box _ _ | exact sim_build _ _ | exact sim_buildSlice _ _ _ | exact sim_sureAddr _ | exact sim_append _ _ _ | exact sim_copy _ _ _ | exact sim_len _ _ _ | exact sim_cap _ _ _ | exact sim_max _ _ _ | exact sim_min _ _ _ | exact sim_real _ _ _ | exact sim_imag _ _ _ | exact sim_complex _ _ _ | exact sim_binOp _ _ _ _ | exact sim_eqGuard _ _ _ _ _ _ | exact sim_lenOf _ | exact sim_firstCells _ _ _ | exact sim_addrSub _ _ _ | exact sim_addrCmp _ _ _ | exact sim_addrMod _ _ _ | exact sim_movedNumber _ _ _ | exact sim_movedPointer _ _ _ | exact sim_twoPlaces _ _ | exact sim_asNumber _ _ | exact sim_unsafeAdd _ _ _ | exact sim_shift _ _ _ _ _ | exact sim_intArith _ _ _ _ | exact sim_intDiv _ _ _ _ | exact sim_intBits _ _ _ _ | exact sim_intCmp _ _ _ | exact sim_complexOp _ _ _ _ _ _ | exact sim_stringOp _ _ _ | exact sim_unary _ _ | exact sim_quotient _ _ _ _ | exact sim_product _ _ _ _ | exact sim_corrected _ _ _ _ _ | exact sim_carith _ _ _ _ | exact sim_ccmp _ _ _ _ | exact sim_cconv _ _ _ | exact sim_cadd _ _ | exact sim_csub _ _ | exact sim_cmul _ _ | exact sim_cquo _ _ | exact sim_floatArith _ _ _ _ | exact sim_floatCmp _ _ _ _ | exact sim_floatToFloat _ _ _ | exact sim_equal _ _ _ | exact sim_eqGuardIn _ _ _ _ | exact sim_samePointer _ _ | exact sim_sameAddr _ _ | exact sim_mayBeOne _ _ | exact sim_fieldPlace _ _ | exact sim_partAt _ _ _ | exact sim_byteOf _ | exact sim_noView _ | exact sim_behindNumber _ | exact sim_asAddr _ | exact sim_boundsPanic _ _ _ _ | exact sim_askRoom _ | exact sim_numberAt _ | exact sim_runtimePanic _ | exact sim_asInt _ | exact sim_loadVar _ _ | exact sim_storeVar _ _ _ | exact sim_part _ _ _ | exact sim_typeStr _ | exact sim_zeroValue _ | exact sim_sizeOf _ | exact sim_isAgg _ | exact sim_asIntOf _ | exact sim_asBool _ | exact sim_asString _ | exact sim_asAgg _ | exact sim_elemOf _ | exact sim_newRow _ _ | exact sim_newVar _ _ | exact sim_loadCells _ _ | exact sim_storeCells _ _ _ | exact sim_pure' _ | exact sim_stuck _ | exact sim_noEntry _ | exact sim_resource _ | exact sim_unsafe _ | exact sim_observed | exact sim_goPanic _ | exact sim_halt _ | exact sim_load' _ _ | exact sim_store' _ _ _ | exact sim_newCells _ _ | exact sim_frozen' _ | exact sim_choose' _ | exact sim_typeInfo _ | exact sim_underlying _)) | (with_reducible assumption) | ((with_reducible refine sim_prog ?_ ?_); (first | (simp only [types_bar, globals_bar, info_bar, under_bar, depth_bar, packed_bar, held_bar, guard_bar]; done) | rfl)) | ((with_reducible refine sim_getThen ?_ (fun _ => ?_)); focus (intros; trivial)) | (with_reducible refine sim_bind ?_ (fun _ => ?_)) | (with_reducible refine sim_ite ?_ ?_) | (with_reducible refine sim_forA (fun _ _ => ?_) _ _) | (with_reducible refine sim_forR (fun _ _ => ?_) _ _) | (with_reducible refine sim_mapA (fun _ => ?_) _) | (with_reducible refine sim_foldL (fun _ _ => ?_) _ _) | split | dsimp only))
theorem sim_receiverVia (t : TypeId) (v : Value) (p : Array FieldStep) (b : Bool) : Sim (bar P F) P (receiverVia t v p b) := by unfold receiverVia; (repeat' (first | (with_reducible (first | exact sim_receiverAt _ _ _ _ | exact sim_follow _ _ _ | exact sim_nilChk _ _ _ | exact sim_get _ _ | exact sim_loadAt _ _ | exact sim_storeAt _ _ _ | exact sim_fieldAt _ _ _ | exact sim_indexAt _ _ _ | exact sim_index _ _ _ | exact sim_field _ _ _ | exact sim_extract _ _ | exact sim_makeFunc _ _ _ | exact sim_makeInterface _ _ | exact sim_sliceAt _ _ _ _ _ | exact sim_arrayAt _ _ | exact sim_makeSlice _ _ _ | exact sim_slice _ _ _ _ _ | exact sim_sliceBounds _ _ _ _ _ _ | exact sim_sliceBound _ _ _ | exact sim_alloc _ _ _ | exact sim_box _ _ | exact sim_build _ _ | exact sim_buildSlice _ _ _ | exact sim_sureAddr _ | exact sim_append _ _ _ | exact sim_copy _ _ _ | exact sim_len _ _ _ | exact sim_cap _ _ _ | exact sim_max _ _ _ | exact sim_min _ _ _ | exact sim_real _ _ _ | exact sim_imag _ _ _ | exact sim_complex _ _ _ | exact sim_binOp _ _ _ _ | exact sim_eqGuard _ _ _ _ _ _ | exact sim_lenOf _ | exact sim_firstCells _ _ _ | exact sim_addrSub _ _ _ | exact sim_addrCmp _ _ _ | exact sim_addrMod _ _ _ | exact sim_movedNumber _ _ _ | exact sim_movedPointer _ _ _ | exact sim_twoPlaces _ _ | exact sim_asNumber _ _ | exact sim_unsafeAdd _ _ _ | exact sim_shift _ _ _ _ _ | exact sim_intArith _ _ _ _ | exact sim_intDiv _ _ _ _ | exact sim_intBits _ _ _ _ | exact sim_intCmp _ _ _ | exact sim_complexOp _ _ _ _ _ _ | exact sim_stringOp _ _ _ | exact sim_unary _ _ | exact sim_quotient _ _ _ _ | exact sim_product _ _ _ _ | exact sim_corrected _ _ _ _ _ | exact sim_carith _ _ _ _ | exact sim_ccmp _ _ _ _ | exact sim_cconv _ _ _ | exact sim_cadd _ _ | exact sim_csub _ _ | exact sim_cmul _ _ | exact sim_cquo _ _ | exact sim_floatArith _ _ _ _ | exact sim_floatCmp _ _ _ _ | exact sim_floatToFloat _ _ _ | exact sim_equal _ _ _ | exact sim_eqGuardIn _ _ _ _ | exact sim_samePointer _ _ | exact sim_sameAddr _ _ | exact sim_mayBeOne _ _ | exact sim_fieldPlace _ _ | exact sim_partAt _ _ _ | exact sim_byteOf _ | exact sim_noView _ | exact sim_behindNumber _ | exact sim_asAddr _ | exact sim_boundsPanic _ _ _ _ | exact sim_askRoom _ | exact sim_numberAt _ | exact sim_runtimePanic _ | exact sim_asInt _ | exact sim_loadVar _ _ | exact sim_storeVar _ _ _ | exact sim_part _ _ _ | exact sim_typeStr _ | exact sim_zeroValue _ | exact sim_sizeOf _ | exact sim_isAgg _ | exact sim_asIntOf _ | exact sim_asBool _ | exact sim_asString _ | exact sim_asAgg _ | exact sim_elemOf _ | exact sim_newRow _ _ | exact sim_newVar _ _ | exact sim_loadCells _ _ | exact sim_storeCells _ _ _ | exact sim_pure' _ | exact sim_stuck _ | exact sim_noEntry _ | exact sim_resource _ | exact sim_unsafe _ | exact sim_observed | exact sim_goPanic _ | exact sim_halt _ | exact sim_load' _ _ | exact sim_store' _ _ _ | exact sim_newCells _ _ | exact sim_frozen' _ | exact sim_choose' _ | exact sim_typeInfo _ | exact sim_underlying _)) | (with_reducible assumption) | ((with_reducible refine sim_prog ?_ ?_); (first | (simp only [types_bar, globals_bar, info_bar, under_bar, depth_bar, packed_bar, held_bar, guard_bar]; done) | rfl)) | ((with_reducible refine sim_getThen ?_ (fun _ => ?_)); focus (intros; trivial)) | (with_reducible refine sim_bind ?_ (fun _ => ?_)) | (with_reducible refine sim_ite ?_ ?_) | (with_reducible refine sim_forA (fun _ _ => ?_) _ _) | (with_reducible refine sim_forR (fun _ _ => ?_) _ _) | (with_reducible refine sim_mapA (fun _ => ?_) _) | (with_reducible refine sim_foldL (fun _ _ => ?_) _ _) | split | dsimp only))
theorem sim_method : ∀ (n : Nat) (t : TypeId) (v : Value) (name : String), Sim (bar P F) P (method n t v name)
  | 0, _, _, _ => sim_unsupported _
  | n + 1, t, v, name => by
    have ih : ∀ t v name, Sim (bar P F) P (method n t v name) := sim_method n
    unfold method
    refine sim_bind (sim_typeInfo _) fun i => ?_
    split
    · refine sim_bind (sim_follow _ _ _) fun r => ?_
      dsimp only
      split
      · refine sim_bind (sim_get _ _) fun _ => ?_
        split
        · exact ih _ _ _
        · exact sim_runtimePanic _
        · exact sim_stuck _
      · exact sim_bind (sim_receiverAt _ _ _ _) fun _ => sim_pure _
    · exact sim_stuck _
theorem sim_followBlind : ∀ (l : List FieldStep) (t : TypeId) (x : Option Value), Sim (bar P F) P (followBlind l t x)
  | [], _, _ => sim_pure _
  | s :: rest, t, x => by
    have ih : ∀ t x, Sim (bar P F) P (followBlind rest t x) := sim_followBlind rest
    unfold followBlind
    refine sim_bind (sim_underlying _) fun u => ?_
    split
    · split
      · split
        · exact sim_pure _
        · exact ih _ _
        · exact sim_stuck _
        · exact sim_pure _
        · exact sim_bind (sim_part _ _ _) fun _ => ih _ _
        · exact sim_stuck _
        · exact ih _ _
      · exact sim_stuck _
    · exact sim_stuck _
theorem sim_nilAhead : ∀ (n : Nat) (t : TypeId) (v : Value) (name : String), Sim (bar P F) P (nilAhead n t v name)
  | 0, _, _, _ => sim_pure _
  | n + 1, t, v, name => by
    have ih : ∀ t v name, Sim (bar P F) P (nilAhead n t v name) := sim_nilAhead n
    unfold nilAhead
    refine sim_bind (sim_typeInfo _) fun i => ?_
    split
    · refine sim_bind (sim_followBlind _ _ _) fun r => ?_
      split
      · exact sim_pure _
      · split
        · exact ih _ _ _
        · exact sim_pure _
        · exact sim_stuck _
        · exact sim_pure _
        · exact sim_pure _
        · refine sim_bind (sim_underlying _) fun u => ?_
          split <;> exact sim_pure _
    · exact sim_stuck _

/-- F's functions are P's, or barred; and those without a body are veiled too. -/
structure FenceB (P : Program) (F : Array Func) : Prop where
  fn : ∀ f : FuncId, F[f]? = P.funcs[f]? ∨ ∃ fn, F[f]? = some fn ∧ fn.body = none ∧ (fn.name == "runtime.NumGoroutine") = false ∧ Extern.findNext fn = none ∧ Extern.find fn = none ∧ (fn.name.endsWith ".init" && !fn.name.startsWith "(" && !fn.name.startsWith "gosem.") = false
  num : ∀ (f : FuncId) (fn : Func), F[f]? = some fn → (fn.name == "runtime.NumGoroutine") = false
  same : ∀ f : FuncId, (F[f]?).map (fun fn => (fn.norace, fn.results)) = (P.funcs[f]?).map (fun fn => (fn.norace, fn.results))
  ext : ∀ (f : FuncId) (fn : Func), F[f]? = some fn → fn.body = none → Extern.findNext fn = none ∧ ∀ e, Extern.find fn = some e → ∀ [Inhabited Junk] (args : Array Value), Sim (bar P F) P (e args)

theorem q_prog {α : Type} {k : Program → Sem α} {Q : α → Prop} (hk : k (bar P F) = k P) (h : SimQ (bar P F) P (k P) Q) : SimQ (bar P F) P (program >>= k) Q := by
  intro V w v es hs
  show At P V ((k (bar P F)).runT (bar P F) w es) ((k P).runT P v es) es w v Q
  rw [hk]
  exact h V w v es hs
theorem q_ite {α : Type} {c : Prop} [Decidable c] {a b : Sem α} {Q : α → Prop} (ha : SimQ (bar P F) P a Q) (hb : SimQ (bar P F) P b Q) : SimQ (bar P F) P (if c then a else b) Q := by split <;> assumption
theorem q_bad {α : Type} {s : Sem α} {Q : α → Prop} (h : ∀ w es, Bad (s.runT (bar P F) w es).1) : SimQ (bar P F) P s Q := fun _ w _ es _ => .inl (h w es)
theorem q_stuck {α : Type} {Q : α → Prop} (s : String) : SimQ (bar P F) P (stuck s : Sem α) Q := q_bad fun _ _ => trivial
theorem q_unsupported {α : Type} {Q : α → Prop} (u : Unsupported) (hu : notInit u := by trivial) : SimQ (bar P F) P (unsupported u : Sem α) Q := q_bad fun w _ => bad_uns hu w
/-- What follows a run that answers anything. -/
theorem q_then {α β : Type} {x : Sem α} {f : α → Sem β} {Q : β → Prop} (hx : Sim (bar P F) P x) (hf : ∀ a, SimQ (bar P F) P (f a) Q) : SimQ (bar P F) P (x >>= f) Q := q_bind (R := fun _ => True) (q_of hx fun _ => trivial) fun a _ => hf a
theorem q_panics {α : Type} {Q : α → Prop} (e : RuntimeError) : SimQ (bar P F) P (runtimePanic e : Sem α) Q := by
  have h : ∀ (p : Program) (w : World) (es : Array Event) (a : α) (w' : World), ((runtimePanic e : Sem α).runT p w es).1 ≠ .ok a w' := by
    intro p w es a w' hh
    cases e <;> first | (cases hh; done) | skip
    all_goals
      revert hh
      unfold runtimePanic
      simp only [program, bind, Sem.bind, Sem.runT, Sem.runT_bind']
      generalize (elemOf _).runT p w es = R
      obtain ⟨r, es1⟩ := R
      cases r with
      | halt x w1 => intro hh; cases hh
      | ok t w1 => intro hh; cases hh
  exact q_none (sim_runtimePanic e) fun w es a w' => h _ w es a w'
theorem q_callFunc (hF : FenceB P F) (f : FuncId) (args : Array Value) : SimQ (bar P F) P (callFunc f args) (okNext P F) := by
  unfold callFunc
  rcases hF.fn f with h | ⟨fn, h, hb, hn, h1, h2, h3⟩
  · refine q_prog ?_ ?_
    · show (match F[f]? with | none => _ | some fn => _) = _
      rw [h]
      cases P.funcs[f]? <;> rfl
    · rw [← h]
      cases hf : F[f]? with
      | none => exact q_stuck _
      | some fn =>
        dsimp only
        simp only [hF.num f fn hf]
        cases hb : fn.body with
        | some c => exact q_pure ⟨fn, c, hf, h ▸ hf, hb⟩
        | none =>
          obtain ⟨e1, e2⟩ := hF.ext f fn hf hb
          simp only [Option.isNone_none, if_true]
          refine q_then (sim_mark (.inl ⟨f, rfl⟩) (sim_pure _)) fun _ => ?_
          simp only [e1]
          show SimQ (bar P F) P (match Extern.find fn with | some e => _ | none => _) _
          cases he : Extern.find fn with
          | some e => exact q_then (e2 e he args) fun _ => q_pure trivial
          | none => exact q_ite (q_pure trivial) (q_unsupported _)
  · refine q_bad fun w es => ?_
    show Bad ((match F[f]? with | none => _ | some fn => _ : Sem Next).runT (bar P F) w es).1
    rw [h]
    simp only [hn, hb, h1, h2, h3]
    trivial
end Go.Proofs.Ythbghcebcahlnaa
