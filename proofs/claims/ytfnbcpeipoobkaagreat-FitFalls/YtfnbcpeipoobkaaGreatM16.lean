/- The child in Done. -/
import Derived.Test.YtfnbcpeipoobkaaGreatM15
set_option linter.unusedSectionVars false
namespace Go.Proofs.YtfnbcpeipoobkaaGreat
open Go Go.Conc Go.ConcR.Gen Go.RowKit Go.Conc.Lib
variable {P : Program} [Inhabited Junk] {L : WgLink}
theorem grp_st' {ty : TypeId} {Wg : Nat} {w : World} {st sm : Int} (h : GrpAt ty Wg w st sm) : w.cell? ⟨Wg, 0, none⟩ = some (.int .u64 st) := by unfold GrpAt at h; simp [World.cell?, h]
theorem grp_sm' {ty : TypeId} {Wg : Nat} {w : World} {st sm : Int} (h : GrpAt ty Wg w st sm) : w.cell? ⟨Wg, 1, none⟩ = some (.int .u32 sm) := by unfold GrpAt at h; simp [World.cell?, h]
theorem grp_thaw' {ty : TypeId} {Wg : Nat} {w : World} {st sm : Int} (h : GrpAt ty Wg w st sm) (off : Nat) : w.frozen? ⟨Wg, off, none⟩ = false := by unfold GrpAt at h; simp [World.frozen?, h]
theorem wrap_e0 : IntKind.u64.wrap (4294967296 + 18446744069414584320) = 0 := by decide
theorem wrap_e1 : IntKind.u64.wrap (4294967297 + 18446744069414584320) = 1 := by decide

set_option maxRecDepth 100000 in
set_option maxHeartbeats 16000000 in
theorem chi_done (H : WgLib P L) {Wg : Nat} {c : Frame} {cs : List Frame} {qt : Nat} (w₀ : World) (hcm : c.mode = .returning) (hT : QuitsD P qt 0 (G c cs)) :
    Chi P L.tWg Wg 9000 ⟨0, 0⟩ (G ((baseD L.done).at ⟨#[.pointer (some ⟨Wg, 0, none⟩), undef, undef, undef], []⟩ [.code (body_done L)]) (c :: cs)) := by
  lib_facts
  simp only [body_done, doneFn, Option.getD_some]
  have hF : True := trivial
  refine goes_chi (m := 400) (N := 8600) (w := w₀) (by decide) ?_
  repeat (first
    | u_c stepG_seq (fun _ h => h) hF | u_reg (fun _ h => h) hF | u_c stepG_region_end (fun _ h => h) hF | u_c stepG_skip (fun _ h => h) hF | u_cond true (fun _ h => h) hF | u_cond false (fun _ h => h) hF | u_c stepG_ret' (fun _ h => h) hF | u_c stepG_end (fun _ h => h) hF | u_c stepG_block (fun _ h => h) hF | u_c stepG_loop (fun _ h => h) hF | u_exit (fun _ h => h) hF
    | u_defer (fun _ h => h) hF | u_bub (fun _ h => h) hF | u_skip (fun _ h => h) hF | u_leave1 H.f_uAdd (fun _ h => h) hF | u_leave1 H.f_uLoad (fun _ h => h) hF | u_leave0 H.f_uStore (fun _ h => h) hF | u_call H.f_uAdd (nm_uAdd L) uAddFn (fun _ h => h) hF | u_call H.f_uLoad (nm_uLoad L) uLoadFn (fun _ h => h) hF | u_call H.f_uStore (nm_uStore L) uStoreFn (fun _ h => h) hF | u_call H.f_add (nm_add L) addFn (fun _ h => h) hF
    | (fail_if_success (refine at_call rfl rfl ?_)
       first | u_op (fun _ h => h) hF | u_conv H.underlying_tWgP H.room_tWg (rg_c0 hF).choose_spec (fun _ h => h) hF))
  refine Goes.stop (fun _ _ => ?_)
  clear hF
  refine Chi.rel (n := 8599) rfl rfl rfl (fun w => stepG_markAt .releaseMerge (by simp) rfl rfl (by k_ne) rfl H.f_relMerge (x_relMerge_n L) (x_relMerge_b L) (x_relMerge_x L) (x_relMerge_f L) (by simp [Act.eval, sA])) ?_
  walk_nrm
  have hF : True := trivial
  refine goes_chi (m := 400) (N := 8199) (w := w₀) (by decide) ?_
  repeat (first
    | u_c stepG_seq (fun _ h => h) hF | u_reg (fun _ h => h) hF | u_c stepG_region_end (fun _ h => h) hF | u_c stepG_skip (fun _ h => h) hF | u_cond true (fun _ h => h) hF | u_cond false (fun _ h => h) hF | u_c stepG_ret' (fun _ h => h) hF | u_c stepG_end (fun _ h => h) hF | u_c stepG_block (fun _ h => h) hF | u_c stepG_loop (fun _ h => h) hF | u_exit (fun _ h => h) hF
    | u_defer (fun _ h => h) hF | u_bub (fun _ h => h) hF | u_skip (fun _ h => h) hF | u_leave1 H.f_uAdd (fun _ h => h) hF | u_leave1 H.f_uLoad (fun _ h => h) hF | u_leave0 H.f_uStore (fun _ h => h) hF | u_call H.f_uAdd (nm_uAdd L) uAddFn (fun _ h => h) hF | u_call H.f_uLoad (nm_uLoad L) uLoadFn (fun _ h => h) hF | u_call H.f_uStore (nm_uStore L) uStoreFn (fun _ h => h) hF | u_call H.f_add (nm_add L) addFn (fun _ h => h) hF
    | (fail_if_success (refine at_call rfl rfl ?_)
       first | u_op (fun _ h => h) hF | u_conv H.underlying_tWgP H.room_tWg (rg_c0 hF).choose_spec (fun _ h => h) hF))
  refine Goes.stop (fun _ _ => ?_)
  clear hF
  refine Chi.disable (n := 8198) rfl rfl (fun w => stepG_mark0 .disable (by simp) rfl rfl (by k_ne) rfl H.f_disable (x_disable_n L) (x_disable_b L) (x_disable_x L) (x_disable_f L)) ?_
  walk_nrm
  have hF : True := trivial
  refine goes_chi (m := 400) (N := 7798) (w := w₀) (by decide) ?_
  repeat (first
    | u_c stepG_seq (fun _ h => h) hF | u_reg (fun _ h => h) hF | u_c stepG_region_end (fun _ h => h) hF | u_c stepG_skip (fun _ h => h) hF | u_cond true (fun _ h => h) hF | u_cond false (fun _ h => h) hF | u_c stepG_ret' (fun _ h => h) hF | u_c stepG_end (fun _ h => h) hF | u_c stepG_block (fun _ h => h) hF | u_c stepG_loop (fun _ h => h) hF | u_exit (fun _ h => h) hF
    | u_defer (fun _ h => h) hF | u_bub (fun _ h => h) hF | u_skip (fun _ h => h) hF | u_leave1 H.f_uAdd (fun _ h => h) hF | u_leave1 H.f_uLoad (fun _ h => h) hF | u_leave0 H.f_uStore (fun _ h => h) hF | u_call H.f_uAdd (nm_uAdd L) uAddFn (fun _ h => h) hF | u_call H.f_uLoad (nm_uLoad L) uLoadFn (fun _ h => h) hF | u_call H.f_uStore (nm_uStore L) uStoreFn (fun _ h => h) hF | u_call H.f_add (nm_add L) addFn (fun _ h => h) hF
    | (fail_if_success (refine at_call rfl rfl ?_)
       first | u_op (fun _ h => h) hF | u_conv H.underlying_tWgP H.room_tWg (rg_c0 hF).choose_spec (fun _ h => h) hF))
  refine Goes.stop (fun _ _ => ?_)
  clear hF
  refine Chi.add (n := 7797) (q := qt + 300) rfl rfl (by decide) (fun w hw => (stepG_add_atomic rfl rfl (by k_ne) rfl H.f_addU64 (x_addU64_n L) (x_addU64_b L) (x_addU64_x L) .u64 (x_addU64_f L) rfl rfl (grp_st' hw) (grp_thaw' hw 0)).trans (by rw [wrap_e0]; rfl)) (fun w hw => (stepG_add_atomic rfl rfl (by k_ne) rfl H.f_addU64 (x_addU64_n L) (x_addU64_b L) (x_addU64_x L) .u64 (x_addU64_f L) rfl rfl (grp_st' hw) (grp_thaw' hw 0)).trans (by rw [wrap_e1]; rfl)) ?quit ?go
  case quit =>
    walk_nrm
    repeat (first
      | with_reducible refine qseq ?_ | ((with_reducible refine qreg ?_); simp only [List.size_toArray, List.length_cons, List.length_nil, Nat.reduceAdd, Nat.zero_add, List.range, List.range.loop]) | with_reducible refine qout ?_ | with_reducible refine qskip ?_ | with_reducible refine qret ?_ | with_reducible refine qend ?_ | with_reducible refine qinBlock ?_ | with_reducible refine qinLoop ?_
      | ((with_reducible refine qcondT ?_ ?_); rfl) | ((with_reducible refine qcondF ?_ ?_); rfl) | refine qexit rfl ?_
      | ((with_reducible refine qat ?_); first | (refine QuitsD.unwanted rfl rfl ?_; walk_nrm) | (refine QuitsD.value _ rfl rfl (by k_ne) (fun _ => by go_simp; first | done | ((try w_num); exact rfl)) (fun _ => by simp [go_sem, *]) ?_; walk_nrm; try w_num))
      | q_leave1 H.f_uAdd | q_enable | q_leave0 H.f_add)
    exact QuitsD.leaveD rfl rfl H.f_done rfl hcm (qmono hT (by omega))
  case go =>
    walk_nrm
    have hF : True := trivial
    refine goes_chi (m := 400) (N := 7397) (w := w₀) (by decide) ?_
    repeat (first
      | u_c stepG_seq (fun _ h => h) hF | u_reg (fun _ h => h) hF | u_c stepG_region_end (fun _ h => h) hF | u_c stepG_skip (fun _ h => h) hF | u_cond true (fun _ h => h) hF | u_cond false (fun _ h => h) hF | u_c stepG_ret' (fun _ h => h) hF | u_c stepG_end (fun _ h => h) hF | u_c stepG_block (fun _ h => h) hF | u_c stepG_loop (fun _ h => h) hF | u_exit (fun _ h => h) hF
      | u_defer (fun _ h => h) hF | u_bub (fun _ h => h) hF | u_skip (fun _ h => h) hF | u_leave1 H.f_uAdd (fun _ h => h) hF | u_leave1 H.f_uLoad (fun _ h => h) hF | u_leave0 H.f_uStore (fun _ h => h) hF | u_call H.f_uAdd (nm_uAdd L) uAddFn (fun _ h => h) hF | u_call H.f_uLoad (nm_uLoad L) uLoadFn (fun _ h => h) hF | u_call H.f_uStore (nm_uStore L) uStoreFn (fun _ h => h) hF | u_call H.f_add (nm_add L) addFn (fun _ h => h) hF
      | (fail_if_success (refine at_call rfl rfl ?_)
         first | u_op (fun _ h => h) hF | u_conv H.underlying_tWgP H.room_tWg (rg_c0 hF).choose_spec (fun _ h => h) hF))
    refine Goes.stop (fun _ _ => ?_)
    clear hF
    refine Chi.load (n := 7396) rfl rfl (by decide) (fun w hw => stepG_load_atomic (v := 1) rfl rfl (by k_ne) rfl H.f_loadU64 (x_loadU64_n L) (x_loadU64_b L) (x_loadU64_x L) .u64 (x_loadU64_f L) rfl (grp_st' hw)) ?_
    walk_nrm
    have hF : True := trivial
    refine goes_chi (m := 400) (N := 6996) (w := w₀) (by decide) ?_
    repeat (first
      | u_c stepG_seq (fun _ h => h) hF | u_reg (fun _ h => h) hF | u_c stepG_region_end (fun _ h => h) hF | u_c stepG_skip (fun _ h => h) hF | u_cond true (fun _ h => h) hF | u_cond false (fun _ h => h) hF | u_c stepG_ret' (fun _ h => h) hF | u_c stepG_end (fun _ h => h) hF | u_c stepG_block (fun _ h => h) hF | u_c stepG_loop (fun _ h => h) hF | u_exit (fun _ h => h) hF
      | u_defer (fun _ h => h) hF | u_bub (fun _ h => h) hF | u_skip (fun _ h => h) hF | u_leave1 H.f_uAdd (fun _ h => h) hF | u_leave1 H.f_uLoad (fun _ h => h) hF | u_leave0 H.f_uStore (fun _ h => h) hF | u_call H.f_uAdd (nm_uAdd L) uAddFn (fun _ h => h) hF | u_call H.f_uLoad (nm_uLoad L) uLoadFn (fun _ h => h) hF | u_call H.f_uStore (nm_uStore L) uStoreFn (fun _ h => h) hF | u_call H.f_add (nm_add L) addFn (fun _ h => h) hF
      | (fail_if_success (refine at_call rfl rfl ?_)
         first | u_op (fun _ h => h) hF | u_conv H.underlying_tWgP H.room_tWg (rg_c0 hF).choose_spec (fun _ h => h) hF))
    refine Goes.stop (fun _ _ => ?_)
    clear hF
    refine Chi.store (n := 6995) rfl rfl (by decide) (fun w hw => stepG_store_atomic rfl rfl (by k_ne) rfl H.f_storeU64 (x_storeU64_n L) (x_storeU64_b L) (x_storeU64_x L) (x_storeU64_f L) rfl rfl (grp_st' hw) (grp_thaw' hw 0)) ?_
    walk_nrm
    have hF : True := trivial
    refine goes_chi (m := 400) (N := 6595) (w := w₀) (by decide) ?_
    repeat (first
      | u_c stepG_seq (fun _ h => h) hF | u_reg (fun _ h => h) hF | u_c stepG_region_end (fun _ h => h) hF | u_c stepG_skip (fun _ h => h) hF | u_cond true (fun _ h => h) hF | u_cond false (fun _ h => h) hF | u_c stepG_ret' (fun _ h => h) hF | u_c stepG_end (fun _ h => h) hF | u_c stepG_block (fun _ h => h) hF | u_c stepG_loop (fun _ h => h) hF | u_exit (fun _ h => h) hF
      | u_defer (fun _ h => h) hF | u_bub (fun _ h => h) hF | u_skip (fun _ h => h) hF | u_leave1 H.f_uAdd (fun _ h => h) hF | u_leave1 H.f_uLoad (fun _ h => h) hF | u_leave0 H.f_uStore (fun _ h => h) hF | u_call H.f_uAdd (nm_uAdd L) uAddFn (fun _ h => h) hF | u_call H.f_uLoad (nm_uLoad L) uLoadFn (fun _ h => h) hF | u_call H.f_uStore (nm_uStore L) uStoreFn (fun _ h => h) hF | u_call H.f_add (nm_add L) addFn (fun _ h => h) hF
      | (fail_if_success (refine at_call rfl rfl ?_)
         first | u_op (fun _ h => h) hF | u_conv H.underlying_tWgP H.room_tWg (rg_c0 hF).choose_spec (fun _ h => h) hF))
    refine Goes.stop (fun _ _ => ?_)
    clear hF
    refine Chi.sem (n := 6594) (q := qt + 300) rfl rfl (by decide) (mayWake_entry rfl rfl H.f_semrelease (x_semrelease_b L)) (fun w hw => (stepG_semrelease rfl rfl (by k_ne) rfl H.f_semrelease (x_semrelease_n L) (x_semrelease_b L) (x_semrelease_x L) (x_semrelease_f L) (by simp [Act.eval]) (grp_sm' hw) (grp_thaw' hw 1)).trans (by rfl)) rfl ?quit2
    case quit2 =>
      walk_nrm
      repeat (first
        | with_reducible refine qseq ?_ | ((with_reducible refine qreg ?_); simp only [List.size_toArray, List.length_cons, List.length_nil, Nat.reduceAdd, Nat.zero_add, List.range, List.range.loop]) | with_reducible refine qout ?_ | with_reducible refine qskip ?_ | with_reducible refine qret ?_ | with_reducible refine qend ?_ | with_reducible refine qinBlock ?_ | with_reducible refine qinLoop ?_
        | ((with_reducible refine qcondT ?_ ?_); rfl) | ((with_reducible refine qcondF ?_ ?_); rfl) | refine qexit rfl ?_
        | ((with_reducible refine qat ?_); first | (refine QuitsD.unwanted rfl rfl ?_; walk_nrm) | (refine QuitsD.value _ rfl rfl (by k_ne) (fun _ => by go_simp; first | done | ((try w_num); exact rfl)) (fun _ => by simp [go_sem, *]) ?_; walk_nrm; try w_num))
        | q_leave1 H.f_uAdd | q_enable | q_leave0 H.f_add)
      exact QuitsD.leaveD rfl rfl H.f_done rfl hcm (qmono hT (by omega))
end Go.Proofs.YtfnbcpeipoobkaaGreat
