/- The caller in Wait. -/
import Derived.Test.YtfnbcpeipoobkaaGreatM11
set_option linter.unusedSectionVars false
namespace Go.Proofs.YtfnbcpeipoobkaaGreat
open Go Go.Conc Go.ConcR.Gen Go.RowKit Go.Conc.Lib
variable {P : Program} [Inhabited Junk] {L : WgLink}

theorem grp_st {ty : TypeId} {Wg : Nat} {w : World} {st sm : Int} (h : GrpAt ty Wg w st sm) : w.cell? ⟨Wg, 0, none⟩ = some (.int .u64 st) := by unfold GrpAt at h; simp [World.cell?, h]
theorem grp_sm {ty : TypeId} {Wg : Nat} {w : World} {st sm : Int} (h : GrpAt ty Wg w st sm) : w.cell? ⟨Wg, 1, none⟩ = some (.int .u32 sm) := by unfold GrpAt at h; simp [World.cell?, h]
theorem grp_thaw {ty : TypeId} {Wg : Nat} {w : World} {st sm : Int} (h : GrpAt ty Wg w st sm) (off : Nat) : w.frozen? ⟨Wg, off, none⟩ = false := by unfold GrpAt at h; simp [World.frozen?, h]

set_option maxRecDepth 100000 in
set_option maxHeartbeats 16000000 in
theorem cal_wait (H : WgLib P L) {Wg : Nat} {End : Goroutine → Prop} {b₀ : Frame} {a₀ : Act} {ops₀ : Array Oper} {i₀ : Nat} {rest₀ : List Nat} {k₀ : List Item} {cs : List Frame} (w₀ : World)
    (hEnd : End (G (b₀.at (a₀.put ((ops₀[i₀]?).bind (·.dst)) (.tuple #[])) (.inRegion ops₀ rest₀ :: k₀)) cs)) :
    Cal P L.tWg Wg End 9000 ⟨0, false, 0⟩ (G ((base L.wait).at ⟨#[.pointer (some ⟨Wg, 0, none⟩), undef, undef, undef, undef, undef, undef, undef, undef, undef, undef, undef, undef, undef, undef, undef, undef, undef, undef, undef, undef, undef, undef, undef, undef, undef, undef, undef, undef, undef, undef, undef, undef, undef, undef, undef, undef, undef, undef, undef, undef, undef, undef, undef, undef, undef, undef, undef, undef, undef, undef, undef, undef, undef, undef, undef, undef, undef, undef, undef, undef, undef, undef, undef, undef, undef, undef, undef, undef, undef, undef, undef, undef, undef, undef, undef, undef, undef, undef, undef, undef, undef, undef, undef], []⟩ [.code (body_wait L)]) (b₀.at a₀ (.inRegion ops₀ (i₀ :: rest₀) :: k₀) :: cs)) := by
  lib_facts
  simp only [body_wait, waitFn, Option.getD_some]
  have hF : True := trivial
  refine goes_cal (m := 400) (N := 8600) (w := w₀) (by decide) ?_
  repeat (first
    | u_c stepG_seq (fun _ h => h) hF | u_c stepG_skip (fun _ h => h) hF | u_c stepG_block (fun _ h => h) hF | u_c stepG_loop (fun _ h => h) hF | u_c stepG_inLoop (fun _ h => h) hF | u_c stepG_inBlock (fun _ h => h) hF
    | u_reg (fun _ h => h) hF | u_c stepG_region_end (fun _ h => h) hF | u_cond true (fun _ h => h) hF | u_cond false (fun _ h => h) hF | u_c stepG_ret' (fun _ h => h) hF | u_c stepG_end (fun _ h => h) hF | u_exit (fun _ h => h) hF
    | u_skip (fun _ h => h) hF | u_leave1 H.f_uLoad (fun _ h => h) hF | u_leave1 H.f_uCas (fun _ h => h) hF | (u_leave0 H.f_wait (fun _ h => h) hF; clear hF) | u_call H.f_uLoad (nm_uLoad L) uLoadFn (fun _ h => h) hF | u_call H.f_uCas (nm_uCas L) uCasFn (fun _ h => h) hF
    | (fail_if_success (refine at_call rfl rfl ?_)
       first | u_op (fun _ h => h) hF | u_conv H.underlying_tPU32 H.room_tU32 (rg_c1 hF).choose_spec (fun _ h => h) hF | u_conv H.underlying_tWgP H.room_tWg (rg_c0 hF).choose_spec (fun _ h => h) hF))
  refine Goes.stop (fun _ _ => ?_)
  try clear hF
  refine Cal.disable (n := 8599) rfl rfl (fun w => stepG_mark0 .disable (by simp) rfl rfl (by k_ne) rfl H.f_disable (x_disable_n L) (x_disable_b L) (x_disable_x L) (x_disable_f L)) ?_
  walk_nrm
  have hF : True := trivial
  refine goes_cal (m := 400) (N := 8199) (w := w₀) (by decide) ?_
  repeat (first
    | u_c stepG_seq (fun _ h => h) hF | u_c stepG_skip (fun _ h => h) hF | u_c stepG_block (fun _ h => h) hF | u_c stepG_loop (fun _ h => h) hF | u_c stepG_inLoop (fun _ h => h) hF | u_c stepG_inBlock (fun _ h => h) hF
    | u_reg (fun _ h => h) hF | u_c stepG_region_end (fun _ h => h) hF | u_cond true (fun _ h => h) hF | u_cond false (fun _ h => h) hF | u_c stepG_ret' (fun _ h => h) hF | u_c stepG_end (fun _ h => h) hF | u_exit (fun _ h => h) hF
    | u_skip (fun _ h => h) hF | u_leave1 H.f_uLoad (fun _ h => h) hF | u_leave1 H.f_uCas (fun _ h => h) hF | (u_leave0 H.f_wait (fun _ h => h) hF; clear hF) | u_call H.f_uLoad (nm_uLoad L) uLoadFn (fun _ h => h) hF | u_call H.f_uCas (nm_uCas L) uCasFn (fun _ h => h) hF
    | (fail_if_success (refine at_call rfl rfl ?_)
       first | u_op (fun _ h => h) hF | u_conv H.underlying_tPU32 H.room_tU32 (rg_c1 hF).choose_spec (fun _ h => h) hF | u_conv H.underlying_tWgP H.room_tWg (rg_c0 hF).choose_spec (fun _ h => h) hF))
  refine Goes.stop (fun _ _ => ?_)
  try clear hF
  refine Cal.load (n := 8198) rfl rfl (fun w hw => stepG_load_atomic (v := 0) rfl rfl (by k_ne) rfl H.f_loadU64 (x_loadU64_n L) (x_loadU64_b L) (x_loadU64_x L) .u64 (x_loadU64_f L) rfl (grp_st hw)) ?_ (fun _ => ⟨fun w hw => stepG_load_atomic (v := 4294967296) rfl rfl (by k_ne) rfl H.f_loadU64 (x_loadU64_n L) (x_loadU64_b L) (x_loadU64_x L) .u64 (x_loadU64_f L) rfl (grp_st hw), ?_⟩)
  · walk_nrm
    have hF : True := trivial
    refine goes_cal (m := 400) (N := 7798) (w := w₀) (by decide) ?_
    repeat (first
      | u_c stepG_seq (fun _ h => h) hF | u_c stepG_skip (fun _ h => h) hF | u_c stepG_block (fun _ h => h) hF | u_c stepG_loop (fun _ h => h) hF | u_c stepG_inLoop (fun _ h => h) hF | u_c stepG_inBlock (fun _ h => h) hF
      | u_reg (fun _ h => h) hF | u_c stepG_region_end (fun _ h => h) hF | u_cond true (fun _ h => h) hF | u_cond false (fun _ h => h) hF | u_c stepG_ret' (fun _ h => h) hF | u_c stepG_end (fun _ h => h) hF | u_exit (fun _ h => h) hF
      | u_skip (fun _ h => h) hF | u_leave1 H.f_uLoad (fun _ h => h) hF | u_leave1 H.f_uCas (fun _ h => h) hF | (u_leave0 H.f_wait (fun _ h => h) hF; clear hF) | u_call H.f_uLoad (nm_uLoad L) uLoadFn (fun _ h => h) hF | u_call H.f_uCas (nm_uCas L) uCasFn (fun _ h => h) hF
      | (fail_if_success (refine at_call rfl rfl ?_)
         first | u_op (fun _ h => h) hF | u_conv H.underlying_tPU32 H.room_tU32 (rg_c1 hF).choose_spec (fun _ h => h) hF | u_conv H.underlying_tWgP H.room_tWg (rg_c0 hF).choose_spec (fun _ h => h) hF))
    refine Goes.stop (fun _ _ => ?_)
    try clear hF
    refine Cal.enable (n := 7797) rfl rfl (fun w => stepG_mark0 .enable (by simp) rfl rfl (by k_ne) rfl H.f_enable (x_enable_n L) (x_enable_b L) (x_enable_x L) (x_enable_f L)) ?_
    walk_nrm
    have hF : True := trivial
    refine goes_cal (m := 400) (N := 7397) (w := w₀) (by decide) ?_
    repeat (first
      | u_c stepG_seq (fun _ h => h) hF | u_c stepG_skip (fun _ h => h) hF | u_c stepG_block (fun _ h => h) hF | u_c stepG_loop (fun _ h => h) hF | u_c stepG_inLoop (fun _ h => h) hF | u_c stepG_inBlock (fun _ h => h) hF
      | u_reg (fun _ h => h) hF | u_c stepG_region_end (fun _ h => h) hF | u_cond true (fun _ h => h) hF | u_cond false (fun _ h => h) hF | u_c stepG_ret' (fun _ h => h) hF | u_c stepG_end (fun _ h => h) hF | u_exit (fun _ h => h) hF
      | u_skip (fun _ h => h) hF | u_leave1 H.f_uLoad (fun _ h => h) hF | u_leave1 H.f_uCas (fun _ h => h) hF | (u_leave0 H.f_wait (fun _ h => h) hF; clear hF) | u_call H.f_uLoad (nm_uLoad L) uLoadFn (fun _ h => h) hF | u_call H.f_uCas (nm_uCas L) uCasFn (fun _ h => h) hF
      | (fail_if_success (refine at_call rfl rfl ?_)
         first | u_op (fun _ h => h) hF | u_conv H.underlying_tPU32 H.room_tU32 (rg_c1 hF).choose_spec (fun _ h => h) hF | u_conv H.underlying_tWgP H.room_tWg (rg_c0 hF).choose_spec (fun _ h => h) hF))
    refine Goes.stop (fun _ _ => ?_)
    try clear hF
    refine Cal.acquire (n := 7396) rfl rfl rfl (fun w => stepG_markAt .acquire (by simp) rfl rfl (by k_ne) rfl H.f_acquire (x_acquire_n L) (x_acquire_b L) (x_acquire_x L) (x_acquire_f L) (by simp [Act.eval, sA])) ?_
    walk_nrm
    have hF : True := trivial
    refine goes_cal (m := 400) (N := 6996) (w := w₀) (by decide) ?_
    repeat (first
      | u_c stepG_seq (fun _ h => h) hF | u_c stepG_skip (fun _ h => h) hF | u_c stepG_block (fun _ h => h) hF | u_c stepG_loop (fun _ h => h) hF | u_c stepG_inLoop (fun _ h => h) hF | u_c stepG_inBlock (fun _ h => h) hF
      | u_reg (fun _ h => h) hF | u_c stepG_region_end (fun _ h => h) hF | u_cond true (fun _ h => h) hF | u_cond false (fun _ h => h) hF | u_c stepG_ret' (fun _ h => h) hF | u_c stepG_end (fun _ h => h) hF | u_exit (fun _ h => h) hF
      | u_skip (fun _ h => h) hF | u_leave1 H.f_uLoad (fun _ h => h) hF | u_leave1 H.f_uCas (fun _ h => h) hF | (u_leave0 H.f_wait (fun _ h => h) hF; clear hF) | u_call H.f_uLoad (nm_uLoad L) uLoadFn (fun _ h => h) hF | u_call H.f_uCas (nm_uCas L) uCasFn (fun _ h => h) hF
      | (fail_if_success (refine at_call rfl rfl ?_)
         first | u_op (fun _ h => h) hF | u_conv H.underlying_tPU32 H.room_tU32 (rg_c1 hF).choose_spec (fun _ h => h) hF | u_conv H.underlying_tWgP H.room_tWg (rg_c0 hF).choose_spec (fun _ h => h) hF))
    refine Goes.stop (fun _ _ => ?_)
    try clear hF
    exact Cal.fin rfl hEnd
  · walk_nrm
    have hF : True := trivial
    refine goes_cal (m := 400) (N := 7798) (w := w₀) (by decide) ?_
    repeat (first
      | u_c stepG_seq (fun _ h => h) hF | u_c stepG_skip (fun _ h => h) hF | u_c stepG_block (fun _ h => h) hF | u_c stepG_loop (fun _ h => h) hF | u_c stepG_inLoop (fun _ h => h) hF | u_c stepG_inBlock (fun _ h => h) hF
      | u_reg (fun _ h => h) hF | u_c stepG_region_end (fun _ h => h) hF | u_cond true (fun _ h => h) hF | u_cond false (fun _ h => h) hF | u_c stepG_ret' (fun _ h => h) hF | u_c stepG_end (fun _ h => h) hF | u_exit (fun _ h => h) hF
      | u_skip (fun _ h => h) hF | u_leave1 H.f_uLoad (fun _ h => h) hF | u_leave1 H.f_uCas (fun _ h => h) hF | (u_leave0 H.f_wait (fun _ h => h) hF; clear hF) | u_call H.f_uLoad (nm_uLoad L) uLoadFn (fun _ h => h) hF | u_call H.f_uCas (nm_uCas L) uCasFn (fun _ h => h) hF
      | (fail_if_success (refine at_call rfl rfl ?_)
         first | u_op (fun _ h => h) hF | u_conv H.underlying_tPU32 H.room_tU32 (rg_c1 hF).choose_spec (fun _ h => h) hF | u_conv H.underlying_tWgP H.room_tWg (rg_c0 hF).choose_spec (fun _ h => h) hF))
    refine Goes.stop (fun _ _ => ?_)
    try clear hF
    refine Cal.cas (n := 7797) rfl rfl (fun w hw => stepG_cas_miss (v := 0) (old := 4294967296) (n := 4294967297) rfl rfl (by k_ne) rfl H.f_casU64 (x_casU64_n L) (x_casU64_b L) (x_casU64_x L) .u64 (x_casU64_f L) rfl rfl rfl (grp_st hw) (grp_thaw hw 0) (by k_ne)) ?_ (fun _ => ⟨fun w hw => (stepG_cas_hit (v := 4294967296) (n := 4294967297) rfl rfl (by k_ne) rfl H.f_casU64 (x_casU64_n L) (x_casU64_b L) (x_casU64_x L) .u64 (x_casU64_f L) rfl rfl rfl (grp_st hw) (grp_thaw hw 0)).trans (by rfl), ?_⟩)
    · walk_nrm
      have hF : True := trivial
      refine goes_cal (m := 400) (N := 7397) (w := w₀) (by decide) ?_
      repeat (first
        | u_c stepG_seq (fun _ h => h) hF | u_c stepG_skip (fun _ h => h) hF | u_c stepG_block (fun _ h => h) hF | u_c stepG_loop (fun _ h => h) hF | u_c stepG_inLoop (fun _ h => h) hF | u_c stepG_inBlock (fun _ h => h) hF
        | u_reg (fun _ h => h) hF | u_c stepG_region_end (fun _ h => h) hF | u_cond true (fun _ h => h) hF | u_cond false (fun _ h => h) hF | u_c stepG_ret' (fun _ h => h) hF | u_c stepG_end (fun _ h => h) hF | u_exit (fun _ h => h) hF
        | u_skip (fun _ h => h) hF | u_leave1 H.f_uLoad (fun _ h => h) hF | u_leave1 H.f_uCas (fun _ h => h) hF | (u_leave0 H.f_wait (fun _ h => h) hF; clear hF) | u_call H.f_uLoad (nm_uLoad L) uLoadFn (fun _ h => h) hF | u_call H.f_uCas (nm_uCas L) uCasFn (fun _ h => h) hF
        | (fail_if_success (refine at_call rfl rfl ?_)
           first | u_op (fun _ h => h) hF | u_conv H.underlying_tPU32 H.room_tU32 (rg_c1 hF).choose_spec (fun _ h => h) hF | u_conv H.underlying_tWgP H.room_tWg (rg_c0 hF).choose_spec (fun _ h => h) hF))
      refine Goes.stop (fun _ _ => ?_)
      try clear hF
      refine Cal.load (n := 7396) (g1 := G b₀ cs) rfl rfl (fun w hw => stepG_load_atomic (v := 0) rfl rfl (by k_ne) rfl H.f_loadU64 (x_loadU64_n L) (x_loadU64_b L) (x_loadU64_x L) .u64 (x_loadU64_f L) rfl (grp_st hw)) ?_ (fun h => by cases h)
      walk_nrm
      have hF : True := trivial
      refine goes_cal (m := 400) (N := 6996) (w := w₀) (by decide) ?_
      repeat (first
        | u_c stepG_seq (fun _ h => h) hF | u_c stepG_skip (fun _ h => h) hF | u_c stepG_block (fun _ h => h) hF | u_c stepG_loop (fun _ h => h) hF | u_c stepG_inLoop (fun _ h => h) hF | u_c stepG_inBlock (fun _ h => h) hF
        | u_reg (fun _ h => h) hF | u_c stepG_region_end (fun _ h => h) hF | u_cond true (fun _ h => h) hF | u_cond false (fun _ h => h) hF | u_c stepG_ret' (fun _ h => h) hF | u_c stepG_end (fun _ h => h) hF | u_exit (fun _ h => h) hF
        | u_skip (fun _ h => h) hF | u_leave1 H.f_uLoad (fun _ h => h) hF | u_leave1 H.f_uCas (fun _ h => h) hF | (u_leave0 H.f_wait (fun _ h => h) hF; clear hF) | u_call H.f_uLoad (nm_uLoad L) uLoadFn (fun _ h => h) hF | u_call H.f_uCas (nm_uCas L) uCasFn (fun _ h => h) hF
        | (fail_if_success (refine at_call rfl rfl ?_)
           first | u_op (fun _ h => h) hF | u_conv H.underlying_tPU32 H.room_tU32 (rg_c1 hF).choose_spec (fun _ h => h) hF | u_conv H.underlying_tWgP H.room_tWg (rg_c0 hF).choose_spec (fun _ h => h) hF))
      refine Goes.stop (fun _ _ => ?_)
      try clear hF
      refine Cal.enable (n := 6995) rfl rfl (fun w => stepG_mark0 .enable (by simp) rfl rfl (by k_ne) rfl H.f_enable (x_enable_n L) (x_enable_b L) (x_enable_x L) (x_enable_f L)) ?_
      walk_nrm
      have hF : True := trivial
      refine goes_cal (m := 400) (N := 6595) (w := w₀) (by decide) ?_
      repeat (first
        | u_c stepG_seq (fun _ h => h) hF | u_c stepG_skip (fun _ h => h) hF | u_c stepG_block (fun _ h => h) hF | u_c stepG_loop (fun _ h => h) hF | u_c stepG_inLoop (fun _ h => h) hF | u_c stepG_inBlock (fun _ h => h) hF
        | u_reg (fun _ h => h) hF | u_c stepG_region_end (fun _ h => h) hF | u_cond true (fun _ h => h) hF | u_cond false (fun _ h => h) hF | u_c stepG_ret' (fun _ h => h) hF | u_c stepG_end (fun _ h => h) hF | u_exit (fun _ h => h) hF
        | u_skip (fun _ h => h) hF | u_leave1 H.f_uLoad (fun _ h => h) hF | u_leave1 H.f_uCas (fun _ h => h) hF | (u_leave0 H.f_wait (fun _ h => h) hF; clear hF) | u_call H.f_uLoad (nm_uLoad L) uLoadFn (fun _ h => h) hF | u_call H.f_uCas (nm_uCas L) uCasFn (fun _ h => h) hF
        | (fail_if_success (refine at_call rfl rfl ?_)
           first | u_op (fun _ h => h) hF | u_conv H.underlying_tPU32 H.room_tU32 (rg_c1 hF).choose_spec (fun _ h => h) hF | u_conv H.underlying_tWgP H.room_tWg (rg_c0 hF).choose_spec (fun _ h => h) hF))
      refine Goes.stop (fun _ _ => ?_)
      try clear hF
      refine Cal.acquire (n := 6594) rfl rfl rfl (fun w => stepG_markAt .acquire (by simp) rfl rfl (by k_ne) rfl H.f_acquire (x_acquire_n L) (x_acquire_b L) (x_acquire_x L) (x_acquire_f L) (by simp [Act.eval, sA])) ?_
      walk_nrm
      have hF : True := trivial
      refine goes_cal (m := 400) (N := 6194) (w := w₀) (by decide) ?_
      repeat (first
        | u_c stepG_seq (fun _ h => h) hF | u_c stepG_skip (fun _ h => h) hF | u_c stepG_block (fun _ h => h) hF | u_c stepG_loop (fun _ h => h) hF | u_c stepG_inLoop (fun _ h => h) hF | u_c stepG_inBlock (fun _ h => h) hF
        | u_reg (fun _ h => h) hF | u_c stepG_region_end (fun _ h => h) hF | u_cond true (fun _ h => h) hF | u_cond false (fun _ h => h) hF | u_c stepG_ret' (fun _ h => h) hF | u_c stepG_end (fun _ h => h) hF | u_exit (fun _ h => h) hF
        | u_skip (fun _ h => h) hF | u_leave1 H.f_uLoad (fun _ h => h) hF | u_leave1 H.f_uCas (fun _ h => h) hF | (u_leave0 H.f_wait (fun _ h => h) hF; clear hF) | u_call H.f_uLoad (nm_uLoad L) uLoadFn (fun _ h => h) hF | u_call H.f_uCas (nm_uCas L) uCasFn (fun _ h => h) hF
        | (fail_if_success (refine at_call rfl rfl ?_)
           first | u_op (fun _ h => h) hF | u_conv H.underlying_tPU32 H.room_tU32 (rg_c1 hF).choose_spec (fun _ h => h) hF | u_conv H.underlying_tWgP H.room_tWg (rg_c0 hF).choose_spec (fun _ h => h) hF))
      refine Goes.stop (fun _ _ => ?_)
      try clear hF
      exact Cal.fin rfl hEnd
    · walk_nrm
      have hF : True := trivial
      refine goes_cal (m := 400) (N := 7397) (w := w₀) (by decide) ?_
      repeat (first
        | u_c stepG_seq (fun _ h => h) hF | u_c stepG_skip (fun _ h => h) hF | u_c stepG_block (fun _ h => h) hF | u_c stepG_loop (fun _ h => h) hF | u_c stepG_inLoop (fun _ h => h) hF | u_c stepG_inBlock (fun _ h => h) hF
        | u_reg (fun _ h => h) hF | u_c stepG_region_end (fun _ h => h) hF | u_cond true (fun _ h => h) hF | u_cond false (fun _ h => h) hF | u_c stepG_ret' (fun _ h => h) hF | u_c stepG_end (fun _ h => h) hF | u_exit (fun _ h => h) hF
        | u_skip (fun _ h => h) hF | u_leave1 H.f_uLoad (fun _ h => h) hF | u_leave1 H.f_uCas (fun _ h => h) hF | (u_leave0 H.f_wait (fun _ h => h) hF; clear hF) | u_call H.f_uLoad (nm_uLoad L) uLoadFn (fun _ h => h) hF | u_call H.f_uCas (nm_uCas L) uCasFn (fun _ h => h) hF
        | (fail_if_success (refine at_call rfl rfl ?_)
           first | u_op (fun _ h => h) hF | u_conv H.underlying_tPU32 H.room_tU32 (rg_c1 hF).choose_spec (fun _ h => h) hF | u_conv H.underlying_tWgP H.room_tWg (rg_c0 hF).choose_spec (fun _ h => h) hF))
      refine Goes.stop (fun _ _ => ?_)
      try clear hF
      refine Cal.word (n := 7396) rfl rfl (fun w => stepG_markAt .write (by simp) rfl rfl (by k_ne) rfl H.f_raceWrite (x_raceWrite_n L) (x_raceWrite_b L) (x_raceWrite_x L) (x_raceWrite_f L) (by simp [Act.eval, mA])) ?_
      walk_nrm
      have hF : True := trivial
      refine goes_cal (m := 400) (N := 6996) (w := w₀) (by decide) ?_
      repeat (first
        | u_c stepG_seq (fun _ h => h) hF | u_c stepG_skip (fun _ h => h) hF | u_c stepG_block (fun _ h => h) hF | u_c stepG_loop (fun _ h => h) hF | u_c stepG_inLoop (fun _ h => h) hF | u_c stepG_inBlock (fun _ h => h) hF
        | u_reg (fun _ h => h) hF | u_c stepG_region_end (fun _ h => h) hF | u_cond true (fun _ h => h) hF | u_cond false (fun _ h => h) hF | u_c stepG_ret' (fun _ h => h) hF | u_c stepG_end (fun _ h => h) hF | u_exit (fun _ h => h) hF
        | u_skip (fun _ h => h) hF | u_leave1 H.f_uLoad (fun _ h => h) hF | u_leave1 H.f_uCas (fun _ h => h) hF | (u_leave0 H.f_wait (fun _ h => h) hF; clear hF) | u_call H.f_uLoad (nm_uLoad L) uLoadFn (fun _ h => h) hF | u_call H.f_uCas (nm_uCas L) uCasFn (fun _ h => h) hF
        | (fail_if_success (refine at_call rfl rfl ?_)
           first | u_op (fun _ h => h) hF | u_conv H.underlying_tPU32 H.room_tU32 (rg_c1 hF).choose_spec (fun _ h => h) hF | u_conv H.underlying_tWgP H.room_tWg (rg_c0 hF).choose_spec (fun _ h => h) hF))
      refine Goes.stop (fun _ _ => ?_)
      try clear hF
      refine Cal.sem (n := 6995) rfl rfl rfl (fun w st hw => stepG_semacquire_wait rfl rfl rfl H.f_semacquire (x_semacquire_n L) (x_semacquire_b L) (x_semacquire_x L) (x_semacquire_f L) (by simp [Act.eval]) (grp_sm hw)) (fun w hw => (stepG_semacquire (n := 1) rfl rfl (by k_ne) rfl H.f_semacquire (x_semacquire_n L) (x_semacquire_b L) (x_semacquire_x L) (x_semacquire_f L) (by simp [Act.eval]) (grp_sm hw) (by k_ne) (grp_thaw hw 1)).trans (by rfl)) ?_
      walk_nrm
      have hF : True := trivial
      refine goes_cal (m := 400) (N := 6595) (w := w₀) (by decide) ?_
      repeat (first
        | u_c stepG_seq (fun _ h => h) hF | u_c stepG_skip (fun _ h => h) hF | u_c stepG_block (fun _ h => h) hF | u_c stepG_loop (fun _ h => h) hF | u_c stepG_inLoop (fun _ h => h) hF | u_c stepG_inBlock (fun _ h => h) hF
        | u_reg (fun _ h => h) hF | u_c stepG_region_end (fun _ h => h) hF | u_cond true (fun _ h => h) hF | u_cond false (fun _ h => h) hF | u_c stepG_ret' (fun _ h => h) hF | u_c stepG_end (fun _ h => h) hF | u_exit (fun _ h => h) hF
        | u_skip (fun _ h => h) hF | u_leave1 H.f_uLoad (fun _ h => h) hF | u_leave1 H.f_uCas (fun _ h => h) hF | (u_leave0 H.f_wait (fun _ h => h) hF; clear hF) | u_call H.f_uLoad (nm_uLoad L) uLoadFn (fun _ h => h) hF | u_call H.f_uCas (nm_uCas L) uCasFn (fun _ h => h) hF
        | (fail_if_success (refine at_call rfl rfl ?_)
           first | u_op (fun _ h => h) hF | u_conv H.underlying_tPU32 H.room_tU32 (rg_c1 hF).choose_spec (fun _ h => h) hF | u_conv H.underlying_tWgP H.room_tWg (rg_c0 hF).choose_spec (fun _ h => h) hF))
      refine Goes.stop (fun _ _ => ?_)
      try clear hF
      refine Cal.again (n := 6594) rfl rfl (fun w hw => stepG_load_atomic (v := 0) rfl rfl (by k_ne) rfl H.f_loadU64 (x_loadU64_n L) (x_loadU64_b L) (x_loadU64_x L) .u64 (x_loadU64_f L) rfl (grp_st hw)) ?_
      walk_nrm
      have hF : True := trivial
      refine goes_cal (m := 400) (N := 6194) (w := w₀) (by decide) ?_
      repeat (first
        | u_c stepG_seq (fun _ h => h) hF | u_c stepG_skip (fun _ h => h) hF | u_c stepG_block (fun _ h => h) hF | u_c stepG_loop (fun _ h => h) hF | u_c stepG_inLoop (fun _ h => h) hF | u_c stepG_inBlock (fun _ h => h) hF
        | u_reg (fun _ h => h) hF | u_c stepG_region_end (fun _ h => h) hF | u_cond true (fun _ h => h) hF | u_cond false (fun _ h => h) hF | u_c stepG_ret' (fun _ h => h) hF | u_c stepG_end (fun _ h => h) hF | u_exit (fun _ h => h) hF
        | u_skip (fun _ h => h) hF | u_leave1 H.f_uLoad (fun _ h => h) hF | u_leave1 H.f_uCas (fun _ h => h) hF | (u_leave0 H.f_wait (fun _ h => h) hF; clear hF) | u_call H.f_uLoad (nm_uLoad L) uLoadFn (fun _ h => h) hF | u_call H.f_uCas (nm_uCas L) uCasFn (fun _ h => h) hF
        | (fail_if_success (refine at_call rfl rfl ?_)
           first | u_op (fun _ h => h) hF | u_conv H.underlying_tPU32 H.room_tU32 (rg_c1 hF).choose_spec (fun _ h => h) hF | u_conv H.underlying_tWgP H.room_tWg (rg_c0 hF).choose_spec (fun _ h => h) hF))
      refine Goes.stop (fun _ _ => ?_)
      try clear hF
      refine Cal.enable (n := 6193) rfl rfl (fun w => stepG_mark0 .enable (by simp) rfl rfl (by k_ne) rfl H.f_enable (x_enable_n L) (x_enable_b L) (x_enable_x L) (x_enable_f L)) ?_
      walk_nrm
      have hF : True := trivial
      refine goes_cal (m := 400) (N := 5793) (w := w₀) (by decide) ?_
      repeat (first
        | u_c stepG_seq (fun _ h => h) hF | u_c stepG_skip (fun _ h => h) hF | u_c stepG_block (fun _ h => h) hF | u_c stepG_loop (fun _ h => h) hF | u_c stepG_inLoop (fun _ h => h) hF | u_c stepG_inBlock (fun _ h => h) hF
        | u_reg (fun _ h => h) hF | u_c stepG_region_end (fun _ h => h) hF | u_cond true (fun _ h => h) hF | u_cond false (fun _ h => h) hF | u_c stepG_ret' (fun _ h => h) hF | u_c stepG_end (fun _ h => h) hF | u_exit (fun _ h => h) hF
        | u_skip (fun _ h => h) hF | u_leave1 H.f_uLoad (fun _ h => h) hF | u_leave1 H.f_uCas (fun _ h => h) hF | (u_leave0 H.f_wait (fun _ h => h) hF; clear hF) | u_call H.f_uLoad (nm_uLoad L) uLoadFn (fun _ h => h) hF | u_call H.f_uCas (nm_uCas L) uCasFn (fun _ h => h) hF
        | (fail_if_success (refine at_call rfl rfl ?_)
           first | u_op (fun _ h => h) hF | u_conv H.underlying_tPU32 H.room_tU32 (rg_c1 hF).choose_spec (fun _ h => h) hF | u_conv H.underlying_tWgP H.room_tWg (rg_c0 hF).choose_spec (fun _ h => h) hF))
      refine Goes.stop (fun _ _ => ?_)
      try clear hF
      refine Cal.acquire (n := 5792) rfl rfl rfl (fun w => stepG_markAt .acquire (by simp) rfl rfl (by k_ne) rfl H.f_acquire (x_acquire_n L) (x_acquire_b L) (x_acquire_x L) (x_acquire_f L) (by simp [Act.eval, sA])) ?_
      walk_nrm
      have hF : True := trivial
      refine goes_cal (m := 400) (N := 5392) (w := w₀) (by decide) ?_
      repeat (first
        | u_c stepG_seq (fun _ h => h) hF | u_c stepG_skip (fun _ h => h) hF | u_c stepG_block (fun _ h => h) hF | u_c stepG_loop (fun _ h => h) hF | u_c stepG_inLoop (fun _ h => h) hF | u_c stepG_inBlock (fun _ h => h) hF
        | u_reg (fun _ h => h) hF | u_c stepG_region_end (fun _ h => h) hF | u_cond true (fun _ h => h) hF | u_cond false (fun _ h => h) hF | u_c stepG_ret' (fun _ h => h) hF | u_c stepG_end (fun _ h => h) hF | u_exit (fun _ h => h) hF
        | u_skip (fun _ h => h) hF | u_leave1 H.f_uLoad (fun _ h => h) hF | u_leave1 H.f_uCas (fun _ h => h) hF | (u_leave0 H.f_wait (fun _ h => h) hF; clear hF) | u_call H.f_uLoad (nm_uLoad L) uLoadFn (fun _ h => h) hF | u_call H.f_uCas (nm_uCas L) uCasFn (fun _ h => h) hF
        | (fail_if_success (refine at_call rfl rfl ?_)
           first | u_op (fun _ h => h) hF | u_conv H.underlying_tPU32 H.room_tU32 (rg_c1 hF).choose_spec (fun _ h => h) hF | u_conv H.underlying_tWgP H.room_tWg (rg_c0 hF).choose_spec (fun _ h => h) hF))
      refine Goes.stop (fun _ _ => ?_)
      try clear hF
      exact Cal.fin rfl hEnd
end Go.Proofs.YtfnbcpeipoobkaaGreat
