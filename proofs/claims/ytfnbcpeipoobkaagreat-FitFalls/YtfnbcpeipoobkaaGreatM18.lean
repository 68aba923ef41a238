/- The fence of the barred program. (Laid by program: sp.py.) From the law's entry to its end, in company: pieces of the lone machine's way, put together. The lone machine's way, piece by piece. -/
import Derived.Test.YtfnbcpeipoobkaaGreatM17
import Derived.Test.YtfnbcpeipoobkaaGreatM14
import Derived.Calls
set_option linter.unusedSectionVars false
namespace Go.Proofs.YtfnbcpeipoobkaaGreat
open Go
def Kept (fn : Func) : Prop := fn = Tryz.f39 ∨ fn = Tryz.f91 ∨ fn = Tryz.f92 ∨ fn = Tryz.f105
theorem bar_fen : Fen (barL Tryz.prog) Tryz.prog.funcs.toList := by
  rw [Bar.list_eq, Bar.plain_eq]
  exact ⟨.inr rfl, .inr rfl, .inl rfl, .inl rfl, .inl rfl, .inl rfl, .inl rfl, .inl rfl, .inl rfl, .inl rfl, .inl rfl, .inr rfl, .inl rfl, .inl rfl, .inl rfl, .inl rfl, .inl rfl, .inl rfl, .inl rfl, .inl rfl, .inl rfl, .inl rfl, .inr rfl, .inr rfl, .inr rfl, .inl rfl, .inr rfl, .inl rfl, .inl rfl, .inl rfl, .inl rfl, .inl rfl, .inl rfl, .inl rfl, .inl rfl, .inl rfl, .inl rfl, .inl rfl, .inl rfl, .inl rfl, .inr rfl, .inr rfl, .inr rfl, .inr rfl, .inr rfl, .inr rfl, .inl rfl, .inl rfl, .inr rfl, .inl rfl, .inl rfl, .inr rfl, .inr rfl, .inl rfl, .inl rfl, .inr rfl, .inr rfl, .inl rfl, .inr rfl, .inr rfl, .inl rfl, .inl rfl, .inl rfl, .inl rfl, .inl rfl, .inl rfl, .inl rfl, .inl rfl, .inl rfl, .inl rfl, .inl rfl, .inl rfl, .inl rfl, .inl rfl, .inl rfl, .inl rfl, .inl rfl, .inr rfl, .inr rfl, .inr rfl, .inr rfl, .inl rfl, .inl rfl, .inl rfl, .inr rfl, .inl rfl, .inl rfl, .inl rfl, .inl rfl, .inl rfl, .inl rfl, .inl rfl, .inl rfl, .inl rfl, .inl rfl, .inl rfl, .inl rfl, .inl rfl, .inl rfl, .inl rfl, .inl rfl, .inl rfl, .inl rfl, .inl rfl, .inl rfl, .inl rfl, .inl rfl, .inr rfl, .inr rfl, .inr rfl, .inr rfl, .inr rfl, .inr rfl, .inr rfl, .inr rfl, .inr rfl, .inr rfl, .inr rfl, .inr rfl, .inr rfl, .inr rfl, .inr rfl, .inr rfl, .inr rfl, trivial⟩
theorem bar_ends : EndsF Kept (barL Tryz.prog) := by
  rw [Bar.list_eq]
  exact ⟨.inr (.inl ⟨_, rfl⟩), .inr (.inl ⟨_, rfl⟩), .inl (by kernel_rfl), .inl (by kernel_rfl), .inl (by kernel_rfl), .inl (by kernel_rfl), .inl (by kernel_rfl), .inl (by kernel_rfl), .inl (by kernel_rfl), .inl (by kernel_rfl), .inl (by kernel_rfl), .inr (.inl ⟨_, rfl⟩), .inl (by kernel_rfl), .inl (by kernel_rfl), .inl (by kernel_rfl), .inl (by kernel_rfl), .inl (by kernel_rfl), .inl (by kernel_rfl), .inl (by kernel_rfl), .inl (by kernel_rfl), .inl (by kernel_rfl), .inl (by kernel_rfl), .inr (.inl ⟨_, rfl⟩), .inr (.inl ⟨_, rfl⟩), .inr (.inl ⟨_, rfl⟩), .inl (by kernel_rfl), .inr (.inl ⟨_, rfl⟩), .inl (by kernel_rfl), .inl (by kernel_rfl), .inl (by kernel_rfl), .inl (by kernel_rfl), .inl (by kernel_rfl), .inl (by kernel_rfl), .inl (by kernel_rfl), .inl (by kernel_rfl), .inl (by kernel_rfl), .inl (by kernel_rfl), .inl (by kernel_rfl), .inl (by kernel_rfl), .inr (.inr (by unfold Kept; simp)), .inr (.inl ⟨_, rfl⟩), .inr (.inl ⟨_, rfl⟩), .inr (.inl ⟨_, rfl⟩), .inr (.inl ⟨_, rfl⟩), .inr (.inl ⟨_, rfl⟩), .inr (.inl ⟨_, rfl⟩), .inl (by kernel_rfl), .inl (by kernel_rfl), .inr (.inl ⟨_, rfl⟩), .inl (by kernel_rfl), .inl (by kernel_rfl), .inr (.inl ⟨_, rfl⟩), .inr (.inl ⟨_, rfl⟩), .inl (by kernel_rfl), .inl (by kernel_rfl), .inr (.inl ⟨_, rfl⟩), .inr (.inl ⟨_, rfl⟩), .inl (by kernel_rfl), .inr (.inl ⟨_, rfl⟩), .inr (.inl ⟨_, rfl⟩), .inl (by kernel_rfl), .inl (by kernel_rfl), .inl (by kernel_rfl), .inl (by kernel_rfl), .inl (by kernel_rfl), .inl (by kernel_rfl), .inl (by kernel_rfl), .inl (by kernel_rfl), .inl (by kernel_rfl), .inl (by kernel_rfl), .inl (by kernel_rfl), .inl (by kernel_rfl), .inl (by kernel_rfl), .inl (by kernel_rfl), .inl (by kernel_rfl), .inl (by kernel_rfl), .inl (by kernel_rfl), .inr (.inl ⟨_, rfl⟩), .inr (.inl ⟨_, rfl⟩), .inr (.inl ⟨_, rfl⟩), .inr (.inl ⟨_, rfl⟩), .inl (by kernel_rfl), .inl (by kernel_rfl), .inl (by kernel_rfl), .inr (.inl ⟨_, rfl⟩), .inl (by kernel_rfl), .inl (by kernel_rfl), .inl (by kernel_rfl), .inl (by kernel_rfl), .inl (by kernel_rfl), .inl (by kernel_rfl), .inr (.inr (by unfold Kept; simp)), .inr (.inr (by unfold Kept; simp)), .inl (by kernel_rfl), .inl (by kernel_rfl), .inl (by kernel_rfl), .inl (by kernel_rfl), .inl (by kernel_rfl), .inl (by kernel_rfl), .inl (by kernel_rfl), .inl (by kernel_rfl), .inl (by kernel_rfl), .inl (by kernel_rfl), .inl (by kernel_rfl), .inl (by kernel_rfl), .inr (.inr (by unfold Kept; simp)), .inl (by kernel_rfl), .inr (.inl ⟨_, rfl⟩), .inr (.inl ⟨_, rfl⟩), .inr (.inl ⟨_, rfl⟩), .inr (.inl ⟨_, rfl⟩), .inr (.inl ⟨_, rfl⟩), .inr (.inl ⟨_, rfl⟩), .inr (.inl ⟨_, rfl⟩), .inr (.inl ⟨_, rfl⟩), .inr (.inl ⟨_, rfl⟩), .inr (.inl ⟨_, rfl⟩), .inr (.inl ⟨_, rfl⟩), .inr (.inl ⟨_, rfl⟩), .inr (.inl ⟨_, rfl⟩), .inr (.inl ⟨_, rfl⟩), .inr (.inl ⟨_, rfl⟩), .inr (.inl ⟨_, rfl⟩), .inr (.inl ⟨_, rfl⟩), trivial⟩
theorem bar_bods : Bods Tryz.prog (barL Tryz.prog) := by
  rw [Bar.list_eq]
  exact ⟨.inl rfl, .inl rfl, .inr ⟨_, (by kernel_rfl : Tryz.f2.body = some (Tryz.f2.body.getD .skip)), by kernel_rfl⟩, .inr ⟨_, (by kernel_rfl : Tryz.f3.body = some (Tryz.f3.body.getD .skip)), by kernel_rfl⟩, .inr ⟨_, (by kernel_rfl : Tryz.f4.body = some (Tryz.f4.body.getD .skip)), by kernel_rfl⟩, .inr ⟨_, (by kernel_rfl : Tryz.f5.body = some (Tryz.f5.body.getD .skip)), by kernel_rfl⟩, .inr ⟨_, (by kernel_rfl : Tryz.f6.body = some (Tryz.f6.body.getD .skip)), by kernel_rfl⟩, .inr ⟨_, (by kernel_rfl : Tryz.f7.body = some (Tryz.f7.body.getD .skip)), by kernel_rfl⟩, .inr ⟨_, (by kernel_rfl : Tryz.f8.body = some (Tryz.f8.body.getD .skip)), by kernel_rfl⟩, .inr ⟨_, (by kernel_rfl : Tryz.f9.body = some (Tryz.f9.body.getD .skip)), by kernel_rfl⟩, .inr ⟨_, (by kernel_rfl : Tryz.f10.body = some (Tryz.f10.body.getD .skip)), by kernel_rfl⟩, .inl rfl, .inr ⟨_, (by kernel_rfl : Tryz.f12.body = some (Tryz.f12.body.getD .skip)), by kernel_rfl⟩, .inr ⟨_, (by kernel_rfl : Tryz.f13.body = some (Tryz.f13.body.getD .skip)), by kernel_rfl⟩, .inr ⟨_, (by kernel_rfl : Tryz.f14.body = some (Tryz.f14.body.getD .skip)), by kernel_rfl⟩, .inr ⟨_, (by kernel_rfl : Tryz.f15.body = some (Tryz.f15.body.getD .skip)), by kernel_rfl⟩, .inr ⟨_, (by kernel_rfl : Tryz.f16.body = some (Tryz.f16.body.getD .skip)), by kernel_rfl⟩, .inr ⟨_, (by kernel_rfl : Tryz.f17.body = some (Tryz.f17.body.getD .skip)), by kernel_rfl⟩, .inr ⟨_, (by kernel_rfl : Tryz.f18.body = some (Tryz.f18.body.getD .skip)), by kernel_rfl⟩, .inr ⟨_, (by kernel_rfl : Tryz.f19.body = some (Tryz.f19.body.getD .skip)), by kernel_rfl⟩, .inr ⟨_, (by kernel_rfl : Tryz.f20.body = some (Tryz.f20.body.getD .skip)), by kernel_rfl⟩, .inr ⟨_, (by kernel_rfl : Tryz.f21.body = some (Tryz.f21.body.getD .skip)), by kernel_rfl⟩, .inl rfl, .inl rfl, .inl rfl, .inr ⟨_, (by kernel_rfl : Tryz.f25.body = some (Tryz.f25.body.getD .skip)), by kernel_rfl⟩, .inl rfl, .inr ⟨_, (by kernel_rfl : Tryz.f27.body = some (Tryz.f27.body.getD .skip)), by kernel_rfl⟩, .inr ⟨_, (by kernel_rfl : Tryz.f28.body = some (Tryz.f28.body.getD .skip)), by kernel_rfl⟩, .inr ⟨_, (by kernel_rfl : Tryz.f29.body = some (Tryz.f29.body.getD .skip)), by kernel_rfl⟩, .inr ⟨_, (by kernel_rfl : Tryz.f30.body = some (Tryz.f30.body.getD .skip)), by kernel_rfl⟩, .inr ⟨_, (by kernel_rfl : Tryz.f31.body = some (Tryz.f31.body.getD .skip)), by kernel_rfl⟩, .inr ⟨_, (by kernel_rfl : Tryz.f32.body = some (Tryz.f32.body.getD .skip)), by kernel_rfl⟩, .inr ⟨_, (by kernel_rfl : Tryz.f33.body = some (Tryz.f33.body.getD .skip)), by kernel_rfl⟩, .inr ⟨_, (by kernel_rfl : Tryz.f34.body = some (Tryz.f34.body.getD .skip)), by kernel_rfl⟩, .inr ⟨_, (by kernel_rfl : Tryz.f35.body = some (Tryz.f35.body.getD .skip)), by kernel_rfl⟩, .inr ⟨_, (by kernel_rfl : Tryz.f36.body = some (Tryz.f36.body.getD .skip)), by kernel_rfl⟩, .inr ⟨_, (by kernel_rfl : Tryz.f37.body = some (Tryz.f37.body.getD .skip)), by kernel_rfl⟩, .inr ⟨_, (by kernel_rfl : Tryz.f38.body = some (Tryz.f38.body.getD .skip)), by kernel_rfl⟩, .inl rfl, .inl rfl, .inl rfl, .inl rfl, .inl rfl, .inl rfl, .inl rfl, .inr ⟨_, (by kernel_rfl : Tryz.f46.body = some (Tryz.f46.body.getD .skip)), by kernel_rfl⟩, .inr ⟨_, (by kernel_rfl : Tryz.f47.body = some (Tryz.f47.body.getD .skip)), by kernel_rfl⟩, .inl rfl, .inr ⟨_, (by kernel_rfl : Tryz.f49.body = some (Tryz.f49.body.getD .skip)), by kernel_rfl⟩, .inr ⟨_, (by kernel_rfl : Tryz.f50.body = some (Tryz.f50.body.getD .skip)), by kernel_rfl⟩, .inl rfl, .inl rfl, .inr ⟨_, (by kernel_rfl : Tryz.f53.body = some (Tryz.f53.body.getD .skip)), by kernel_rfl⟩, .inr ⟨_, (by kernel_rfl : Tryz.f54.body = some (Tryz.f54.body.getD .skip)), by kernel_rfl⟩, .inl rfl, .inl rfl, .inr ⟨_, (by kernel_rfl : Tryz.f57.body = some (Tryz.f57.body.getD .skip)), by kernel_rfl⟩, .inl rfl, .inl rfl, .inr ⟨_, (by kernel_rfl : Tryz.f60.body = some (Tryz.f60.body.getD .skip)), by kernel_rfl⟩, .inr ⟨_, (by kernel_rfl : Tryz.f61.body = some (Tryz.f61.body.getD .skip)), by kernel_rfl⟩, .inr ⟨_, (by kernel_rfl : Tryz.f62.body = some (Tryz.f62.body.getD .skip)), by kernel_rfl⟩, .inr ⟨_, (by kernel_rfl : Tryz.f63.body = some (Tryz.f63.body.getD .skip)), by kernel_rfl⟩, .inr ⟨_, (by kernel_rfl : Tryz.f64.body = some (Tryz.f64.body.getD .skip)), by kernel_rfl⟩, .inr ⟨_, (by kernel_rfl : Tryz.f65.body = some (Tryz.f65.body.getD .skip)), by kernel_rfl⟩, .inr ⟨_, (by kernel_rfl : Tryz.f66.body = some (Tryz.f66.body.getD .skip)), by kernel_rfl⟩, .inr ⟨_, (by kernel_rfl : Tryz.f67.body = some (Tryz.f67.body.getD .skip)), by kernel_rfl⟩, .inr ⟨_, (by kernel_rfl : Tryz.f68.body = some (Tryz.f68.body.getD .skip)), by kernel_rfl⟩, .inr ⟨_, (by kernel_rfl : Tryz.f69.body = some (Tryz.f69.body.getD .skip)), by kernel_rfl⟩, .inr ⟨_, (by kernel_rfl : Tryz.f70.body = some (Tryz.f70.body.getD .skip)), by kernel_rfl⟩, .inr ⟨_, (by kernel_rfl : Tryz.f71.body = some (Tryz.f71.body.getD .skip)), by kernel_rfl⟩, .inr ⟨_, (by kernel_rfl : Tryz.f72.body = some (Tryz.f72.body.getD .skip)), by kernel_rfl⟩, .inr ⟨_, (by kernel_rfl : Tryz.f73.body = some (Tryz.f73.body.getD .skip)), by kernel_rfl⟩, .inr ⟨_, (by kernel_rfl : Tryz.f74.body = some (Tryz.f74.body.getD .skip)), by kernel_rfl⟩, .inr ⟨_, (by kernel_rfl : Tryz.f75.body = some (Tryz.f75.body.getD .skip)), by kernel_rfl⟩, .inr ⟨_, (by kernel_rfl : Tryz.f76.body = some (Tryz.f76.body.getD .skip)), by kernel_rfl⟩, .inl rfl, .inl rfl, .inl rfl, .inl rfl, .inr ⟨_, (by kernel_rfl : Tryz.f81.body = some (Tryz.f81.body.getD .skip)), by kernel_rfl⟩, .inr ⟨_, (by kernel_rfl : Tryz.f82.body = some (Tryz.f82.body.getD .skip)), by kernel_rfl⟩, .inr ⟨_, (by kernel_rfl : Tryz.f83.body = some (Tryz.f83.body.getD .skip)), by kernel_rfl⟩, .inl rfl, .inr ⟨_, (by kernel_rfl : Tryz.f85.body = some (Tryz.f85.body.getD .skip)), by kernel_rfl⟩, .inr ⟨_, (by kernel_rfl : Tryz.f86.body = some (Tryz.f86.body.getD .skip)), by kernel_rfl⟩, .inr ⟨_, (by kernel_rfl : Tryz.f87.body = some (Tryz.f87.body.getD .skip)), by kernel_rfl⟩, .inr ⟨_, (by kernel_rfl : Tryz.f88.body = some (Tryz.f88.body.getD .skip)), by kernel_rfl⟩, .inr ⟨_, (by kernel_rfl : Tryz.f89.body = some (Tryz.f89.body.getD .skip)), by kernel_rfl⟩, .inr ⟨_, (by kernel_rfl : Tryz.f90.body = some (Tryz.f90.body.getD .skip)), by kernel_rfl⟩, .inl rfl, .inl rfl, .inr ⟨_, (by kernel_rfl : Tryz.f93.body = some (Tryz.f93.body.getD .skip)), by kernel_rfl⟩, .inr ⟨_, (by kernel_rfl : Tryz.f94.body = some (Tryz.f94.body.getD .skip)), by kernel_rfl⟩, .inr ⟨_, (by kernel_rfl : Tryz.f95.body = some (Tryz.f95.body.getD .skip)), by kernel_rfl⟩, .inr ⟨_, (by kernel_rfl : Tryz.f96.body = some (Tryz.f96.body.getD .skip)), by kernel_rfl⟩, .inr ⟨_, (by kernel_rfl : Tryz.f97.body = some (Tryz.f97.body.getD .skip)), by kernel_rfl⟩, .inr ⟨_, (by kernel_rfl : Tryz.f98.body = some (Tryz.f98.body.getD .skip)), by kernel_rfl⟩, .inr ⟨_, (by kernel_rfl : Tryz.f99.body = some (Tryz.f99.body.getD .skip)), by kernel_rfl⟩, .inr ⟨_, (by kernel_rfl : Tryz.f100.body = some (Tryz.f100.body.getD .skip)), by kernel_rfl⟩, .inr ⟨_, (by kernel_rfl : Tryz.f101.body = some (Tryz.f101.body.getD .skip)), by kernel_rfl⟩, .inr ⟨_, (by kernel_rfl : Tryz.f102.body = some (Tryz.f102.body.getD .skip)), by kernel_rfl⟩, .inr ⟨_, (by kernel_rfl : Tryz.f103.body = some (Tryz.f103.body.getD .skip)), by kernel_rfl⟩, .inr ⟨_, (by kernel_rfl : Tryz.f104.body = some (Tryz.f104.body.getD .skip)), by kernel_rfl⟩, .inl rfl, .inr ⟨_, (by kernel_rfl : Tryz.f106.body = some (Tryz.f106.body.getD .skip)), by kernel_rfl⟩, .inl rfl, .inl rfl, .inl rfl, .inl rfl, .inl rfl, .inl rfl, .inl rfl, .inl rfl, .inl rfl, .inl rfl, .inl rfl, .inl rfl, .inl rfl, .inl rfl, .inl rfl, .inl rfl, .inl rfl, trivial⟩
theorem next39 : Extern.findNext Tryz.f39 = none := by kernel_rfl
theorem find39 : Extern.find Tryz.f39 = some (Extern.Atomic.update (Op.intArith .add) .i64 true) := by kernel_rfl
theorem next91 : Extern.findNext Tryz.f91 = none := by kernel_rfl
theorem find91 : Extern.find Tryz.f91 = some (Extern.MathFloatBits.float64frombits) := by kernel_rfl
theorem next92 : Extern.findNext Tryz.f92 = none := by kernel_rfl
theorem find92 : Extern.find Tryz.f92 = some (Extern.MathFloatBits.float64bits) := by kernel_rfl
theorem next105 : Extern.findNext Tryz.f105 = none := by kernel_rfl
theorem find105 : Extern.find Tryz.f105 = some (Extern.MathFloor.toIntegral "math.archTrunc" .zero) := by kernel_rfl
theorem bar_num : (barL Tryz.prog).all (fun fn => !(fn.name == "runtime.NumGoroutine")) = true := by kernel_rfl
theorem fence : FenceB Tryz.prog (barF Tryz.prog) := by
  letI : Inhabited Junk := noJunk
  refine fence_of (l := barL Tryz.prog) (m := Tryz.prog.funcs.toList) rfl (by simp) bar_fen bar_num bar_ends fun fn h => ?_
  rcases h with rfl | rfl | rfl | rfl
  · refine ⟨next39, fun e he _ args => ?_⟩
    rw [find39] at he
    cases he
    exact sim_addInt64 args
  · refine ⟨next91, fun e he _ args => ?_⟩
    rw [find91] at he
    cases he
    exact sim_float64frombits args
  · refine ⟨next92, fun e he _ args => ?_⟩
    rw [find92] at he
    cases he
    exact sim_float64bits args
  · refine ⟨next105, fun e he _ args => ?_⟩
    rw [find105] at he
    cases he
    exact sim_toIntegral _ _ args
theorem fen_refl : ∀ l : List Func, Fen l l
  | [] => trivial
  | _ :: l => ⟨.inl rfl, fen_refl l⟩
theorem fenceB : FenceB (barP Tryz.prog) (barF Tryz.prog) := by
  letI : Inhabited Junk := noJunk
  refine fence_of (l := barL Tryz.prog) (m := barL Tryz.prog) rfl rfl (fen_refl _) bar_num bar_ends fun fn h => ?_
  rcases h with rfl | rfl | rfl | rfl
  · refine ⟨next39, fun e he _ args => ?_⟩
    rw [find39] at he
    cases he
    exact sim_addInt64 args
  · refine ⟨next91, fun e he _ args => ?_⟩
    rw [find91] at he
    cases he
    exact sim_float64frombits args
  · refine ⟨next92, fun e he _ args => ?_⟩
    rw [find92] at he
    cases he
    exact sim_float64bits args
  · refine ⟨next105, fun e he _ args => ?_⟩
    rw [find105] at he
    cases he
    exact sim_toIntegral _ _ args
theorem bodies : Bodies Tryz.prog (barF Tryz.prog) := by
  letI : Inhabited Junk := noJunk
  exact bodies_of (l := barL Tryz.prog) rfl bar_bods
end Go.Proofs.YtfnbcpeipoobkaaGreat

set_option linter.unusedSectionVars false
namespace Go.Proofs.YtfnbcpeipoobkaaGreat
open Go Go.Conc Go.RowKit
variable [Inhabited Junk]

theorem lone0_past {n : Nat} {t : Trace} (h : Lone0 n t) : Past (Veil fun _ => False) n t := by
  have h0 : Past (Veil fun _ => False) n (#[] : Trace) := ⟨past_nil.clean, fun i a ha => by simp [touchAt, Trace.act?] at ha, past_nil.over, rfl, by simp⟩
  have := h0.app0 (u := t) (fun op ho => (h.ops op ho).1) (fun op ho b hb hs => by obtain ⟨_, _, x⟩ := hs; exact x.elim) (by rw [Array.empty_append, h.deaf]; rfl) (fun op ho => by
    obtain ⟨_, e, e1, e2, e3⟩ := h.ops op ho
    rw [e1]
    exact (evL_of_fine e2 e3).2.2.2)
  rwa [Array.empty_append] at this
theorem lone0_deaf {n : Nat} {t : Trace} (h : Lone0 n t) (j : Nat) (hj : j ≠ 0) : Deaf t j = 0 := by
  have := Deaf_other #[] (g := j) (g' := 0) (Ne.symm hj) t fun op ho => (h.ops op ho).1
  rw [Array.empty_append] at this
  rw [this]
  simp [Deaf, Trace.deaf]
theorem lone0_leavers {P : Program} {n : Nat} {t : Trace} (h : Lone0 n t) (a : Goroutine) : Leavers P t #[a] (fun _ => 0) :=
  ⟨fun i g hi hg => by
    have : i < 1 := by simpa using (Array.getElem?_eq_some_iff.1 hg).1
    omega, fun j hj => lone0_deaf h j (by have : 1 ≤ j := by simpa using hj
                                          omega)⟩

theorem sib_alloc {P : Program} {V : Nat → Prop} {w v : World} {o : Obj} (h : Sib P V w v) (ho : okObj P o) : Sib P V (w.alloc o) (v.alloc o) := by
  refine ⟨by simp [h.size], fun r hr => ?_, fun r hr => ?_, fun r o' => ?_, h.env⟩
  · simp only [World.alloc, Array.getElem?_push, h.size]
    split
    · exact .inl rfl
    · exact h.like r hr
  · have := sib_lt h hr
    simp only [World.alloc, Array.getElem?_push, h.size, if_neg (Nat.ne_of_lt this)]
    exact h.veil r hr
  · simp only [World.alloc, Array.getElem?_push]
    split
    · exact fun e => Option.some.inj e ▸ ho
    · exact h.kind r o'
/-- The lone world behind the go statement: the group's row is empty. -/
def vw (w : World) (n : Int) (cS : Value) (da : Option Addr) (m dc : Nat) : World := (bw5 w n cS da m dc).alloc (.cells #[] 73)
theorem sib_bw {w v : World} (h : Sib Tryz.prog (fun _ => False) w v) (n : Int) (cS : Value) (da : Option Addr) (m dc : Nat) : Sib Tryz.prog (fun x => x = v.heap.size + 6) (vw w n cS da m dc) (bw7 v n cS da m dc) := by
  have h5 : Sib Tryz.prog (fun _ => False) (bw5 w n cS da m dc) (bw5 v n cS da m dc) := by
    unfold bw5 bw4 bw3 bw2 bw1
    rw [h.size]
    exact sib_alloc (sib_alloc (sib_alloc (sib_alloc (sib_alloc (sib_alloc h trivial) trivial) trivial) trivial) trivial) trivial
  have s5 := bw5_size w n cS da m dc
  have s5' := bw5_size v n cS da m dc
  have e6 : (bw6 v n cS da m dc).heap[v.heap.size + 6]? = some (.cells #[.int .u64 0, .int .u32 0] 73) := bw_wg v n cS da m dc
  have e7 : (bw7 v n cS da m dc).heap[v.heap.size + 6]? = some (.cells #[.int .u64 ConcR.KK, .int .u32 0] 73) := heap_setCell_same _ (v.heap.size + 6) 0 _ _ (.int .u64 ConcR.KK) e6
  have o7 : ∀ r, r ≠ v.heap.size + 6 → (bw7 v n cS da m dc).heap[r]? = (bw6 v n cS da m dc).heap[r]? := fun r hr => heap_setCell_other _ _ _ _ hr
  refine ⟨?_, fun r hr => ?_, fun r hr => ?_, fun r o => ?_, h5.env⟩
  · have := World.size_setCell (bw6 v n cS da m dc) (ConcR.stA (v.heap.size + 6)) (.int .u64 ConcR.KK)
    show (bw7 v n cS da m dc).heap.size = (vw w n cS da m dc).heap.size
    unfold bw7 vw
    rw [this, bw6_size]
    simp [s5, h.size]
  · have hr : r ≠ v.heap.size + 6 := hr
    rw [o7 r hr]
    unfold bw6 vw
    simp only [World.alloc, Array.getElem?_push, s5, s5', h.size]
    rw [if_neg (by rw [← h.size]; exact hr)]
    rw [if_neg (by rw [← h.size]; exact hr)]
    exact h5.like r id
  · obtain rfl : r = v.heap.size + 6 := hr
    refine ⟨_, _, ?_, e7⟩
    unfold vw
    have := heap_alloc_new (bw5 w n cS da m dc) (.cells #[] 73)
    rw [s5] at this
    rw [h.size]
    exact this
  · unfold vw
    simp only [World.alloc, Array.getElem?_push]
    split
    · intro e; cases e; trivial
    · exact h5.kind r o

/-- It stands at the call of byWorkers. -/
def AtC (fr : Frame) (up : List Frame) (n : Int) (cS : Value) (da : Option Addr) (m dc : Nat) : Prop := m ≤ 64 ∧ ∀ (w : World) (cs : List Frame), stepG Tryz.prog true (runG fr (up ++ cs)) w = .go (G ((base 11).at ⟨#[.agg #[.int .i64 n, cS], .slice da m dc, .int .i64 1, undef, undef, undef, undef, undef, undef, undef, undef, undef, undef, undef, undef, undef, undef, undef, undef, undef, undef, undef, undef], []⟩ [.code (body15 Tryz.f11)]) (fr :: (up ++ cs))) w #[]
/-- The lone way from the law's entry to its end, in pieces. -/
def Pieces (f : FuncId) (Post0 : Frame → World → Prop) (Post1 : Nat → Frame → World → Prop) (fr : Frame) (up : List Frame) (w : World) : Prop :=
  (Out f fr up ∧ Post0 fr w) ∨ ∃ (n : Int) (cS : Value) (da : Option Addr) (m dc : Nat) (R2 : World → Prop), AtC fr up n cS da m dc ∧
    (∃ r, GoesW (bar Tryz.prog (barF Tryz.prog)) r (fun fr' up' w' => up' = [] ∧ (∃ T, fr' = out28 w.heap.size T) ∧ R2 w') (fr28 Tryz.f23 w.heap.size) [] (vw w n cS da m dc)) ∧
    ∀ w2, R2 w2 → ∃ r, GoesW (bar Tryz.prog (barF Tryz.prog)) r (fun fr' up' w' => Out f fr' up' ∧ Post1 (w.heap.size + 6) fr' w') (fr15 Tryz.f11 w.heap.size n cS da m dc) (fr :: up) w2
theorem ok28 (b : Nat) : okFrame Tryz.prog (fr28 Tryz.f23 b) := by
  have h1 : okCode Tryz.prog (rest28 Tryz.f23) = true := by kernel_rfl
  refine ⟨fun i hi => ?_, fun d hd => ?_⟩
  · have : i = .code (rest28 Tryz.f23) := by simpa [fr28, Frame.at] using hi
    rw [this]
    exact h1
  · have : d = done28 b := by simpa [fr28, Frame.at] using hd
    rw [this]
    rfl
theorem ok15 (b : Nat) (n : Int) (cS : Value) (da : Option Addr) (m dc : Nat) : okFrame Tryz.prog (fr15 Tryz.f11 b n cS da m dc) := by
  have h1 : okCode Tryz.prog (rest15 Tryz.f11) = true := by kernel_rfl
  have h2 : ((ops15 Tryz.f11).all fun o => okOp Tryz.prog o.op) = true := by kernel_rfl
  refine ⟨fun i hi => ?_, fun d hd => ?_⟩
  · have : i = .inRegion (ops15 Tryz.f11) [] ∨ i = .code (rest15 Tryz.f11) := by simpa [fr15, Frame.at] using hi
    rcases this with rfl | rfl
    · exact h2
    · exact h1
  · simp [fr15, Frame.at] at hd
/-- ████ THE RUN OF THE LAW. ████ -/
theorem law_run {f : FuncId} {fn : Func} {i : Nat} {args : Array Value} {W w0 : World} {Post : Value → World → Prop} {Post0 : Frame → World → Prop} {Post1 : Nat → Frame → World → Prop} (hf : Tryz.prog.funcs[f]? = some fn) (hr : fn.results = #[.tmp i]) (hi : Tryz.prog.inits.idxOf? f = none)
    (hS : Sib Tryz.prog (fun _ => False) w0 W) (hok : okFrame Tryz.prog (Frame.enter Tryz.prog f args .normal)) (hg : ∃ r, GoesW (bar Tryz.prog (barF Tryz.prog)) r (Pieces f Post0 Post1) (Frame.enter Tryz.prog f args .normal) [] w0)
    (h0 : ∀ fr w v, Post0 fr w → Sib Tryz.prog (fun _ => False) w v → v.os = W.os → v.output = W.output → v.tape = W.tape → Post (fr.tmps.getD i undef) v)
    (h1 : ∀ g fr w v, Post1 g fr w → Sib Tryz.prog (fun x => x = g) w v → v.os = W.os → v.output = W.output → v.tape = W.tape → Post (fr.tmps.getD i undef) v) :
    ∃ M last o w' t', runNT Tryz.prog (M + 1) (solo (G (Frame.enter Tryz.prog f args .normal) []) W) #[] = (.ended o w', t') ∧ runN Tryz.prog M (solo (G (Frame.enter Tryz.prog f args .normal) []) W) = .next last ∧ step Tryz.prog last = .ended o w' ∧ Go.Conc.Good Tryz.prog Post last o w' t' := by
  obtain ⟨r, hg⟩ := hg
  obtain ⟨N1, fr1, up1, w1, v1, t1, a1, a2, a3, ⟨a4, a4'⟩, a5, a6, a7, a8⟩ := solo_goesW fence bodies (cs := []) hg W #[] hS hok (by simp) (lone0_nil _)
  have fin : ∀ {N2 : Nat} {m2 : Machine} {t2 : Trace}, runNT Tryz.prog N2 (solo (runG (Frame.enter Tryz.prog f args .normal) ([] ++ [])) W) #[] = (.next m2, t2) → (∃ M last o w' t', runNT Tryz.prog (M + 1) m2 t2 = (.ended o w', t') ∧ runN Tryz.prog M m2 = .next last ∧ step Tryz.prog last = .ended o w' ∧ Go.Conc.Good Tryz.prog Post last o w' t') →
      ∃ M last o w' t', runNT Tryz.prog (M + 1) (solo (G (Frame.enter Tryz.prog f args .normal) []) W) #[] = (.ended o w', t') ∧ runN Tryz.prog M (solo (G (Frame.enter Tryz.prog f args .normal) []) W) = .next last ∧ step Tryz.prog last = .ended o w' ∧ Go.Conc.Good Tryz.prog Post last o w' t' := by
    intro N2 m2 t2 e1 ⟨M, last, o, w', t', e2, e3, e4, e5⟩
    refine ⟨N2 + M, last, o, w', t', ?_, ?_, e4, e5⟩
    · rw [Nat.add_assoc]
      exact run_then (P := Tryz.prog) e1 e2
    · rw [runN_add, ← runNT_fst Tryz.prog _ _ #[]]
      have e1 : runNT Tryz.prog N2 (solo (G (Frame.enter Tryz.prog f args .normal) []) W) #[] = (.next m2, t2) := e1
      rw [e1]
      exact e3
  rcases a2 with ⟨hO, hP⟩ | ⟨n, cS, da, m, dc, R2, ⟨hm, hC⟩, ⟨r2, hc⟩, hrest⟩
  · refine fin a1 (arrived_ends (V := fun _ => False) (E := fun fr up w => Out f fr up ∧ Post0 fr w) (v0 := W) (n := 1) hf hr hi (fun fr up w x => ⟨x.1, fun v' y1 y2 y3 y4 => h0 fr w v' x.2 y1 y2 y3 y4⟩) ?_)
    exact ⟨#[runG fr1 (up1 ++ [])], fr1, up1, w1, v1, none, fun _ => 0, rfl, rfl, rfl, ⟨hO, hP⟩, a3, ⟨a4, a4'⟩, lone0_leavers a5 _, ⟨_, lone0_past a5⟩, a6, a7, a8⟩
  · have hsz : v1.heap.size = w1.heap.size := a3.size
    -- the call
    have hstep := (stepT_solo (P := Tryz.prog) (a := runG fr1 (up1 ++ [])) (w := v1) rfl).trans (runT_solo_go (hC v1 []))
    have q1 : runNT Tryz.prog 1 (solo (runG fr1 (up1 ++ [])) v1) t1 = (.next (solo (G ((base 11).at ⟨#[.agg #[.int .i64 n, cS], .slice da m dc, .int .i64 1, undef, undef, undef, undef, undef, undef, undef, undef, undef, undef, undef, undef, undef, undef, undef, undef, undef, undef, undef, undef], []⟩ [.code (body15 Tryz.f11)]) (fr1 :: (up1 ++ []))) v1), t1) := by
      simp only [runNT, hstep, of_none]
    -- to the machine of two
    obtain ⟨N2, ca, child, v2, t2, b1, b2, rfl, rfl, b3⟩ := start_run (P := Tryz.prog) (a5.st (Wg := v1.heap.size + 6) (by omega)) (bw_start v1 n cS da m dc hm (fr1 :: (up1 ++ [])))
    have hS2 := sib_bw a3 n cS da m dc
    have hG : GrpAt 73 (v1.heap.size + 6) (bw7 v1 n cS da m dc) 4294967296 0 := heap_setCell_same _ (v1.heap.size + 6) 0 _ _ (.int .u64 ConcR.KK) (bw_wg v1 n cS da m dc)
    have hF1 : Fits1 ⟨0, 0⟩ ⟨0, false, 0⟩ 4294967296 0 := ⟨rfl, .inl ⟨by decide, .inl ⟨rfl, rfl, rfl⟩⟩⟩
    have hrun := (cal_step b3 (fits1_not3 hF1) hG (fits1_0 hF1) hS2).1
    rw [← hsz] at hc hrest
    obtain ⟨N3, m3, t3, c1, fr', up', w', ⟨_, _, hR2⟩, hJ⟩ := idle_run (P := Tryz.prog) fence bodies (v0 := bw7 v1 n cS da m dc) (cs1 := [(bot28 Tryz.prog)]) (fun fr up w h => by
      obtain ⟨rfl, ⟨T, rfl⟩, _⟩ := h
      exact ⟨9001, chi28 v1.heap.size T⟩) hc (ok28 _) (by simp) 5 _ (idle28 v1.heap.size) 9400 ca (bw7 v1 n cS da m dc) none t2 ⟨0, false, 0⟩ 4294967296 0 (.inl ⟨hrun, b3⟩) b2 hG hF1 hS2 ⟨rfl, rfl, rfl⟩
    obtain ⟨r3, hl⟩ := hrest w' hR2
    obtain ⟨N4, m4, t4, d1, d2⟩ := joined_go (P := Tryz.prog) fence bodies (cs := []) hJ (fun g hg => by
      have hg : g = runG (fr15 Tryz.f11 v1.heap.size n cS da m dc) (fr1 :: (up1 ++ [])) := hg
      exact hg) hl (ok15 _ n cS da m dc) (fun x hx => by
      rcases List.mem_cons.1 hx with rfl | hx
      · exact a4
      · exact a4' x hx)
    have osE : (bw7 v1 n cS da m dc).os = v1.os ∧ (bw7 v1 n cS da m dc).output = v1.output ∧ (bw7 v1 n cS da m dc).tape = v1.tape := setCell_os _ _ _
    refine fin (run_then (P := Tryz.prog) (run_then (P := Tryz.prog) (run_then (P := Tryz.prog) (run_then (P := Tryz.prog) a1 q1) b1) c1) d1) (arrived_ends (V := fun x => x = v1.heap.size + 6) (E := fun fr up w => Out f fr up ∧ Post1 (v1.heap.size + 6) fr w) (v0 := bw7 v1 n cS da m dc) (n := 2) hf hr hi (fun fr up w x => ⟨x.1, fun v' y1 y2 y3 y4 => h1 _ fr w v' x.2 y1 (y2.trans (osE.1.trans a6)) (y3.trans (osE.2.1.trans a7)) (y4.trans (osE.2.2.trans a8))⟩) d2)
end Go.Proofs.YtfnbcpeipoobkaaGreat

set_option linter.unusedSectionVars false
namespace Go.Proofs.YtfnbcpeipoobkaaGreat
open Go

theorem bodiesB : Bodies (barP Tryz.prog) (barF Tryz.prog) := by
  letI : Inhabited Junk := noJunk
  intro f fn c h1 h2
  have := bodies f fn c h1 h2
  rw [← okCode_bar (P := Tryz.prog) (F := (barF Tryz.prog))] at this
  exact this
theorem goesW_mono {P : Program} {r : Nat} {E E' : Frame → List Frame → World → Prop} (hE : ∀ fr up w, E fr up w → E' fr up w) {fr : Frame} {up : List Frame} {w : World} (h : GoesW P r E fr up w) : GoesW P r E' fr up w := by
  letI : Inhabited Junk := noJunk
  induction h using GoesW.ind with
  | fin h => exact .fin (hE _ _ _ h)
  | step h1 _ ih => exact .step h1 ih
/-- The lone machine comes to such a one. -/
def To (T : Machine → Prop) (m : Machine) : Prop := ∃ m', T m' ∧ Steps (barP Tryz.prog) m m'
section
variable {T : Machine → Prop} {b : Frame} {a : Act} {k : List Item} {cs : List Frame} {w : World}
theorem to_step {m m' : Machine} (h : step (barP Tryz.prog) m = .next m') (ht : To T m') : To T m := let ⟨x, h1, h2⟩ := ht; ⟨x, h1, .head h h2⟩
theorem to_steps {m m' : Machine} (h : Steps (barP Tryz.prog) m m') (ht : To T m') : To T m := let ⟨x, h1, h2⟩ := ht; ⟨x, h1, h.trans h2⟩
theorem to_here {m : Machine} (h : T m) : To T m := ⟨m, h, Steps.refl _ _⟩
theorem to_seq {x y : Code} (h : To T (lone (b.at a (.code x :: .code y :: k)) cs w)) : To T (lone (b.at a (.code (.seq x y) :: k)) cs w) := to_step step_seq h
theorem to_region {id : Nat} {ops : Array Oper} (h : To T (lone (b.at a (.inRegion ops (List.range ops.size) :: k)) cs w)) : To T (lone (b.at a (.code (.region id ops false) :: k)) cs w) := to_step step_region h
theorem to_out {ops : Array Oper} (h : To T (lone (b.at a k) cs w)) : To T (lone (b.at a (.inRegion ops [] :: k)) cs w) := to_step step_region_end h
/-- A code that ends as it should. -/
theorem to_wp {x : Code} {K : Act → World → Prop} (h : x.wp (barP Tryz.prog) (fun e a w => e = .normal ∧ K a w) a w) (hk : ∀ a w, K a w → To T (lone (b.at a k) cs w)) : To T (lone (b.at a (.code x :: k)) cs w) := by
  obtain ⟨e, a', w', ⟨rfl, h1⟩, h2⟩ := h b k cs
  exact to_steps h2 (hk a' w' h1)
/-- A code that returns. -/
theorem to_ret {x : Code} {K : Act → World → Prop} (h : x.wp (barP Tryz.prog) (fun e a w => e = .ret ∧ K a w) a w) (hk : ∀ a w todo, K a w → To T (lone { b.at a todo with mode := .returning } cs w)) : To T (lone (b.at a (.code x :: k)) cs w) := by
  obtain ⟨e, a', w', ⟨rfl, h1⟩, todo, h2⟩ := h b k cs
  exact to_steps h2 (hk a' w' todo h1)
theorem to_value {ops : Array Oper} {i : Nat} {rest : List Nat} {o : Oper} {v : Value} {w' : World} (ho : ops[i]? = some o) (hw : Region.wanted o (yielded ops a.tmps) = true) (hk : b.kind ≠ .early) (hr : (execOp a.eval o).run (barP Tryz.prog) w = .ok (.value v) w') (ht : To T (lone (b.at (a.put o.dst v) (.inRegion ops rest :: k)) cs w')) : To T (lone (b.at a (.inRegion ops (i :: rest) :: k)) cs w) :=
  letI : Inhabited Junk := noJunk
  to_step (step_lone_of_go (Go.Conc.stepG_value ho hw hk hr)) ht
theorem to_enter {ops : Array Oper} {i : Nat} {rest : List Nat} {o : Oper} {f : FuncId} {args : Array Value} {w' : World} (ho : ops[i]? = some o) (hw : Region.wanted o (yielded ops a.tmps) = true) (hk : b.kind ≠ .early) (hr : (execOp a.eval o).run (barP Tryz.prog) w = .ok (.enter f args) w') (ht : To T (lone (Frame.enter (barP Tryz.prog) f args .normal) (b.at a (.inRegion ops (i :: rest) :: k) :: cs) w')) : To T (lone (b.at a (.inRegion ops (i :: rest) :: k)) cs w) :=
  letI : Inhabited Junk := noJunk
  to_step (step_lone_of_go (Go.Conc.stepG_enter ho hw hk hr)) ht
theorem to_leave {fr c : Frame} {v : Value} (h : fr.leaving (barP Tryz.prog) w (.returned v)) (ht : To T (lone (c.finish v) cs w)) : To T (lone fr (c :: cs) w) := to_step (step_leave_returned h) ht
end
end Go.Proofs.YtfnbcpeipoobkaaGreat
