/- The fence of the barred program. (Laid by program: sp.py.) From the law's entry to its end, in company: pieces of the lone machine's way, put together. The lone machine's way, piece by piece. -/
import Derived.Test.YthbghcebcahlnaaM17
import Derived.Test.YthbghcebcahlnaaM14
import Derived.Calls
set_option linter.unusedSectionVars false
namespace Go.Proofs.Ythbghcebcahlnaa
open Go
def Kept (fn : Func) : Prop := fn = Try.f42 ∨ fn = Try.f93 ∨ fn = Try.f94 ∨ fn = Try.f95
theorem bar_fen : Fen (barL Try.prog) Try.prog.funcs.toList := by
  rw [Bar.list_eq, Bar.plain_eq]
  exact ⟨.inr rfl, .inr rfl, .inl rfl, .inl rfl, .inl rfl, .inl rfl, .inl rfl, .inl rfl, .inl rfl, .inl rfl, .inl rfl, .inl rfl, .inl rfl, .inl rfl, .inl rfl, .inr rfl, .inl rfl, .inl rfl, .inl rfl, .inl rfl, .inl rfl, .inl rfl, .inl rfl, .inl rfl, .inl rfl, .inl rfl, .inl rfl, .inr rfl, .inr rfl, .inr rfl, .inl rfl, .inr rfl, .inl rfl, .inl rfl, .inl rfl, .inl rfl, .inl rfl, .inl rfl, .inl rfl, .inl rfl, .inl rfl, .inl rfl, .inl rfl, .inr rfl, .inr rfl, .inr rfl, .inr rfl, .inr rfl, .inr rfl, .inl rfl, .inl rfl, .inr rfl, .inl rfl, .inl rfl, .inr rfl, .inr rfl, .inl rfl, .inr rfl, .inr rfl, .inl rfl, .inr rfl, .inr rfl, .inl rfl, .inl rfl, .inl rfl, .inl rfl, .inl rfl, .inl rfl, .inl rfl, .inl rfl, .inl rfl, .inl rfl, .inl rfl, .inl rfl, .inl rfl, .inl rfl, .inl rfl, .inr rfl, .inr rfl, .inr rfl, .inr rfl, .inl rfl, .inl rfl, .inr rfl, .inl rfl, .inl rfl, .inl rfl, .inl rfl, .inl rfl, .inl rfl, .inl rfl, .inl rfl, .inl rfl, .inl rfl, .inl rfl, .inl rfl, .inl rfl, .inl rfl, .inr rfl, .inr rfl, .inr rfl, .inr rfl, .inr rfl, .inr rfl, .inr rfl, .inr rfl, .inr rfl, .inr rfl, .inr rfl, .inr rfl, .inr rfl, .inr rfl, .inr rfl, .inr rfl, .inr rfl, trivial⟩
theorem bar_ends : EndsF Kept (barL Try.prog) := by
  rw [Bar.list_eq]
  exact ⟨.inr (.inl ⟨_, rfl⟩), .inr (.inl ⟨_, rfl⟩), .inl (by kernel_rfl), .inl (by kernel_rfl), .inl (by kernel_rfl), .inl (by kernel_rfl), .inl (by kernel_rfl), .inl (by kernel_rfl), .inl (by kernel_rfl), .inl (by kernel_rfl), .inl (by kernel_rfl), .inl (by kernel_rfl), .inl (by kernel_rfl), .inl (by kernel_rfl), .inl (by kernel_rfl), .inr (.inl ⟨_, rfl⟩), .inl (by kernel_rfl), .inl (by kernel_rfl), .inl (by kernel_rfl), .inl (by kernel_rfl), .inl (by kernel_rfl), .inl (by kernel_rfl), .inl (by kernel_rfl), .inl (by kernel_rfl), .inl (by kernel_rfl), .inl (by kernel_rfl), .inl (by kernel_rfl), .inr (.inl ⟨_, rfl⟩), .inr (.inl ⟨_, rfl⟩), .inr (.inl ⟨_, rfl⟩), .inl (by kernel_rfl), .inr (.inl ⟨_, rfl⟩), .inl (by kernel_rfl), .inl (by kernel_rfl), .inl (by kernel_rfl), .inl (by kernel_rfl), .inl (by kernel_rfl), .inl (by kernel_rfl), .inl (by kernel_rfl), .inl (by kernel_rfl), .inl (by kernel_rfl), .inl (by kernel_rfl), .inr (.inr (by unfold Kept; simp)), .inr (.inl ⟨_, rfl⟩), .inr (.inl ⟨_, rfl⟩), .inr (.inl ⟨_, rfl⟩), .inr (.inl ⟨_, rfl⟩), .inr (.inl ⟨_, rfl⟩), .inr (.inl ⟨_, rfl⟩), .inl (by kernel_rfl), .inl (by kernel_rfl), .inr (.inl ⟨_, rfl⟩), .inl (by kernel_rfl), .inl (by kernel_rfl), .inr (.inl ⟨_, rfl⟩), .inr (.inl ⟨_, rfl⟩), .inl (by kernel_rfl), .inr (.inl ⟨_, rfl⟩), .inr (.inl ⟨_, rfl⟩), .inl (by kernel_rfl), .inr (.inl ⟨_, rfl⟩), .inr (.inl ⟨_, rfl⟩), .inl (by kernel_rfl), .inl (by kernel_rfl), .inl (by kernel_rfl), .inl (by kernel_rfl), .inl (by kernel_rfl), .inl (by kernel_rfl), .inl (by kernel_rfl), .inl (by kernel_rfl), .inl (by kernel_rfl), .inl (by kernel_rfl), .inl (by kernel_rfl), .inl (by kernel_rfl), .inl (by kernel_rfl), .inl (by kernel_rfl), .inl (by kernel_rfl), .inr (.inl ⟨_, rfl⟩), .inr (.inl ⟨_, rfl⟩), .inr (.inl ⟨_, rfl⟩), .inr (.inl ⟨_, rfl⟩), .inl (by kernel_rfl), .inl (by kernel_rfl), .inr (.inl ⟨_, rfl⟩), .inl (by kernel_rfl), .inl (by kernel_rfl), .inl (by kernel_rfl), .inl (by kernel_rfl), .inl (by kernel_rfl), .inl (by kernel_rfl), .inl (by kernel_rfl), .inl (by kernel_rfl), .inl (by kernel_rfl), .inr (.inr (by unfold Kept; simp)), .inr (.inr (by unfold Kept; simp)), .inr (.inr (by unfold Kept; simp)), .inl (by kernel_rfl), .inl (by kernel_rfl), .inr (.inl ⟨_, rfl⟩), .inr (.inl ⟨_, rfl⟩), .inr (.inl ⟨_, rfl⟩), .inr (.inl ⟨_, rfl⟩), .inr (.inl ⟨_, rfl⟩), .inr (.inl ⟨_, rfl⟩), .inr (.inl ⟨_, rfl⟩), .inr (.inl ⟨_, rfl⟩), .inr (.inl ⟨_, rfl⟩), .inr (.inl ⟨_, rfl⟩), .inr (.inl ⟨_, rfl⟩), .inr (.inl ⟨_, rfl⟩), .inr (.inl ⟨_, rfl⟩), .inr (.inl ⟨_, rfl⟩), .inr (.inl ⟨_, rfl⟩), .inr (.inl ⟨_, rfl⟩), .inr (.inl ⟨_, rfl⟩), trivial⟩
theorem bar_bods : Bods Try.prog (barL Try.prog) := by
  rw [Bar.list_eq]
  exact ⟨.inl rfl, .inl rfl, .inr ⟨_, (by kernel_rfl : Try.f2.body = some (Try.f2.body.getD .skip)), by kernel_rfl⟩, .inr ⟨_, (by kernel_rfl : Try.f3.body = some (Try.f3.body.getD .skip)), by kernel_rfl⟩, .inr ⟨_, (by kernel_rfl : Try.f4.body = some (Try.f4.body.getD .skip)), by kernel_rfl⟩, .inr ⟨_, (by kernel_rfl : Try.f5.body = some (Try.f5.body.getD .skip)), by kernel_rfl⟩, .inr ⟨_, (by kernel_rfl : Try.f6.body = some (Try.f6.body.getD .skip)), by kernel_rfl⟩, .inr ⟨_, (by kernel_rfl : Try.f7.body = some (Try.f7.body.getD .skip)), by kernel_rfl⟩, .inr ⟨_, (by kernel_rfl : Try.f8.body = some (Try.f8.body.getD .skip)), by kernel_rfl⟩, .inr ⟨_, (by kernel_rfl : Try.f9.body = some (Try.f9.body.getD .skip)), by kernel_rfl⟩, .inr ⟨_, (by kernel_rfl : Try.f10.body = some (Try.f10.body.getD .skip)), by kernel_rfl⟩, .inr ⟨_, (by kernel_rfl : Try.f11.body = some (Try.f11.body.getD .skip)), by kernel_rfl⟩, .inr ⟨_, (by kernel_rfl : Try.f12.body = some (Try.f12.body.getD .skip)), by kernel_rfl⟩, .inr ⟨_, (by kernel_rfl : Try.f13.body = some (Try.f13.body.getD .skip)), by kernel_rfl⟩, .inr ⟨_, (by kernel_rfl : Try.f14.body = some (Try.f14.body.getD .skip)), by kernel_rfl⟩, .inl rfl, .inr ⟨_, (by kernel_rfl : Try.f16.body = some (Try.f16.body.getD .skip)), by kernel_rfl⟩, .inr ⟨_, (by kernel_rfl : Try.f17.body = some (Try.f17.body.getD .skip)), by kernel_rfl⟩, .inr ⟨_, (by kernel_rfl : Try.f18.body = some (Try.f18.body.getD .skip)), by kernel_rfl⟩, .inr ⟨_, (by kernel_rfl : Try.f19.body = some (Try.f19.body.getD .skip)), by kernel_rfl⟩, .inr ⟨_, (by kernel_rfl : Try.f20.body = some (Try.f20.body.getD .skip)), by kernel_rfl⟩, .inr ⟨_, (by kernel_rfl : Try.f21.body = some (Try.f21.body.getD .skip)), by kernel_rfl⟩, .inr ⟨_, (by kernel_rfl : Try.f22.body = some (Try.f22.body.getD .skip)), by kernel_rfl⟩, .inr ⟨_, (by kernel_rfl : Try.f23.body = some (Try.f23.body.getD .skip)), by kernel_rfl⟩, .inr ⟨_, (by kernel_rfl : Try.f24.body = some (Try.f24.body.getD .skip)), by kernel_rfl⟩, .inr ⟨_, (by kernel_rfl : Try.f25.body = some (Try.f25.body.getD .skip)), by kernel_rfl⟩, .inr ⟨_, (by kernel_rfl : Try.f26.body = some (Try.f26.body.getD .skip)), by kernel_rfl⟩, .inl rfl, .inl rfl, .inl rfl, .inr ⟨_, (by kernel_rfl : Try.f30.body = some (Try.f30.body.getD .skip)), by kernel_rfl⟩, .inl rfl, .inr ⟨_, (by kernel_rfl : Try.f32.body = some (Try.f32.body.getD .skip)), by kernel_rfl⟩, .inr ⟨_, (by kernel_rfl : Try.f33.body = some (Try.f33.body.getD .skip)), by kernel_rfl⟩, .inr ⟨_, (by kernel_rfl : Try.f34.body = some (Try.f34.body.getD .skip)), by kernel_rfl⟩, .inr ⟨_, (by kernel_rfl : Try.f35.body = some (Try.f35.body.getD .skip)), by kernel_rfl⟩, .inr ⟨_, (by kernel_rfl : Try.f36.body = some (Try.f36.body.getD .skip)), by kernel_rfl⟩, .inr ⟨_, (by kernel_rfl : Try.f37.body = some (Try.f37.body.getD .skip)), by kernel_rfl⟩, .inr ⟨_, (by kernel_rfl : Try.f38.body = some (Try.f38.body.getD .skip)), by kernel_rfl⟩, .inr ⟨_, (by kernel_rfl : Try.f39.body = some (Try.f39.body.getD .skip)), by kernel_rfl⟩, .inr ⟨_, (by kernel_rfl : Try.f40.body = some (Try.f40.body.getD .skip)), by kernel_rfl⟩, .inr ⟨_, (by kernel_rfl : Try.f41.body = some (Try.f41.body.getD .skip)), by kernel_rfl⟩, .inl rfl, .inl rfl, .inl rfl, .inl rfl, .inl rfl, .inl rfl, .inl rfl, .inr ⟨_, (by kernel_rfl : Try.f49.body = some (Try.f49.body.getD .skip)), by kernel_rfl⟩, .inr ⟨_, (by kernel_rfl : Try.f50.body = some (Try.f50.body.getD .skip)), by kernel_rfl⟩, .inl rfl, .inr ⟨_, (by kernel_rfl : Try.f52.body = some (Try.f52.body.getD .skip)), by kernel_rfl⟩, .inr ⟨_, (by kernel_rfl : Try.f53.body = some (Try.f53.body.getD .skip)), by kernel_rfl⟩, .inl rfl, .inl rfl, .inr ⟨_, (by kernel_rfl : Try.f56.body = some (Try.f56.body.getD .skip)), by kernel_rfl⟩, .inl rfl, .inl rfl, .inr ⟨_, (by kernel_rfl : Try.f59.body = some (Try.f59.body.getD .skip)), by kernel_rfl⟩, .inl rfl, .inl rfl, .inr ⟨_, (by kernel_rfl : Try.f62.body = some (Try.f62.body.getD .skip)), by kernel_rfl⟩, .inr ⟨_, (by kernel_rfl : Try.f63.body = some (Try.f63.body.getD .skip)), by kernel_rfl⟩, .inr ⟨_, (by kernel_rfl : Try.f64.body = some (Try.f64.body.getD .skip)), by kernel_rfl⟩, .inr ⟨_, (by kernel_rfl : Try.f65.body = some (Try.f65.body.getD .skip)), by kernel_rfl⟩, .inr ⟨_, (by kernel_rfl : Try.f66.body = some (Try.f66.body.getD .skip)), by kernel_rfl⟩, .inr ⟨_, (by kernel_rfl : Try.f67.body = some (Try.f67.body.getD .skip)), by kernel_rfl⟩, .inr ⟨_, (by kernel_rfl : Try.f68.body = some (Try.f68.body.getD .skip)), by kernel_rfl⟩, .inr ⟨_, (by kernel_rfl : Try.f69.body = some (Try.f69.body.getD .skip)), by kernel_rfl⟩, .inr ⟨_, (by kernel_rfl : Try.f70.body = some (Try.f70.body.getD .skip)), by kernel_rfl⟩, .inr ⟨_, (by kernel_rfl : Try.f71.body = some (Try.f71.body.getD .skip)), by kernel_rfl⟩, .inr ⟨_, (by kernel_rfl : Try.f72.body = some (Try.f72.body.getD .skip)), by kernel_rfl⟩, .inr ⟨_, (by kernel_rfl : Try.f73.body = some (Try.f73.body.getD .skip)), by kernel_rfl⟩, .inr ⟨_, (by kernel_rfl : Try.f74.body = some (Try.f74.body.getD .skip)), by kernel_rfl⟩, .inr ⟨_, (by kernel_rfl : Try.f75.body = some (Try.f75.body.getD .skip)), by kernel_rfl⟩, .inr ⟨_, (by kernel_rfl : Try.f76.body = some (Try.f76.body.getD .skip)), by kernel_rfl⟩, .inl rfl, .inl rfl, .inl rfl, .inl rfl, .inr ⟨_, (by kernel_rfl : Try.f81.body = some (Try.f81.body.getD .skip)), by kernel_rfl⟩, .inr ⟨_, (by kernel_rfl : Try.f82.body = some (Try.f82.body.getD .skip)), by kernel_rfl⟩, .inl rfl, .inr ⟨_, (by kernel_rfl : Try.f84.body = some (Try.f84.body.getD .skip)), by kernel_rfl⟩, .inr ⟨_, (by kernel_rfl : Try.f85.body = some (Try.f85.body.getD .skip)), by kernel_rfl⟩, .inr ⟨_, (by kernel_rfl : Try.f86.body = some (Try.f86.body.getD .skip)), by kernel_rfl⟩, .inr ⟨_, (by kernel_rfl : Try.f87.body = some (Try.f87.body.getD .skip)), by kernel_rfl⟩, .inr ⟨_, (by kernel_rfl : Try.f88.body = some (Try.f88.body.getD .skip)), by kernel_rfl⟩, .inr ⟨_, (by kernel_rfl : Try.f89.body = some (Try.f89.body.getD .skip)), by kernel_rfl⟩, .inr ⟨_, (by kernel_rfl : Try.f90.body = some (Try.f90.body.getD .skip)), by kernel_rfl⟩, .inr ⟨_, (by kernel_rfl : Try.f91.body = some (Try.f91.body.getD .skip)), by kernel_rfl⟩, .inr ⟨_, (by kernel_rfl : Try.f92.body = some (Try.f92.body.getD .skip)), by kernel_rfl⟩, .inl rfl, .inl rfl, .inl rfl, .inr ⟨_, (by kernel_rfl : Try.f96.body = some (Try.f96.body.getD .skip)), by kernel_rfl⟩, .inr ⟨_, (by kernel_rfl : Try.f97.body = some (Try.f97.body.getD .skip)), by kernel_rfl⟩, .inl rfl, .inl rfl, .inl rfl, .inl rfl, .inl rfl, .inl rfl, .inl rfl, .inl rfl, .inl rfl, .inl rfl, .inl rfl, .inl rfl, .inl rfl, .inl rfl, .inl rfl, .inl rfl, .inl rfl, trivial⟩
theorem next42 : Extern.findNext Try.f42 = none := by kernel_rfl
theorem find42 : Extern.find Try.f42 = some (Extern.Atomic.update (Op.intArith .add) .i64 true) := by kernel_rfl
theorem next93 : Extern.findNext Try.f93 = none := by kernel_rfl
theorem find93 : Extern.find Try.f93 = some (Extern.MathFloatBits.float64bits) := by kernel_rfl
theorem next94 : Extern.findNext Try.f94 = none := by kernel_rfl
theorem find94 : Extern.find Try.f94 = some (Extern.MathFloatBits.float64frombits) := by kernel_rfl
theorem next95 : Extern.findNext Try.f95 = none := by kernel_rfl
theorem find95 : Extern.find Try.f95 = some (Extern.MathFloor.toIntegral "math.archTrunc" .zero) := by kernel_rfl
theorem bar_num : (barL Try.prog).all (fun fn => !(fn.name == "runtime.NumGoroutine")) = true := by kernel_rfl
theorem fence : FenceB Try.prog (barF Try.prog) := by
  letI : Inhabited Junk := noJunk
  refine fence_of (l := barL Try.prog) (m := Try.prog.funcs.toList) rfl (by simp) bar_fen bar_num bar_ends fun fn h => ?_
  rcases h with rfl | rfl | rfl | rfl
  · refine ⟨next42, fun e he _ args => ?_⟩
    rw [find42] at he
    cases he
    exact sim_addInt64 args
  · refine ⟨next93, fun e he _ args => ?_⟩
    rw [find93] at he
    cases he
    exact sim_float64bits args
  · refine ⟨next94, fun e he _ args => ?_⟩
    rw [find94] at he
    cases he
    exact sim_float64frombits args
  · refine ⟨next95, fun e he _ args => ?_⟩
    rw [find95] at he
    cases he
    exact sim_toIntegral _ _ args
theorem bodies : Bodies Try.prog (barF Try.prog) := by
  letI : Inhabited Junk := noJunk
  exact bodies_of (l := barL Try.prog) rfl bar_bods
end Go.Proofs.Ythbghcebcahlnaa

set_option linter.unusedSectionVars false
namespace Go.Proofs.Ythbghcebcahlnaa
open Go Go.Conc Go.RowKit
variable [Inhabited Junk]

theorem lone0_past {n : Nat} {t : Trace} (h : Lone0 n t) : Past (Veil fun _ => False) n t := by
  have h0 : Past (Veil fun _ => False) n (#[] : Trace) := ⟨past_nil.clean, fun i a ha => by simp [touchAt, Trace.act?] at ha, past_nil.over, rfl, by simp⟩
  have := h0.app0 (u := t) (fun op ho => (h.ops op ho).1) (fun op ho b hb hs => by obtain ⟨_, _, x⟩ := hs; exact x.elim) (by rw [Array.empty_append, h.deaf]; rfl) (fun op ho => by
    obtain ⟨_, e, e1, e2, e3⟩ := h.ops op ho
    rw [e1]
    exact (evL_of_fine e2 e3).2.2.2)
  rwa [Array.empty_append] at this
theorem lone0_deaf {n : Nat} {t : Trace} (h : Lone0 n t) (j : Nat) (hj : j ≠ 0) : Deaf t j = 0 := by
  have := Deaf_other #[] (g := j) (g' := 0) (Ne.symm hj) t fun op ho => (h.ops op ho).1
  rw [Array.empty_append] at this
  rw [this]
  simp [Deaf, Trace.deaf]
theorem lone0_leavers {P : Program} {n : Nat} {t : Trace} (h : Lone0 n t) (a : Goroutine) : Leavers P t #[a] (fun _ => 0) :=
  ⟨fun i g hi hg => by
    have : i < 1 := by simpa using (Array.getElem?_eq_some_iff.1 hg).1
    omega, fun j hj => lone0_deaf h j (by have : 1 ≤ j := by simpa using hj
                                          omega)⟩

theorem sib_alloc {P : Program} {V : Nat → Prop} {w v : World} {o : Obj} (h : Sib P V w v) (ho : okObj P o) : Sib P V (w.alloc o) (v.alloc o) := by
  refine ⟨by simp [h.size], fun r hr => ?_, fun r hr => ?_, fun r o' => ?_, h.env⟩
  · simp only [World.alloc, Array.getElem?_push, h.size]
    split
    · exact .inl rfl
    · exact h.like r hr
  · have := sib_lt h hr
    simp only [World.alloc, Array.getElem?_push, h.size, if_neg (Nat.ne_of_lt this)]
    exact h.veil r hr
  · simp only [World.alloc, Array.getElem?_push]
    split
    · exact fun e => Option.some.inj e ▸ ho
    · exact h.kind r o'
/-- The lone world behind the go statement: the group's row is empty. -/
def vw (w : World) (n : Int) (cS : Value) (da : Option Addr) (m dc : Nat) : World := (bw5 w n cS da m dc).alloc (.cells #[] 77)
theorem sib_bw {w v : World} (h : Sib Try.prog (fun _ => False) w v) (n : Int) (cS : Value) (da : Option Addr) (m dc : Nat) : Sib Try.prog (fun x => x = v.heap.size + 6) (vw w n cS da m dc) (bw7 v n cS da m dc) := by
  have h5 : Sib Try.prog (fun _ => False) (bw5 w n cS da m dc) (bw5 v n cS da m dc) := by
    unfold bw5 bw4 bw3 bw2 bw1
    rw [h.size]
    exact sib_alloc (sib_alloc (sib_alloc (sib_alloc (sib_alloc (sib_alloc h trivial) trivial) trivial) trivial) trivial) trivial
  have s5 := bw5_size w n cS da m dc
  have s5' := bw5_size v n cS da m dc
  have e6 : (bw6 v n cS da m dc).heap[v.heap.size + 6]? = some (.cells #[.int .u64 0, .int .u32 0] 77) := bw_wg v n cS da m dc
  have e7 : (bw7 v n cS da m dc).heap[v.heap.size + 6]? = some (.cells #[.int .u64 ConcR.KK, .int .u32 0] 77) := heap_setCell_same _ (v.heap.size + 6) 0 _ _ (.int .u64 ConcR.KK) e6
  have o7 : ∀ r, r ≠ v.heap.size + 6 → (bw7 v n cS da m dc).heap[r]? = (bw6 v n cS da m dc).heap[r]? := fun r hr => heap_setCell_other _ _ _ _ hr
  refine ⟨?_, fun r hr => ?_, fun r hr => ?_, fun r o => ?_, h5.env⟩
  · have := World.size_setCell (bw6 v n cS da m dc) (ConcR.stA (v.heap.size + 6)) (.int .u64 ConcR.KK)
    show (bw7 v n cS da m dc).heap.size = (vw w n cS da m dc).heap.size
    unfold bw7 vw
    rw [this, bw6_size]
    simp [s5, h.size]
  · have hr : r ≠ v.heap.size + 6 := hr
    rw [o7 r hr]
    unfold bw6 vw
    simp only [World.alloc, Array.getElem?_push, s5, s5', h.size]
    rw [if_neg (by rw [← h.size]; exact hr)]
    rw [if_neg (by rw [← h.size]; exact hr)]
    exact h5.like r id
  · obtain rfl : r = v.heap.size + 6 := hr
    refine ⟨_, _, ?_, e7⟩
    unfold vw
    have := heap_alloc_new (bw5 w n cS da m dc) (.cells #[] 77)
    rw [s5] at this
    rw [h.size]
    exact this
  · unfold vw
    simp only [World.alloc, Array.getElem?_push]
    split
    · intro e; cases e; trivial
    · exact h5.kind r o

/-- It stands at the call of byWorkers. -/
def AtC (fr : Frame) (up : List Frame) (n : Int) (cS : Value) (da : Option Addr) (m dc : Nat) : Prop := m ≤ 64 ∧ ∀ (w : World) (cs : List Frame), stepG Try.prog true (runG fr (up ++ cs)) w = .go (G ((base 15).at ⟨#[.agg #[.int .i64 n, cS], .slice da m dc, .int .i64 1, undef, undef, undef, undef, undef, undef, undef, undef, undef, undef, undef, undef, undef, undef, undef, undef, undef, undef, undef, undef], []⟩ [.code (body15 Try.f15)]) (fr :: (up ++ cs))) w #[]
/-- The lone way from the law's entry to its end, in pieces. -/
def Pieces (f : FuncId) (Post0 : Frame → World → Prop) (Post1 : Nat → Frame → World → Prop) (fr : Frame) (up : List Frame) (w : World) : Prop :=
  (Out f fr up ∧ Post0 fr w) ∨ ∃ (n : Int) (cS : Value) (da : Option Addr) (m dc : Nat) (R2 : World → Prop), AtC fr up n cS da m dc ∧
    (∃ r, GoesW (bar Try.prog (barF Try.prog)) r (fun fr' up' w' => up' = [] ∧ (∃ T, fr' = out28 w.heap.size T) ∧ R2 w') (fr28 Try.f28 w.heap.size) [] (vw w n cS da m dc)) ∧
    ∀ w2, R2 w2 → ∃ r, GoesW (bar Try.prog (barF Try.prog)) r (fun fr' up' w' => Out f fr' up' ∧ Post1 (w.heap.size + 6) fr' w') (fr15 Try.f15 w.heap.size n cS da m dc) (fr :: up) w2
theorem ok28 (b : Nat) : okFrame Try.prog (fr28 Try.f28 b) := by
  have h1 : okCode Try.prog (rest28 Try.f28) = true := by kernel_rfl
  refine ⟨fun i hi => ?_, fun d hd => ?_⟩
  · have : i = .code (rest28 Try.f28) := by simpa [fr28, Frame.at] using hi
    rw [this]
    exact h1
  · have : d = done28 b := by simpa [fr28, Frame.at] using hd
    rw [this]
    rfl
theorem ok15 (b : Nat) (n : Int) (cS : Value) (da : Option Addr) (m dc : Nat) : okFrame Try.prog (fr15 Try.f15 b n cS da m dc) := by
  have h1 : okCode Try.prog (rest15 Try.f15) = true := by kernel_rfl
  have h2 : ((ops15 Try.f15).all fun o => okOp Try.prog o.op) = true := by kernel_rfl
  refine ⟨fun i hi => ?_, fun d hd => ?_⟩
  · have : i = .inRegion (ops15 Try.f15) [] ∨ i = .code (rest15 Try.f15) := by simpa [fr15, Frame.at] using hi
    rcases this with rfl | rfl
    · exact h2
    · exact h1
  · simp [fr15, Frame.at] at hd
/-- ████ THE RUN OF THE LAW. ████ -/
theorem law_run {f : FuncId} {fn : Func} {i : Nat} {args : Array Value} {W w0 : World} {Post : Value → World → Prop} {Post0 : Frame → World → Prop} {Post1 : Nat → Frame → World → Prop} (hf : Try.prog.funcs[f]? = some fn) (hr : fn.results = #[.tmp i]) (hi : Try.prog.inits.idxOf? f = none)
    (hS : Sib Try.prog (fun _ => False) w0 W) (hok : okFrame Try.prog (Frame.enter Try.prog f args .normal)) (hg : ∃ r, GoesW (bar Try.prog (barF Try.prog)) r (Pieces f Post0 Post1) (Frame.enter Try.prog f args .normal) [] w0)
    (h0 : ∀ fr w v, Post0 fr w → Sib Try.prog (fun _ => False) w v → v.os = W.os → v.output = W.output → v.tape = W.tape → Post (fr.tmps.getD i undef) v)
    (h1 : ∀ g fr w v, Post1 g fr w → Sib Try.prog (fun x => x = g) w v → v.os = W.os → v.output = W.output → v.tape = W.tape → Post (fr.tmps.getD i undef) v) :
    ∃ M last o w' t', runNT Try.prog (M + 1) (solo (G (Frame.enter Try.prog f args .normal) []) W) #[] = (.ended o w', t') ∧ runN Try.prog M (solo (G (Frame.enter Try.prog f args .normal) []) W) = .next last ∧ step Try.prog last = .ended o w' ∧ Go.Conc.Good Try.prog Post last o w' t' := by
  obtain ⟨r, hg⟩ := hg
  obtain ⟨N1, fr1, up1, w1, v1, t1, a1, a2, a3, ⟨a4, a4'⟩, a5, a6, a7, a8⟩ := solo_goesW fence bodies (cs := []) hg W #[] hS hok (by simp) (lone0_nil _)
  have fin : ∀ {N2 : Nat} {m2 : Machine} {t2 : Trace}, runNT Try.prog N2 (solo (runG (Frame.enter Try.prog f args .normal) ([] ++ [])) W) #[] = (.next m2, t2) → (∃ M last o w' t', runNT Try.prog (M + 1) m2 t2 = (.ended o w', t') ∧ runN Try.prog M m2 = .next last ∧ step Try.prog last = .ended o w' ∧ Go.Conc.Good Try.prog Post last o w' t') →
      ∃ M last o w' t', runNT Try.prog (M + 1) (solo (G (Frame.enter Try.prog f args .normal) []) W) #[] = (.ended o w', t') ∧ runN Try.prog M (solo (G (Frame.enter Try.prog f args .normal) []) W) = .next last ∧ step Try.prog last = .ended o w' ∧ Go.Conc.Good Try.prog Post last o w' t' := by
    intro N2 m2 t2 e1 ⟨M, last, o, w', t', e2, e3, e4, e5⟩
    refine ⟨N2 + M, last, o, w', t', ?_, ?_, e4, e5⟩
    · rw [Nat.add_assoc]
      exact run_then (P := Try.prog) e1 e2
    · rw [runN_add, ← runNT_fst Try.prog _ _ #[]]
      have e1 : runNT Try.prog N2 (solo (G (Frame.enter Try.prog f args .normal) []) W) #[] = (.next m2, t2) := e1
      rw [e1]
      exact e3
  rcases a2 with ⟨hO, hP⟩ | ⟨n, cS, da, m, dc, R2, ⟨hm, hC⟩, ⟨r2, hc⟩, hrest⟩
  · refine fin a1 (arrived_ends (V := fun _ => False) (E := fun fr up w => Out f fr up ∧ Post0 fr w) (v0 := W) (n := 1) hf hr hi (fun fr up w x => ⟨x.1, fun v' y1 y2 y3 y4 => h0 fr w v' x.2 y1 y2 y3 y4⟩) ?_)
    exact ⟨#[runG fr1 (up1 ++ [])], fr1, up1, w1, v1, none, fun _ => 0, rfl, rfl, rfl, ⟨hO, hP⟩, a3, ⟨a4, a4'⟩, lone0_leavers a5 _, ⟨_, lone0_past a5⟩, a6, a7, a8⟩
  · have hsz : v1.heap.size = w1.heap.size := a3.size
    -- the call
    have hstep := (stepT_solo (P := Try.prog) (a := runG fr1 (up1 ++ [])) (w := v1) rfl).trans (runT_solo_go (hC v1 []))
    have q1 : runNT Try.prog 1 (solo (runG fr1 (up1 ++ [])) v1) t1 = (.next (solo (G ((base 15).at ⟨#[.agg #[.int .i64 n, cS], .slice da m dc, .int .i64 1, undef, undef, undef, undef, undef, undef, undef, undef, undef, undef, undef, undef, undef, undef, undef, undef, undef, undef, undef, undef], []⟩ [.code (body15 Try.f15)]) (fr1 :: (up1 ++ []))) v1), t1) := by
      simp only [runNT, hstep, of_none]
    -- to the machine of two
    obtain ⟨N2, ca, child, v2, t2, b1, b2, rfl, rfl, b3⟩ := start_run (P := Try.prog) (a5.st (Wg := v1.heap.size + 6) (by omega)) (bw_start v1 n cS da m dc hm (fr1 :: (up1 ++ [])))
    have hS2 := sib_bw a3 n cS da m dc
    have hG : GrpAt 77 (v1.heap.size + 6) (bw7 v1 n cS da m dc) 4294967296 0 := heap_setCell_same _ (v1.heap.size + 6) 0 _ _ (.int .u64 ConcR.KK) (bw_wg v1 n cS da m dc)
    have hF1 : Fits1 ⟨0, 0⟩ ⟨0, false, 0⟩ 4294967296 0 := ⟨rfl, .inl ⟨by decide, .inl ⟨rfl, rfl, rfl⟩⟩⟩
    have hrun := (cal_step b3 (fits1_not3 hF1) hG (fits1_0 hF1) hS2).1
    rw [← hsz] at hc hrest
    obtain ⟨N3, m3, t3, c1, fr', up', w', ⟨_, _, hR2⟩, hJ⟩ := idle_run (P := Try.prog) fence bodies (v0 := bw7 v1 n cS da m dc) (cs1 := [(bot28 Try.prog)]) (fun fr up w h => by
      obtain ⟨rfl, ⟨T, rfl⟩, _⟩ := h
      exact ⟨9001, chi28 v1.heap.size T⟩) hc (ok28 _) (by simp) 5 _ (idle28 v1.heap.size) 9400 ca (bw7 v1 n cS da m dc) none t2 ⟨0, false, 0⟩ 4294967296 0 (.inl ⟨hrun, b3⟩) b2 hG hF1 hS2 ⟨rfl, rfl, rfl⟩
    obtain ⟨r3, hl⟩ := hrest w' hR2
    obtain ⟨N4, m4, t4, d1, d2⟩ := joined_go (P := Try.prog) fence bodies (cs := []) hJ (fun g hg => by
      have hg : g = runG (fr15 Try.f15 v1.heap.size n cS da m dc) (fr1 :: (up1 ++ [])) := hg
      exact hg) hl (ok15 _ n cS da m dc) (fun x hx => by
      rcases List.mem_cons.1 hx with rfl | hx
      · exact a4
      · exact a4' x hx)
    have osE : (bw7 v1 n cS da m dc).os = v1.os ∧ (bw7 v1 n cS da m dc).output = v1.output ∧ (bw7 v1 n cS da m dc).tape = v1.tape := setCell_os _ _ _
    refine fin (run_then (P := Try.prog) (run_then (P := Try.prog) (run_then (P := Try.prog) (run_then (P := Try.prog) a1 q1) b1) c1) d1) (arrived_ends (V := fun x => x = v1.heap.size + 6) (E := fun fr up w => Out f fr up ∧ Post1 (v1.heap.size + 6) fr w) (v0 := bw7 v1 n cS da m dc) (n := 2) hf hr hi (fun fr up w x => ⟨x.1, fun v' y1 y2 y3 y4 => h1 _ fr w v' x.2 y1 (y2.trans (osE.1.trans a6)) (y3.trans (osE.2.1.trans a7)) (y4.trans (osE.2.2.trans a8))⟩) d2)
end Go.Proofs.Ythbghcebcahlnaa

set_option linter.unusedSectionVars false
namespace Go.Proofs.Ythbghcebcahlnaa
open Go

theorem fen_refl : ∀ l : List Func, Fen l l
  | [] => trivial
  | _ :: l => ⟨.inl rfl, fen_refl l⟩
theorem fenceB : FenceB (barP Try.prog) (barF Try.prog) := by
  letI : Inhabited Junk := noJunk
  refine fence_of (l := (barL Try.prog)) (m := (barL Try.prog)) rfl rfl (fen_refl _) bar_num bar_ends fun fn h => ?_
  have := fence.ext
  obtain ⟨k, hk⟩ : ∃ k : Nat, (barF Try.prog)[k]? = some fn := by
    rcases h with rfl | rfl | rfl | rfl
    · exact ⟨42, rfl⟩
    · exact ⟨93, rfl⟩
    · exact ⟨94, rfl⟩
    · exact ⟨95, rfl⟩
  rcases h with rfl | rfl | rfl | rfl
  · refine ⟨next42, fun e he _ args => ?_⟩
    rw [find42] at he
    cases he
    exact sim_addInt64 args
  · refine ⟨next93, fun e he _ args => ?_⟩
    rw [find93] at he
    cases he
    exact sim_float64bits args
  · refine ⟨next94, fun e he _ args => ?_⟩
    rw [find94] at he
    cases he
    exact sim_float64frombits args
  · refine ⟨next95, fun e he _ args => ?_⟩
    rw [find95] at he
    cases he
    exact sim_toIntegral _ _ args
theorem bodiesB : Bodies (barP Try.prog) (barF Try.prog) := by
  letI : Inhabited Junk := noJunk
  intro f fn c h1 h2
  have := bodies f fn c h1 h2
  rw [← okCode_bar (P := Try.prog) (F := (barF Try.prog))] at this
  exact this
theorem goesW_mono {P : Program} {r : Nat} {E E' : Frame → List Frame → World → Prop} (hE : ∀ fr up w, E fr up w → E' fr up w) {fr : Frame} {up : List Frame} {w : World} (h : GoesW P r E fr up w) : GoesW P r E' fr up w := by
  letI : Inhabited Junk := noJunk
  induction h using GoesW.ind with
  | fin h => exact .fin (hE _ _ _ h)
  | step h1 _ ih => exact .step h1 ih
/-- The lone machine comes to such a one. -/
def To (T : Machine → Prop) (m : Machine) : Prop := ∃ m', T m' ∧ Steps (barP Try.prog) m m'
section
variable {T : Machine → Prop} {b : Frame} {a : Act} {k : List Item} {cs : List Frame} {w : World}
theorem to_step {m m' : Machine} (h : step (barP Try.prog) m = .next m') (ht : To T m') : To T m := let ⟨x, h1, h2⟩ := ht; ⟨x, h1, .head h h2⟩
theorem to_steps {m m' : Machine} (h : Steps (barP Try.prog) m m') (ht : To T m') : To T m := let ⟨x, h1, h2⟩ := ht; ⟨x, h1, h.trans h2⟩
theorem to_here {m : Machine} (h : T m) : To T m := ⟨m, h, Steps.refl _ _⟩
theorem to_seq {x y : Code} (h : To T (lone (b.at a (.code x :: .code y :: k)) cs w)) : To T (lone (b.at a (.code (.seq x y) :: k)) cs w) := to_step step_seq h
theorem to_region {id : Nat} {ops : Array Oper} (h : To T (lone (b.at a (.inRegion ops (List.range ops.size) :: k)) cs w)) : To T (lone (b.at a (.code (.region id ops false) :: k)) cs w) := to_step step_region h
theorem to_out {ops : Array Oper} (h : To T (lone (b.at a k) cs w)) : To T (lone (b.at a (.inRegion ops [] :: k)) cs w) := to_step step_region_end h
/-- A code that ends as it should. -/
theorem to_wp {x : Code} {K : Act → World → Prop} (h : x.wp (barP Try.prog) (fun e a w => e = .normal ∧ K a w) a w) (hk : ∀ a w, K a w → To T (lone (b.at a k) cs w)) : To T (lone (b.at a (.code x :: k)) cs w) := by
  obtain ⟨e, a', w', ⟨rfl, h1⟩, h2⟩ := h b k cs
  exact to_steps h2 (hk a' w' h1)
/-- A code that returns. -/
theorem to_ret {x : Code} {K : Act → World → Prop} (h : x.wp (barP Try.prog) (fun e a w => e = .ret ∧ K a w) a w) (hk : ∀ a w todo, K a w → To T (lone { b.at a todo with mode := .returning } cs w)) : To T (lone (b.at a (.code x :: k)) cs w) := by
  obtain ⟨e, a', w', ⟨rfl, h1⟩, todo, h2⟩ := h b k cs
  exact to_steps h2 (hk a' w' todo h1)
theorem to_value {ops : Array Oper} {i : Nat} {rest : List Nat} {o : Oper} {v : Value} {w' : World} (ho : ops[i]? = some o) (hw : Region.wanted o (yielded ops a.tmps) = true) (hk : b.kind ≠ .early) (hr : (execOp a.eval o).run (barP Try.prog) w = .ok (.value v) w') (ht : To T (lone (b.at (a.put o.dst v) (.inRegion ops rest :: k)) cs w')) : To T (lone (b.at a (.inRegion ops (i :: rest) :: k)) cs w) :=
  letI : Inhabited Junk := noJunk
  to_step (step_lone_of_go (Go.Conc.stepG_value ho hw hk hr)) ht
theorem to_enter {ops : Array Oper} {i : Nat} {rest : List Nat} {o : Oper} {f : FuncId} {args : Array Value} {w' : World} (ho : ops[i]? = some o) (hw : Region.wanted o (yielded ops a.tmps) = true) (hk : b.kind ≠ .early) (hr : (execOp a.eval o).run (barP Try.prog) w = .ok (.enter f args) w') (ht : To T (lone (Frame.enter (barP Try.prog) f args .normal) (b.at a (.inRegion ops (i :: rest) :: k) :: cs) w')) : To T (lone (b.at a (.inRegion ops (i :: rest) :: k)) cs w) :=
  letI : Inhabited Junk := noJunk
  to_step (step_lone_of_go (Go.Conc.stepG_enter ho hw hk hr)) ht
theorem to_leave {fr c : Frame} {v : Value} (h : fr.leaving (barP Try.prog) w (.returned v)) (ht : To T (lone (c.finish v) cs w)) : To T (lone fr (c :: cs) w) := to_step (step_leave_returned h) ht
end
end Go.Proofs.Ythbghcebcahlnaa
