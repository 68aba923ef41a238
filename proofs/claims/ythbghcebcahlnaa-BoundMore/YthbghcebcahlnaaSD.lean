/- Behind the join: goroutine 0 goes on beside the child that only leaves. -/
import Derived.Test.YthbghcebcahlnaaRY
set_option linter.unusedSectionVars false
namespace Go.Proofs.Ythbghcebcahlnaa
open Go Go.Conc
variable {P : Program} {F : Array Func} [Inhabited Junk]

/-- ████ BEHIND THE JOIN. ████ -/
theorem joined_go (hF : FenceB P F) (hB : Bodies P F) {ty : TypeId} {Wg : Nat} {End : Goroutine → Prop} {w v0 : World} {m : Machine} {t : Trace} {r : Nat} {E : Frame → List Frame → World → Prop} {cs : List Frame} {fr : Frame} {up : List Frame} (hJ : Joined P ty Wg End w v0 m t) (hE : ∀ g, End g → g = runG fr (up ++ cs)) (hg : GoesW (bar P F) r E fr up w) (hf : okFrame P fr) (hu : ∀ f ∈ up, okFrame P f) :
    ∃ N m' t', runNT P N m t = (.next m', t') ∧ Arrived P (fun x => x = Wg) E cs v0 2 m' t' := by
  obtain ⟨a, b, v, sl, q, rfl, ha, hG, hS, hQ, hP, hA, o1, o2, o3⟩ := hJ
  obtain rfl := hE a ha
  obtain ⟨N, m', t', hr, gs2, fr2, up2, w2, v2, sl2, q2, a1, a2, a3, a4, a5, a6, a7, a8, a9, a10, a11⟩ := beside_goesW hF hB (V := fun x => x = Wg) (cs := cs) hg #[runG fr (up ++ cs), b] v sl t (fun _ => q) (by simp)
    ⟨fun i x hi hx => by
      have hlt := (Array.getElem?_eq_some_iff.1 hx).1
      have hlt : i < 2 := by simpa using hlt
      obtain rfl : i = 1 := by omega
      have : b = x := by simpa using hx
      rw [← this]
      exact hQ, fun j hj => hA j (by simpa using hj)⟩ hP hS hf hu
  exact ⟨N, m', t', by rw [duo_eq_crowd]; exact hr, gs2, fr2, up2, w2, v2, sl2, q2, a1, a2, a3, a4, a5, a6, a7, a8, a9.trans o1, a10.trans o2, a11.trans o3⟩
end Go.Proofs.Ythbghcebcahlnaa
