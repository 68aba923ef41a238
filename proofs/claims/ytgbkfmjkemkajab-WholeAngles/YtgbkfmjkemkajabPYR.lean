/- A region that draws its order, inside a round of a range over a function. -/
import Derived.Test.YtgbkfmjkemkajabPYL
import Derived.RangeFuncCalls
namespace Go.Proofs.Ytgbkfmjkemkajab
open Go

section
variable {P : Program} {ops : Array Oper} {Q : Exit → Act → World → Prop} {md : Region.Mode} {l nn : Nat}

theorem uponIn_of_upon {o : Oper} {a : Act} {K K' : Act → World → Prop} {r : Result Next} (hK : ∀ a w, K a w → K' a w) (h : o.upon P a K Q r) : o.uponIn (Fence.wide.inRound l) nn P a K' Q r := by
  cases r with
  | ok x w =>
    cases x with
    | value v => exact hK _ _ h
    | skip => exact hK _ _ h
    | defer d => exact hK _ _ h
    | enter f args => exact ⟨fun h => (by cases h), (callsIn_wide.2 (h : Calls P f args w _)).mono fun e w' h' => by cases e <;> first | exact hK _ _ h' | exact h'⟩
    | row row args => exact ⟨fun h => (by cases h), fun c cs _ => let ⟨v, w', r, s⟩ := (h : Rows P row args w _) c cs; ⟨v, w', hK _ _ r, stepsIn_wide.2 s⟩⟩
    | _ => exact (h : False).elim
  | halt e w =>
    cases e with
    | panic v => exact h
    | _ => exact (h : False).elim

theorem anyIn_of_any (hnd : noDefer ops = true) (hlo : ¬ LetsOut Q) : ∀ (fuel : Nat) (listed : Array Bool) (a : Act) (w : World), wpAny P md ops Q fuel listed a w → wpAnyIn (Fence.wide.inRound l) nn P md ops Q fuel listed a w
  | 0, _, _, _, h => h
  | fuel + 1, listed, a, w, h => ⟨h.1, fun i hi => by
    have h1 := h.2 i hi
    unfold wpOp at h1
    unfold wpOpIn
    cases ho : ops[i]? with
    | none =>
      rw [ho] at h1
      exact anyIn_of_any hnd hlo fuel _ _ _ h1
    | some o =>
      rw [ho] at h1
      simp only [] at h1 ⊢
      by_cases c : Region.wanted o (yielded ops a.tmps) = true
      · rw [if_pos c] at h1 ⊢
        rcases h1 with h1 | h1
        · refine ⟨fun _ _ => trivial, ?_⟩
          rw [Oper.semAt_eq _ _ _ (noDefer_at hnd ho)]
          exact uponIn_of_upon (fun a w h => anyIn_of_any hnd hlo fuel _ _ _ h) h1
        · exact absurd h1.2 hlo
      · rw [if_neg c] at h1 ⊢
        exact ⟨fun _ _ => trivial, anyIn_of_any hnd hlo fuel _ _ _ h1⟩⟩

theorem wpInR_region_L {S : Array Bool → World → Prop} {id : Nat} {a : Act} {w : World} (hm : P.follows .mixedOrders = true) (hnd : noDefer ops = true) (hlo : ¬ LetsOut Q) (hS : S (Array.replicate ops.size false) w.drew)
    (h : Cl .any ops (Array.replicate ops.size false) → S (Array.replicate ops.size false) w.drew → wpAnyL P .any ops Q S ops.size (Array.replicate ops.size false) a w.drew) : (Code.region id ops true).wpIn (Fence.wide.inRound l) nn P Q a w :=
  wpIn_region_any hm (anyIn_of_any hnd hlo _ _ _ _ (any_of_L _ _ _ _ (h ⟨Array.size_replicate, fun t ht h => by simp at ht; simp [ht] at h⟩ hS)))
end
end Go.Proofs.Ytgbkfmjkemkajab
