/- What the landed peeling and the document's own both ask. -/
import Derived.Test.YtgbkfmjkemkajabPB2
namespace Go.Proofs.Ytgbkfmjkemkajab
open Go.RowKit

/-- How many cells are open, as the memory has it. -/
def openN (p M : Nat) (w : World) : Nat := cntB (fun i => match w.cell? ⟨p, i, none⟩ with | some (.bool true) => true | _ => false) M
theorem final_of {n : Nat} {L : List (Int × Int)} {b : Nat → Bool} (hn : 1 ≤ n) (h64 : n ≤ 64) (ho : ∀ d, d ∈ L → okD d.1 d.2 = true) (h : Holds n L b) (hs : ∀ k, k < L.length → ∀ j, j < binN n (dk L k) → cntL n (dk L k) b (j : Int) ≠ 1) : Final n L b := by
  refine holds_final h (stab_of fun d hd i hi => ?_)
  obtain ⟨k, hk⟩ := List.mem_iff_getElem?.1 hd
  have hkL := (List.getElem?_eq_some_iff.1 hk).1
  have e : dk L k = d := by
    have := dk_at hkL
    rw [hk] at this
    injection this with this
    exact this.symm
  obtain ⟨j, hj, ej⟩ := line_bounds hn h64 (ho d hd) hi
  rw [ej]
  have := hs k hkL j (by rw [e]; exact hj)
  rw [e] at this
  exact this

theorem storeCx {P : Program} {w : World} {a : Addr} {m : Mode} (k : FloatKind) (x y : Nat) : (store a (.complex k x y) m).run P w = stored P w a (.complex k x y) m := run_store P w a _ m rfl
end Go.Proofs.Ytgbkfmjkemkajab
