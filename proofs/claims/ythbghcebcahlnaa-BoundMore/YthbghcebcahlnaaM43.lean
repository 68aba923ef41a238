/- BoundMore: projections in another order. -/
import Derived.Test.YthbghcebcahlnaaM42
namespace Go.Proofs.Ythbghcebcahlnaa
open Go.RowKit Go.Shelf

theorem infoProj : ((barP Try.prog).info? 49).map (fun i => (i.zero, i.size, i.bytes)) = some (some (.agg #[.int .i64 0, .int .i64 0, .slice none 0 0]), 3, 40) := by kernel_rfl
/-- One projection's cells. -/
def cellsP (p : PD) : List Value := [.int .i64 p.d.1, .int .i64 p.d.2, .slice (some ⟨p.gb, 0, none⟩) p.nb p.cb]
def flatP (ps : List PD) : List Value := ps.flatMap cellsP
theorem flatP_len : ∀ ps : List PD, (flatP ps).length = ps.length * 3
  | [] => rfl
  | p :: r => by
    have := flatP_len r
    unfold flatP at *
    rw [List.flatMap_cons, List.length_append, this, List.length_cons]
    simp [cellsP]
    omega
theorem flatP_at : ∀ (ps : List PD) (i k : Nat), i < ps.length → k < 3 → (flatP ps)[i * 3 + k]? = (cellsP (ps.getD i p0))[k]?
  | [], i, k, h, _ => by simp at h
  | p :: r, 0, k, _, hk => by
    unfold flatP
    rw [List.flatMap_cons, Nat.zero_mul, Nat.zero_add, List.getElem?_append_left (by simp [cellsP]; omega)]
    rfl
  | p :: r, i + 1, k, h, hk => by
    have ih := flatP_at r i k (by simpa using h) hk
    unfold flatP at *
    rw [List.flatMap_cons, List.getElem?_append_right (by simp [cellsP]; omega)]
    rw [show (i + 1) * 3 + k - (cellsP p).length = i * 3 + k by simp [cellsP]; omega, ih]
    rfl
theorem three_new (w : World) (x y z : Value) (t : TypeId) : ∀ j u, [x, y, z][j]? = some u → (w.alloc (.cells #[x, y, z] t)).cell? ((⟨w.heap.size, 0, none⟩ : Addr).add j) = some u := by
  intro j u hj
  have e := heap_alloc_new w (.cells #[x, y, z] t)
  have e2 : (⟨w.heap.size, 0, none⟩ : Addr).add j = ⟨w.heap.size, j, none⟩ := by unfold Addr.add; simp; omega
  rw [e2]
  unfold World.cell?
  rw [e]
  simpa using hj
/-- A list that was made of projections' cells holds them. -/
theorem projs_own {w : World} {B : Nat} {v : Value} {qs : List PD} (h : w.ownsRow B 49 3 v qs.length (flatP qs)) (h1 : 1 ≤ qs.length)
    (hb : ∀ i, i < qs.length → VRow w 39 (qs.getD i p0).gb (qs.getD i p0).nb (fun j => .complex .f64 ((qs.getD i p0).z j).1 ((qs.getD i p0).z j).2)) :
    ∃ g cap, v = .slice (some ⟨g, 0, none⟩) qs.length cap ∧ ProjsAt w g qs := by
  rcases h.2 with ⟨rfl, h0⟩ | ⟨g, cap, cur, rfl, hB, hg, hnc, hcm, hcs, htake⟩
  · omega
  · refine ⟨g, cap, rfl, (Array.getElem?_eq_some_iff.1 hg).1, fun i hi => ?_, hb⟩
    have key : ∀ k, k < 3 → w.cell? ⟨g, i * 3 + k, none⟩ = (cellsP (qs.getD i p0))[k]? := fun k hk => by
      have e := flatP_at qs i k hi hk
      have hl := flatP_len qs
      rw [← htake, List.getElem?_take] at e
      rw [if_pos (by omega)] at e
      rw [← e]
      simp [World.cell?, hg]
    exact ⟨key 0 (by omega), key 1 (by omega), key 2 (by omega)⟩
theorem take_rev {ps : List PD} {j : Nat} (h : j < ps.length) : flatP (ps.reverse.take (j + 1)) = flatP (ps.reverse.take j) ++ cellsP (ps.getD (ps.length - 1 - j) p0) := by
  have e : ps.reverse.take (j + 1) = ps.reverse.take j ++ [ps.getD (ps.length - 1 - j) p0] := by
    rw [List.take_add_one, List.getElem?_reverse h, List.getD_eq_getElem?_getD]
    rw [List.getElem?_eq_getElem (by omega)]
    rfl
  rw [e]
  unfold flatP
  rw [List.flatMap_append]
  simp
end Go.Proofs.Ythbghcebcahlnaa
