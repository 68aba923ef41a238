/- A copy of a list of directions, by append to an empty list. -/
import Derived.Test.YtgbkfmjkemkajaaPO0
import Derived.Lib.AppendZeros
namespace Go.Proofs.Ytgbkfmjkemkajaa
open Go.RowKit

theorem copy_none_run (w : World) (g : Nat) (cap : Nat) (ty : TypeId) : (Builtin.append_ #[22, 22] ty #[.slice (some ⟨g, 0, none⟩) 0 0, .slice none 0 cap]).run Try.prog w = .ok (.slice (some ⟨g, 0, none⟩) 0 0) w := by
  simp [Builtin.append_, go_sem]

/-- The step append([]api.Dir{}, dirs...), dirs nil or not. -/
theorem wpList_copy_dirs {ops : Array Oper} {rest : List Oper} {o : Oper} {a : Act} {Q : Exit → Act → World → Prop} (hgd : o.guard = none) (s x : Operand) (w1 : World)
    (ho : o.op = .call { callee := .builtin .append, args := #[s, x], argTypes := #[22, 22] })
    (hs : a.eval s = .slice (some ⟨w1.heap.size, 0, none⟩) 0 0) {ad : Option Addr} {cap g f : Nat} {L : List (Int × Int)} (hx : a.eval x = .slice ad L.length cap) (hD : Dirs w1 ad g f L) (hN : L.length * 16 ≤ 140737488351232)
    (h : ∀ b cb g' w', Dirs w' b g' 0 L → Below w1.heap.size w1 w' → wpList Try.prog ops Q rest (a.put o.dst (.slice b L.length cb)) w') :
    wpList Try.prog ops Q (o :: rest) a (w1.alloc (.cells #[] 35)) := by
  obtain ⟨i0, hi0, hz0, hz1, hz2⟩ := info_parts infoDir
  have hb0 : Below w1.heap.size w1 (w1.alloc (.cells #[] 35)) := (Below.refl _ _).alloc (Nat.le_refl _) _
  match ad, hx, hD with
  | none, hx, hD =>
    have hl : L.length = 0 := by
      rcases Nat.eq_zero_or_pos L.length with hz | hz
      · exact hz
      · exact absurd (hD.at_ hz).1 (by simp)
    rw [hl] at hx h
    refine Lib.wpList_append_run _ hgd s x _ _ ho _ _ hs hx _ _ (copy_none_run _ _ _ _) (h _ _ 0 _ ⟨fun c => by omega, fun i c hc => ?_⟩ hb0)
    have := (List.getElem?_eq_some_iff.1 hc).1
    omega
  | some ad, hx, hD =>
    have hx' : ∀ hl : 0 < L.length, ad = ⟨g, f, none⟩ := fun hl => by
      have := (hD.at_ hl).1
      injection this
    have hnews : ∀ j u, (flat2 L)[j]? = some u → (w1.alloc (.cells #[] 35)).cell? (ad.add j) = some u := by
      intro j u hj
      obtain ⟨i, c, hc, hu⟩ := flat2_at hj
      have hl : 0 < L.length := by
        have := (List.getElem?_eq_some_iff.1 hc).1
        omega
      have hb : (w1.alloc (.cells #[] 35)).heap[g]? = w1.heap[g]? := Below.heap_alloc _ _ _ (hD.at_ hl).2
      obtain ⟨c1, c2⟩ := hD.cell i c hc
      rw [hx' hl, addr_plus]
      rcases hu with ⟨rfl, rfl⟩ | ⟨rfl, rfl⟩
      · exact (World.cell?_of_block hb).trans c1
      · exact (World.cell?_of_block hb).trans c2
    have hone : ∀ u ∈ flat2 L, u.oneCell' = true := by
      intro u hu
      obtain ⟨j, hj⟩ := List.mem_iff_getElem?.1 hu
      obtain ⟨i, c, hc, h | h⟩ := flat2_at hj
      · rw [h.2]; rfl
      · rw [h.2]; rfl
    refine wpList_append_own _ hgd s x 22 ho w1.heap.size 35 i0 (.agg #[.int .i64 0, .int .i64 0]) 2 16 Try.underlying22 hi0 hz0 hz1 hz2 rfl (by decide) _ 0 _ hs (World.ownsRow_lit (base := w1.heap.size) (e := 35) (size := 2) w1 #[] 0 (Nat.le_refl _) (Nat.zero_le _) rfl) ad L.length cap (flat2 L) hx (flat2_length L) hnews hone (by unfold maxLen; omega) (by omega) (by simp) ?_
    intro v' w2 hown' hgrow _
    have hown2 : w2.ownsRow w1.heap.size 35 2 v' L.length (flat2 L) := by simpa using hown'
    obtain ⟨b, cb, g', rfl, hD2⟩ := dirs_owns hown2
    exact h _ _ g' _ hD2 (hb0.grown hgrow (by simp) (fun k hk => by cases hk; exact Nat.le_refl _))
end Go.Proofs.Ytgbkfmjkemkajaa
