/- The fourth statement's walk: whether directions determine every grid. -/
import Derived.Test.YtkjjhllmedkfhaaDKP
namespace Go.Proofs.Ytkjjhllmedkfhaa
open Go.RowKit

set_option maxHeartbeats 3200000 in
theorem katzWalk {n : Int} {L : List (Int × Int)} {a : Option Addr} {cap g o : Nat} (hN : L.length * 16 ≤ 140737488351232) (hA : All64 L) (w : World) (h : Dirs w a g o L) (hnil : a = none → cap = 0) :
    Calls Try.prog 6 #[.int .i64 n, .slice a L.length cap] w fun e w' => e = .returned (.bool true) ∧ Below w.heap.size w w' := by
  obtain ⟨i0, hi0, hz0, hz1, hz2⟩ := info_parts infoDir
  have H := hide h
  have kK := hide (fun (b : Option Addr) (cb g' o' : Nat) (w' : World) (hw : Dirs w' b g' o' L) => dirKatz (n := n) (cap := cb) (by omega) hA w' hw)
  have rK := hide (fun (w' : World) (hw : Dirs w' a g o L) => katzAny (n := n) (cap := cap) (by omega) hA w' hw.at_ hw.cell)
  have sm := hide (fun (b : Option Addr) (cb g' o' : Nat) (w' : World) (h1 : Dirs w' b g' o' L) (h2 : Dirs w' a g o L) => sameAny (ca := cb) (cb := cap) (by omega) w' h1 h2)
  generalize katzS n L = r at kK rK
  obtain ⟨r1, r2⟩ := r
  dsimp only at kK rK
  clear h
  go_enter Try.func6, Try.ntmps6
  go_wp2_with fail
  refine (aliveAny _).mono ?_
  rintro e w1 ⟨rfl, hb1⟩
  have hB1 := hide hb1
  have H1 := hide (dirs_below (unhide H) hb1)
  clear hb1
  cases a with
  | none =>
    have hl : L.length = 0 := by
      rcases Nat.eq_zero_or_pos L.length with e | e
      · exact e
      · have := ((unhide H).at_ e).1
        cases this
    have hcap := hnil rfl
    subst hcap
    obtain rfl : L = [] := List.length_eq_zero_iff.1 hl
    have hD2 : Dirs (w1.alloc (.cells #[] 23)) (some ⟨w1.heap.size, 0, none⟩) w1.heap.size 0 [] := ⟨fun h => (by cases h), fun i c hi => (by simp at hi)⟩
    have hb2 : Below w1.heap.size w1 (w1.alloc (.cells #[] 23)) := below_alloc _ _
    go_wp2_with fail
    refine (unhide kK _ _ _ 0 _ hD2).mono ?_
    rintro e w3 ⟨rfl, hb3⟩
    have hG3 := hide (dirs_below hD2 hb3)
    have hH3 := hide (dirs_below (dirs_below (unhide H1) hb2) hb3)
    have hB3 := hide (below_on (below_on (unhide hB1) hb2) hb3)
    clear hb3 kK hD2 hb2
    go_wp2_with fail
    refine (unhide rK _ (unhide hH3)).mono ?_
    rintro e w4 ⟨rfl, hb4⟩
    have hG4 := hide (dirs_below (unhide hG3) hb4)
    have hH4 := hide (dirs_below (unhide hH3) hb4)
    have hB4 := hide (below_on (unhide hB3) hb4)
    clear hb4 rK hG3 hH3 hB3
    go_wp2_with fail
    refine (unhide sm _ _ _ 0 _ (unhide hG4) (unhide hH4)).mono ?_
    rintro e w5 ⟨rfl, hb5⟩
    have hB5 := hide (below_on (unhide hB4) hb5)
    clear hb5 sm hG4 hH4 hB4
    go_wp2_with fail
    go_ret
    exact ⟨rfl, unhide hB5⟩
  | some ad =>
    have hx : ∀ hl : 0 < L.length, ad = ⟨g, o, none⟩ := fun hl => by
      have := ((unhide H).at_ hl).1
      injection this
    have hown0 := hide (World.ownsRow_lit (base := w1.heap.size) (e := 23) (size := 2) w1 #[] 0 (Nat.le_refl _) (Nat.zero_le _) rfl)
    have hnews : Hid (∀ j u, (flat2 L)[j]? = some u → (w1.alloc (.cells #[] 23)).cell? (ad.add j) = some u) := by
      intro j u hj
      obtain ⟨i, c, hc, hu⟩ := flat2_at hj
      have hl : 0 < L.length := by
        have := (List.getElem?_eq_some_iff.1 hc).1
        omega
      have hb : (w1.alloc (.cells #[] 23)).heap[g]? = w1.heap[g]? := Below.heap_alloc _ _ _ ((unhide H1).at_ hl).2
      obtain ⟨c1, c2⟩ := (unhide H1).cell i c hc
      rw [hx hl, addr_plus]
      rcases hu with ⟨rfl, rfl⟩ | ⟨rfl, rfl⟩
      · exact (World.cell?_of_block hb).trans c1
      · exact (World.cell?_of_block hb).trans c2
    have hone : Hid (∀ u ∈ flat2 L, u.oneCell' = true) := by
      intro u hu
      obtain ⟨j, hj⟩ := List.mem_iff_getElem?.1 hu
      obtain ⟨i, c, hc, h | h⟩ := flat2_at hj
      · rw [h.2]; rfl
      · rw [h.2]; rfl
    go_wp2_with (first
      | (at_builtin; refine wpList_append_own _ rfl (.tmp 12) (.tmp 13) 32 rfl w1.heap.size 23 i0 (.agg #[.int .i64 0, .int .i64 0]) 2 16 Try.underlying32 hi0 hz0 hz1 hz2 rfl (by decide) _ 0 _ rfl (unhide hown0) ad L.length cap (flat2 L) rfl (flat2_length L) (unhide hnews) (unhide hone) ?c3 ?c4 ?c5 ?_))
    case c3 => unfold maxLen; omega
    case c4 => omega
    case c5 => simp
    intro v' w2 hown' hgrow _
    obtain ⟨b, cb, g', rfl, hD2⟩ := dirs_owns hown'
    have hb2 : Below w1.heap.size w1 w2 := ((Below.refl _ _).alloc (Nat.le_refl _) _).grown hgrow (by simp) (fun k hk => by cases hk; exact Nat.le_refl _)
    clear hown' hgrow hnews hone hown0
    go_wp2_with fail
    refine (unhide kK _ _ _ 0 _ hD2).mono ?_
    rintro e w3 ⟨rfl, hb3⟩
    have hG3 := hide (dirs_below hD2 hb3)
    have hH3 := hide (dirs_below (dirs_below (unhide H1) hb2) hb3)
    have hB3 := hide (below_on (below_on (unhide hB1) hb2) hb3)
    clear hb3 kK hD2 hb2
    go_wp2_with fail
    refine (unhide rK _ (unhide hH3)).mono ?_
    rintro e w4 ⟨rfl, hb4⟩
    have hG4 := hide (dirs_below (unhide hG3) hb4)
    have hH4 := hide (dirs_below (unhide hH3) hb4)
    have hB4 := hide (below_on (unhide hB3) hb4)
    clear hb4 rK hG3 hH3 hB3
    go_wp2_with fail
    refine (unhide sm _ _ _ 0 _ (unhide hG4) (unhide hH4)).mono ?_
    rintro e w5 ⟨rfl, hb5⟩
    have hB5 := hide (below_on (unhide hB4) hb5)
    clear hb5 sm hG4 hH4 hB4
    go_wp2_with fail
    go_ret
    exact ⟨rfl, unhide hB5⟩
end Go.Proofs.Ytkjjhllmedkfhaa
