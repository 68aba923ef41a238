/- The document's Unpack, of any bytes. -/
import Derived.Test.YtpmbgjoilfdkaaaKV
namespace Go.Proofs.Ytpmbgjoilfdkaaa
open Go.RowKit Fl Ieee

theorem bad_head {L : List Nat} (h : ¬ Head L) : ∀ f, ¬ Good L f := fun _ hg => h hg.1

set_option maxRecDepth 100000 in
set_option maxHeartbeats 6400000 in
theorem refUnpackAny : UnpAny 35 := by
  intro a g o c L w h
  by_cases hH : Head L
  · exact unpackHead w h hH
  · have hN := hide (bad_head hH)
    by_cases hl : L.length < 2
    · have q1 : ((L.length : Int) < 2) = True := by simp; omega
      clear hH h
      go_enter Try.func35, Try.ntmps35
      go_wp2_with fail
      refine bodyPost_ret (results_two_tmp (P := Try.prog) rfl _ _ w.heap.size (.int .i64 0) (.slice none 0 0) (.int .i64 210) _ rfl rfl (by simp [go_sem]) (by simp [go_sem]) Try.underlying30 rfl (by kernel_rfl)) rfl ?_
      exact ⟨.inr ⟨unhide hN, rfl⟩, (Below.refl _ _).alloc (Nat.le_refl _) _⟩
    · obtain ⟨rfl, hg⟩ := h.at_ (by omega)
      have q1 : ((L.length : Int) < 2) = False := by simp; omega
      have q1' : ((0 : Int) < (L.length : Int)) = True := by simp; omega
      have q1'' : ((1 : Int) < (L.length : Int)) = True := by simp; omega
      have c0 : (w.alloc (.cells #[.int .i64 0, .slice none 0 0] 30)).cell? ⟨g, o, none⟩ = some (.int .u8 (L.getD 0 0 : Nat)) := bat_cell h ((Below.refl _ _).alloc (Nat.le_refl _) _) (i := 0) (by omega)
      have c1 : (w.alloc (.cells #[.int .i64 0, .slice none 0 0] 30)).cell? ⟨g, o + 1, none⟩ = some (.int .u8 (L.getD 1 0 : Nat)) := bat_cell h ((Below.refl _ _).alloc (Nat.le_refl _) _) (i := 1) (by omega)
      have hb : 2 < L.getD 0 0 ∨ (L.getD 0 0 ≤ 2 ∧ L.getD 1 0 < 1) ∨ (L.getD 0 0 ≤ 2 ∧ 1 ≤ L.getD 1 0 ∧ 64 < L.getD 1 0) := by
        by_cases c0 : 2 < L.getD 0 0
        · exact .inl c0
        · by_cases c1 : L.getD 1 0 < 1
          · exact .inr (.inl ⟨by omega, c1⟩)
          · by_cases c2 : 64 < L.getD 1 0
            · exact .inr (.inr ⟨by omega, by omega, c2⟩)
            · exact absurd ⟨by omega, by omega, by omega, by omega⟩ hH
      clear hH h
      generalize L.getD 0 0 = z at *
      generalize L.getD 1 0 = n at *
      rcases hb with h1 | ⟨h1, h2⟩ | ⟨h1, h2, h3⟩
      · have q2 : ((2 : Int) < (z : Int)) = True := by simp; omega
        go_enter Try.func35, Try.ntmps35
        go_wp2_with fail
        refine bodyPost_ret (results_two_tmp (P := Try.prog) rfl _ _ w.heap.size (.int .i64 0) (.slice none 0 0) (.int .i64 210) _ rfl rfl (by simp [go_sem]) (by simp [go_sem]) Try.underlying30 rfl (by kernel_rfl)) rfl ?_
        exact ⟨.inr ⟨unhide hN, rfl⟩, (Below.refl _ _).alloc (Nat.le_refl _) _⟩
      · have q2 : ((2 : Int) < (z : Int)) = False := by simp; omega
        have q3 : ((n : Int) < 1) = True := by simp; omega
        go_enter Try.func35, Try.ntmps35
        go_wp2_with fail
        refine bodyPost_ret (results_two_tmp (P := Try.prog) rfl _ _ w.heap.size (.int .i64 0) (.slice none 0 0) (.int .i64 210) _ rfl rfl (by simp [go_sem]) (by simp [go_sem]) Try.underlying30 rfl (by kernel_rfl)) rfl ?_
        exact ⟨.inr ⟨unhide hN, rfl⟩, (Below.refl _ _).alloc (Nat.le_refl _) _⟩
      · have q2 : ((2 : Int) < (z : Int)) = False := by simp; omega
        have q3 : ((n : Int) < 1) = False := by simp; omega
        have q4 : ((64 : Int) < (n : Int)) = True := by simp; omega
        go_enter Try.func35, Try.ntmps35
        go_wp2_with fail
        refine bodyPost_ret (results_two_tmp (P := Try.prog) rfl _ _ w.heap.size (.int .i64 0) (.slice none 0 0) (.int .i64 210) _ rfl rfl (by simp [go_sem]) (by simp [go_sem]) Try.underlying30 rfl (by kernel_rfl)) rfl ?_
        exact ⟨.inr ⟨unhide hN, rfl⟩, (Below.refl _ _).alloc (Nat.le_refl _) _⟩
theorem refUnpack : UnpOk 35 := fun a g o c L w _ _ h => refUnpackAny a g o c L w h
end Go.Proofs.Ytpmbgjoilfdkaaa
