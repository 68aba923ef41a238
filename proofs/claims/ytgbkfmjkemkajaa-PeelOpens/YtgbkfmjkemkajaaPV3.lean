/- The library's ContainsFunc where none is; the bins looked at. -/
import Derived.Test.YtgbkfmjkemkajaaM5
import Derived.Test.YtgbkfmjkemkajaaM6
import Derived.Test.YtgbkfmjkemkajaaYQ
import Derived.Shelf.Abstract
namespace Go.Proofs.Ytgbkfmjkemkajaa
open Go.RowKit Go.Shelf

set_option maxRecDepth 100000 in
set_option maxHeartbeats 1600000 in
theorem idxNone {gs m c : Nat} {Fn : FuncId} {f : Nat → Nat × Nat} (hm : m ≤ 2017) (eg : ∀ args w, (callFunc Fn args).run Try.prog w = .ok (.enter Fn args) w)
    (hp : ∀ j, j < m → ∀ W : World, Calls Try.prog Fn #[.complex .f64 (f j).1 (f j).2] W fun e W' => e = .returned (.bool false) ∧ Below W.heap.size W W') (w : World) (h : VRow w 38 gs m (fun j => .complex .f64 (f j).1 (f j).2)) :
    Calls Try.prog 83 #[.slice (some ⟨gs, 0, none⟩) m c, .func (.func Fn) #[] #[]] w fun e w' => e = .returned (.int .i64 (-1)) ∧ Below w.heap.size w w' := by
  have H := hide h
  have hp := hide hp
  clear h
  go_enter Try.func83, Try.ntmps83
  go_wp2_with fail
  go_loopw [8] (fun kv wr => ∃ k : Nat, k ≤ m ∧ kv = .int .i64 k ∧ Hid (Below w.heap.size w wr)) (fun kv _ => m - (intOf kv).toNat)
  case atStart => exact ⟨0, Nat.zero_le _, rfl, Below.refl _ _⟩
  case round =>
    obtain ⟨k, hk, rfl, hB⟩ := hrel
    by_cases hkm : k < m
    · have q1 : ((k : Int) < (m : Int)) = True := by simp; omega
      have c1 := vrow_at (vrow_keep (unhide H) ((unhide hB).block _ (vrow_lt (unhide H)))) hkm
      have k1 := hide (unhide hp k hkm wr)
      have hs := (unhide hB).size
      generalize f k = fk at *
      obtain ⟨f1, f2⟩ := fk
      dsimp only at *
      go_wp2_with fail
      refine (unhide k1).mono ?_
      rintro e w1 ⟨rfl, hb1⟩
      have B1 := hide ((unhide hB).trans (hb1.mono hs))
      clear hb1 k1 hB c1
      go_wp2_with fail
      exact ⟨⟨k + 1, by omega, by go_num, B1⟩, by simp [intOf]; omega⟩
    · have e : k = m := by omega
      subst e
      have q1 : ((k : Int) < (k : Int)) = False := by simp
      go_wp2_with fail
      go_ret
      exact ⟨rfl, unhide hB⟩

set_option maxHeartbeats 1600000 in
theorem containsNone {gs m c : Nat} {Fn : FuncId} {f : Nat → Nat × Nat} (hm : m ≤ 2017) (eg : ∀ args w, (callFunc Fn args).run Try.prog w = .ok (.enter Fn args) w)
    (hp : ∀ j, j < m → ∀ W : World, Calls Try.prog Fn #[.complex .f64 (f j).1 (f j).2] W fun e W' => e = .returned (.bool false) ∧ Below W.heap.size W W') (w : World) (h : VRow w 38 gs m (fun j => .complex .f64 (f j).1 (f j).2)) :
    Calls Try.prog 63 #[.slice (some ⟨gs, 0, none⟩) m c, .func (.func Fn) #[] #[]] w fun e w' => e = .returned (.bool false) ∧ Below w.heap.size w w' := by
  have k1 := hide (idxNone (c := c) hm eg hp w h)
  clear hp h eg
  go_enter Try.func63, Try.ntmps63
  go_wp2_with fail
  refine (unhide k1).mono ?_
  rintro e w1 ⟨rfl, hb1⟩
  have B1 := hide hb1
  clear hb1
  go_wp2_with fail
  go_ret
  exact ⟨rfl, unhide B1⟩
end Go.Proofs.Ytgbkfmjkemkajaa
