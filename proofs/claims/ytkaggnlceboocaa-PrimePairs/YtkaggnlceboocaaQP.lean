/- Two unlike cells lie together on just one line: all inputs. -/
import Derived.Test.YtkaggnlceboocaaQE
namespace Go.Proofs.Ytkaggnlceboocaa
open Go.RowKit

set_option maxHeartbeats 3200000 in
theorem pairsNone (hal : AliveOk) (hI : IsOk 8) (hl : LineOk 6) {p : Int} {A0 A1 B0 B1 : Int} (hp : isP p = false) (w : World) :
    Calls Try.prog 4 #[.int .i64 p, .agg #[.int .u8 A0, .int .u8 A1], .agg #[.int .u8 B0, .int .u8 B1]] w fun e w' => e = .returned (.bool true) ∧ Below w.heap.size w w' := by
  have kI := hide (fun W => hI p W)
  have kL := hide (fun W => hl p 0 0 W)
  rw [hp] at kI
  rw [linePS_none hp] at kL
  have bb : Hid (Below w.heap.size w ((w.alloc (.cells #[.int .u8 A0, .int .u8 A1] 30)).alloc (.cells #[.int .u8 B0, .int .u8 B1] 30))) := ((Below.refl _ _).alloc (Nat.le_refl _) _).alloc (by simp) _
  have hal := hide hal
  clear hp hI hl
  go_enter Try.func4, Try.ntmps4
  go_wp2_with fail
  generalize (w.alloc (.cells #[.int .u8 A0, .int .u8 A1] 30)).alloc (.cells #[.int .u8 B0, .int .u8 B1] 30) = w0 at *
  refine (unhide hal _).mono ?_
  rintro e w1 ⟨rfl, hb1⟩
  have H1 := hide hb1
  clear hb1
  go_wp2_with fail
  refine (unhide kI _).mono ?_
  rintro e w2 ⟨rfl, hb2⟩
  have H2 := hide ((unhide H1).trans (hb2.mono (unhide H1).size))
  clear hb2 H1
  go_wp2_with fail
  refine (unhide kL _).mono ?_
  rintro e w3 ⟨v, rfl, ⟨a, cp, g, o, rfl, s1, t1⟩, hb3⟩
  have H3 := hide ((unhide bb).trans (((unhide H2).trans (hb3.mono (unhide H2).size)).mono (unhide bb).size))
  clear hb3 H2 s1 t1 kI kL
  go_wp2_with fail
  go_ret
  exact ⟨rfl, unhide H3⟩

theorem pairsWalk (hal : AliveOk) (hI : IsOk 8) (hl : LineOk 6) {p : Int} {A0 A1 B0 B1 : Int} (a0 : 0 ≤ A0 ∧ A0 ≤ 255) (a1 : 0 ≤ A1 ∧ A1 ≤ 255) (b0 : 0 ≤ B0 ∧ B0 ≤ 255) (b1 : 0 ≤ B1 ∧ B1 ≤ 255) (w : World) :
    Calls Try.prog 4 #[.int .i64 p, .agg #[.int .u8 A0, .int .u8 A1], .agg #[.int .u8 B0, .int .u8 B1]] w fun e w' => e = .returned (.bool true) ∧ Below w.heap.size w w' := by
  cases hp : isP p with
  | false => exact pairsNone hal hI hl hp w
  | true =>
    obtain ⟨n, rfl, _⟩ := isP_nat hp
    obtain ⟨x0, rfl⟩ : ∃ x : Nat, A0 = x := ⟨A0.toNat, by omega⟩
    obtain ⟨x1, rfl⟩ : ∃ x : Nat, A1 = x := ⟨A1.toNat, by omega⟩
    obtain ⟨y0, rfl⟩ : ∃ x : Nat, B0 = x := ⟨B0.toNat, by omega⟩
    obtain ⟨y1, rfl⟩ : ∃ x : Nat, B1 = x := ⟨B1.toNat, by omega⟩
    exact pairsPrime hal hI hl hp rfl (by omega) (by omega) (by omega) (by omega) w
end Go.Proofs.Ytkaggnlceboocaa
