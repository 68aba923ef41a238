/- The program's reading of a record's body. -/
import Derived.Test.YtpmbgjoilfdkaaaXC
import Derived.Test.YtpmbgjoilfdkaaaXD
import Derived.Deep.QuietTactic
namespace Go.Proofs.Ytpmbgjoilfdkaaa
open Go.RowKit Fl Ieee

/-- The record at the head of bytes has a body of that length and sum. -/
def HeadOk (B : List Nat) : Prop := 8 ≤ B.length ∧ numB B 0 4 + 8 ≤ B.length ∧ sumB (bodyB B) (bodyB B).length = numB B 4 4
theorem sum_at {a : Option Addr} {g o c E : Nat} {L : List Nat} (e : E = L.length) (hL : E ≤ 4611686018427387904) (w : World) (h : BAt w a g o L) : Calls Try.prog 14 #[.slice a E c] w fun r w' => r = .returned (.int .u32 (sumB L L.length)) ∧ w' = w := by
  subst e
  exact progSum hL w h
theorem bat_body {w : World} {ab : Option Addr} {g o : Nat} {B : List Nat} (h : BAt w ab g o B) : BAt w (some ⟨g, o + 8, none⟩) g (o + 8) (bodyB B) := by
  have h8 := bat_from (p := 8) h
  have hl : (bodyB B).length ≤ (B.drop 8).length := by unfold bodyB; rw [List.length_take]; omega
  have hg : ∀ i, i < (bodyB B).length → (bodyB B).getD i 0 = (B.drop 8).getD i 0 := fun i hi => by
    unfold bodyB at hi ⊢
    rw [List.length_take] at hi
    rw [getD_take (by omega)]
  refine ⟨fun i => ?_, fun hp => ⟨rfl, (h8.at_ (by omega)).2⟩, fun i hi => ?_⟩
  · by_cases c : i < (bodyB B).length
    · rw [hg i c]; exact h8.lt i
    · rw [getD_out c]; decide
  · rw [hg i hi]
    exact h8.cell i (by omega)

set_option maxRecDepth 100000 in
set_option maxHeartbeats 6400000 in
theorem progReadBody {ab : Option Addr} {g o cb m : Nat} {B : List Nat} (hm : m = B.length) (hc : m ≤ cb) (hbig : m ≤ 140737488355328) (w : World) (hB : BAt w ab g o B) :
    Calls Try.prog 23 #[.slice ab m cb] w fun r w' => ((HeadOk B ∧ ∃ a' c' l, r = .returned (.slice a' l c') ∧ l = (bodyB B).length ∧ l ≤ c' ∧ ∀ W, BAt W ab g o B → BAt W a' g (o + 8) (bodyB B)) ∨ (¬ HeadOk B ∧ r = .panicked tornP)) ∧ Below w.heap.size w w' := by
  have HM := hide hm
  have kY := hide needYes
  have kN := hide needNo
  by_cases h8 : m < 8
  · have q1 : ((8 : Int) ≤ (m : Int)) = False := by simp; omega
    have q2 : (8 ≤ m) = False := by simp; omega
    have NO : Hid (¬ HeadOk B) := fun h => by have := h.1; omega
    clear hm hB
    go_enter Try.func23, Try.ntmps23
    go_wp2_with fail
    refine (unhide kN _).mono ?_
    rintro e w' ⟨rfl, hw⟩
    obtain rfl := hw.symm
    go_wp2_with fail
    exact ⟨rfl, .inr ⟨unhide NO, rfl⟩, Below.refl _ _⟩
  · have q1 : ((8 : Int) ≤ (m : Int)) = True := by simp; omega
    have q2 : (8 ≤ m) = True := by simp; omega
    obtain ⟨rfl, hg⟩ := hB.at_ (by omega)
    have BX := hide hB
    obtain ⟨e8, he8⟩ : ∃ e8, e8 + 8 = m := ⟨m - 8, by omega⟩
    obtain ⟨c8, hc8⟩ : ∃ c8, c8 + 8 = cb := ⟨cb - 8, by omega⟩
    have n1 : m - 8 = e8 := by omega
    have n2 : cb - 8 = c8 := by omega
    have n3 : (4 : Int) ≤ (m : Int) := by omega
    have n4 : (8 : Int) ≤ (m : Int) := by omega
    have n5 : (m : Int) ≤ (cb : Int) := by omega
    have n6 : (cb = 4) = False := by simp; omega
    have k1 := hide (fun d => progWord (a := some ⟨g, o, none⟩) (g := g) (o := o) (c := cb) (l := m) (K := B) hm (by omega) hc (w.drewN d) (bat_drew1 hB))
    have k2 := hide (fun d => progWord (a := some ⟨g, o + 4, none⟩) (g := g) (o := o + 4) (c := cb - 4) (l := m - 4) (K := B.drop 4) (by rw [List.length_drop]; omega) (by omega) (by omega) (w.drewN d) (bat_drew1 (bat_from (p := 4) hB)))
    have e44 : numB (B.drop 4) 0 4 = numB B 4 4 := by rw [numB_drop]
    rw [e44] at k2
    clear e44
    have hN := numB_lt hB.lt 0 4
    have hS := numB_lt hB.lt 4 4
    obtain ⟨x, hx⟩ : ∃ x, x = numB B 0 4 := ⟨_, rfl⟩
    obtain ⟨s, hs⟩ : ∃ s, s = numB B 4 4 := ⟨_, rfl⟩
    rw [← hx] at k1 hN
    rw [← hs] at k2 hS
    have HX := hide hx
    have HS := hide hs
    have p4 : (256 : Nat) ^ 4 = 4294967296 := by decide
    rw [p4] at hN hS
    have u1 : IntKind.u64.wrap (x : Int) = (x : Int) := by show (x : Int) % 18446744073709551616 = _; omega
    have u2 : IntKind.u64.wrap (e8 : Int) = (e8 : Int) := by show (e8 : Int) % 18446744073709551616 = _; omega
    have u1' : (x : Int) % 18446744073709551616 = (x : Int) := by omega
    have u2' : (e8 : Int) % 18446744073709551616 = (e8 : Int) := by omega
    clear hm hB hx hs p4
    by_cases hx8 : x ≤ e8
    · have q3 : ((x : Int) ≤ (e8 : Int)) = True := by simp; omega
      have q4 : (x ≤ e8) = True := by simp; omega
      have q5 : (x : Int) ≤ (c8 : Int) := by omega
      have q6 : (0 : Int) ≤ (x : Int) := by omega
      have hfit : Hid (numB B 0 4 + 8 ≤ B.length) := by show _ ≤ _; have := unhide HX; have := unhide HM; omega
      have eX : Hid (x = (bodyB B).length) := by show _ = _; rw [bodyB_len (unhide hfit)]; exact unhide HX
      have kS1 := hide (fun d => sum_at (a := some ⟨g, o + 8, none⟩) (g := g) (o := o + 8) (c := c8) (E := x) (L := bodyB B) (unhide eX) (by omega) (w.drewN d) (bat_drew1 (bat_body (unhide BX))))
      have kS2 := hide (fun (_ : cb = 8) d => sum_at (a := some ⟨g, o, none⟩) (g := g) (o := o) (c := c8) (E := x) (L := bodyB B) (unhide eX) (by omega) (w.drewN d) (bat_nil (by rw [← unhide eX]; omega)))
      by_cases hy : sumB (bodyB B) (bodyB B).length = s
      · have YES : Hid (HeadOk B) := ⟨by have := unhide HM; omega, unhide hfit, by rw [← unhide HS]; exact hy⟩
        rw [hy] at kS1 kS2
        clear hy
        go_enter Try.func23, Try.ntmps23
        go_wp2_with fail
        refine (unhide kY _).mono ?_
        rintro e w' ⟨rfl, hw⟩
        obtain rfl := hw.symm
        go_wp2_with fail
        go_quiet (first | (go_at_call 31; with_reducible refine Calls.quiet_of_same (unhide k1 _)) | (go_at_call 31; with_reducible refine Calls.quiet_of_same (unhide k2 _)))
        go_wp2_with fail
        all_goals refine (unhide kY _).mono ?_
        all_goals rintro e w' ⟨rfl, hw⟩
        all_goals obtain rfl := hw.symm
        all_goals go_wp2_with fail
        · with_reducible refine (unhide kS2 (by assumption) _).mono ?_
          rintro e w' ⟨rfl, hw⟩
          obtain rfl := hw.symm
          go_wp2_with fail
          refine (unhide kY _).mono ?_
          rintro e w' ⟨rfl, hw⟩
          obtain rfl := hw.symm
          go_wp2_with fail
          go_ret
          exact ⟨.inl ⟨unhide YES, _, c8, x, rfl, unhide eX, by omega, fun W h => bat_nil (by rw [← unhide eX]; omega)⟩, below_drewN (Below.refl _ _) _⟩
        · with_reducible refine (unhide kS1 _).mono ?_
          rintro e w' ⟨rfl, hw⟩
          obtain rfl := hw.symm
          go_wp2_with fail
          refine (unhide kY _).mono ?_
          rintro e w' ⟨rfl, hw⟩
          obtain rfl := hw.symm
          go_wp2_with fail
          go_ret
          exact ⟨.inl ⟨unhide YES, _, c8, x, rfl, unhide eX, by omega, fun W h => bat_body h⟩, below_drewN (Below.refl _ _) _⟩
      · have NO : Hid (¬ HeadOk B) := fun h => hy (by rw [unhide HS]; exact h.2.2)
        generalize sumB (bodyB B) (bodyB B).length = y at *
        have y1 : ((y : Int) = (s : Int)) = False := by simp; omega
        have y2 : (y = s) = False := by simp; omega
        have y3 : ((y : Int) == (s : Int)) = false := by rw [beq_eq_false_iff_ne]; omega
        go_enter Try.func23, Try.ntmps23
        go_wp2_with fail
        refine (unhide kY _).mono ?_
        rintro e w' ⟨rfl, hw⟩
        obtain rfl := hw.symm
        go_wp2_with fail
        go_quiet (first | (go_at_call 31; with_reducible refine Calls.quiet_of_same (unhide k1 _)) | (go_at_call 31; with_reducible refine Calls.quiet_of_same (unhide k2 _)))
        go_wp2_with fail
        all_goals refine (unhide kY _).mono ?_
        all_goals rintro e w' ⟨rfl, hw⟩
        all_goals obtain rfl := hw.symm
        all_goals go_wp2_with fail
        · with_reducible refine (unhide kS2 (by assumption) _).mono ?_
          rintro e w' ⟨rfl, hw⟩
          obtain rfl := hw.symm
          go_wp2_with fail
          refine (unhide kN _).mono ?_
          rintro e w' ⟨rfl, hw⟩
          obtain rfl := hw.symm
          go_wp2_with fail
          exact ⟨rfl, .inr ⟨unhide NO, rfl⟩, below_drewN (Below.refl _ _) _⟩
        · with_reducible refine (unhide kS1 _).mono ?_
          rintro e w' ⟨rfl, hw⟩
          obtain rfl := hw.symm
          go_wp2_with fail
          refine (unhide kN _).mono ?_
          rintro e w' ⟨rfl, hw⟩
          obtain rfl := hw.symm
          go_wp2_with fail
          exact ⟨rfl, .inr ⟨unhide NO, rfl⟩, below_drewN (Below.refl _ _) _⟩
    · have NO : Hid (¬ HeadOk B) := fun h => by have := h.2.1; have := unhide HX; have := unhide HM; omega
      have q3 : ((x : Int) ≤ (e8 : Int)) = False := by simp; omega
      have q4 : (x ≤ e8) = False := by simp; omega
      go_enter Try.func23, Try.ntmps23
      go_wp2_with fail
      refine (unhide kY _).mono ?_
      rintro e w' ⟨rfl, hw⟩
      obtain rfl := hw.symm
      go_wp2_with fail
      go_quiet (first | (go_at_call 31; with_reducible refine Calls.quiet_of_same (unhide k1 _)) | (go_at_call 31; with_reducible refine Calls.quiet_of_same (unhide k2 _)))
      go_wp2_with fail
      all_goals refine (unhide kN _).mono ?_
      all_goals rintro e w' ⟨rfl, hw⟩
      all_goals obtain rfl := hw.symm
      all_goals go_wp2_with fail
      all_goals exact ⟨rfl, .inr ⟨unhide NO, rfl⟩, below_drewN (Below.refl _ _) _⟩
end Go.Proofs.Ytpmbgjoilfdkaaa
