/- The document's Whole and Narrow, of any number. -/
import Derived.Test.YtfklhipjccempaaKN
namespace Go.Proofs.Ytfklhipjccempaa
open Go.RowKit Fl Ieee

theorem wh_inf {M b : Nat} (h : ∃ s, double.read b = .infinity s) : ¬ Wh M b := by
  obtain ⟨s, h⟩ := h
  exact wh_not h (by intro _ _ _ h; cases h)

set_option maxHeartbeats 1600000 in
theorem refWhole (x y M : Nat) (hx : x < 18446744073709551616) (hy : y < 18446744073709551616) (hM : M < 2 ^ 53) (w : World) :
    Calls Try.prog 33 #[.complex .f64 x y, .int .i64 M] w fun r w' => ∃ (t : Bool) (d : Nat), r = .returned (.bool t) ∧ (t = true ↔ Wh M x ∧ Wh M y) ∧ w' = w.drewN d := by
  have i1 := hide (isInf_any x hx)
  have i2 := hide (isInf_any y hy)
  have k1 := hide (refWholePart x M hx hM)
  have k2 := hide (refWholePart y M hy hM)
  have z1 := hide (wh_inf (M := M) (b := x))
  have z2 := hide (wh_inf (M := M) (b := y))
  clear hM
  go_enter Try.func33, Try.ntmps33
  go_wp2_with fail
  refine (unhide i1 _).mono ?_
  rintro e w1 ⟨t1, rfl, h1, hw⟩
  obtain rfl := hw.symm
  have H1 := hide h1
  clear h1 i1
  cases t1
  · go_wp2_with fail
    refine (unhide i2 _).mono ?_
    rintro e w2 ⟨t2, rfl, h2, hw⟩
    obtain rfl := hw.symm
    have H2 := hide h2
    clear h2 i2
    cases t2
    · go_wp2_with fail
      refine (unhide k1 _).mono ?_
      rintro e w3 ⟨t3, d3, rfl, h3, rfl⟩
      have H3 := hide h3
      clear h3 k1
      cases t3
      · go_wp2_with fail
        go_ret
        exact ⟨false, d3, rfl, ⟨fun h => absurd h (by decide), fun h => (unhide H3).2 h.1⟩, rfl⟩
      · go_wp2_with fail
        refine (unhide k2 _).mono ?_
        rintro e w4 ⟨t4, d4, rfl, h4, rfl⟩
        have H4 := hide h4
        clear h4 k2
        go_wp2_with fail
        go_ret
        exact ⟨t4, d3 + d4, rfl, ⟨fun h => ⟨(unhide H3).1 (by trivial), (unhide H4).1 h⟩, fun h => (unhide H4).2 h.2⟩, rfl⟩
    · go_wp2_with fail
      go_ret
      exact ⟨false, 0, rfl, ⟨fun h => absurd h (by decide), fun h => absurd h.2 (unhide z2 ((unhide H2).1 (by trivial)))⟩, rfl⟩
  · go_wp2_with fail
    go_ret
    exact ⟨false, 0, rfl, ⟨fun h => absurd h (by decide), fun h => absurd h.1 (unhide z1 ((unhide H1).1 (by trivial)))⟩, rfl⟩

theorem order_self {x : Nat} (h : ∀ s f, double.read x ≠ .nan s f) : double.order x x = some .eq := by
  rcases read_any (b := x) with ⟨s, m, k, e, hm, hk⟩ | ⟨s, e⟩ | ⟨s, f, e⟩
  · rw [fv_order (fv_of e) (fv_of e)]
    congr 1
    exact Int.compare_eq_eq.2 rfl
  · show (double.read x).order (double.read x) = _
    rw [e]
    cases s <;> rfl
  · exact absurd e (h s f)
theorem order_nan {x : Nat} {s : Bool} {f : Nat} (h : double.read x = .nan s f) : double.order x x = none := by
  show (double.read x).order (double.read x) = _
  rw [h]
  rfl

set_option maxHeartbeats 1600000 in
theorem refNarrow (x y : Nat) (w : World) :
    Calls Try.prog 31 #[.complex .f64 x y] w fun r w' => ∃ (t : Bool) (n1 n2 d : Nat), r = .returned (.tuple #[.complex .f32 n1 n2, .bool t]) ∧ (t = true ↔ (∃ r, Nar x r) ∧ ∃ r, Nar y r) ∧ (t = true → Nar x n1 ∧ Nar y n2) ∧ w' = w.drewN d := by
  have k0 := bits32
  obtain ⟨r1, r2, d1, c1, h1, h2⟩ := run_narrow x y w
  obtain ⟨u1, u2, d2, c2, g1, g2⟩ := run_wide r1 r2 (w.drewN d1)
  have G1 := hide g1
  have G2 := hide g2
  have H1 := hide h1
  have H2 := hide h2
  clear g1 g2 h1 h2
  by_cases nx : ∃ s f, double.read x = .nan s f
  · obtain ⟨s, f, hn⟩ := nx
    have ho : FloatKind.f64.format.order x x = none := order_nan hn
    have hN : Hid (∀ r, ¬ Nar x r) := fun r => nar_no hn r
    clear hn
    go_enter Try.func31, Try.ntmps31
    go_wp2
    go_ret2
    exact ⟨false, _, _, _, rfl, ⟨fun h => absurd h (by decide), fun ⟨⟨r, h⟩, _⟩ => absurd h (unhide hN r)⟩, fun h => absurd h (by decide), rfl⟩
  · have hxn : Hid (∀ s f, double.read x ≠ .nan s f) := fun s f h => nx ⟨s, f, h⟩
    have ho : FloatKind.f64.format.order x x = some .eq := order_self (unhide hxn)
    clear nx
    by_cases ny : ∃ s f, double.read y = .nan s f
    · obtain ⟨s, f, hn⟩ := ny
      have ho2 : FloatKind.f64.format.order y y = none := order_nan hn
      have hN : Hid (∀ r, ¬ Nar y r) := fun r => nar_no hn r
      clear hn
      go_enter Try.func31, Try.ntmps31
      go_wp2
      go_ret2
      exact ⟨false, _, _, _, rfl, ⟨fun h => absurd h (by decide), fun ⟨_, ⟨r, h⟩⟩ => absurd h (unhide hN r)⟩, fun h => absurd h (by decide), rfl⟩
    · have hyn : Hid (∀ s f, double.read y ≠ .nan s f) := fun s f h => ny ⟨s, f, h⟩
      have ho2 : FloatKind.f64.format.order y y = some .eq := order_self (unhide hyn)
      have e1 := hide (nar_part (unhide hxn) (unhide H1) (unhide G1))
      have e2 := hide (nar_part (unhide hyn) (unhide H2) (unhide G2))
      have n1 : Hid (∀ r, Nar x r → Nar x r1) := fun r h => (unhide H1 r h.1) ▸ h
      have n2 : Hid (∀ r, Nar y r → Nar y r2) := fun r h => (unhide H2 r h.1) ▸ h
      clear ny
      by_cases q1 : u1 = x
      · by_cases q2 : u2 = y
        · have b1 : ((u1 : Int) == (x : Int)) = true := by rw [q1]; simp
          have b2 : ((u2 : Int) == (y : Int)) = true := by rw [q2]; simp
          have f1 := hide ((unhide e1).1 q1)
          have f2 := hide ((unhide e2).1 q2)
          clear q1 q2
          go_enter Try.func31, Try.ntmps31
          go_wp2
          go_ret2
          exact ⟨true, _, _, _, rfl, ⟨fun _ => ⟨⟨_, unhide f1⟩, ⟨_, unhide f2⟩⟩, fun _ => rfl⟩, fun _ => ⟨unhide f1, unhide f2⟩, rfl⟩
        · have b1 : ((u1 : Int) == (x : Int)) = true := by rw [q1]; simp
          have b2 : ((u2 : Int) == (y : Int)) = false := by rw [beq_eq_false_iff_ne]; omega
          have f2 : Hid (¬ Nar y r2) := fun h => q2 ((unhide e2).2 h)
          clear q1 q2
          go_enter Try.func31, Try.ntmps31
          go_wp2
          go_ret2
          exact ⟨false, _, _, _, rfl, ⟨fun h => absurd h (by decide), fun ⟨_, ⟨r, h⟩⟩ => absurd (unhide n2 r h) (unhide f2)⟩, fun h => absurd h (by decide), rfl⟩
      · have b1 : ((u1 : Int) == (x : Int)) = false := by rw [beq_eq_false_iff_ne]; omega
        have f1 : Hid (¬ Nar x r1) := fun h => q1 ((unhide e1).2 h)
        clear q1
        go_enter Try.func31, Try.ntmps31
        go_wp2
        go_ret2
        exact ⟨false, _, _, _, rfl, ⟨fun h => absurd h (by decide), fun ⟨⟨r, h⟩, _⟩ => absurd (unhide n1 r h) (unhide f1)⟩, fun h => absurd h (by decide), rfl⟩
end Go.Proofs.Ytfklhipjccempaa
