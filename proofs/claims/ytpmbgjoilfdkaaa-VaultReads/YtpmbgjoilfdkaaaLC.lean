/- Numbers made narrow: what the program's Narrow tells of any number. -/
import Derived.Test.YtpmbgjoilfdkaaaM3
import Derived.ChangeKeysEq
namespace Go.Proofs.Ytpmbgjoilfdkaaa
open Go.RowKit Fl Ieee

theorem nar_all {x r w : Nat} (h1 : ∀ r', floatToFloatBits .f64 x .f32 = some r' → r = r') (h2 : floatToFloatBits .f32 r .f64 = some w ∨ (floatToFloatBits .f32 r .f64 = none ∧ w < 18446744073709551616 ∧ ∃ s f, double.read w = .nan s f)) :
    ((∃ r', Nar x r') ↔ (w = x ∧ ∀ s f, double.read x ≠ .nan s f)) ∧ ((∃ r', Nar x r') → Nar x r) := by
  by_cases c : ∃ s f, double.read x = .nan s f
  · obtain ⟨s, f, hn⟩ := c
    exact ⟨⟨fun ⟨r', h⟩ => absurd h (nar_no hn r'), fun ⟨_, h⟩ => absurd hn (h s f)⟩, fun ⟨r', h⟩ => absurd h (nar_no hn r')⟩
  · have hx : ∀ s f, double.read x ≠ .nan s f := fun s f h => c ⟨s, f, h⟩
    have e := nar_part hx h1 h2
    have n1 : (∃ r', Nar x r') → Nar x r := fun ⟨r', h⟩ => by rw [h1 r' h.1]; exact h
    exact ⟨⟨fun h => ⟨e.2 (n1 h), hx⟩, fun h => ⟨r, e.1 h.1⟩⟩, n1⟩

theorem cells64 : Try.prog.cellsOf 45 = 1 := by kernel_rfl
theorem info64 : ∃ i, Try.prog.info? 45 = some i := by
  cases h : Try.prog.info? 45 with
  | some i => exact ⟨i, rfl⟩
  | none =>
    have : (Try.prog.info? 45).isSome = true := by kernel_rfl
    rw [h] at this
    cases this
theorem part64 (xs : Array Value) (j : Nat) (k : Int) (h : xs[j]? = some (.int .u64 k)) (w : World) : (part 45 xs j).run Try.prog w = .ok (.int .u64 k) w := by
  unfold part
  simp [go_sem, h]
theorem eq_two (x y u v : Nat) (w : World) : (Op.equalIn 10000 112 (.agg #[.int .u64 x, .int .u64 y]) (.agg #[.int .u64 u, .int .u64 v])).run Try.prog w = .ok (((x : Int) == (u : Int)) && ((y : Int) == (v : Int))) w := by
  obtain ⟨i, hi⟩ := info64
  have r2 : List.range 2 = [0, 1] := rfl
  rw [show (10000 : Nat) = 9999 + 1 from rfl, run_equalIn_array (w := w) 9999 _ _ Try.underlying112 hi, cells64, r2]
  have p1 := fun w => part64 #[.int .u64 x, .int .u64 y] 0 x rfl w
  have p2 := fun w => part64 #[.int .u64 x, .int .u64 y] 1 y rfl w
  have p3 := fun w => part64 #[.int .u64 u, .int .u64 v] 0 u rfl w
  have p4 := fun w => part64 #[.int .u64 u, .int .u64 v] 1 v rfl w
  have e1 : (Op.equalIn 9999 45 (.int .u64 (x : Int)) (.int .u64 (u : Int))).run Try.prog w = .ok ((x : Int) == (u : Int)) w := run_equalIn_int (P := Try.prog) w 9998 45 .u64 .u64 x u Try.underlying45
  have e2 : (Op.equalIn 9999 45 (.int .u64 (y : Int)) (.int .u64 (v : Int))).run Try.prog w = .ok ((y : Int) == (v : Int)) w := run_equalIn_int (P := Try.prog) w 9998 45 .u64 .u64 y v Try.underlying45
  simp only [Op.eqItems, Nat.zero_mul, Nat.one_mul, Sem.run_bind, p1, p3, Result.andThen_ok, e1]
  cases h1 : ((x : Int) == (u : Int)) <;> cases h2 : ((y : Int) == (v : Int)) <;> simp [p2, p4, e2, h2]

set_option maxRecDepth 100000 in
set_option maxHeartbeats 800000 in
theorem bitsOfAny (x y : Nat) (w : World) : Calls Try.prog 83 #[.complex .f64 x y] w fun r w' => r = .returned (.agg #[.int .u64 x, .int .u64 y]) ∧ Below w.heap.size w w' := by
  have k0 := bits32
  go_enter Try.func83, Try.ntmps83
  go_wp2
  refine bodyPost_ret (results_two (P := Try.prog) rfl _ _ w.heap.size (.int .u64 x) (.int .u64 y) _ rfl (by simp [go_sem]) (by simp [go_sem]) Try.underlying112 rfl (by kernel_rfl)) rfl ?_
  exact ⟨rfl, (Below.refl _ _).alloc (Nat.le_refl _) _⟩

theorem below_drew0 {w w' : World} {d : Nat} (h : Below (w.drewN d).heap.size (w.drewN d) w') : Below w.heap.size w w' := ⟨h.os, h.tape, h.output, h.size, h.block⟩

set_option maxRecDepth 100000 in
set_option maxHeartbeats 3200000 in
theorem cxNarrowAll (x y : Nat) (w : World) :
    Calls Try.prog 69 #[.complex .f64 x y] w fun r w' => ∃ (t : Bool) (n1 n2 : Nat), r = .returned (.tuple #[.complex .f32 n1 n2, .bool t]) ∧ (t = true ↔ (∃ r, Nar x r) ∧ ∃ r, Nar y r) ∧ (t = true → Nar x n1 ∧ Nar y n2) ∧ Below w.heap.size w w' := by
  obtain ⟨r1, r2, d1, c1, h1, h2⟩ := run_narrow x y w
  obtain ⟨u1, u2, d2, c2, g1, g2⟩ := run_wide r1 r2 (w.drewN d1)
  obtain ⟨i1, j1⟩ := nar_all h1 g1
  obtain ⟨i2, j2⟩ := nar_all h2 g2
  have I1 := hide i1
  have J1 := hide j1
  have I2 := hide i2
  have J2 := hide j2
  clear g1 g2 h1 h2 i1 i2 j1 j2
  have kb := hide bitsOfAny
  have ke := eq_two
  by_cases q : u1 = x ∧ u2 = y
  · obtain ⟨rfl, rfl⟩ := q
    by_cases nx : ∃ s f, double.read u1 = .nan s f
    · obtain ⟨s, f, hn⟩ := nx
      have ho : FloatKind.f64.format.order u1 u1 = none := order_nan hn
      have hN : Hid (¬ ∃ r, Nar u1 r) := fun h => ((unhide I1).1 h).2 s f hn
      clear hn
      go_enter Try.func69, Try.ntmps69
      go_wp2_with fail
      refine (unhide kb _ _ _).mono ?_
      rintro e w2 ⟨rfl, hb2⟩
      have B2 := hide (below_drew0 hb2)
      clear hb2
      go_wp2_with fail
      refine (unhide kb _ _ _).mono ?_
      rintro e w3 ⟨rfl, hb3⟩
      have B3 := hide ((unhide B2).trans (hb3.mono (unhide B2).size))
      clear hb3 B2 kb
      go_wp2
      go_ret2
      exact ⟨false, _, _, rfl, ⟨fun h => absurd h (by decide), fun h => absurd h.1 (unhide hN)⟩, fun h => absurd h (by decide), unhide B3⟩
    · have hxn : Hid (∀ s f, double.read u1 ≠ .nan s f) := fun s f h => nx ⟨s, f, h⟩
      have ho : FloatKind.f64.format.order u1 u1 = some .eq := order_self (unhide hxn)
      clear nx
      by_cases ny : ∃ s f, double.read u2 = .nan s f
      · obtain ⟨s, f, hn⟩ := ny
        have ho2 : FloatKind.f64.format.order u2 u2 = none := order_nan hn
        have hN : Hid (¬ ∃ r, Nar u2 r) := fun h => ((unhide I2).1 h).2 s f hn
        clear hn
        go_enter Try.func69, Try.ntmps69
        go_wp2_with fail
        refine (unhide kb _ _ _).mono ?_
        rintro e w2 ⟨rfl, hb2⟩
        have B2 := hide (below_drew0 hb2)
        clear hb2
        go_wp2_with fail
        refine (unhide kb _ _ _).mono ?_
        rintro e w3 ⟨rfl, hb3⟩
        have B3 := hide ((unhide B2).trans (hb3.mono (unhide B2).size))
        clear hb3 B2 kb
        go_wp2
        go_ret2
        exact ⟨false, _, _, rfl, ⟨fun h => absurd h (by decide), fun h => absurd h.2 (unhide hN)⟩, fun h => absurd h (by decide), unhide B3⟩
      · have hyn : Hid (∀ s f, double.read u2 ≠ .nan s f) := fun s f h => ny ⟨s, f, h⟩
        have ho2 : FloatKind.f64.format.order u2 u2 = some .eq := order_self (unhide hyn)
        have F1 := hide ((unhide I1).2 ⟨rfl, unhide hxn⟩)
        have F2 := hide ((unhide I2).2 ⟨rfl, unhide hyn⟩)
        clear ny
        go_enter Try.func69, Try.ntmps69
        go_wp2_with fail
        refine (unhide kb _ _ _).mono ?_
        rintro e w2 ⟨rfl, hb2⟩
        have B2 := hide (below_drew0 hb2)
        clear hb2
        go_wp2_with fail
        refine (unhide kb _ _ _).mono ?_
        rintro e w3 ⟨rfl, hb3⟩
        have B3 := hide ((unhide B2).trans (hb3.mono (unhide B2).size))
        clear hb3 B2 kb
        go_wp2
        go_ret2
        exact ⟨true, _, _, rfl, ⟨fun _ => ⟨unhide F1, unhide F2⟩, fun _ => rfl⟩, fun _ => ⟨unhide J1 (unhide F1), unhide J2 (unhide F2)⟩, unhide B3⟩
  · have hN : Hid (¬ ((∃ r, Nar x r) ∧ ∃ r, Nar y r)) := fun h => q ⟨((unhide I1).1 h.1).1, ((unhide I2).1 h.2).1⟩
    have Q : Hid (¬ (u1 = x ∧ u2 = y)) := q
    by_cases q1 : u1 = x
    · subst q1
      have q2 : ¬ (u2 : Int) = (y : Int) := fun h => q ⟨rfl, by omega⟩
      have q2' : ((u2 : Int) == (y : Int)) = false := by rw [beq_eq_false_iff_ne]; exact q2
      clear q
      go_enter Try.func69, Try.ntmps69
      go_wp2_with fail
      refine (unhide kb _ _ _).mono ?_
      rintro e w2 ⟨rfl, hb2⟩
      have B2 := hide (below_drew0 hb2)
      clear hb2
      go_wp2_with fail
      refine (unhide kb _ _ _).mono ?_
      rintro e w3 ⟨rfl, hb3⟩
      have B3 := hide ((unhide B2).trans (hb3.mono (unhide B2).size))
      clear hb3 B2 kb
      go_wp2
      go_ret2
      exact ⟨false, _, _, rfl, ⟨fun h => absurd h (by decide), fun h => absurd h (unhide hN)⟩, fun h => absurd h (by decide), unhide B3⟩
    · have q2 : ¬ (u1 : Int) = (x : Int) := fun h => q1 (by omega)
      have q2' : ((u1 : Int) == (x : Int)) = false := by rw [beq_eq_false_iff_ne]; exact q2
      clear q q1
      go_enter Try.func69, Try.ntmps69
      go_wp2_with fail
      refine (unhide kb _ _ _).mono ?_
      rintro e w2 ⟨rfl, hb2⟩
      have B2 := hide (below_drew0 hb2)
      clear hb2
      go_wp2_with fail
      refine (unhide kb _ _ _).mono ?_
      rintro e w3 ⟨rfl, hb3⟩
      have B3 := hide ((unhide B2).trans (hb3.mono (unhide B2).size))
      clear hb3 B2 kb
      go_wp2
      go_ret2
      exact ⟨false, _, _, rfl, ⟨fun h => absurd h (by decide), fun h => absurd h (unhide hN)⟩, fun h => absurd h (by decide), unhide B3⟩
end Go.Proofs.Ytpmbgjoilfdkaaa
