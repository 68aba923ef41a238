/- The last statement's walk. -/
import Derived.Test.YtedpnanjldifkaaWN
namespace Go.Proofs.Ytedpnanjldifkaa
open Go.RowKit

theorem place_sum {n s : Nat} (h : Ord n s) (j k : Nat) : (((j : Int) + (k : Int)) % (n : Int)).toNat * s = (j * s % 4096 + k * s % 4096) % 4096 := by
  have := place h (j + k)
  rw [show ((j + k : Nat) : Int) = (j : Int) + (k : Int) by omega] at this
  rw [this, Nat.add_mul, Nat.add_mod]

structure Small44 (A : Nat) : Prop where
  le : FloatKind.f64.format.order A 4409024035195715584 = some .lt ∨ FloatKind.f64.format.order A 4409024035195715584 = some .eq
structure Small46 (A : Nat) : Prop where
  le : FloatKind.f64.format.order A 4400016835940974592 = some .lt ∨ FloatKind.f64.format.order A 4400016835940974592 = some .eq

theorem cast_pow (q : Nat) : ((2 ^ q : Nat) : Int) = 2 ^ q := pow_cast q

theorem small44 {d : Nat} {u : Int} (h : Fl.FV d u) (q : Nat) (hq : q = 1030) (hu : u.natAbs ≤ 2 ^ q) : Small44 (d % 9223372036854775808) := by
  refine ⟨not_above (fv_abs h) (fv_44 q hq) ?_⟩
  rw [← cast_pow]
  exact Int.ofNat_le.2 hu
theorem small46 {d : Nat} {u : Int} (h : Fl.FV d u) (q : Nat) (hq : q = 1028) (hu : u.natAbs ≤ 2 ^ q) : Small46 (d % 9223372036854775808) := by
  refine ⟨not_above (fv_abs h) (fv_46 q hq) ?_⟩
  rw [← cast_pow]
  exact Int.ofNat_le.2 hu

/-- The end of the walk, with what each operation gives. -/
structure Ends (a b c d x y : Nat) : Prop where
  ex : ∃ r s F G aa bb sq df : Nat, MulTo a b c d r s ∧ (∀ w, Calls Try.prog 18 #[.complex .f64 r s, .complex .f64 x y] w fun e' w' => (e' = .returned (.float .f64 F) ∨ e' = .returned (.float .f64 G)) ∧ w' = w) ∧
    Small44 F ∧ Small44 G ∧ floatBits .mul .f64 a a = some aa ∧ floatBits .mul .f64 b b = some bb ∧ floatBits .add .f64 aa bb = some sq ∧ floatBits .sub .f64 sq 4607182418800017408 = some df ∧
    df < 18446744073709551616 ∧ Small46 (df % 9223372036854775808)

theorem ends_full {i j : Nat} (hi : i < 4096) (hj : j < 4096) : Ends (full i).1 (full i).2 (full j).1 (full j).2 (full ((i + j) % 4096)).1 (full ((i + j) % 4096)).2 := by
  obtain ⟨ac, bd, ad, bc, r, s, d1, d2, u1, u2, hm, e7, e8, f7, f8, g7, g8⟩ := (far_full hi hj).ex
  obtain ⟨aa, bb, sq, df, u, k1, k2, k3, k4, f9, g9⟩ := (sq_full hi).ex
  exact ⟨r, s, _, _, aa, bb, sq, df, ⟨ac, bd, ad, bc, hm⟩, fun w => far18 r s _ _ d1 d2 w e7 e8 (fv_self (fv_abs f7)) (fv_self (fv_abs f8)),
    small44 f7 1030 rfl g7, small44 f8 1030 rfl g8, k1, k2, k3, k4, Ieee.Format.sub_lt _ k4, small46 f9 1028 rfl g9⟩

set_option maxHeartbeats 4000000 in
theorem near_walk (n j k : Int) (w : World) :
    Calls Try.prog 6 #[.int .i64 n, .int .i64 j, .int .i64 k] w fun e w' => e = .returned (.bool true) ∧ Below w.heap.size w w' := by
  have h40 := and40 k
  have h41 := and40 j
  obtain ⟨K, hK⟩ : ∃ c : Nat, k % 1099511627776 = (c : Int) := ⟨(k % 1099511627776).toNat, by omega⟩
  obtain ⟨J, hJ⟩ : ∃ c : Nat, j % 1099511627776 = (c : Int) := ⟨(j % 1099511627776).toNat, by omega⟩
  have hKl : (K : Int) < 1099511627776 := by omega
  have hJl : (J : Int) < 1099511627776 := by omega
  rw [hK] at h40
  rw [hJ] at h41
  clear hK hJ
  have hl := hide (length14 n)
  go_enter Try.func6, Try.ntmps6
  go_wp2_with fail
  refine (alive_any _).mono ?_
  rintro e w1 ⟨rfl, hb1⟩
  go_wp2_with fail
  refine (unhide hl _).mono ?_
  rintro e w2 ⟨⟨m, s, rfl, ho⟩, rfl⟩
  have hle := ord_le ho
  obtain ⟨i1, hi1⟩ : ∃ i, i = J * s % 4096 := ⟨_, rfl⟩
  obtain ⟨i2, hi2⟩ : ∃ i, i = K * s % 4096 := ⟨_, rfl⟩
  have c1 := hide (root_at ho (J : Int) i1 (by rw [place ho, hi1]))
  have c2 := hide (root_at ho (K : Int) i2 (by rw [place ho, hi2]))
  have c3 := hide (root_at ho ((J : Int) + (K : Int)) ((i1 + i2) % 4096) (by rw [place_sum ho, hi1, hi2]))
  obtain ⟨r, q, F, G, aa, bb, sq, df, hM, hF, s1, s2, k1, k2, k3, k4, hdf, s3⟩ := (ends_full (i := i1) (j := i2) (by omega) (by omega)).ex
  clear ho hi1 hi2
  generalize (full i1).1 = a at *
  generalize (full i1).2 = b at *
  generalize (full i2).1 = c at *
  generalize (full i2).2 = d at *
  generalize (full ((i1 + i2) % 4096)).1 = x at *
  generalize (full ((i1 + i2) % 4096)).2 = y at *
  have hMul := hide (mul19 hM)
  have hFar := hide hF
  have hAbs := hide fun w => abs20 df w hdf
  generalize df % 9223372036854775808 = E at *
  have r1 := fun (w : World) t => run_float_arith (P := Try.prog) w .mul t .f64 a a aa k1
  have r2 := fun (w : World) t => run_float_arith (P := Try.prog) w .mul t .f64 b b bb k2
  have r3 := fun (w : World) t => run_float_arith (P := Try.prog) w .add t .f64 aa bb sq k3
  have r4 := fun (w : World) t => run_float_arith (P := Try.prog) w .sub t .f64 sq 4607182418800017408 df k4
  clear hM hF k1 k2 k3 k4 hdf
  go_wp2_with fail
  refine (unhide c1 _).mono ?_
  rintro e w3 ⟨rfl, hb3⟩
  go_wp2_with fail
  refine (unhide c2 _).mono ?_
  rintro e w4 ⟨rfl, hb4⟩
  go_wp2_with fail
  refine (unhide c3 _).mono ?_
  rintro e w5 ⟨rfl, hb5⟩
  have hb : Below w.heap.size w w5 := hb1.trans ((hb3.mono hb1.size).trans ((hb4.mono (Nat.le_trans hb1.size hb3.size)).trans (hb5.mono (Nat.le_trans hb1.size (Nat.le_trans hb3.size hb4.size)))))
  clear hb1 hb3 hb4 hb5 c1 c2 c3
  go_wp2_with fail
  refine (unhide hMul _).mono ?_
  rintro e w6 ⟨rfl, rfl⟩
  go_wp2_with fail
  refine (unhide hFar _).mono ?_
  rintro e w7 ⟨rfl | rfl, rfl⟩
  · rcases s1.le with o1 | o1 <;> rcases s3.le with o3 | o3
    all_goals
      go_wp2_with (first | (go_at_call 20; refine (unhide hAbs _).mono ?_; rintro e w8 ⟨rfl, rfl⟩))
      go_ret
      exact ⟨rfl, hb⟩
  · rcases s2.le with o1 | o1 <;> rcases s3.le with o3 | o3
    all_goals
      go_wp2_with (first | (go_at_call 20; refine (unhide hAbs _).mono ?_; rintro e w8 ⟨rfl, rfl⟩))
      go_ret
      exact ⟨rfl, hb⟩
end Go.Proofs.Ytedpnanjldifkaa
