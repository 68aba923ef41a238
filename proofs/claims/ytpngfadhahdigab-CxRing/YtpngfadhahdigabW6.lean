/- Of whole numbers with parts of at most 2 to the 24 every comparison of the statement says yes. -/
import Derived.Test.YtpngfadhahdigabW5
namespace Go.Proofs.Ytpngfadhahdigab
open Go.RowKit Fl

theorem mul_le {x u : Int} {A B : Nat} (hx : x.natAbs ≤ A) (hu : u.natAbs ≤ B) : (x * u).natAbs ≤ A * B := by
  rw [Int.natAbs_mul]; exact Nat.mul_le_mul hx hu

theorem addTo_of {a b c d : Nat} {x y u v : Int} (ha : IV a x) (hb : IV b y) (hc : IV c u) (hd : IV d v) (h1 : (x + u).natAbs < 2 ^ 53) (h2 : (y + v).natAbs < 2 ^ 53) :
    ∃ r s, AddTo a b c d r s ∧ IV r (x + u) ∧ IV s (y + v) ∧ r < 18446744073709551616 ∧ s < 18446744073709551616 := by
  obtain ⟨r, e1, i1⟩ := iv_add ha hc h1
  obtain ⟨s, e2, i2⟩ := iv_add hb hd h2
  exact ⟨r, s, ⟨e1, e2⟩, i1, i2, Ieee.Format.add_lt _ e1, Ieee.Format.add_lt _ e2⟩

theorem subTo_of {a b c d : Nat} {x y u v : Int} (ha : IV a x) (hb : IV b y) (hc : IV c u) (hd : IV d v) (h1 : (x - u).natAbs < 2 ^ 53) (h2 : (y - v).natAbs < 2 ^ 53) :
    ∃ r s, SubTo a b c d r s ∧ IV r (x - u) ∧ IV s (y - v) ∧ r < 18446744073709551616 ∧ s < 18446744073709551616 := by
  obtain ⟨r, e1, i1⟩ := iv_sub ha hc h1
  obtain ⟨s, e2, i2⟩ := iv_sub hb hd h2
  exact ⟨r, s, ⟨e1, e2⟩, i1, i2, Ieee.Format.sub_lt _ e1, Ieee.Format.sub_lt _ e2⟩

theorem mulTo_of {a b c d : Nat} {x y u v : Int} (ha : IV a x) (hb : IV b y) (hc : IV c u) (hd : IV d v)
    (hx : x.natAbs ≤ 33554432) (hy : y.natAbs ≤ 33554432) (hu : u.natAbs ≤ 33554432) (hv : v.natAbs ≤ 33554432) :
    ∃ r s, MulTo a b c d r s ∧ IV r (x * u - y * v) ∧ IV s (x * v + y * u) ∧ r < 18446744073709551616 ∧ s < 18446744073709551616 := by
  have k1 := mul_le hx hu
  have k2 := mul_le hy hv
  have k3 := mul_le hx hv
  have k4 := mul_le hy hu
  rw [show (33554432 * 33554432 : Nat) = 1125899906842624 from rfl] at k1 k2 k3 k4
  obtain ⟨ac, e1, i1⟩ := iv_mul ha hc (by omega)
  obtain ⟨bd, e2, i2⟩ := iv_mul hb hd (by omega)
  obtain ⟨ad, e3, i3⟩ := iv_mul ha hd (by omega)
  obtain ⟨bc, e4, i4⟩ := iv_mul hb hc (by omega)
  obtain ⟨r, e5, i5⟩ := iv_sub i1 i2 (by omega)
  obtain ⟨s, e6, i6⟩ := iv_add i3 i4 (by omega)
  exact ⟨r, s, ⟨ac, bd, ad, bc, e1, e2, e3, e4, e5, e6⟩, i5, i6, Ieee.Format.sub_lt _ e5, Ieee.Format.add_lt _ e6⟩

theorem eqB_of {a b : Nat} {x : Int} (ha : IV a x) (hb : IV b x) : EqB a b := by
  show Ieee.double.order a b = _
  rw [iv_order ha hb, show compare x x = .eq from Int.compare_eq_eq.2 rfl]

theorem plain_of {a : Nat} {n : Int} (h : IV a n) (ha : a < 18446744073709551616) : IV (plainB a) n ∧ (n = 0 → plainB a = 0) ∧ plainB a < 18446744073709551616 := by
  unfold plainB
  by_cases hn : n = 0
  · subst hn
    rw [if_pos (eq0 h)]
    exact ⟨iv_zero, fun _ => rfl, by decide⟩
  · rw [if_neg (by rw [gt0 h hn]; decide)]
    exact ⟨h, fun c => absurd c hn, ha⟩

theorem wholeTo_of {a b : Nat} {n k most : Int} (ha : IV a n) (la : a < 18446744073709551616) (hb : IV b k) (lb : b < 18446744073709551616) (hn : n.natAbs ≤ most) (hk : k.natAbs ≤ most) (hm : most ≤ 9007199254740991) : WholeTo a b most := by
  obtain ⟨p1, p2, p3⟩ := plain_of ha la
  obtain ⟨q1, q2, q3⟩ := plain_of hb lb
  exact ⟨fun w => whole_any _ _ n k most w p3 p1 p2 hn q3 q1 q2 hk hm⟩

theorem dist_sub (x y u v p q : Int) : x * u - y * v + (x * p - y * q) = x * (u + p) - y * (v + q) := by
  rw [Int.mul_add, Int.mul_add]; omega
theorem dist_add (x y u v p q : Int) : x * v + y * u + (x * q + y * p) = x * (v + q) + y * (u + p) := by
  rw [Int.mul_add, Int.mul_add]; omega

theorem prod_lt {x y u v : Int} (hx : x.natAbs ≤ 16777216) (hy : y.natAbs ≤ 16777216) (hu : u.natAbs ≤ 16777216) (hv : v.natAbs ≤ 16777216) :
    (x * u - y * v).natAbs ≤ 562949953421312 ∧ (x * v + y * u).natAbs ≤ 562949953421312 := by
  have k1 := mul_le hx hu
  have k2 := mul_le hy hv
  have k3 := mul_le hx hv
  have k4 := mul_le hy hu
  rw [show (16777216 * 16777216 : Nat) = 281474976710656 from rfl] at k1 k2 k3 k4
  omega

theorem dist_lt {x y u v p q : Int} (hx : x.natAbs ≤ 16777216) (hy : y.natAbs ≤ 16777216) (hu : u.natAbs ≤ 16777216) (hv : v.natAbs ≤ 16777216) (hp : p.natAbs ≤ 16777216) (hq : q.natAbs ≤ 16777216) :
    (x * u - y * v + (x * p - y * q)).natAbs < 2 ^ 53 ∧ (x * v + y * u + (x * q + y * p)).natAbs < 2 ^ 53 := by
  have a := prod_lt hx hy hu hv
  have b := prod_lt hx hy hp hq
  omega

theorem sum_le {x y : Int} (hx : x.natAbs ≤ 16777216) (hy : y.natAbs ≤ 16777216) : ((x + y).natAbs : Int) ≤ 67108864 ∧ ((x - y).natAbs : Int) ≤ 67108864 := by omega

theorem nat_le {n : Nat} (h : n ≤ 562949953421312) : (n : Int) ≤ 4503599627370496 := by omega

theorem ring_any (a0 a1 b0 b1 c0 c1 : Int) (w : World) (wa0 : (Lit.int .i32 a0).wf = true) (wa1 : (Lit.int .i32 a1).wf = true) (wb0 : (Lit.int .i32 b0).wf = true) (wb1 : (Lit.int .i32 b1).wf = true) (wc0 : (Lit.int .i32 c0).wf = true) (wc1 : (Lit.int .i32 c1).wf = true) :
    Calls Try.prog 3 #[.agg #[.int .i32 a0, .int .i32 a1], .agg #[.int .i32 b0, .int .i32 b1], .agg #[.int .i32 c0, .int .i32 c1]] w
      fun e w' => e = .returned (.bool true) ∧ Below w.heap.size w w' := by
  have ba : ∀ n : Int, (Lit.int .i32 n).wf = true → (n / 128).natAbs ≤ 16777216 := by
    intro n h
    simp [Lit.wf, IntKind.min, IntKind.max, IntKind.signed, IntKind.bits] at h
    omega
  have x0 := ba a0 wa0
  have x1 := ba a1 wa1
  have y0 := ba b0 wb0
  have y1 := ba b1 wb1
  have z0 := ba c0 wc0
  have z1 := ba c1 wc1
  have iX0 := iv_ofInt (a0 / 128) (by omega)
  have iX1 := iv_ofInt (a1 / 128) (by omega)
  have iY0 := iv_ofInt (b0 / 128) (by omega)
  have iY1 := iv_ofInt (b1 / 128) (by omega)
  have iZ0 := iv_ofInt (c0 / 128) (by omega)
  have iZ1 := iv_ofInt (c1 / 128) (by omega)
  obtain ⟨s0, s1, hs, is0, is1, ls0, ls1⟩ := addTo_of iX0 iX1 iY0 iY1 (by omega) (by omega)
  obtain ⟨d0, d1, hd, id0, id1, ld0, ld1⟩ := subTo_of iX0 iX1 iY0 iY1 (by omega) (by omega)
  obtain ⟨p0, p1, hp, ip0, ip1, lp0, lp1⟩ := mulTo_of iX0 iX1 iY0 iY1 (by omega) (by omega) (by omega) (by omega)
  obtain ⟨t0, t1, ht, it0, it1, _, _⟩ := addTo_of is0 is1 iZ0 iZ1 (by omega) (by omega)
  obtain ⟨u0, u1, hu, iu0, iu1, _, _⟩ := addTo_of iY0 iY1 iZ0 iZ1 (by omega) (by omega)
  obtain ⟨v0, v1, hv, iv0, iv1, _, _⟩ := addTo_of iX0 iX1 iu0 iu1 (by omega) (by omega)
  obtain ⟨q0, q1, hq, iq0, iq1, _, _⟩ := mulTo_of iX0 iX1 iu0 iu1 (by omega) (by omega) (by omega) (by omega)
  obtain ⟨g0, g1, hg, ig0, ig1, _, _⟩ := mulTo_of iX0 iX1 iZ0 iZ1 (by omega) (by omega) (by omega) (by omega)
  obtain ⟨h0, h1, hh, ih0, ih1, _, _⟩ := addTo_of ip0 ip1 ig0 ig1 (dist_lt x0 x1 y0 y1 z0 z1).1 (dist_lt x0 x1 y0 y1 z0 z1).2
  rw [dist_sub] at ih0
  rw [dist_add] at ih1
  rw [Int.add_assoc] at it0 it1
  have bp := prod_lt x0 x1 y0 y1
  have W1 : WholeTo p0 p1 4503599627370496 := wholeTo_of ip0 lp0 ip1 lp1 (nat_le bp.1) (nat_le bp.2) (by decide)
  have W2 : WholeTo s0 s1 67108864 := wholeTo_of is0 ls0 is1 ls1 (sum_le x0 y0).1 (sum_le x1 y1).1 (by decide)
  have W3 : WholeTo d0 d1 67108864 := wholeTo_of id0 ld0 id1 ld1 (sum_le x0 y0).2 (sum_le x1 y1).2 (by decide)
  have O1 := eqB_of is0 is0
  have O2 := eqB_of is1 is1
  have O3 := eqB_of id0 id0
  have O4 := eqB_of id1 id1
  have O5 := eqB_of ip0 ip0
  have O6 := eqB_of ip1 ip1
  have O7 := eqB_of it0 iv0
  have O8 := eqB_of it1 iv1
  have O9 := eqB_of iq0 ih0
  have O10 := eqB_of iq1 ih1
  exact ring_walk a0 a1 b0 b1 c0 c1 (floatOfInt .f64 (a0 / 128)) (floatOfInt .f64 (a1 / 128)) (floatOfInt .f64 (b0 / 128)) (floatOfInt .f64 (b1 / 128)) (floatOfInt .f64 (c0 / 128)) (floatOfInt .f64 (c1 / 128))
    s0 s1 d0 d1 p0 p1 t0 t1 u0 u1 v0 v1 q0 q1 g0 g1 h0 h1 w rfl rfl rfl rfl rfl rfl hs hd hp ht hu hv hq hg hh O1 O2 O3 O4 O5 O6 O7 O8 O9 O10 W1 W2 W3
end Go.Proofs.Ytpngfadhahdigab
