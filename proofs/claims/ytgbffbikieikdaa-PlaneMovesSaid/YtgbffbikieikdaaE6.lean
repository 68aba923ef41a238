/- There and back, summed up; the number at place 0; a list that is nought but at place 0. -/
import Derived.Test.YtgbffbikieikdaaE5
namespace Go.Proofs.Ytgbffbikieikdaa
open Fl

theorem there_back {l : Nat} (hl : l ≤ 12) {b : Nat} (hb : 60 ≤ b) (hb2 : b ≤ 1800) (x : Nat → Nat × Nat) (X : Nat → Int × Int) (hx : ∀ j, j < 2 ^ l → CV (x j) (X j)) (hX : ∀ j, j < 2 ^ l → N2 (X j) (2 ^ b)) :
    ∃ Y : Nat → Int × Int, (∀ k, k < 2 ^ l → CV (fft l 4095 x k) (Y k)) ∧ (∀ k, k < 2 ^ l → N2 (Y k) (2 ^ (b + l + 1))) ∧
      ∀ m, m < 2 ^ l → ∃ Z, CV (fft l 1 (fun k => fft l 4095 x k) m) Z ∧ N2 (cs Z (sm ((2 ^ l : Nat) : Int) (X m))) (2 ^ l * (5 * 2 ^ (b - 32))) := by
  have h1 : ∀ k, ∃ Y : Int × Int, k < 2 ^ l → CV (fft l 4095 x k) Y ∧ N2 (cs (sm 18446744073709551616 Y) (dsum l 4095 X k)) (errOf l b) := by
    intro k
    by_cases hk : k < 2 ^ l
    · obtain ⟨Y, a, c⟩ := fft_near 4095 (by decide) b hb (by omega) l hl x X hx hX k hk
      exact ⟨Y, fun _ => ⟨a, c⟩⟩
    · exact ⟨(0, 0), fun c => absurd c hk⟩
  obtain ⟨Y, hY⟩ := Classical.axiomOfChoice h1
  have sY : ∀ k, k < 2 ^ l → N2 (Y k) (2 ^ (b + l + 1)) := fun k hk => y_small hl hX (hY k hk).2
  refine ⟨Y, fun k hk => (hY k hk).1, sY, fun m hm => ?_⟩
  obtain ⟨Z, cZ, nZ⟩ := fft_near 1 (by decide) (b + l + 1) (by omega) (by omega) l hl (fun k => fft l 4095 x k) Y (fun k hk => (hY k hk).1) sY m hm
  refine ⟨Z, cZ, ?_⟩
  have k2 := dsum_err (c := 1) (m := m) (fun k hk => (hY k hk).2)
  have k3 := dsum_back hl hm hX
  refine n2_div (18446744073709551616 * 18446744073709551616) (by decide) ?_
  show N2 (sm (18446744073709551616 * 18446744073709551616) _) _
  rw [identB Z (dsum l 1 Y m) (dsum l 1 (fun k => dsum l 4095 X k) m) (X m)]
  refine n2_mono (n2_add (n2_add (n2_sm 18446744073709551616 nZ) k2) k3) ?_
  have hP : 2 ^ l ≤ 4096 := Nat.pow_le_pow_right (n := 2) (by decide) hl
  have hbud := budget2 (R := 2 ^ b) hl hP
  have hR : 2 ^ b = 4294967296 * 2 ^ (b - 32) := by
    rw [show (4294967296 : Nat) = 2 ^ 32 from rfl, ← Nat.pow_add]; congr 1; omega
  have hQ : 2 ^ (b + l + 1) = 2 * (2 ^ l * 2 ^ b) := by rw [Nat.pow_succ, Nat.pow_add, Nat.mul_comm (2 ^ b)]; omega
  unfold errOf
  rw [hQ]
  refine Nat.le_trans hbud ?_
  have e : 18446744073709551616 * 18446744073709551616 * (2 ^ l * 2 ^ b * 5) = 4294967296 * (18446744073709551616 * 18446744073709551616 * (2 ^ l * (5 * 2 ^ (b - 32)))) := by
    rw [hR]
    generalize 2 ^ (b - 32) = G
    generalize 2 ^ l = P
    grind
  rw [e, Nat.mul_div_cancel_left _ (by decide)]
  exact Nat.le_refl _

/-- Both parts are whole numbers. -/
structure IC (b : Nat × Nat) (z : Int × Int) : Prop where
  one : IV b.1 z.1
  two : IV b.2 z.2

theorem addC_iv {a b : Nat × Nat} {x y : Int × Int} (ha : IC a x) (hb : IC b y) (h1 : (x.1 + y.1).natAbs < 2 ^ 53) (h2 : (x.2 + y.2).natAbs < 2 ^ 53) : AddTo a b (addC a b) ∧ IC (addC a b) (ca x y) := by
  obtain ⟨r, e1, i1⟩ := iv_add ha.one hb.one h1
  obtain ⟨s, e2, i2⟩ := iv_add ha.two hb.two h2
  have d1 : floatBits .add .f64 a.1 b.1 = some r := e1
  have d2 : floatBits .add .f64 a.2 b.2 = some s := e2
  have hm : addC a b = (r, s) := by unfold addC; rw [d1, d2]; rfl
  rw [hm]
  exact ⟨⟨d1, d2⟩, ⟨i1, i2⟩⟩

theorem subC_iv {a b : Nat × Nat} {x y : Int × Int} (ha : IC a x) (hb : IC b y) (h1 : (x.1 - y.1).natAbs < 2 ^ 53) (h2 : (x.2 - y.2).natAbs < 2 ^ 53) : SubTo a b (subC a b) ∧ IC (subC a b) (cs x y) := by
  obtain ⟨r, e1, i1⟩ := iv_sub ha.one hb.one h1
  obtain ⟨s, e2, i2⟩ := iv_sub ha.two hb.two h2
  have d1 : floatBits .sub .f64 a.1 b.1 = some r := e1
  have d2 : floatBits .sub .f64 a.2 b.2 = some s := e2
  have hm : subC a b = (r, s) := by unfold subC; rw [d1, d2]; rfl
  rw [hm]
  exact ⟨⟨d1, d2⟩, ⟨i1, i2⟩⟩

/-- A finite number times nought is nought. -/
theorem zero_mul {a b : Nat} {x : Int} (ha : FV a x) (hb : IV b 0) : ∃ r, floatBits .mul .f64 a b = some r ∧ IV r 0 := by
  obtain ⟨q, hq, fb⟩ := hb
  rw [Int.zero_mul] at fb
  obtain ⟨r, e, f⟩ := mul_fv (z := 0) q hq ha fb (by rw [Int.mul_zero, Int.zero_mul]) (M := 0) (k := 0) (by decide) (by decide) (by decide)
  exact ⟨r, e, q, hq, by rw [Int.zero_mul]; exact f⟩

theorem mulC_zero {w o : Nat × Nat} {W : Int × Int} (hw : CV w W) (ho : IC o (0, 0)) : MulTo w.1 w.2 o.1 o.2 (mulC w o).1 (mulC w o).2 ∧ IC (mulC w o) (0, 0) := by
  obtain ⟨ac, e1, i1⟩ := zero_mul hw.one ho.one
  obtain ⟨bd, e2, i2⟩ := zero_mul hw.two ho.two
  obtain ⟨ad, e3, i3⟩ := zero_mul hw.one ho.two
  obtain ⟨bc, e4, i4⟩ := zero_mul hw.two ho.one
  obtain ⟨r, e5, i5⟩ := iv_sub i1 i2 (by decide)
  obtain ⟨s, e6, i6⟩ := iv_add i3 i4 (by decide)
  have d5 : floatBits .sub .f64 ac bd = some r := e5
  have d6 : floatBits .add .f64 ad bc = some s := e6
  have hm : mulC w o = (r, s) := by
    unfold mulC
    rw [e1, e2, e3, e4]
    simp only [Option.getD_some]
    rw [d5, d6]
    rfl
  rw [hm]
  exact ⟨⟨ac, bd, ad, bc, e1, e2, e3, e4, d5, d6⟩, ⟨i5, i6⟩⟩

theorem one_iv : IV 4607182418800017408 1 := by
  have h := iv_ofInt 1 (by decide)
  have e : floatOfInt .f64 1 = 4607182418800017408 := by decide +kernel
  rwa [e] at h

theorem mulC_one {o : Nat × Nat} {O : Int × Int} (ho : IC o O) (h1 : O.1.natAbs < 2 ^ 53) (h2 : O.2.natAbs < 2 ^ 53) :
    MulTo 4607182418800017408 0 o.1 o.2 (mulC (4607182418800017408, 0) o).1 (mulC (4607182418800017408, 0) o).2 ∧ IC (mulC (4607182418800017408, 0) o) O := by
  obtain ⟨ac, e1, i1⟩ := iv_mul one_iv ho.one (by rw [Int.one_mul]; exact h1)
  obtain ⟨bd, e2, i2⟩ := iv_mul iv_zero ho.two (by rw [Int.zero_mul]; decide)
  obtain ⟨ad, e3, i3⟩ := iv_mul one_iv ho.two (by rw [Int.one_mul]; exact h2)
  obtain ⟨bc, e4, i4⟩ := iv_mul iv_zero ho.one (by rw [Int.zero_mul]; decide)
  rw [Int.one_mul] at i1 i3
  rw [Int.zero_mul] at i2 i4
  obtain ⟨r, e5, i5⟩ := iv_sub i1 i2 (by rw [Int.sub_zero]; exact h1)
  obtain ⟨s, e6, i6⟩ := iv_add i3 i4 (by rw [Int.add_zero]; exact h2)
  rw [Int.sub_zero] at i5
  rw [Int.add_zero] at i6
  have d1 : floatBits .mul .f64 4607182418800017408 o.1 = some ac := e1
  have d2 : floatBits .mul .f64 0 o.2 = some bd := e2
  have d3 : floatBits .mul .f64 4607182418800017408 o.2 = some ad := e3
  have d4 : floatBits .mul .f64 0 o.1 = some bc := e4
  have d5 : floatBits .sub .f64 ac bd = some r := e5
  have d6 : floatBits .add .f64 ad bc = some s := e6
  have hm : mulC (4607182418800017408, 0) o = (r, s) := by
    unfold mulC
    simp only
    rw [d1, d2, d3, d4]
    simp only [Option.getD_some]
    rw [d5, d6]
    rfl
  rw [hm]
  exact ⟨⟨ac, bd, ad, bc, d1, d2, d3, d4, d5, d6⟩, ⟨i5, i6⟩⟩

theorem wB_zero (c l : Nat) : wB c l 0 = (4607182418800017408, 0) := by
  unfold wB
  rw [Nat.mul_zero, Nat.zero_mul]
  exact at_nought

theorem csum_bound {n A : Nat} {f : Nat → Int × Int} (h : ∀ j, j < n → (f j).1.natAbs ≤ A ∧ (f j).2.natAbs ≤ A) : (csum n f).1.natAbs ≤ n * A ∧ (csum n f).2.natAbs ≤ n * A := by
  induction n with
  | zero => exact ⟨Nat.zero_le _, Nat.zero_le _⟩
  | succ n ih =>
    have h1 := ih fun j hj => h j (by omega)
    have h2 := h n (by omega)
    rw [Nat.add_mul, Nat.one_mul]
    show ((csum n f).1 + (f n).1).natAbs ≤ _ ∧ ((csum n f).2 + (f n).2).natAbs ≤ _
    omega

/-- At place 0: the very sum. -/
theorem fft_sum (c : Nat) (l : Nat) : l ≤ 12 → ∀ (x : Nat → Nat × Nat) (n : Nat → Int × Int), (∀ j, j < 2 ^ l → IC (x j) (n j)) → (∀ j, j < 2 ^ l → (n j).1.natAbs ≤ 1048576 ∧ (n j).2.natAbs ≤ 1048576) → IC (fft l c x 0) (csum (2 ^ l) n) := by
  induction l with
  | zero =>
    intro _ x n hx _
    have h := hx 0 (by decide)
    have e : csum (2 ^ 0) n = n 0 := Prod.ext (Int.zero_add _) (Int.zero_add _)
    rw [e]
    exact h
  | succ l ih =>
    intro hl x n hx hn
    have hp2 : 2 ^ (l + 1) = 2 * 2 ^ l := by rw [Nat.pow_succ]; omega
    have hpos : 0 < 2 ^ l := Nat.two_pow_pos l
    have hP : 2 ^ l ≤ 2048 := Nat.pow_le_pow_right (n := 2) (by decide) (show l ≤ 11 by omega)
    have hE := ih (by omega) (fun i => x (2 * i)) (fun j => n (2 * j)) (fun j hj => hx _ (by omega)) (fun j hj => hn _ (by omega))
    have hO := ih (by omega) (fun i => x (2 * i + 1)) (fun j => n (2 * j + 1)) (fun j hj => hx _ (by omega)) (fun j hj => hn _ (by omega))
    have bE := csum_bound (n := 2 ^ l) (f := fun j => n (2 * j)) (fun j hj => hn _ (by omega))
    have bO := csum_bound (n := 2 ^ l) (f := fun j => n (2 * j + 1)) (fun j hj => hn _ (by omega))
    have hm : 2 ^ l * 1048576 ≤ 2048 * 1048576 := Nat.mul_le_mul_right _ hP
    have e1 : fft (l + 1) c x 0 = addC (fft l c (fun i => x (2 * i)) 0) (mulC (wB c (l + 1) 0) (fft l c (fun i => x (2 * i + 1)) 0)) := if_pos hpos
    rw [e1, wB_zero, hp2, csum_split]
    have h53 : (2 : Nat) ^ 53 = 9007199254740992 := rfl
    have hM := (mulC_one hO (by omega) (by omega)).2
    exact (addC_iv hE hM (by omega) (by omega)).2

theorem cv_of_dv {b : Nat × Nat} {z : Int × Int} (h1 : DV b.1 z.1) (h2 : DV b.2 z.2) : ∃ Z, CV b Z := by
  obtain ⟨q, _, f1⟩ := h1
  obtain ⟨q', _, f2⟩ := h2
  exact ⟨(_, _), ⟨f1, f2⟩⟩

theorem fft_zero (c : Nat) (l : Nat) : ∀ (x : Nat → Nat × Nat), (∀ j, j < 2 ^ l → IC (x j) (0, 0)) → ∀ k, k < 2 ^ l → IC (fft l c x k) (0, 0) := by
  induction l with
  | zero => intro x hx k _; exact hx 0 (by decide)
  | succ l ih =>
    intro x hx k hk
    have hp2 : 2 ^ (l + 1) = 2 * 2 ^ l := by rw [Nat.pow_succ]; omega
    have key : ∀ m, m < 2 ^ l → IC (fft l c (fun i => x (2 * i)) m) (0, 0) ∧ IC (mulC (wB c (l + 1) m) (fft l c (fun i => x (2 * i + 1)) m)) (0, 0) := by
      intro m hm
      have hE := ih (fun i => x (2 * i)) (fun j hj => hx _ (by omega)) m hm
      have hO := ih (fun i => x (2 * i + 1)) (fun j hj => hx _ (by omega)) m hm
      obtain ⟨W, hW⟩ := cv_of_dv (wB_dv c (l + 1) m).1 (wB_dv c (l + 1) m).2
      exact ⟨hE, (mulC_zero hW hO).2⟩
    by_cases h : k < 2 ^ l
    · have e1 : fft (l + 1) c x k = addC (fft l c (fun i => x (2 * i)) k) (mulC (wB c (l + 1) k) (fft l c (fun i => x (2 * i + 1)) k)) := if_pos h
      rw [e1]
      exact (addC_iv (key k h).1 (key k h).2 (by decide) (by decide)).2
    · have e1 : fft (l + 1) c x k = subC (fft l c (fun i => x (2 * i)) (k - 2 ^ l)) (mulC (wB c (l + 1) (k - 2 ^ l)) (fft l c (fun i => x (2 * i + 1)) (k - 2 ^ l))) := if_neg h
      rw [e1]
      have hk' := key (k - 2 ^ l) (by omega)
      exact (subC_iv hk'.1 hk'.2 (by decide) (by decide)).2

/-- A list that is nought but at place 0: one number at all places. -/
theorem fft_first (c : Nat) (a : Int × Int) (h1 : a.1.natAbs < 2 ^ 53) (h2 : a.2.natAbs < 2 ^ 53) (l : Nat) : ∀ (x : Nat → Nat × Nat), IC (x 0) a → (∀ j, 0 < j → j < 2 ^ l → IC (x j) (0, 0)) → ∀ k, k < 2 ^ l → IC (fft l c x k) a := by
  induction l with
  | zero => intro x h0 _ k _; exact h0
  | succ l ih =>
    intro x h0 hx k hk
    have hp2 : 2 ^ (l + 1) = 2 * 2 ^ l := by rw [Nat.pow_succ]; omega
    have key : ∀ m, m < 2 ^ l → IC (fft l c (fun i => x (2 * i)) m) a ∧ IC (mulC (wB c (l + 1) m) (fft l c (fun i => x (2 * i + 1)) m)) (0, 0) := by
      intro m hm
      have hE := ih (fun i => x (2 * i)) h0 (fun j h0 hj => hx _ (by omega) (by omega)) m hm
      have hO := fft_zero c l (fun i => x (2 * i + 1)) (fun j hj => hx _ (by omega) (by omega)) m hm
      obtain ⟨W, hW⟩ := cv_of_dv (wB_dv c (l + 1) m).1 (wB_dv c (l + 1) m).2
      exact ⟨hE, (mulC_zero hW hO).2⟩
    by_cases h : k < 2 ^ l
    · have e1 : fft (l + 1) c x k = addC (fft l c (fun i => x (2 * i)) k) (mulC (wB c (l + 1) k) (fft l c (fun i => x (2 * i + 1)) k)) := if_pos h
      rw [e1]
      have hk' := key k h
      have := (addC_iv hk'.1 hk'.2 (by show (a.1 + 0).natAbs < _; rw [Int.add_zero]; exact h1) (by show (a.2 + 0).natAbs < _; rw [Int.add_zero]; exact h2)).2
      have e : ca a (0, 0) = a := Prod.ext (Int.add_zero _) (Int.add_zero _)
      rwa [e] at this
    · have e1 : fft (l + 1) c x k = subC (fft l c (fun i => x (2 * i)) (k - 2 ^ l)) (mulC (wB c (l + 1) (k - 2 ^ l)) (fft l c (fun i => x (2 * i + 1)) (k - 2 ^ l))) := if_neg h
      rw [e1]
      have hk' := key (k - 2 ^ l) (by omega)
      have := (subC_iv hk'.1 hk'.2 (by show (a.1 - 0).natAbs < _; rw [Int.sub_zero]; exact h1) (by show (a.2 - 0).natAbs < _; rw [Int.sub_zero]; exact h2)).2
      have e : cs a (0, 0) = a := Prod.ext (Int.sub_zero _) (Int.sub_zero _)
      rwa [e] at this
end Go.Proofs.Ytgbffbikieikdaa
