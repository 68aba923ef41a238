/- What the filter makes of whole bins and of noughts: bits. -/
import Derived.Test.YthiipodgfbnpeaaDoorFM
import Derived.Test.YthiipodgfbnpeaaDoorFF
namespace Go.Proofs.YthiipodgfbnpeaaDoor
open Go.RowKit Fl Ieee

/-- A list, noughts behind it. -/
def padX (m : Nat) (xs : Nat → Nat × Nat) (i : Nat) : Nat × Nat := if i < m then xs i else (0, 0)
def padV (m : Nat) (v : Nat → Int × Int) (i : Nat) : Int × Int := if i < m then v i else (0, 0)

theorem ints_pad {m n : Nat} {xs : Nat → Nat × Nat} {v : Nat → Int × Int} (h : Ints m xs v) : Ints n (padX m xs) (padV m v) := by
  refine ⟨fun j _ => ?_, fun j _ => ?_, fun j _ => ?_⟩
  · unfold padX padV
    by_cases c : j < m
    · rw [if_pos c, if_pos c]; exact h.ic j c
    · rw [if_neg c, if_neg c]; exact ⟨iv_zero, iv_zero⟩
  · unfold padV
    by_cases c : j < m
    · rw [if_pos c]; exact h.le j c
    · rw [if_neg c]; exact ⟨by decide, by decide⟩
  · unfold padX
    by_cases c : j < m
    · rw [if_pos c]; exact h.w2 j c
    · rw [if_neg c]; exact ⟨by decide, by decide⟩

theorem small_n2 {x : Int × Int} {b : Nat} (hb : b ≤ 1900) (h : N2 x (2 ^ b)) : x.1.natAbs < 2 ^ 2000 ∧ x.2.natAbs < 2 ^ 2000 := by
  obtain ⟨h1, h2⟩ := n2_fst h
  obtain ⟨e, he⟩ : ∃ e, e = 2000 := ⟨_, rfl⟩
  rw [← he]
  have : 2 ^ b < 2 ^ e := Nat.pow_lt_pow_right (by decide) (by omega)
  exact ⟨Nat.lt_of_le_of_lt h1 this, Nat.lt_of_le_of_lt h2 this⟩

/-- A frequency of whole bins times one is it. -/
theorem flat_same {l : Nat} (hl : l ≤ 12) {xs : Nat → Nat × Nat} {v : Nat → Int × Int} (h : Ints (2 ^ l) xs v) {k : Nat} (hk : k < 2 ^ l) :
    floatBits .mul .f64 (fft l 4095 xs k).1 oneB = some (fft l 4095 xs k).1 ∧ floatBits .mul .f64 (fft l 4095 xs k).2 oneB = some (fft l 4095 xs k).2 := by
  obtain ⟨⟨Y, cY, nY⟩, _⟩ := back_list hl h 1074 1063 rfl rfl
  have hw : W2 (fft l 4095 xs k) := fft_w fun i hi => h.w2 i hi
  obtain ⟨s1, s2⟩ := small_n2 (by omega) (nY k hk)
  exact ⟨mul_one hw.1 (cY k hk).one s1, mul_one hw.2 (cY k hk).two s2⟩

theorem order_nought {b : Nat} (h : FV b 0) : FloatKind.f64.format.order b 0 = some .eq := by
  have h0 : FV 0 0 := ⟨false, 0, 0, rfl, rfl⟩
  have := fv_order h h0
  rw [show compare (0 : Int) 0 = .eq by decide] at this
  exact this

theorem ld_nought {p b : Nat} (h : FV b 0) : LdTo p b b := ldTo_of fun w => walkZero (by rw [order_nought h]; rfl) w

/-- What lies from 0 to 1 is finite. -/
theorem fin_good {c : Nat} (hc : c < 18446744073709551616) (h : goodW c = true) : ∃ x, FV c x := by
  obtain ⟨g1, g2, g3⟩ := good_parts h
  obtain ⟨t, r, hr, e⟩ : ∃ (t : Bool) (r : Nat), r < 9223372036854775808 ∧ c = double.word t r := by
    by_cases d : c < 9223372036854775808
    · exact ⟨false, c, d, by unfold Format.word; rw [if_neg (by decide)]⟩
    · refine ⟨true, c - 9223372036854775808, by omega, ?_⟩
      unfold Format.word
      rw [if_pos rfl, sw]
      omega
  have hread := read_word t r hr
  rw [← e] at hread
  by_cases c1 : r < 4503599627370496
  · rw [if_pos c1] at hread
    exact ⟨_, t, r, 0, by rw [hread]; rfl, rfl⟩
  · rw [if_neg c1] at hread
    by_cases c2 : r < 9218868437227405312
    · rw [if_pos c2] at hread
      exact ⟨_, t, _, _, hread, rfl⟩
    · exfalso
      rw [if_neg c2] at hread
      by_cases c3 : r = 9218868437227405312
      · rw [if_pos c3] at hread
        cases t
        · have : FloatKind.f64.format.order c oneB = some .gt := by
            show double.order c oneB = _
            unfold Format.order
            rw [hread]
            decide +kernel
          rw [this] at g3
          cases g3
        · have : FloatKind.f64.format.order c 0 = some .lt := by
            show double.order c 0 = _
            unfold Format.order
            rw [hread]
            decide +kernel
          rw [this] at g2
          cases g2
      · rw [if_neg c3] at hread
        have : FloatKind.f64.format.order c c = none := by
          show double.order c c = _
          unfold Format.order
          rw [hread]
          rfl
        rw [this] at g1
        cases g1

theorem wT_lt (kind K : Nat) (h : K < 4096) : wT kind K < 18446744073709551616 := by
  unfold wT
  split
  · decide
  · split
    · exact bits_lt (rT_ok (by unfold lessT; omega)).1
    · obtain ⟨a, b, _, _, h3⟩ := soft_parts h
      have := bits_lt h3
      unfold wT at this
      rw [if_neg (by omega), if_neg (by omega)] at this
      exact this

/-- A nought times a weight is a nought. -/
theorem w_nought {kind K b : Nat} (h : K < 4096) (hb : FV b 0) : ∃ r, floatBits .mul .f64 b (wT kind K) = some r ∧ FV r 0 := by
  obtain ⟨x, hx⟩ := fin_good (wT_lt kind K h) (w_good h)
  exact mul_z hb hx
end Go.Proofs.YthiipodgfbnpeaaDoor
