/- Fields of whole numbers there and back: what the numbers come to. -/
import Derived.Test.YtgbffbikieikdaaDoorPI
import Derived.Test.YtgbffbikieikdaaDoorN3
import Derived.Test.YtgbffbikieikdaaDoorG5
import Derived.Test.YtgbffbikieikdaaDoorPF
namespace Go.Proofs.YtgbffbikieikdaaDoor
open Go.RowKit Fl

/-- A list as a field of n rows. -/
def grid (n : Nat) (x : Nat → Nat × Nat) (j i : Nat) : Nat × Nat := x (j * n + i)

theorem flat_grid {n : Nat} (x : Nat → Nat × Nat) (k : Nat) : flat n (grid n x) k = x k := by
  unfold flat grid
  congr 1
  rw [Nat.mul_comm, Nat.div_add_mod]

theorem row_ints {n : Nat} {x : Nat → Nat × Nat} {v : Nat → Int × Int} (h : Ints (n * n) x v) {j : Nat} (hj : j < n) : Ints n (grid n x j) (fun i => v (j * n + i)) :=
  ⟨fun _ hi => h.ic _ (place_lt hj hi), fun _ hi => h.le _ (place_lt hj hi), fun _ hi => h.w2 _ (place_lt hj hi)⟩

theorem field_grid {L n : Nat} {x : Nat → Nat × Nat} {v : Nat → Int × Int} (hn : n = 2 ^ L) (h : Ints (n * n) x v) (q b : Nat) (hq : q = 1074) (hb : b = 1095) : Field (2 ^ L) b (grid n x) (fun j i => ((v (j * n + i)).1 * 2 ^ q, (v (j * n + i)).2 * 2 ^ q)) :=
  field_ints (v := fun j i => v (j * n + i)) q b hq hb fun j hj => by rw [← hn] at hj ⊢; exact row_ints h hj

/-- Numbers scaled down, both parts. -/
theorem ld_two {l : Nat} (hl : l ≤ 12) {z : Nat × Nat} {Z : Int × Int} {B : Nat} (hz : CV z Z) (hw : W2 z) (hN : N2 Z (2 ^ B)) (hB : B < 2000) :
    ∃ r : Nat × Nat, ∃ R : Int × Int, (LdTo l z.1 r.1 ∧ LdTo l z.2 r.2) ∧ CV r R ∧ W2 r ∧ Near1 Z.1 R.1 l ∧ Near1 Z.2 R.2 l := by
  obtain ⟨p1, p2⟩ := n2_fst hN
  have hp0 : ∀ T, T = 2000 → 2 ^ B < 2 ^ T := fun T hT => Nat.pow_lt_pow_right (by decide) (by omega)
  have hp := hp0 2000 rfl
  obtain ⟨r1, R1, a1, a2, a3, a4⟩ := ld_any hl hw.1 hz.one (Nat.lt_of_le_of_lt p1 hp)
  obtain ⟨r2, R2, c1, c2, c3, c4⟩ := ld_any hl hw.2 hz.two (Nat.lt_of_le_of_lt p2 hp)
  exact ⟨(r1, r2), (R1, R2), ⟨a1, c1⟩, ⟨a3, c3⟩, ⟨a2, c2⟩, a4, c4⟩

/-- A field scaled down. -/
theorem ld_field {l B : Nat} (hl : l ≤ 12) {f : Nat → Nat → Nat × Nat} {F : Nat → Nat → Int × Int} (h : Field (2 ^ l) B f F) (hw : ∀ j, j < 2 ^ l → ∀ i, i < 2 ^ l → W2 (f j i)) (hB : B < 2000) :
    ∃ (s : Nat → Nat → Nat × Nat) (S : Nat → Nat → Int × Int), ∀ j, j < 2 ^ l → ∀ i, i < 2 ^ l → (LdTo l (f j i).1 (s j i).1 ∧ LdTo l (f j i).2 (s j i).2) ∧ CV (s j i) (S j i) ∧ W2 (s j i) ∧ Near1 (F j i).1 (S j i).1 l ∧ Near1 (F j i).2 (S j i).2 l := by
  have key : ∀ j, ∃ (s : Nat → Nat × Nat) (S : Nat → Int × Int), j < 2 ^ l → ∀ i, i < 2 ^ l → (LdTo l (f j i).1 (s i).1 ∧ LdTo l (f j i).2 (s i).2) ∧ CV (s i) (S i) ∧ W2 (s i) ∧ Near1 (F j i).1 (S i).1 l ∧ Near1 (F j i).2 (S i).2 l := by
    intro j
    have k2 : ∀ i, ∃ r : (Nat × Nat) × (Int × Int), j < 2 ^ l → i < 2 ^ l → (LdTo l (f j i).1 r.1.1 ∧ LdTo l (f j i).2 r.1.2) ∧ CV r.1 r.2 ∧ W2 r.1 ∧ Near1 (F j i).1 r.2.1 l ∧ Near1 (F j i).2 r.2.2 l := by
      intro i
      by_cases c : j < 2 ^ l ∧ i < 2 ^ l
      · obtain ⟨r, R, h1⟩ := ld_two hl (h.cv j c.1 i c.2) (hw j c.1 i c.2) (h.le j c.1 i c.2) hB
        exact ⟨(r, R), fun _ _ => h1⟩
      · exact ⟨((0, 0), (0, 0)), fun a b => absurd ⟨a, b⟩ c⟩
    obtain ⟨r, hr⟩ := Classical.axiomOfChoice k2
    exact ⟨fun i => (r i).1, fun i => (r i).2, fun a i b => hr i a b⟩
  obtain ⟨s, hs⟩ := Classical.axiomOfChoice key
  obtain ⟨S, hS⟩ := Classical.axiomOfChoice hs
  exact ⟨s, S, fun j hj i hi => hS j hj i hi⟩

theorem plane_w {l : Nat} {f : Nat → Nat → Nat × Nat} (hw : ∀ j, j < 2 ^ l → ∀ i, i < 2 ^ l → W2 (f j i)) (j i : Nat) : W2 (planeB l f j i) :=
  fft_w fun k hk => fft_w fun m hm => hw k hk m hm

/-- There and back: all that the calls ask, and what comes back. -/
structure Backed (L n : Nat) (x : Nat → Nat × Nat) (s1 s2 : Nat → Nat → Nat × Nat) : Prop where
  fieldY : ∃ Y, Field (2 ^ L) (1095 + L + 1 + L + 1) (planeB L (grid n x)) Y
  field1 : ∃ S, Field (2 ^ L) (1095 + L + 1) s1 S
  one : ∀ j, j < n → ∀ k, k < n → LdTo L (rowsB L 1 (planeB L (grid n x)) j k).1 (s1 j k).1 ∧ LdTo L (rowsB L 1 (planeB L (grid n x)) j k).2 (s1 j k).2
  two : ∀ j, j < n → ∀ k, k < n → LdTo L (colsB L 1 s1 j k).1 (s2 j k).1 ∧ LdTo L (colsB L 1 s1 j k).2 (s2 j k).2
  cv : ∀ k, k < n * n → ∃ Z, CV (flat n s2 k) Z
  same : ∀ k, k < n * n → FloatKind.f64.format.order (plainB (roundB (flat n s2 k).1)) (x k).1 = some .eq ∧ FloatKind.f64.format.order (plainB (roundB (flat n s2 k).2)) (x k).2 = some .eq

theorem flat_place {n k : Nat} (hk : k < n * n) : k / n < n ∧ k % n < n ∧ k / n * n + k % n = k := by
  have h0 : 0 < n := by
    rcases Nat.eq_zero_or_pos n with e | e
    · subst e; omega
    · exact e
  exact ⟨Nat.div_lt_of_lt_mul hk, Nat.mod_lt _ h0, by rw [Nat.mul_comm, Nat.div_add_mod]⟩

theorem backed {L n : Nat} (hL : L ≤ 5) (hn : n = 2 ^ L) {x : Nat → Nat × Nat} {v : Nat → Int × Int} (h : Ints (n * n) x v) : ∃ s1 s2, Backed L n x s1 s2 := by
  obtain ⟨q, hq⟩ : ∃ q, q = 1074 := ⟨_, rfl⟩
  have hF := field_grid hn h q 1095 hq rfl
  obtain ⟨b, hb⟩ : ∃ b, b = 1095 := ⟨_, rfl⟩
  rw [← hb] at hF
  obtain ⟨Y, R1, h1, h2, h3⟩ := plane_back hL (b := b) (by omega) (by omega) hF
  have hw : ∀ j, j < 2 ^ L → ∀ i, i < 2 ^ L → W2 (grid n x j i) := fun j hj i hi => h.w2 _ (place_lt (by omega) (by omega))
  have hwY : ∀ j, j < 2 ^ L → ∀ i, i < 2 ^ L → W2 (rowsB L 1 (planeB L (grid n x)) j i) := fun j _ i _ => fft_w fun k _ => plane_w hw j k
  obtain ⟨s1, S1, e1⟩ := ld_field (by omega) h2 hwY (by omega)
  obtain ⟨f1, R2, f2, h4⟩ := h3 s1 S1 (fun j hj i hi => ⟨(e1 j hj i hi).2.1, (e1 j hj i hi).2.2.2⟩)
  have hw2 : ∀ j, j < 2 ^ L → ∀ i, i < 2 ^ L → W2 (colsB L 1 s1 j i) := fun j _ i hi => fft_w fun k hk => (e1 k hk i hi).2.2.1
  obtain ⟨s2, S2, e2⟩ := ld_field (by omega) f2 hw2 (by omega)
  have h5 := h4 S2 (fun j hj i hi => (e2 j hj i hi).2.2.2)
  refine ⟨s1, s2, ⟨⟨Y, by rw [← hb]; exact h1⟩, ⟨S1, by rw [← hb]; exact f1⟩, fun j hj k hk => (e1 j (by omega) k (by omega)).1, fun j hj k hk => (e2 j (by omega) k (by omega)).1, fun k hk => ?_, fun k hk => ?_⟩⟩
  · obtain ⟨k1, k2, _⟩ := flat_place hk
    exact ⟨_, (e2 (k / n) (by omega) (k % n) (by omega)).2.1⟩
  · obtain ⟨k1, k2, k3⟩ := flat_place hk
    obtain ⟨_, c, _⟩ := e2 (k / n) (by omega) (k % n) (by omega)
    obtain ⟨p1, p2⟩ := n2_fst (h5 (k / n) (by omega) (k % n) (by omega))
    simp only [cs] at p1 p2
    rw [k3] at p1 p2
    have hle := h.le k hk
    have hp : 2 ^ q = 512 * 2 ^ (b - 30) := by
      rw [show q = 9 + (b - 30) by omega, Nat.pow_add]
    have hpos := Nat.two_pow_pos (b - 30)
    exact ⟨iv_same (plain_iv (round_iv c.one q hq (v := (v k).1) (by rw [hp]; omega) (by omega))) (h.ic k hk).one,
      iv_same (plain_iv (round_iv c.two q hq (v := (v k).2) (by rw [hp]; omega) (by omega))) (h.ic k hk).two⟩

theorem csum_rows (n : Nat) (g : Nat → Int × Int) : ∀ j, csum (j * n) g = csum j (fun k => csum n (fun i => g (k * n + i))) := by
  intro j
  induction j with
  | zero => rw [Nat.zero_mul]; rfl
  | succ j ih =>
    rw [Nat.succ_mul, csum_halves, ih]
    rfl

/-- The first cell is the sum. -/
theorem plane_first {L n : Nat} (hL : L ≤ 5) (hn : n = 2 ^ L) {x : Nat → Nat × Nat} {v : Nat → Int × Int} (h : Ints (n * n) x v) : IC (planeB L (grid n x) 0 0) (csum (n * n) v) := by
  have hn32 : n ≤ 32 := by rw [hn]; exact Nat.pow_le_pow_right (n := 2) (j := 5) (by decide) hL
  rw [csum_rows]
  have h1 : ∀ k, k < 2 ^ L → IC (fft L 4095 (grid n x k) 0) (csum (2 ^ L) (fun i => v (k * n + i))) := fun k hk =>
    fft_sumA 4095 1048576 L (by rw [← hn]; omega) (grid n x k) (fun i => v (k * n + i)) (fun i hi => h.ic _ (place_lt (by omega) (by omega))) (fun i hi => h.le _ (place_lt (by omega) (by omega)))
  have h2 := fft_sumA 4095 33554432 L (by rw [← hn]; omega) (fun k => fft L 4095 (grid n x k) 0) (fun k => csum (2 ^ L) (fun i => v (k * n + i))) h1 (fun k hk => by
    have := csum_bound (n := 2 ^ L) (A := 1048576) (f := fun i => v (k * n + i)) (fun i hi => h.le _ (place_lt (by omega) (by omega)))
    rw [← hn] at this ⊢
    omega)
  rw [← hn] at h2
  exact h2

theorem across_far {L n : Nat} (hL : L ≤ 5) (hn : n = 2 ^ L) {x : Nat → Nat × Nat} {v : Nat → Int × Int} (h : Ints (n * n) x v) (k : Nat) (hk : k < n * n) :
    FarC 4571153621781053440 (flat n (planeB L (fun j i => grid n x i j)) k) (flat n (fun j i => planeB L (grid n x) i j) k) := by
  obtain ⟨b, hb⟩ : ∃ b, b = 1095 := ⟨_, rfl⟩
  obtain ⟨A, B, h1⟩ := plane_across hL (b := b) (by omega) (by omega) (field_grid hn h 1074 b rfl hb)
  obtain ⟨k1, k2, _⟩ := flat_place hk
  obtain ⟨c1, c2, c3⟩ := h1 (k / n) (by omega) (k % n) (by omega)
  refine farC_of (t := 1063) (by decide) (by decide) (fv_m8' (1063 + 3) rfl) c1 c2 (n2_mono c3 ?_)
  obtain ⟨t, ht⟩ : ∃ t, t = 1063 := ⟨_, rfl⟩
  rw [← ht, show b - 32 = t by omega]
  omega
end Go.Proofs.YtgbffbikieikdaaDoor
