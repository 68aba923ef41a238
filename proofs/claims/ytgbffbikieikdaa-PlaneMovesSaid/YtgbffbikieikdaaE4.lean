/- The transform by halves, rounded, is near to the transform by its definition. -/
import Derived.Test.YtgbffbikieikdaaE3
namespace Go.Proofs.Ytgbffbikieikdaa
open Fl

/-- The root by which the place k of a list of 2^l numbers is turned; c: which way round. -/
def wB (c l k : Nat) : Nat × Nat := full (c * k * 2 ^ (12 - l) % 4096)

theorem wB_dv (c l k : Nat) : DV (wB c l k).1 (vz (c * k * 2 ^ (12 - l))).1 ∧ DV (wB c l k).2 (vz (c * k * 2 ^ (12 - l))).2 := by
  have h := dv_full (Nat.mod_lt (c * k * 2 ^ (12 - l)) (by decide : 4096 > 0))
  rwa [vz_mod] at h

def fft : Nat → Nat → (Nat → Nat × Nat) → Nat → Nat × Nat
  | 0, _, x, _ => x 0
  | l + 1, c, x, k =>
    if k < 2 ^ l then addC (fft l c (fun i => x (2 * i)) k) (mulC (wB c (l + 1) k) (fft l c (fun i => x (2 * i + 1)) k))
    else subC (fft l c (fun i => x (2 * i)) (k - 2 ^ l)) (mulC (wB c (l + 1) (k - 2 ^ l)) (fft l c (fun i => x (2 * i + 1)) (k - 2 ^ l)))

theorem identA (E T Y O SE SO S W : Int × Int) (M : Int) :
    sm M (cs (sm M Y) (ca SE S)) = ca (ca (ca (ca (sm M (cs (sm M Y) (sm M (ca E T)))) (sm M (cs (sm M E) SE))) (sm M (cs (sm M T) (gm W O)))) (gm W (cs (sm M O) SO))) (cs (gm W SO) (sm M S)) := by
  refine Prod.ext ?_ ?_
  · simp only [sm, cs, ca, gm]; grind
  · simp only [sm, cs, ca, gm]; grind
theorem identS (E T Y O SE SO S W : Int × Int) (M : Int) :
    sm M (cs (sm M Y) (cs SE S)) = cs (cs (cs (ca (sm M (cs (sm M Y) (sm M (cs E T)))) (sm M (cs (sm M E) SE))) (sm M (cs (sm M T) (gm W O)))) (gm W (cs (sm M O) SO))) (cs (gm W SO) (sm M S)) := by
  refine Prod.ext ?_ ?_
  · simp only [sm, cs, ca, gm]; grind
  · simp only [sm, cs, ca, gm]; grind

theorem budget {e Q Z : Nat} (he : e ≤ 1572864 * Q) (hZ : Z = 4096 * Q) :
    18446744073709551616 * (3 * Z) + 18446744073709551616 * e + 18446744073709551616 * (3 * (2 * Z)) + 18446744073709559808 * e + Q * 2720083094132915643088896 ≤ 18446744073709551616 * (2 * e + 262144 * Q) := by
  omega

theorem t_small {t : Nat} {T O W : Int × Int} (hW : N2 W 18446744073709559808) (hO : N2 O (2 ^ t)) (h : N2 (cs (sm 18446744073709551616 T) (gm W O)) (3 * (2 * 2 ^ (t + 11)))) : N2 T (2 * 2 ^ t) := by
  have e : sm 18446744073709551616 T = ca (cs (sm 18446744073709551616 T) (gm W O)) (gm W O) := by
    refine Prod.ext ?_ ?_
    · simp only [sm, cs, ca]; omega
    · simp only [sm, cs, ca]; omega
  have k := n2_add h (n2_mul hW hO)
  rw [← e] at k
  refine n2_div 18446744073709551616 (by decide) (n2_mono k ?_)
  have : 2 ^ (t + 11) = 2048 * 2 ^ t := by rw [Nat.pow_add]; omega
  omega

/-- What one butterfly gives. -/
structure Fly (w e o : Nat × Nat) : Prop where
  mul : MulTo w.1 w.2 o.1 o.2 (mulC w o).1 (mulC w o).2
  add : AddTo e (mulC w o) (addC e (mulC w o))
  sub : SubTo e (mulC w o) (subC e (mulC w o))

theorem fly {t er Q : Nat} (ht : 60 ≤ t) (ht2 : t ≤ 2000) {w e o : Nat × Nat} {W E O SE SO S : Int × Int} (hw1 : DV w.1 W.1) (hw2 : DV w.2 W.2) (sW : smallB W = true) (nW : N2 W 18446744073709559808)
    (he : CV e E) (ho : CV o O) (nE : N2 E (2 ^ t)) (nO : N2 O (2 ^ t)) (hE : N2 (cs (sm 18446744073709551616 E) SE) er) (hO : N2 (cs (sm 18446744073709551616 O) SO) er)
    (hS : N2 (cs (gm W SO) (sm 18446744073709551616 S)) (Q * 2720083094132915643088896)) (her : er ≤ 1572864 * Q) (hQ : 2 ^ t = 2 * Q) :
    Fly w e o ∧ (∃ Y, CV (addC e (mulC w o)) Y ∧ N2 (cs (sm 18446744073709551616 Y) (ca SE S)) (2 * er + 262144 * Q)) ∧
      (∃ Y, CV (subC e (mulC w o)) Y ∧ N2 (cs (sm 18446744073709551616 Y) (cs SE S)) (2 * er + 262144 * Q)) := by
  obtain ⟨T, m1, cT, nT⟩ := bmul ht ht2 hw1 hw2 sW ho nO
  have sT := t_small nW nO nT
  obtain ⟨Y1, a1, c1, n1⟩ := badd ht ht2 he cT nE sT
  obtain ⟨Y2, a2, c2, n2⟩ := bsub ht ht2 he cT nE sT
  have hZ : 2 ^ (t + 11) = 4096 * Q := by rw [Nat.pow_add, hQ]; omega
  have hb := budget (Z := 2 ^ (t + 11)) her hZ
  refine ⟨⟨m1, a1, a2⟩, ⟨Y1, c1, ?_⟩, ⟨Y2, c2, ?_⟩⟩
  · refine n2_div 18446744073709551616 (by decide) ?_
    show N2 (sm 18446744073709551616 _) _
    rw [identA E T Y1 O SE SO S W]
    exact n2_mono (n2_add (n2_add (n2_add (n2_add (n2_sm 18446744073709551616 n1) (n2_sm 18446744073709551616 hE)) (n2_sm 18446744073709551616 nT)) (n2_mul nW hO)) hS) hb
  · refine n2_div 18446744073709551616 (by decide) ?_
    show N2 (sm 18446744073709551616 _) _
    rw [identS E T Y2 O SE SO S W]
    exact n2_mono (n2_sub (n2_sub (n2_sub (n2_add (n2_sm 18446744073709551616 n2) (n2_sm 18446744073709551616 hE)) (n2_sm 18446744073709551616 nT)) (n2_mul nW hO)) hS) hb

/-- How far: l levels of a list whose numbers are not longer than 2^b. -/
def errOf (l b : Nat) : Nat := l * (131072 * (2 ^ l * 2 ^ b))

theorem y_small {l c b k : Nat} (hl : l ≤ 12) {X : Nat → Int × Int} (hX : ∀ j, j < 2 ^ l → N2 (X j) (2 ^ b)) {Y : Int × Int} (h : N2 (cs (sm 18446744073709551616 Y) (dsum l c X k)) (errOf l b)) : N2 Y (2 ^ (b + l + 1)) := by
  have e : sm 18446744073709551616 Y = ca (cs (sm 18446744073709551616 Y) (dsum l c X k)) (dsum l c X k) := by
    refine Prod.ext ?_ ?_
    · simp only [sm, cs, ca]; omega
    · simp only [sm, cs, ca]; omega
  have kk := n2_add h (n2_dsum (c := c) (k := k) hX)
  rw [← e] at kk
  refine n2_div 18446744073709551616 (by decide) (n2_mono kk ?_)
  have e1 : 2 ^ (b + l + 1) = 2 * (2 ^ l * 2 ^ b) := by rw [Nat.pow_succ, Nat.pow_add, Nat.mul_comm (2 ^ b)]; omega
  have e2 : 2 ^ l * (2 ^ b * 18446744073709559808) = 18446744073709559808 * (2 ^ l * 2 ^ b) := by rw [← Nat.mul_assoc, Nat.mul_comm]
  unfold errOf
  rw [e1, e2]
  generalize 2 ^ l * 2 ^ b = Q
  have h3 : l * (131072 * Q) ≤ 12 * (131072 * Q) := Nat.mul_le_mul_right _ hl
  omega

theorem fft_near (c : Nat) (hc : c % 2 = 1) (b : Nat) (hb : 60 ≤ b) (hb2 : b ≤ 1900) (l : Nat) : l ≤ 12 → ∀ (x : Nat → Nat × Nat) (X : Nat → Int × Int), (∀ j, j < 2 ^ l → CV (x j) (X j)) → (∀ j, j < 2 ^ l → N2 (X j) (2 ^ b)) →
    ∀ k, k < 2 ^ l → ∃ Y, CV (fft l c x k) Y ∧ N2 (cs (sm 18446744073709551616 Y) (dsum l c X k)) (errOf l b) := by
  induction l with
  | zero =>
    intro _ x X hx _ k hk
    have hk0 : k = 0 := by rw [Nat.pow_zero] at hk; omega
    subst hk0
    refine ⟨X 0, hx 0 (by decide), ?_⟩
    have : cs (sm 18446744073709551616 (X 0)) (dsum 0 c X 0) = (0, 0) := by
      have hz : vz (c * (0 * 0) * 2 ^ (12 - 0)) = (18446744073709551616, 0) := by
        rw [show c * (0 * 0) * 2 ^ (12 - 0) = 0 by simp]
        decide +kernel
      show cs (sm 18446744073709551616 (X 0)) (ca (0, 0) (gm (X 0) (vz (c * (0 * 0) * 2 ^ (12 - 0))))) = (0, 0)
      rw [hz]
      refine Prod.ext ?_ ?_
      · simp only [cs, sm, ca, gm]; omega
      · simp only [cs, sm, ca, gm]; omega
    rw [this]
    exact n2_zero _
  | succ l ih =>
    intro hl x X hx hX k hk
    have hl11 : l ≤ 11 := by omega
    have hp2 : 2 ^ (l + 1) = 2 * 2 ^ l := by rw [Nat.pow_succ]; omega
    have key : ∀ m, m < 2 ^ l → (∃ Y, CV (addC (fft l c (fun i => x (2 * i)) m) (mulC (wB c (l + 1) m) (fft l c (fun i => x (2 * i + 1)) m))) Y ∧ N2 (cs (sm 18446744073709551616 Y) (ca (dsum l c (fun j => X (2 * j)) m) (osum l c X m))) (errOf (l + 1) b)) ∧
        (∃ Y, CV (subC (fft l c (fun i => x (2 * i)) m) (mulC (wB c (l + 1) m) (fft l c (fun i => x (2 * i + 1)) m))) Y ∧ N2 (cs (sm 18446744073709551616 Y) (cs (dsum l c (fun j => X (2 * j)) m) (osum l c X m))) (errOf (l + 1) b)) := by
      intro m hm
      obtain ⟨E, cE, nE⟩ := ih (by omega) (fun i => x (2 * i)) (fun j => X (2 * j)) (fun j hj => hx _ (by omega)) (fun j hj => hX _ (by omega)) m hm
      obtain ⟨O, cO, nO⟩ := ih (by omega) (fun i => x (2 * i + 1)) (fun j => X (2 * j + 1)) (fun j hj => hx _ (by omega)) (fun j hj => hX _ (by omega)) m hm
      have sE := y_small (by omega) (fun j hj => hX (2 * j) (by omega)) nE
      have sO := y_small (by omega) (fun j hj => hX (2 * j + 1) (by omega)) nO
      have hodd := odd_near (c := c) (k := m) (B := 2 ^ b) hl11 (x := X) (fun j hj => hX (2 * j + 1) (by omega))
      rw [← Nat.mul_assoc] at hodd
      have hw := wB_dv c (l + 1) m
      rw [show 12 - (l + 1) = 11 - l by omega] at hw
      have he : errOf (l + 1) b = 2 * errOf l b + 262144 * (2 ^ l * 2 ^ b) := by
        unfold errOf
        rw [hp2, Nat.mul_assoc 2]
        generalize 2 ^ l * 2 ^ b = Q
        grind
      have hel : errOf l b ≤ 1572864 * (2 ^ l * 2 ^ b) := by
        unfold errOf
        generalize 2 ^ l * 2 ^ b = Q
        have h3 : l * (131072 * Q) ≤ 12 * (131072 * Q) := Nat.mul_le_mul_right _ (by omega)
        omega
      have hQ : 2 ^ (b + l + 1) = 2 * (2 ^ l * 2 ^ b) := by rw [Nat.pow_succ, Nat.pow_add, Nat.mul_comm (2 ^ b)]; omega
      rw [he]
      exact (fly (t := b + l + 1) (by omega) (by omega) hw.1 hw.2 (small_vz _) (n2_vz _) cE cO sE sO nE nO hodd hel hQ).2
    by_cases h : k < 2 ^ l
    · have e1 : fft (l + 1) c x k = addC (fft l c (fun i => x (2 * i)) k) (mulC (wB c (l + 1) k) (fft l c (fun i => x (2 * i + 1)) k)) := if_pos h
      rw [e1, dsum_low hl11]
      exact (key k h).1
    · obtain ⟨m, rfl⟩ : ∃ m, k = m + 2 ^ l := ⟨k - 2 ^ l, by omega⟩
      have e1 : fft (l + 1) c x (m + 2 ^ l) = subC (fft l c (fun i => x (2 * i)) m) (mulC (wB c (l + 1) m) (fft l c (fun i => x (2 * i + 1)) m)) := by
        show (if m + 2 ^ l < 2 ^ l then _ else _) = _
        rw [if_neg h, Nat.add_sub_cancel]
      rw [e1, dsum_high hl11 hc]
      exact (key m (by omega)).2

/-- Every butterfly of the transform has an answer. -/
theorem fft_fly (c : Nat) (hc : c % 2 = 1) (b : Nat) (hb : 60 ≤ b) (hb2 : b ≤ 1900) {l : Nat} (hl : l ≤ 11) (x : Nat → Nat × Nat) (X : Nat → Int × Int) (hx : ∀ j, j < 2 ^ (l + 1) → CV (x j) (X j)) (hX : ∀ j, j < 2 ^ (l + 1) → N2 (X j) (2 ^ b))
    (m : Nat) (hm : m < 2 ^ l) : Fly (wB c (l + 1) m) (fft l c (fun i => x (2 * i)) m) (fft l c (fun i => x (2 * i + 1)) m) := by
  have hp2 : 2 ^ (l + 1) = 2 * 2 ^ l := by rw [Nat.pow_succ]; omega
  obtain ⟨E, cE, nE⟩ := fft_near c hc b hb hb2 l (by omega) (fun i => x (2 * i)) (fun j => X (2 * j)) (fun j hj => hx _ (by omega)) (fun j hj => hX _ (by omega)) m hm
  obtain ⟨O, cO, nO⟩ := fft_near c hc b hb hb2 l (by omega) (fun i => x (2 * i + 1)) (fun j => X (2 * j + 1)) (fun j hj => hx _ (by omega)) (fun j hj => hX _ (by omega)) m hm
  have sE := y_small (by omega) (fun j hj => hX (2 * j) (by omega)) nE
  have sO := y_small (by omega) (fun j hj => hX (2 * j + 1) (by omega)) nO
  have hodd := odd_near (c := c) (k := m) (B := 2 ^ b) hl (x := X) (fun j hj => hX (2 * j + 1) (by omega))
  rw [← Nat.mul_assoc] at hodd
  have hw := wB_dv c (l + 1) m
  rw [show 12 - (l + 1) = 11 - l by omega] at hw
  have hel : errOf l b ≤ 1572864 * (2 ^ l * 2 ^ b) := by
    unfold errOf
    generalize 2 ^ l * 2 ^ b = Q
    have h3 : l * (131072 * Q) ≤ 12 * (131072 * Q) := Nat.mul_le_mul_right _ (by omega)
    omega
  have hQ : 2 ^ (b + l + 1) = 2 * (2 ^ l * 2 ^ b) := by rw [Nat.pow_succ, Nat.pow_add, Nat.mul_comm (2 ^ b)]; omega
  exact (fly (t := b + l + 1) (by omega) (by omega) hw.1 hw.2 (small_vz _) (n2_vz _) cE cO sE sO nE nO hodd hel hQ).1
end Go.Proofs.Ytgbffbikieikdaa
