/- The transform by its definition, rounded; products and sums the other way round. -/
import Derived.Test.YtgbffbikieikdaaE6
namespace Go.Proofs.Ytgbffbikieikdaa
open Fl

theorem product_comm (d e : Ieee.Datum) : d.product e = e.product d := by
  cases d <;> cases e <;> simp [Ieee.Datum.product, Bool.xor_comm, Nat.mul_comm, Int.add_comm]

theorem sum_comm (d e : Ieee.Datum) : d.sum e = e.sum d := by
  cases d with
  | nan => cases e <;> rfl
  | infinity s =>
    cases e with
    | nan => rfl
    | infinity t =>
      unfold Ieee.Datum.sum
      by_cases h : s = t
      · subst h; rfl
      · simp only [if_neg h, if_neg (fun c : t = s => h c.symm)]
    | number => rfl
  | number s m i =>
    cases e with
    | nan => rfl
    | infinity => rfl
    | number t n j =>
      unfold Ieee.Datum.sum
      simp only
      rw [Int.min_comm i j, Bool.and_comm s t, Int.add_comm (Ieee.signed s m _)]

theorem mul_comm' (a b : Nat) : floatBits .mul .f64 a b = floatBits .mul .f64 b a := by
  show Ieee.Format.mul _ a b = Ieee.Format.mul _ b a
  unfold Ieee.Format.mul
  rw [product_comm]
theorem add_comm' (a b : Nat) : floatBits .add .f64 a b = floatBits .add .f64 b a := by
  show Ieee.Format.add _ a b = Ieee.Format.add _ b a
  unfold Ieee.Format.add
  rw [sum_comm]

theorem mulC_comm (a b : Nat × Nat) : mulC a b = mulC b a := by
  unfold mulC
  rw [mul_comm' a.1 b.1, mul_comm' a.2 b.2, mul_comm' a.1 b.2, mul_comm' a.2 b.1, add_comm']

theorem mulTo_comm {a b c d r s : Nat} (h : MulTo a b c d r s) : MulTo c d a b r s := by
  obtain ⟨ac, bd, ad, bc, h1, h2, h3, h4, h5, h6⟩ := h.ex
  exact ⟨ac, bd, bc, ad, by rw [mul_comm']; exact h1, by rw [mul_comm']; exact h2, by rw [mul_comm']; exact h4, by rw [mul_comm']; exact h3, h5, by rw [add_comm']; exact h6⟩

/-- The first j terms, one by one. -/
def dirS (x w : Nat → Nat × Nat) : Nat → Nat × Nat
  | 0 => (0, 0)
  | j + 1 => addC (dirS x w j) (mulC (x j) (w j))

theorem identD (D' D T S X W : Int × Int) (M : Int) : cs (sm M D') (ca S (gm X W)) = ca (ca (cs (sm M D') (sm M (ca D T))) (cs (sm M D) S)) (cs (sm M T) (gm W X)) := by
  refine Prod.ext ?_ ?_
  · simp only [sm, cs, ca, gm]; grind
  · simp only [sm, cs, ca, gm]; grind

structure DirStep (s x w : Nat × Nat) : Prop where
  mul : MulTo x.1 x.2 w.1 w.2 (mulC x w).1 (mulC x w).2
  add : AddTo s (mulC x w) (addC s (mulC x w))

theorem dir_near {b : Nat} (hb : 60 ≤ b) (hb2 : b ≤ 1900) (x w : Nat → Nat × Nat) (X : Nat → Int × Int) (th : Nat → Nat) (n : Nat) (hn : n ≤ 256) (hx : ∀ j, j < n → CV (x j) (X j)) (hX : ∀ j, j < n → N2 (X j) (2 ^ b))
    (hw : ∀ j, j < n → w j = full (th j % 4096)) : ∀ j, j ≤ n → (∃ D, CV (dirS x w j) D ∧ N2 (cs (sm 18446744073709551616 D) (csum j (fun i => gm (X i) (vz (th i))))) (j * (4194304 * 2 ^ b))) ∧ (j < n → DirStep (dirS x w j) (x j) (w j)) := by
  have hb11 : 2 ^ (b + 11) = 2048 * 2 ^ b := by rw [Nat.pow_add]; omega
  have hb20 : 2 ^ (b + 9 + 11) = 1048576 * 2 ^ b := by rw [Nat.add_assoc, Nat.pow_add]; omega
  have hb9 : 2 ^ (b + 9) = 512 * 2 ^ b := by rw [Nat.pow_add]; omega
  have small : ∀ j D, j ≤ n → N2 (cs (sm 18446744073709551616 D) (csum j (fun i => gm (X i) (vz (th i))))) (j * (4194304 * 2 ^ b)) → N2 D (2 ^ (b + 9)) := by
    intro j D hj h
    have e : sm 18446744073709551616 D = ca (cs (sm 18446744073709551616 D) (csum j (fun i => gm (X i) (vz (th i))))) (csum j (fun i => gm (X i) (vz (th i)))) := by
      refine Prod.ext ?_ ?_
      · simp only [sm, cs, ca]; omega
      · simp only [sm, cs, ca]; omega
    have k := n2_add h (n2_csum (n := j) (f := fun i => gm (X i) (vz (th i))) fun i hi => n2_mul (hX i (by omega)) (n2_vz _))
    rw [← e] at k
    refine n2_div 18446744073709551616 (by decide) (n2_mono k ?_)
    rw [hb9]
    have h1 : j * (4194304 * 2 ^ b) ≤ 256 * (4194304 * 2 ^ b) := Nat.mul_le_mul_right _ (by omega)
    have h2 : j * (2 ^ b * 18446744073709559808) ≤ 256 * (2 ^ b * 18446744073709559808) := Nat.mul_le_mul_right _ (by omega)
    generalize 2 ^ b = R at *
    omega
  have step : ∀ j, j < n → ∀ D, CV (dirS x w j) D → N2 D (2 ^ (b + 9)) → ∃ T, DirStep (dirS x w j) (x j) (w j) ∧ N2 (cs (sm 18446744073709551616 T) (gm (vz (th j)) (X j))) (3 * (2 * 2 ^ (b + 11))) ∧
      ∃ D', CV (dirS x w (j + 1)) D' ∧ N2 (cs (sm 18446744073709551616 D') (sm 18446744073709551616 (ca D T))) (3 * 2 ^ (b + 9 + 11)) := by
    intro j hj D cD sD
    have hd := dv_full (Nat.mod_lt (th j) (by decide : 4096 > 0))
    rw [vz_mod, ← hw j hj] at hd
    obtain ⟨T, m1, cT, nT⟩ := bmul (t := b) hb (by omega) hd.1 hd.2 (small_vz _) (hx j hj) (hX j hj)
    have sT := t_small (n2_vz _) (hX j hj) nT
    rw [mulC_comm] at cT m1
    have sT' : N2 T (2 * 2 ^ (b + 9)) := n2_mono sT (by rw [hb9]; omega)
    obtain ⟨D', a1, c1, n1⟩ := badd (t := b + 9) (by omega) (by omega) cD cT sD sT'
    exact ⟨T, ⟨mulTo_comm m1, a1⟩, nT, D', c1, n1⟩
  intro j
  induction j with
  | zero =>
    intro hj
    have z0 : FV 0 0 := ⟨false, 0, 0, by decide +kernel, by decide +kernel⟩
    have c0 : CV (dirS x w 0) (0, 0) := ⟨z0, z0⟩
    refine ⟨⟨(0, 0), c0, n2_zero _⟩, fun h => ?_⟩
    obtain ⟨T, s, -⟩ := step 0 h (0, 0) c0 (n2_zero _)
    exact s
  | succ j ih =>
    intro hj
    obtain ⟨⟨D, cD, nD⟩, -⟩ := ih (by omega)
    obtain ⟨T, s, nT, D', cD', nD'⟩ := step j (by omega) D cD (small j D (by omega) nD)
    have hres : N2 (cs (sm 18446744073709551616 D') (csum (j + 1) (fun i => gm (X i) (vz (th i))))) ((j + 1) * (4194304 * 2 ^ b)) := by
      show N2 (cs (sm 18446744073709551616 D') (ca (csum j (fun i => gm (X i) (vz (th i)))) (gm (X j) (vz (th j))))) _
      rw [identD D' D T]
      refine n2_mono (n2_add (n2_add nD' nD) nT) ?_
      rw [hb11, hb20, Nat.add_mul, Nat.one_mul]
      generalize 2 ^ b = R
      generalize j * (4194304 * R) = J
      omega
    refine ⟨⟨D', cD', hres⟩, fun h => ?_⟩
    obtain ⟨T2, s2, -⟩ := step (j + 1) h D' cD' (small (j + 1) D' hj hres)
    exact s2

/-- The place j k of the definition, within the list's length or not. -/
theorem th_mod {l : Nat} (hl : l ≤ 12) (j k : Nat) : vz (4095 * (j * k % 2 ^ l) * 2 ^ (12 - l)) = vz (4095 * (j * k) * 2 ^ (12 - l)) := by
  have hp := pow_4096 hl
  have h := Nat.div_add_mod (j * k) (2 ^ l)
  have e : 4095 * (j * k) * 2 ^ (12 - l) = 4095 * (j * k % 2 ^ l) * 2 ^ (12 - l) + 4096 * (4095 * (j * k / 2 ^ l)) := by
    generalize j * k % 2 ^ l = r at *
    generalize j * k / 2 ^ l = q at *
    rw [← h]
    generalize 2 ^ (12 - l) = P at *
    generalize 2 ^ l = Q at *
    grind
  rw [e, vz_rounds]

/-- Butterflies and definition, of at most 256 numbers: near to one another. -/
theorem fft_dir {l : Nat} (hl : l ≤ 8) {b : Nat} (hb : 60 ≤ b) (hb2 : b ≤ 1900) (x : Nat → Nat × Nat) (X : Nat → Int × Int) (hx : ∀ j, j < 2 ^ l → CV (x j) (X j)) (hX : ∀ j, j < 2 ^ l → N2 (X j) (2 ^ b)) (k : Nat) (hk : k < 2 ^ l) (w : Nat → Nat × Nat)
    (hw : ∀ j, j < 2 ^ l → w j = full (4095 * (j * k % 2 ^ l) * 2 ^ (12 - l) % 4096)) :
    ∃ Y D, CV (fft l 4095 x k) Y ∧ CV (dirS x w (2 ^ l)) D ∧ N2 (cs Y D) (2 ^ (b - 33)) := by
  have hP : 2 ^ l ≤ 256 := Nat.pow_le_pow_right (n := 2) (by decide) hl
  obtain ⟨Y, cY, nY⟩ := fft_near 4095 (by decide) b hb hb2 l (by omega) x X hx hX k hk
  obtain ⟨⟨D, cD, nD⟩, -⟩ := dir_near hb hb2 x w X (fun j => 4095 * (j * k % 2 ^ l) * 2 ^ (12 - l)) (2 ^ l) hP hx hX hw (2 ^ l) (Nat.le_refl _)
  refine ⟨Y, D, cY, cD, ?_⟩
  have e : csum (2 ^ l) (fun i => gm (X i) (vz (4095 * (i * k % 2 ^ l) * 2 ^ (12 - l)))) = dsum l 4095 X k := by
    unfold dsum
    exact csum_congr fun j _ => by rw [th_mod (by omega)]
  rw [e] at nD
  have e2 : sm 18446744073709551616 (cs Y D) = cs (cs (sm 18446744073709551616 Y) (dsum l 4095 X k)) (cs (sm 18446744073709551616 D) (dsum l 4095 X k)) := by
    refine Prod.ext ?_ ?_
    · simp only [sm, cs]; omega
    · simp only [sm, cs]; omega
  refine n2_div 18446744073709551616 (by decide) ?_
  show N2 (sm 18446744073709551616 _) _
  rw [e2]
  refine n2_mono (n2_sub nY nD) ?_
  have hR : 2 ^ b = 8589934592 * 2 ^ (b - 33) := by
    rw [show (8589934592 : Nat) = 2 ^ 33 from rfl, ← Nat.pow_add]; congr 1; omega
  have h1 : errOf l b ≤ 8 * (131072 * (256 * 2 ^ b)) := by
    unfold errOf
    exact Nat.mul_le_mul hl (Nat.mul_le_mul_left _ (Nat.mul_le_mul_right _ hP))
  have h2 : 2 ^ l * (4194304 * 2 ^ b) ≤ 256 * (4194304 * 2 ^ b) := Nat.mul_le_mul_right _ hP
  rw [hR] at h1 h2
  generalize 2 ^ (b - 33) = G at *
  rw [hR]
  omega
end Go.Proofs.Ytgbffbikieikdaa
