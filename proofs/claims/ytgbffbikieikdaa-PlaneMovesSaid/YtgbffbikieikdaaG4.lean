/- Fields moved round: the transform turned by roots, rounded. -/
import Derived.Test.YtgbffbikieikdaaG3
namespace Go.Proofs.Ytgbffbikieikdaa
open Fl

theorem csum_rot1 (n : Nat) (h : Nat → Int × Int) : csum (n + 1) (fun i => h ((i + 1) % (n + 1))) = csum (n + 1) h := by
  have e1 : csum (n + 1) (fun i => h ((i + 1) % (n + 1))) = ca (csum n (fun i => h (i + 1))) (h 0) := by
    show ca (csum n (fun i => h ((i + 1) % (n + 1)))) (h ((n + 1) % (n + 1))) = _
    rw [Nat.mod_self]
    congr 1
    exact csum_congr fun j hj => by rw [Nat.mod_eq_of_lt (by omega)]
  rw [e1]
  clear e1
  induction n with
  | zero =>
    show ca (0, 0) (h 0) = ca (0, 0) (h 0)
    rfl
  | succ n ih =>
    show ca (ca (csum n (fun i => h (i + 1))) (h (n + 1))) (h 0) = ca (csum (n + 1) h) (h (n + 1))
    rw [← ih, ca_assoc, ca_assoc, ca_comm (h (n + 1)) (h 0)]

theorem csum_rot (n u : Nat) (h : Nat → Int × Int) : csum n (fun i => h ((i + u) % n)) = csum n h := by
  cases n with
  | zero => rfl
  | succ n =>
    induction u with
    | zero => exact csum_congr fun j hj => by rw [Nat.add_zero, Nat.mod_eq_of_lt hj]
    | succ u ih =>
      rw [← ih, ← csum_rot1 n (fun i => h ((i + u) % (n + 1)))]
      refine csum_congr fun j _ => ?_
      show h ((j + (u + 1)) % (n + 1)) = h (((j + 1) % (n + 1) + u) % (n + 1))
      congr 1
      rw [Nat.mod_add_mod]
      congr 1
      omega

theorem phase_mod {l : Nat} (hl : l ≤ 12) (i u x : Nat) : vz (4095 * ((i + u) % 2 ^ l * x) * 2 ^ (12 - l)) = vz (4095 * (i * x) * 2 ^ (12 - l) + 4095 * (u * x) * 2 ^ (12 - l)) := by
  have hp := pow_4096 hl
  have h := Nat.div_add_mod (i + u) (2 ^ l)
  generalize (i + u) % 2 ^ l = r at *
  generalize (i + u) / 2 ^ l = d at *
  have e : 4095 * (i * x) * 2 ^ (12 - l) + 4095 * (u * x) * 2 ^ (12 - l) = 4095 * (r * x) * 2 ^ (12 - l) + 4096 * (4095 * (d * x)) := by
    rw [← hp]
    have h2 : (i + u) * x = 2 ^ l * d * x + r * x := by rw [← h, Nat.add_mul]
    generalize 2 ^ (12 - l) = s at *
    generalize 2 ^ l = n at *
    grind
  rw [e, vz_rounds]

/-- Two phases shifted: turned by the root of both shifts. -/
theorem phase4 (A B α β : Nat) : N2 (cs (sm 18446744073709551616 (gm (vz (A + α)) (vz (B + β)))) (gm (gm (vz A) (vz B)) (vz (α + β)))) (3 * (18446744073709559808 * 2720083094132915643088896)) := by
  have h1 := n2_sm 18446744073709551616 (near2_all (A + α) (B + β))
  have h2 := n2_mul (near2_all A B) (n2_vz (α + β))
  have h3 := n2_sm 18446744073709551616 (near2_all (A + B) (α + β))
  rw [show A + α + (B + β) = A + B + (α + β) by omega] at h1
  have key : cs (sm 18446744073709551616 (gm (vz (A + α)) (vz (B + β)))) (gm (gm (vz A) (vz B)) (vz (α + β))) =
      cs (cs (sm ((18446744073709551616 : Nat) : Int) (cs (gm (vz (A + α)) (vz (B + β))) (sm 18446744073709551616 (vz (A + B + (α + β)))))) (gm (cs (gm (vz A) (vz B)) (sm 18446744073709551616 (vz (A + B)))) (vz (α + β))))
        (sm ((18446744073709551616 : Nat) : Int) (cs (gm (vz (A + B)) (vz (α + β))) (sm 18446744073709551616 (vz (A + B + (α + β)))))) := by
    generalize vz (A + α) = a
    generalize vz (B + β) = b
    generalize vz (A + B + (α + β)) = c
    generalize vz (A + B) = d
    generalize vz (α + β) = e
    generalize vz A = f
    generalize vz B = g
    refine Prod.ext ?_ ?_
    · simp only [sm, cs, gm]; grind
    · simp only [sm, cs, gm]; grind
  rw [key]
  exact n2_mono (n2_sub (n2_sub h1 h2) h3) (by decide)

/-- The double sum of the moved field. -/
theorem dd_moved {l b u v : Nat} (hl : l ≤ 12) {F G : Nat → Nat → Int × Int} (hF : ∀ j, j < 2 ^ l → ∀ i, i < 2 ^ l → N2 (F j i) (2 ^ b)) (hG : ∀ j, j < 2 ^ l → ∀ i, i < 2 ^ l → G ((j + v) % 2 ^ l) ((i + u) % 2 ^ l) = F j i) (y x : Nat) :
    N2 (cs (sm 18446744073709551616 (Dc l 4095 (Dr l 4095 G) y x)) (gm (Dc l 4095 (Dr l 4095 F) y x) (vz (4095 * (u * x) * 2 ^ (12 - l) + 4095 * (v * y) * 2 ^ (12 - l)))))
      (2 ^ l * (2 ^ l * (2 ^ b * (3 * (18446744073709559808 * 2720083094132915643088896))))) := by
  unfold Dc Dr dsum
  rw [← csum_rot (2 ^ l) v (fun j => gm (csum (2 ^ l) (fun i => gm (G j i) (vz (4095 * (i * x) * 2 ^ (12 - l))))) (vz (4095 * (j * y) * 2 ^ (12 - l))))]
  rw [csum_sm, gm_csum, csum_cs]
  refine n2_csum fun j hj => ?_
  rw [← csum_rot (2 ^ l) u (fun i => gm (G ((j + v) % 2 ^ l) i) (vz (4095 * (i * x) * 2 ^ (12 - l))))]
  rw [gm_csum, csum_sm, gm_csum, gm_csum, csum_cs]
  refine n2_csum fun i hi => ?_
  rw [hG j hj i hi, phase_mod hl, phase_mod hl]
  have h1 := n2_mul (hF j hj i hi) (phase4 (4095 * (i * x) * 2 ^ (12 - l)) (4095 * (j * y) * 2 ^ (12 - l)) (4095 * (u * x) * 2 ^ (12 - l)) (4095 * (v * y) * 2 ^ (12 - l)))
  generalize vz (4095 * (i * x) * 2 ^ (12 - l) + 4095 * (u * x) * 2 ^ (12 - l)) = p at *
  generalize vz (4095 * (j * y) * 2 ^ (12 - l) + 4095 * (v * y) * 2 ^ (12 - l)) = q at *
  generalize vz (4095 * (u * x) * 2 ^ (12 - l) + 4095 * (v * y) * 2 ^ (12 - l)) = r at *
  generalize vz (4095 * (i * x) * 2 ^ (12 - l)) = s at *
  generalize vz (4095 * (j * y) * 2 ^ (12 - l)) = t at *
  have e : cs (sm 18446744073709551616 (gm (gm (F j i) p) q)) (gm (gm (gm (F j i) s) t) r) = gm (F j i) (cs (sm 18446744073709551616 (gm p q)) (gm (gm s t) r)) := by
    refine Prod.ext ?_ ?_
    · simp only [sm, cs, gm]; grind
    · simp only [sm, cs, gm]; grind
  rw [e]
  exact h1

theorem budget5 {l b P R Q e : Nat} (h : Sizes l b P R Q) (he : e ≤ 18446744073709551616 * (41943040 * Q) + 32 * (655360 * Q * 18446744073709559808)) :
    18446744073709551616 * e + P * (P * (R * (3 * (18446744073709559808 * 2720083094132915643088896)))) + e * 18446744073709559808 ≤ 18446744073709551616 * 18446744073709551616 * (268435456 * Q) := by
  have h2 : P * (P * (R * (3 * (18446744073709559808 * 2720083094132915643088896)))) ≤ 32 * (Q * (3 * (18446744073709559808 * 2720083094132915643088896))) := by
    rw [← Nat.mul_assoc P R, ← h.hQ]
    exact Nat.mul_le_mul_right _ h.P2
  have h3 := Nat.mul_le_mul_right 18446744073709559808 he
  omega

/-- The transform of the moved field: near to the field's, turned. -/
theorem plane_moved {l b u v : Nat} (hl : l ≤ 5) (hb : 60 ≤ b) (hb2 : b ≤ 1800) {f g : Nat → Nat → Nat × Nat} {F G : Nat → Nat → Int × Int} (hf : Field (2 ^ l) b f F) (hg : Field (2 ^ l) b g G)
    (hG : ∀ j, j < 2 ^ l → ∀ i, i < 2 ^ l → G ((j + v) % 2 ^ l) ((i + u) % 2 ^ l) = F j i) :
    ∃ Y Z : Nat → Nat → Int × Int, Field (2 ^ l) (b + l + 1 + l + 1) (planeB l f) Y ∧ Field (2 ^ l) (b + l + 1 + l + 1) (planeB l g) Z ∧
      ∀ j, j < 2 ^ l → ∀ i, i < 2 ^ l → N2 (cs (sm 18446744073709551616 (Z j i)) (gm (Y j i) (vz (4095 * (i * u + j * v) * 2 ^ (12 - l))))) (268435456 * (2 ^ l * 2 ^ b)) := by
  obtain ⟨P, R, Q, hz⟩ := sizes hl hb
  obtain ⟨Y, h1, h2⟩ := plane_near hb hb2 (by omega) hf
  obtain ⟨Z, h3, h4⟩ := plane_near hb hb2 (by omega) hg
  refine ⟨Y, Z, h1, h3, fun j hj i hi => ?_⟩
  have n1 := h2 j hj i hi
  have n2 := h4 j hj i hi
  have n3 := dd_moved (u := u) (v := v) (by omega) hf.le hG j i
  have ep : 4095 * (u * i) * 2 ^ (12 - l) + 4095 * (v * j) * 2 ^ (12 - l) = 4095 * (i * u + j * v) * 2 ^ (12 - l) := by
    generalize 2 ^ (12 - l) = s
    grind
  rw [ep] at n3
  have hW := n2_vz (4095 * (i * u + j * v) * 2 ^ (12 - l))
  generalize vz (4095 * (i * u + j * v) * 2 ^ (12 - l)) = W at *
  have key : sm ((18446744073709551616 * 18446744073709551616 : Nat) : Int) (cs (sm 18446744073709551616 (Z j i)) (gm (Y j i) W)) =
      cs (ca (sm ((18446744073709551616 : Nat) : Int) (cs (sm (18446744073709551616 * 18446744073709551616) (Z j i)) (Dc l 4095 (Dr l 4095 G) j i))) (cs (sm 18446744073709551616 (Dc l 4095 (Dr l 4095 G) j i)) (gm (Dc l 4095 (Dr l 4095 F) j i) W)))
        (gm (cs (sm (18446744073709551616 * 18446744073709551616) (Y j i)) (Dc l 4095 (Dr l 4095 F) j i)) W) := by
    refine Prod.ext ?_ ?_
    · simp only [sm, cs, ca, gm]; grind
    · simp only [sm, cs, ca, gm]; grind
  refine n2_div (18446744073709551616 * 18446744073709551616) (by decide) ?_
  show N2 (sm ((18446744073709551616 * 18446744073709551616 : Nat) : Int) _) _
  rw [key]
  refine n2_mono (n2_sub (n2_add (n2_sm _ n2) n3) (n2_mul n1 hW)) ?_
  rw [← hz.hP, ← hz.hR, ← hz.hQ]
  exact budget5 hz (errP_le hz)
end Go.Proofs.Ytgbffbikieikdaa
