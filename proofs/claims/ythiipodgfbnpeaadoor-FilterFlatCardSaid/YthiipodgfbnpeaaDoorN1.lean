/- Rounding to the nearest whole number; the size of a difference. -/
import Derived.Test.YthiipodgfbnpeaaDoorLC
import Derived.Test.YthiipodgfbnpeaaDoorN0
namespace Go.Proofs.YthiipodgfbnpeaaDoor
open Go.RowKit Fl Ieee

theorem iv_write {s : Bool} {n : Int} (hs : signed s n.natAbs 0 = n) (hn : n.natAbs < 2 ^ 53) : IV (double.write (.number s n.natAbs 0)) n := by
  show IV (double.nearest s n.natAbs 0) n
  refine ⟨1074, rfl, ?_⟩
  generalize hq : (1074 : Nat) = q
  have := nearest_fv s (n.natAbs * 2 ^ (q + q)) q (-1074 - (q : Int)) n.natAbs q rfl rfl hn (by have := log2_le_of_lt hn; omega)
  have hsq : signed s n.natAbs q = n * 2 ^ q := by
    have := signed_split s n.natAbs 0 q
    rw [Nat.zero_add, hs] at this
    exact this
  rw [hsq] at this
  by_cases h0 : n = 0
  · subst h0
    rw [Int.zero_mul]
    refine ⟨s, 0, 0, ?_, ?_⟩
    · show double.read (double.nearest s 0 0) = _
      unfold Format.nearest
      rw [if_pos rfl]
      exact read_zero _
    · rw [signed_eq, Nat.zero_mul]; cases s <;> rfl
  · rw [nearest_scale _ _ _ _ (by omega), show -1074 - (q : Int) + ((q + q : Nat) : Int) = 0 by omega] at this
    exact this

theorem near_unique {N V G Z : Nat} (h1 : 2 * (N * G) ≤ 2 * Z + G) (h2 : 2 * Z ≤ 2 * (N * G) + G) (h3 : 4 * Z ≤ 4 * (V * G) + G) (h4 : 4 * (V * G) ≤ 4 * Z + G) (hG : 0 < G) : N = V := by
  rcases Nat.lt_trichotomy N V with c | c | c
  · have h5 : (N + 1) * G ≤ V * G := Nat.mul_le_mul_right _ c
    rw [Nat.add_mul, Nat.one_mul] at h5
    omega
  · exact c
  · have h5 : (V + 1) * G ≤ N * G := Nat.mul_le_mul_right _ c
    rw [Nat.add_mul, Nat.one_mul] at h5
    omega

theorem abs_near {Z V : Int} {G : Nat} (h : 4 * (Z - V).natAbs ≤ G) : 4 * Z.natAbs ≤ 4 * V.natAbs + G ∧ 4 * V.natAbs ≤ 4 * Z.natAbs + G := by omega

/-- Cutting a number that is near to a whole one leaves that one. -/
theorem near_integral {b : Nat} {Z v : Int} (h : FV b Z) (q : Nat) (hq : q = 1074) (hZ : 4 * (Z - v * 2 ^ q).natAbs ≤ 2 ^ q) : ∃ s : Bool, (double.read b).integral .even = .number s v.natAbs 0 ∧ signed s v.natAbs 0 = v := by
  obtain ⟨s, m, k, e, hv⟩ := h
  have hN := congrArg Int.natAbs hv
  rw [signed_natAbs] at hN
  have hA := abs_near hZ
  rw [natAbs_scale] at hA
  have hG : 0 < 2 ^ q := Nat.two_pow_pos q
  refine ⟨s, ?_, ?_⟩
  · rw [e]
    unfold Datum.integral
    dsimp only
    rw [cut_even]
    congr 1
    rw [Nat.shiftLeft_eq]
    by_cases c : q ≤ k
    · rw [show (-(-1074 + (k : Int))).toNat = 0 by omega, rne_zero]
      have h1 : m * 2 ^ (-1074 + (k : Int)).toNat * 2 ^ q = Z.natAbs := by
        rw [← hN, Nat.mul_assoc, ← Nat.pow_add]
        congr 2; omega
      exact near_unique (by rw [h1]; omega) (by rw [h1]; omega) hA.1 hA.2 hG
    · rw [show (-1074 + (k : Int)).toNat = 0 by omega, Nat.pow_zero, Nat.mul_one, show (-(-1074 + (k : Int))).toNat = q - k by omega]
      obtain ⟨b1, b2⟩ := rne_bounds m (q - k)
      have hp : 2 ^ (q - k) * 2 ^ k = 2 ^ q := by rw [← Nat.pow_add]; congr 1; omega
      have c1 := Nat.mul_le_mul_right (2 ^ k) b1
      have c2 := Nat.mul_le_mul_right (2 ^ k) b2
      rw [Nat.add_mul, Nat.mul_assoc, Nat.mul_assoc, hp, Nat.mul_assoc, hN] at c1
      rw [Nat.add_mul, Nat.mul_assoc, Nat.mul_assoc, Nat.mul_assoc, hp, hN] at c2
      exact near_unique c1 c2 hA.1 hA.2 hG
  · rw [signed_eq, Nat.pow_zero, Nat.mul_one]
    rw [signed_eq, hN] at hv
    have hp : (0 : Int) < 2 ^ q := Int.pow_pos (by decide)
    have hc : ((2 ^ q : Nat) : Int) = 2 ^ q := by rw [Int.natCast_pow]; rfl
    rcases Int.lt_trichotomy v 0 with c | c | c
    · have h1 : v * 2 ^ q ≤ -1 * 2 ^ q := Int.mul_le_mul_of_nonneg_right (by omega) (Int.le_of_lt hp)
      have hs : s = true := by
        cases s
        · rw [if_neg (by decide)] at hv
          omega
        · rfl
      rw [hs, if_pos rfl]
      omega
    · subst c
      cases s <;> rfl
    · have h1 : 1 * 2 ^ q ≤ v * 2 ^ q := Int.mul_le_mul_of_nonneg_right (by omega) (Int.le_of_lt hp)
      have hs : s = false := by
        cases s
        · rfl
        · rw [if_pos rfl] at hv
          omega
      rw [hs, if_neg (by decide)]
      omega

def roundB (b : Nat) : Nat := FloatKind.f64.encode ((FloatKind.f64.decode b).integral .even)

theorem round_iv {b : Nat} {Z v : Int} (h : FV b Z) (q : Nat) (hq : q = 1074) (hZ : 4 * (Z - v * 2 ^ q).natAbs ≤ 2 ^ q) (hv : v.natAbs < 2 ^ 53) : IV (roundB b) v := by
  obtain ⟨s, e, hs⟩ := near_integral h q hq hZ
  show IV (double.write ((double.read b).integral .even)) v
  rw [e]
  exact iv_write hs hv

theorem roundAny {b : Nat} {Z : Int} (h : FV b Z) (w : World) : (callFunc 20 #[.float .f64 b]).run Tryd.prog w = .ok (.value (.float .f64 (roundB b))) w := by
  rw [run_callFunc_extern (e := Extern.MathFloor.toIntegral "math.RoundToEven" .even) Tryd.func20 (by kernel_rfl) (by kernel_rfl) (by kernel_rfl) (by kernel_rfl)]
  obtain ⟨s, m, k, e, _⟩ := h
  have e' : FloatKind.f64.decode b = .number s m (-1074 + (k : Int)) := e
  have key : (Extern.MathFloor.toIntegral "math.RoundToEven" .even #[.float .f64 b]).run Tryd.prog w = .ok (.float .f64 (roundB b)) w := by
    unfold Extern.MathFloor.toIntegral
    unfold Extern.MathFloor.toIntegral.match_2
    rw [dif_pos (by rfl)]
    dsimp only [Extern.MathFloor.toIntegral._sparseCasesOn_2, Extern.MathFloor.toIntegral._sparseCasesOn_3, Array.getLit, List.getElem_toArray, List.getElem_cons_zero]
    unfold roundB
    rw [e']
    rfl
  rw [key]
  rfl
end Go.Proofs.YthiipodgfbnpeaaDoor
