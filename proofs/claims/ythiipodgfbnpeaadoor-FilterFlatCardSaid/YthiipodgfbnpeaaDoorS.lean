/- Quarters, conjugates and plain parts of the table's roots. -/
import Derived.Test.YthiipodgfbnpeaaDoorI
import Derived.Laws.BitsAllLaws
namespace Go.Proofs.YthiipodgfbnpeaaDoor

/-- The other sign, a nought without one. -/
def nB (x : Nat) : Nat := if x == 0 then 0 else x + 9223372036854775808
def okWord (x : Nat) : Bool := plainB x == x && plainB (negB x) == nB x && plainB (nB x) == nB x && plainB (negB (nB x)) == x
structure Good (x : Nat) : Prop where
  a : plainB x = x
  b : plainB (negB x) = nB x
  c : plainB (nB x) = nB x
  d : plainB (negB (nB x)) = x
theorem good_of {x : Nat} (h : okWord x = true) : Good x := by
  simp only [okWord, Bool.and_eq_true, beq_iff_eq] at h
  exact ⟨h.1.1.1, h.1.1.2, h.1.2, h.2⟩

theorem words : ∀ a : Nat, a < 33 → ∀ b : Nat, b < 16 → okWord (tb (16 * a + b)).1 = true ∧ okWord (tb (16 * a + b)).2 = true := by decide +kernel

theorem good_tb (i : Nat) (h : i ≤ 512) : Good (tb i).1 ∧ Good (tb i).2 := by
  have := words (i / 16) (by omega) (i % 16) (by omega)
  rw [show 16 * (i / 16) + i % 16 = i by omega] at this
  exact ⟨good_of this.1, good_of this.2⟩

theorem good_qd (i : Nat) (h : i ≤ 1024) : Good (qd i).1 ∧ Good (qd i).2 := by
  by_cases c : 512 < i
  · rw [qd_high c]
    have := good_tb (1024 - i) (by omega)
    exact ⟨this.2, this.1⟩
  · rw [qd_low (by omega)]
    exact good_tb i (by omega)

theorem tb_512 : ((tb 512).2, (tb 512).1) = tb 512 := by decide +kernel

theorem qd_mirror {i : Nat} (h0 : 0 < i) (h : i < 1024) : qd (1024 - i) = ((qd i).2, (qd i).1) := by
  by_cases c : 512 < i
  · rw [qd_high c, qd_low (by omega)]
  · by_cases e : i = 512
    · rw [show 1024 - i = 512 by omega, e, qd_low (Nat.le_refl 512)]
      exact tb_512.symm
    · rw [qd_low (show i ≤ 512 by omega), qd_high (by omega), show 1024 - (1024 - i) = i by omega]

/-- The parts by the number of quarters. -/
def four (c : Nat) (p q : Nat) : Nat × Nat :=
  match c with
  | 0 => (p, q)
  | 1 => (nB q, p)
  | 2 => (nB p, nB q)
  | _ => (q, nB p)

theorem four_turn {p q : Nat} (hp : Good p) (hq : Good q) (c : Nat) (hc : c < 4) : turnP (four c p q) = four ((c + 1) % 4) p q := by
  have : c = 0 ∨ c = 1 ∨ c = 2 ∨ c = 3 := by omega
  rcases this with rfl | rfl | rfl | rfl
  · exact Prod.ext hq.b hp.a
  · exact Prod.ext hp.b hq.c
  · exact Prod.ext hq.d hp.c
  · exact Prod.ext hp.d hq.a

theorem four_plain {p q : Nat} (hp : Good p) (hq : Good q) (c : Nat) (hc : c < 4) : (plainB (four c p q).1, plainB (four c p q).2) = four c p q := by
  have : c = 0 ∨ c = 1 ∨ c = 2 ∨ c = 3 := by omega
  rcases this with rfl | rfl | rfl | rfl
  · exact Prod.ext hp.a hq.a
  · exact Prod.ext hq.c hp.a
  · exact Prod.ext hp.c hq.c
  · exact Prod.ext hq.a hp.c

theorem four_conj {p q : Nat} (hp : Good p) (hq : Good q) (c : Nat) (hc : c < 4) : (plainB (four c p q).1, plainB (negB (four c p q).2)) = four (3 - c) q p := by
  have : c = 0 ∨ c = 1 ∨ c = 2 ∨ c = 3 := by omega
  rcases this with rfl | rfl | rfl | rfl
  · exact Prod.ext hp.a hq.b
  · exact Prod.ext hq.c hp.b
  · exact Prod.ext hp.c hq.d
  · exact Prod.ext hq.a hp.d

theorem full_four {i : Nat} (h : i < 4096) : full i = four (i / 1024) (qd (i % 1024)).1 (qd (i % 1024)).2 := by
  have hg := good_qd (i % 1024) (by omega)
  have key : ∀ c, c < 4 → turns c (qd (i % 1024)) = four c (qd (i % 1024)).1 (qd (i % 1024)).2 := by
    intro c
    induction c with
    | zero => intro _; rfl
    | succ c ih =>
      intro hc
      show turnP (turns c _) = _
      rw [ih (by omega), four_turn hg.1 hg.2 c (by omega), Nat.mod_eq_of_lt hc]
  exact key _ (by omega)

theorem full_plain {i : Nat} (h : i < 4096) : (plainB (full i).1, plainB (full i).2) = full i := by
  have hg := good_qd (i % 1024) (by omega)
  rw [full_four h]
  exact four_plain hg.1 hg.2 _ (by omega)

theorem full_quarter {i : Nat} (h : i < 4096) : full ((i + 1024) % 4096) = turnP (full i) := by
  have hg := good_qd (i % 1024) (by omega)
  rw [full_four h, four_turn hg.1 hg.2 _ (by omega), full_four (Nat.mod_lt _ (by decide))]
  rw [show (i + 1024) % 4096 / 1024 = (i / 1024 + 1) % 4 by omega, show (i + 1024) % 4096 % 1024 = i % 1024 by omega]

theorem conj_ends : ∀ c : Nat, c < 4 → full ((4096 - 1024 * c) % 4096) = (plainB (full (1024 * c)).1, plainB (negB (full (1024 * c)).2)) := by decide +kernel

theorem full_conj {i : Nat} (h : i < 4096) : full ((4096 - i) % 4096) = (plainB (full i).1, plainB (negB (full i).2)) := by
  by_cases h0 : i % 1024 = 0
  · have := conj_ends (i / 1024) (by omega)
    rwa [show 1024 * (i / 1024) = i by omega] at this
  · have hg := good_qd (i % 1024) (by omega)
    rw [full_four h, four_conj hg.1 hg.2 _ (by omega), full_four (Nat.mod_lt _ (by decide))]
    rw [show (4096 - i) % 4096 / 1024 = 3 - i / 1024 by omega, show (4096 - i) % 4096 % 1024 = 1024 - i % 1024 by omega, qd_mirror (by omega) (by omega)]

/-- The root of order n at the place k, by its place of 4096. -/
theorem place {n s : Nat} (h : Ord n s) (k : Nat) : ((k : Int) % (n : Int)).toNat * s = k * s % 4096 := by
  have hns : n * s = 4096 := by
    rcases ord_cases h with h | h | h | h | h | h | h | h | h | h | h | h | h <;> obtain ⟨rfl, rfl⟩ := h <;> rfl
  rw [show ((k : Int) % (n : Int)).toNat = k % n by rw [← Int.natCast_emod, Int.toNat_natCast], ← hns, Nat.mul_mod_mul_right]

theorem place_neg {n s : Nat} (h : Ord n s) (k : Nat) : ((-(k : Int)) % (n : Int)).toNat * s = (4096 - k * s % 4096) % 4096 := by
  rcases ord_cases h with h | h | h | h | h | h | h | h | h | h | h | h | h <;> obtain ⟨rfl, rfl⟩ := h <;> omega

theorem place_quarter {n s : Nat} (h : Ord n s) (h4 : 4 ≤ n) (k : Nat) : (k + n / 4) * s % 4096 = (k * s % 4096 + 1024) % 4096 := by
  rcases ord_cases h with h | h | h | h | h | h | h | h | h | h | h | h | h <;> obtain ⟨rfl, rfl⟩ := h <;> omega

theorem ord_twice {n s : Nat} (h : Ord n s) (hn : n ≠ 4096) : Ord (2 * n) (s / 2) ∧ ∀ k : Nat, 2 * k * (s / 2) % 4096 = k * s % 4096 := by
  obtain ⟨e, he, rfl, rfl⟩ := h
  have h12 : e ≠ 12 := fun c => hn (by rw [c])
  have hp : 2 ^ (12 - e) = 2 * 2 ^ (12 - (e + 1)) := by rw [show 12 - e = 12 - (e + 1) + 1 by omega, Nat.pow_succ]; omega
  refine ⟨⟨e + 1, by omega, by rw [Nat.pow_succ]; omega, by omega⟩, fun k => ?_⟩
  rw [hp, Nat.mul_div_cancel_left _ (by decide), Nat.mul_comm 2 k, Nat.mul_assoc]
end Go.Proofs.YthiipodgfbnpeaaDoor
