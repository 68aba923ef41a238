/- The ghost of directions, in whole numbers: what lies at each place, how great it is, that the order of the directions changes nothing. -/
import Derived.Test.YtfddchjonjklkaaDQ
namespace Go.Proofs.Ytfddchjonjklkaa

/-- Moved by (a, b). -/
def sh (a b : Nat) (G : Nat → Nat → Int) (x y : Nat) : Int := if a ≤ x ∧ b ≤ y then G (x - a) (y - b) else 0
/-- Where the first copy lies, where the second one. -/
def gax (d : Int × Int) : Nat := (-d.1).toNat
def gbx (d : Int × Int) : Nat := d.1.toNat
def gby (d : Int × Int) : Nat := d.2.toNat
def gstep (G : Nat → Nat → Int) (d : Int × Int) (x y : Nat) : Int := sh (gax d) 0 G x y - sh (gbx d) (gby d) G x y
def gone (x y : Nat) : Int := if x = 0 ∧ y = 0 then 1 else 0
def gh (L : List (Int × Int)) : Nat → Nat → Int := L.foldl gstep gone

theorem gh_snoc (L : List (Int × Int)) (d : Int × Int) : gh (L ++ [d]) = gstep (gh L) d := by
  unfold gh
  rw [List.foldl_append]
  rfl

theorem sh_sh (a b c d : Nat) (G : Nat → Nat → Int) : sh a b (sh c d G) = sh (a + c) (b + d) G := by
  funext x y
  unfold sh
  by_cases h : a ≤ x ∧ b ≤ y
  · rw [if_pos h]
    by_cases k : c ≤ x - a ∧ d ≤ y - b
    · rw [if_pos k, if_pos (by omega), show x - a - c = x - (a + c) by omega, show y - b - d = y - (b + d) by omega]
    · rw [if_neg k, if_neg (by omega)]
  · rw [if_neg h, if_neg (by omega)]

theorem sh_sub (a b : Nat) (G H : Nat → Nat → Int) (x y : Nat) : sh a b (fun x y => G x y - H x y) x y = sh a b G x y - sh a b H x y := by
  unfold sh
  split
  · rfl
  · rfl

theorem gstep_comm (G : Nat → Nat → Int) (d e : Int × Int) : gstep (gstep G d) e = gstep (gstep G e) d := by
  funext x y
  have key : ∀ d e : Int × Int, gstep (gstep G d) e x y = sh (gax e + gax d) (0 + 0) G x y - sh (gax e + gbx d) (0 + gby d) G x y - (sh (gbx e + gax d) (gby e + 0) G x y - sh (gbx e + gbx d) (gby e + gby d) G x y) := by
    intro d e
    have h : ∀ a b, sh a b (gstep G d) x y = sh (a + gax d) (b + 0) G x y - sh (a + gbx d) (b + gby d) G x y := by
      intro a b
      show sh a b (fun x y => sh (gax d) 0 G x y - sh (gbx d) (gby d) G x y) x y = _
      rw [sh_sub, sh_sh, sh_sh]
    show sh (gax e) 0 (gstep G d) x y - sh (gbx e) (gby e) (gstep G d) x y = _
    rw [h, h]
  rw [key d e, key e d]
  simp only [Nat.zero_add, Nat.add_zero]
  rw [Nat.add_comm (gax d) (gax e), Nat.add_comm (gax d) (gbx e), Nat.add_comm (gbx d) (gax e), Nat.add_comm (gbx d) (gbx e), Nat.add_comm (gby d) (gby e)]
  omega

theorem fold_step (L : List (Int × Int)) (G : Nat → Nat → Int) (d : Int × Int) : L.foldl gstep (gstep G d) = gstep (L.foldl gstep G) d := by
  induction L generalizing G with
  | nil => rfl
  | cons e L ih =>
    show L.foldl gstep (gstep (gstep G d) e) = gstep (L.foldl gstep (gstep G e)) d
    rw [gstep_comm, ih]

theorem gh_reverse (L : List (Int × Int)) : gh L.reverse = gh L := by
  induction L with
  | nil => rfl
  | cons d L ih =>
    rw [List.reverse_cons, gh_snoc, ih]
    unfold gh
    rw [← fold_step]
    rfl

theorem sumP_reverse (L : List (Int × Int)) : sumP L.reverse = sumP L := by
  induction L with
  | nil => rfl
  | cons d L ih =>
    rw [List.reverse_cons, sumP_snoc, ih]
    show sumP L + d.1.natAbs = d.1.natAbs + sumP L
    omega

theorem sumQ_reverse (L : List (Int × Int)) : sumQ L.reverse = sumQ L := by
  induction L with
  | nil => rfl
  | cons d L ih =>
    rw [List.reverse_cons, sumQ_snoc, ih]
    show sumQ L + d.2 = d.2 + sumQ L
    omega

theorem rev_rec {p : List (Int × Int) → Prop} (h0 : p []) (h1 : ∀ L d, p L → p (L ++ [d])) (L : List (Int × Int)) : p L := by
  have : ∀ M : List (Int × Int), p M.reverse := by
    intro M
    induction M with
    | nil => exact h0
    | cons d M ih =>
      rw [List.reverse_cons]
      exact h1 _ _ ih
  have h := this L.reverse
  rwa [List.reverse_reverse] at h

/-- Beyond its measures there is nothing. -/
theorem gh_supp (L : List (Int × Int)) (hq : ∀ d, d ∈ L → 0 ≤ d.2) : ∀ x y : Nat, gh L x y ≠ 0 → (x : Int) ≤ sumP L ∧ (y : Int) ≤ sumQ L := by
  refine rev_rec (p := fun L => (∀ d, d ∈ L → 0 ≤ d.2) → ∀ x y : Nat, gh L x y ≠ 0 → (x : Int) ≤ sumP L ∧ (y : Int) ≤ sumQ L) ?_ ?_ L hq
  · intro _ x y h
    have h' : (if x = 0 ∧ y = 0 then (1 : Int) else 0) ≠ 0 := h
    split at h'
    · rename_i e
      rw [e.1, e.2]
      exact ⟨by decide, by decide⟩
    · exact absurd rfl h'
  · intro L d ih hq x y h
    rw [gh_snoc] at h
    rw [sumP_snoc, sumQ_snoc]
    have ih := ih fun e he => hq e (List.mem_append_left _ he)
    have hd := hq d (List.mem_append_right _ (List.mem_singleton_self d))
    unfold gstep sh at h
    by_cases h1 : (if gax d ≤ x ∧ 0 ≤ y then gh L (x - gax d) (y - 0) else 0) = 0
    · rw [h1] at h
      split at h
      · rename_i c
        have := ih _ _ (fun e => h (by rw [e]; rfl))
        unfold gbx gby at *
        omega
      · exact absurd rfl h
    · split at h1
      · rename_i c
        have := ih _ _ h1
        unfold gax at *
        omega
      · exact absurd rfl h1

theorem gh_le (L : List (Int × Int)) (x y : Nat) : (gh L x y).natAbs ≤ 2 ^ L.length := by
  refine rev_rec (p := fun L => ∀ x y, (gh L x y).natAbs ≤ 2 ^ L.length) ?_ ?_ L x y
  · intro x y
    show (if x = 0 ∧ y = 0 then (1 : Int) else 0).natAbs ≤ 1
    split <;> decide
  · intro L d ih x y
    rw [gh_snoc, List.length_append]
    show (gstep (gh L) d x y).natAbs ≤ 2 ^ (L.length + 1)
    rw [Nat.pow_succ]
    have s : ∀ a b, (sh a b (gh L) x y).natAbs ≤ 2 ^ L.length := by
      intro a b
      unfold sh
      split
      · exact ih _ _
      · exact Nat.zero_le _
    have s1 := s (gax d) 0
    have s2 := s (gbx d) (gby d)
    unfold gstep
    omega
end Go.Proofs.Ytfddchjonjklkaa
