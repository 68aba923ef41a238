/- What the open cells of a line add up to; a heap of places as a set. Pure. -/
import Derived.Test.YtgbkfmjkemkajabPB2b
import Derived.Test.YtgbkfmjkemkajabPH0
namespace Go.Proofs.Ytgbkfmjkemkajab

/-- What the places add up to. -/
def sumB (p : Nat → Bool) : Nat → Nat
  | 0 => 0
  | k + 1 => sumB p k + if p k = true then k else 0

theorem sum_step (p : Nat → Bool) (k : Nat) : sumB p (k + 1) = sumB p k + if p k = true then k else 0 := rfl
theorem sum_same {p p' : Nat → Bool} {k : Nat} (h : ∀ i, i < k → p i = p' i) : sumB p k = sumB p' k := by
  induction k with
  | zero => rfl
  | succ k ih => rw [sum_step, sum_step, ih fun i hi => h i (by omega), h k (by omega)]
theorem sum_none {p : Nat → Bool} {k : Nat} (h : ∀ i, i < k → p i = false) : sumB p k = 0 := by
  induction k with
  | zero => rfl
  | succ k ih =>
    rw [sum_step, ih fun i hi => h i (by omega), h k (by omega)]
    rfl
theorem sum_less {p : Nat → Bool} {c k : Nat} (hc : c < k) (h : p c = true) : sumB (fun i => if i = c then false else p i) k + c = sumB p k := by
  induction k with
  | zero => omega
  | succ k ih =>
    rw [sum_step, sum_step]
    by_cases e : c = k
    · subst e
      rw [sum_same (p := fun i => if i = c then false else p i) (p' := p) (fun i hi => if_neg (by omega)), if_neg (by simp), if_pos h]
      omega
    · have i1 := ih (by omega)
      have e2 : (if k = c then false else p k) = p k := if_neg (by omega)
      rw [e2]
      omega
theorem sum_le (p : Nat → Bool) (k : Nat) : sumB p k ≤ k * k := by
  induction k with
  | zero => exact Nat.le_refl _
  | succ k ih =>
    rw [sum_step, Nat.succ_mul, Nat.mul_succ]
    split <;> omega
/-- Of just one, it is that one. -/
theorem sum_one {p : Nat → Bool} {k : Nat} (h : cntB p k = 1) : sumB p k < k ∧ p (sumB p k) = true := by
  induction k with
  | zero => cases h
  | succ k ih =>
    rw [cnt_step] at h
    rw [sum_step]
    by_cases e : p k = true
    · rw [if_pos e] at h ⊢
      have : sumB p k = 0 := sum_none fun i hi => by
        cases hp : p i
        · rfl
        · have := cnt_some hi hp
          omega
      rw [this, Nat.zero_add]
      exact ⟨by omega, e⟩
    · rw [if_neg e] at h ⊢
      obtain ⟨h1, h2⟩ := ih h
      exact ⟨by omega, h2⟩

/-- What the open cells of a line add up to. -/
def sumL (n : Nat) (d : Int × Int) (b : Nat → Bool) (j : Int) : Nat := sumB (onB n d b j) (n * n)

theorem sumL_le {n : Nat} (h64 : n ≤ 64) (d : Int × Int) (b : Nat → Bool) (j : Int) : sumL n d b j ≤ 16777216 := by
  have := sum_le (onB n d b j) (n * n)
  have h2 : n * n ≤ 4096 := Nat.mul_le_mul h64 h64
  have h3 : n * n * (n * n) ≤ 4096 * 4096 := Nat.mul_le_mul h2 h2
  unfold sumL
  omega
theorem sumL_shut {n : Nat} {d : Int × Int} {b : Nat → Bool} {c : Nat} (hc : c < n * n) (h : b c = true) (j : Int) : sumL n d (shutB b c) j + (if lnI n d c = j then c else 0) = sumL n d b j := by
  by_cases e : lnI n d c = j
  · rw [if_pos e]
    have := sum_less (p := onB n d b j) hc (onB_true.2 ⟨h, e⟩)
    unfold sumL
    rw [← this]
    congr 1
    refine sum_same fun i _ => ?_
    unfold onB shutB
    by_cases ec : i = c
    · rw [if_pos ec, if_pos ec]
      rfl
    · rw [if_neg ec, if_neg ec]
  · rw [if_neg e, Nat.add_zero]
    refine sum_same fun i _ => ?_
    unfold onB shutB
    by_cases ec : i = c
    · subst ec
      rw [if_pos rfl]
      simp [e]
    · rw [if_neg ec]
theorem sumL_one {n : Nat} {d : Int × Int} {b : Nat → Bool} {j : Int} (h : cntL n d b j = 1) : sumL n d b j < n * n ∧ b (sumL n d b j) = true ∧ lnI n d (sumL n d b j) = j := by
  obtain ⟨h1, h2⟩ := sum_one (p := onB n d b j) h
  obtain ⟨h3, h4⟩ := onB_true.1 h2
  exact ⟨h1, h3, h4⟩

/-- The first m cells. -/
def ltB (m : Nat) : Nat → Bool := fun i => decide (i < m)
theorem ltB_shut (m : Nat) : shutB (ltB (m + 1)) m = ltB m := by
  funext i
  unfold shutB ltB
  by_cases e : i = m
  · rw [if_pos e]
    simp [e]
  · rw [if_neg e]
    by_cases h : i < m
    · simp [h]; omega
    · simp [h]; omega
theorem ltB_at (m : Nat) : ltB (m + 1) m = true := by unfold ltB; simp
theorem cntL_up {n : Nat} {d : Int × Int} {m : Nat} (hm : m < n * n) (j : Int) : cntL n d (ltB (m + 1)) j = cntL n d (ltB m) j + (if lnI n d m = j then 1 else 0) := by
  have := cntL_shut (d := d) hm (ltB_at m) j
  rw [ltB_shut] at this
  exact this.symm
theorem sumL_up {n : Nat} {d : Int × Int} {m : Nat} (hm : m < n * n) (j : Int) : sumL n d (ltB (m + 1)) j = sumL n d (ltB m) j + (if lnI n d m = j then m else 0) := by
  have := sumL_shut (d := d) hm (ltB_at m) j
  rw [ltB_shut] at this
  exact this.symm
theorem cntL_zero (n : Nat) (d : Int × Int) (j : Int) : cntL n d (ltB 0) j = 0 := cnt_none fun i _ => by unfold onB ltB; simp
theorem sumL_zero (n : Nat) (d : Int × Int) (j : Int) : sumL n d (ltB 0) j = 0 := sum_none fun i _ => by unfold onB ltB; simp
theorem onB_all {n : Nat} {d : Int × Int} {j : Int} {i : Nat} (h : i < n * n) : onB n d (ltB (n * n)) j i = onB n d (fun _ => true) j i := by
  unfold onB ltB
  simp [h]
theorem cntL_all (n : Nat) (d : Int × Int) (j : Int) : cntL n d (ltB (n * n)) j = cntL n d (fun _ => true) j := cnt_same fun _ hi => onB_all hi
theorem sumL_all (n : Nat) (d : Int × Int) (j : Int) : sumL n d (ltB (n * n)) j = sumL n d (fun _ => true) j := sum_same fun _ hi => onB_all hi

/-- A place of a bin. -/
def okP (n : Nat) (L : List (Int × Int)) (x : Nat × Nat) : Prop := x.1 < L.length ∧ x.2 < binN n (dk L x.1)
/-- Each in the heap is a bin's that has come to one; each bin that has just one is there, but for one. -/
structure QOk (n : Nat) (L : List (Int × Int)) (bk : Nat → Nat → Bool) (f : Nat → Nat × Nat) (m : Nat) (but : Nat × Nat → Prop) : Prop where
  ok : ∀ x, InQ f m x → okP n L x ∧ cntL n (dk L x.1) (bk x.1) (x.2 : Int) ≤ 1
  all : ∀ x, okP n L x → cntL n (dk L x.1) (bk x.1) (x.2 : Int) = 1 → InQ f m x ∨ but x

/-- The k-th direction's row is behind the closing. -/
def bkAt (b : Nat → Bool) (c k : Nat) : Nat → Nat → Bool := fun i => if i < k then shutB b c else b
theorem bkAt_zero (b : Nat → Bool) (c : Nat) : bkAt b c 0 = fun _ => b := rfl
theorem bkAt_ne {b : Nat → Bool} {c k i : Nat} (h : i ≠ k) : bkAt b c (k + 1) i = bkAt b c k i := by
  unfold bkAt
  by_cases e : i < k
  · rw [if_pos e, if_pos (by omega)]
  · rw [if_neg e, if_neg (by omega)]
theorem bkAt_new {b : Nat → Bool} {c k : Nat} : bkAt b c (k + 1) k = shutB b c := if_pos (by omega)
theorem bkAt_old {b : Nat → Bool} {c k : Nat} : bkAt b c k k = b := if_neg (by omega)

theorem cntL_less {n : Nat} {d : Int × Int} {b : Nat → Bool} {c : Nat} (hc : c < n * n) (h : b c = true) (j : Int) : cntL n d (shutB b c) j ≤ cntL n d b j := by
  have := cntL_shut (d := d) hc h j
  omega

section
variable {n : Nat} {L : List (Int × Int)} {b : Nat → Bool} {c k j : Nat} {f : Nat → Nat × Nat} {m : Nat} {but : Nat × Nat → Prop}

/-- The k-th direction's line of the cell that is closed does not come to one. -/
theorem QOk.pass (h : QOk n L (bkAt b c k) f m but) (hc : c < n * n) (hb : b c = true) (hl : lnI n (dk L k) c = (j : Int)) (h1 : cntL n (dk L k) (shutB b c) (j : Int) ≠ 1) : QOk n L (bkAt b c (k + 1)) f m but := by
  refine ⟨fun x hx => ?_, fun x hx hx1 => ?_⟩
  · obtain ⟨h2, h3⟩ := h.ok x hx
    refine ⟨h2, ?_⟩
    by_cases e : x.1 = k
    · rw [e, bkAt_old] at h3
      rw [e, bkAt_new]
      exact Nat.le_trans (cntL_less hc hb _) h3
    · rw [bkAt_ne e]; exact h3
  · refine h.all x hx ?_
    by_cases e : x.1 = k
    · rw [e, bkAt_new] at hx1
      rw [e, bkAt_old]
      have := cntL_shut (d := dk L k) hc hb (x.2 : Int)
      by_cases e2 : (x.2 : Int) = (j : Int)
      · rw [e2] at hx1
        exact absurd hx1 h1
      · rw [if_neg (by omega)] at this
        omega
    · rw [bkAt_ne e] at hx1; exact hx1
/-- It comes to one, and is put into the heap. -/
theorem QOk.put {f' : Nat → Nat × Nat} (h : QOk n L (bkAt b c k) f m but) (hc : c < n * n) (hb : b c = true) (hk : k < L.length) (hj : j < binN n (dk L k)) (hl : lnI n (dk L k) c = (j : Int)) (h1 : cntL n (dk L k) (shutB b c) (j : Int) = 1)
    (hf : ∀ x, InQ f' (m + 1) x ↔ x = (k, j) ∨ InQ f m x) : QOk n L (bkAt b c (k + 1)) f' (m + 1) but := by
  refine ⟨fun x hx => ?_, fun x hx hx1 => ?_⟩
  · rcases (hf x).1 hx with rfl | hx
    · refine ⟨⟨hk, hj⟩, ?_⟩
      dsimp only
      rw [bkAt_new]
      omega
    · obtain ⟨h2, h3⟩ := h.ok x hx
      refine ⟨h2, ?_⟩
      by_cases e : x.1 = k
      · rw [e, bkAt_old] at h3
        rw [e, bkAt_new]
        exact Nat.le_trans (cntL_less hc hb _) h3
      · rw [bkAt_ne e]; exact h3
  · by_cases ex : x = (k, j)
    · exact Or.inl ((hf x).2 (Or.inl ex))
    · suffices hs : cntL n (dk L x.1) (bkAt b c k x.1) (x.2 : Int) = 1 by
        rcases h.all x hx hs with hq | hq
        · exact Or.inl ((hf x).2 (Or.inr hq))
        · exact Or.inr hq
      by_cases e : x.1 = k
      · rw [e, bkAt_new] at hx1
        rw [e, bkAt_old]
        have := cntL_shut (d := dk L k) hc hb (x.2 : Int)
        rw [if_neg (fun e2 => ex (Prod.ext e (by rw [hl] at e2; exact (Int.ofNat.inj e2).symm)))] at this
        omega
      · rw [bkAt_ne e] at hx1; exact hx1
/-- Behind the last direction. -/
theorem QOk.shut (h : QOk n L (bkAt b c L.length) f m (fun x => x = (k, j))) (hc : c < n * n) (hb : b c = true) (hl : lnI n (dk L k) c = (j : Int)) (h1 : cntL n (dk L k) b (j : Int) = 1) : QOk n L (fun _ => shutB b c) f m (fun _ => False) := by
  refine ⟨fun x hx => ?_, fun x hx hx1 => ?_⟩
  · obtain ⟨h2, h3⟩ := h.ok x hx
    have e : bkAt b c L.length x.1 = shutB b c := if_pos h2.1
    rw [e] at h3
    exact ⟨h2, h3⟩
  · have e : bkAt b c L.length x.1 = shutB b c := if_pos hx.1
    rcases h.all x hx (by rw [e]; exact hx1) with hq | rfl
    · exact Or.inl hq
    · dsimp only at hx1
      have := cntL_shut (d := dk L k) hc hb (j : Int)
      rw [if_pos hl] at this
      omega
/-- One is taken out of which no cell is open. -/
theorem QOk.skip {f' : Nat → Nat × Nat} (h : QOk n L (fun _ => b) f (m + 1) (fun _ => False)) (hf : ∀ x, InQ f (m + 1) x → x = (k, j) ∨ InQ f' m x) (hs : ∀ x, InQ f' m x → InQ f (m + 1) x) (h1 : cntL n (dk L k) b (j : Int) ≠ 1) : QOk n L (fun _ => b) f' m (fun _ => False) := by
  refine ⟨fun x hx => h.ok x (hs x hx), fun x hx hx1 => ?_⟩
  rcases h.all x hx hx1 with hq | hq
  · rcases hf x hq with rfl | hq
    · exact absurd hx1 h1
    · exact Or.inl hq
  · exact hq.elim
theorem QOk.take {f' : Nat → Nat × Nat} (h : QOk n L (fun _ => b) f (m + 1) (fun _ => False)) (hf : ∀ x, InQ f (m + 1) x → x = (k, j) ∨ InQ f' m x) (hs : ∀ x, InQ f' m x → InQ f (m + 1) x) : QOk n L (fun _ => b) f' m (fun x => x = (k, j)) := by
  refine ⟨fun x hx => h.ok x (hs x hx), fun x hx hx1 => ?_⟩
  rcases h.all x hx hx1 with hq | hq
  · rcases hf x hq with rfl | hq
    · exact Or.inr rfl
    · exact Or.inl hq
  · exact hq.elim
/-- None is left. -/
theorem QOk.done (h : QOk n L (fun _ => b) f 0 (fun _ => False)) : ∀ k, k < L.length → ∀ j, j < binN n (dk L k) → cntL n (dk L k) b (j : Int) ≠ 1 := fun k hk j hj h1 => by
  rcases h.all (k, j) ⟨hk, hj⟩ h1 with ⟨i, hi, _⟩ | hq
  · omega
  · exact hq
end
end Go.Proofs.Ytgbkfmjkemkajab
