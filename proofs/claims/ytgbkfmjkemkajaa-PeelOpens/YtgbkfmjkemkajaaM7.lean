/- A heap of places as a set. Pure. What the open cells of a line add up to; a heap of places as a set. Pure. The heap's own methods: what they do to a row of places. The heap's methods, found by their names. -/
import Derived.Test.YtgbkfmjkemkajaaM1
import Derived.Test.YtgbkfmjkemkajaaPB2b
import Derived.Deep.RegionHeld3
import Derived.Deep.RegionLaw
import Derived.Maps.AppendAt
namespace Go.Proofs.Ytgbkfmjkemkajaa

/-- Is a place among the first m? -/
def InQ (f : Nat → Nat × Nat) (m : Nat) (x : Nat × Nat) : Prop := ∃ i, i < m ∧ f i = x
def swapF (f : Nat → Nat × Nat) (i j : Nat) : Nat → Nat × Nat := fun k => if k = i then f j else if k = j then f i else f k
theorem inQ_swap {f : Nat → Nat × Nat} {i j m : Nat} (hi : i < m) (hj : j < m) (x : Nat × Nat) : InQ (swapF f i j) m x ↔ InQ f m x := by
  constructor
  · rintro ⟨k, hk, rfl⟩
    unfold swapF
    by_cases e : k = i
    · rw [if_pos e]; exact ⟨j, hj, rfl⟩
    · rw [if_neg e]
      by_cases e2 : k = j
      · rw [if_pos e2]; exact ⟨i, hi, rfl⟩
      · rw [if_neg e2]; exact ⟨k, hk, rfl⟩
  · rintro ⟨k, hk, rfl⟩
    by_cases e : k = i
    · refine ⟨j, hj, ?_⟩
      unfold swapF
      by_cases e2 : j = i
      · rw [if_pos e2, e, e2]
      · rw [if_neg e2, if_pos rfl, e]
    · by_cases e2 : k = j
      · refine ⟨i, hi, ?_⟩
        unfold swapF
        rw [if_pos rfl, e2]
      · refine ⟨k, hk, ?_⟩
        unfold swapF
        rw [if_neg e, if_neg e2]
theorem swapF_out {f : Nat → Nat × Nat} {i j k : Nat} (hi : k ≠ i) (hj : k ≠ j) : swapF f i j k = f k := by
  unfold swapF
  rw [if_neg hi, if_neg hj]
/-- One more behind. -/
def putF (f : Nat → Nat × Nat) (m : Nat) (x : Nat × Nat) : Nat → Nat × Nat := fun k => if k = m then x else f k
theorem inQ_put {f : Nat → Nat × Nat} {m : Nat} {x y : Nat × Nat} : InQ (putF f m x) (m + 1) y ↔ y = x ∨ InQ f m y := by
  constructor
  · rintro ⟨k, hk, rfl⟩
    unfold putF
    by_cases e : k = m
    · rw [if_pos e]; exact Or.inl rfl
    · rw [if_neg e]; exact Or.inr ⟨k, by omega, rfl⟩
  · rintro (rfl | ⟨k, hk, rfl⟩)
    · exact ⟨m, by omega, by unfold putF; rw [if_pos rfl]⟩
    · exact ⟨k, by omega, by unfold putF; rw [if_neg (by omega)]⟩
theorem inQ_less {f : Nat → Nat × Nat} {m : Nat} {y : Nat × Nat} (h : InQ f (m + 1) y) : y = f m ∨ InQ f m y := by
  obtain ⟨k, hk, rfl⟩ := h
  by_cases e : k = m
  · rw [e]; exact Or.inl rfl
  · exact Or.inr ⟨k, by omega, rfl⟩
theorem inQ_more {f : Nat → Nat × Nat} {m : Nat} {y : Nat × Nat} (h : InQ f m y) : InQ f (m + 1) y := by
  obtain ⟨k, hk, rfl⟩ := h
  exact ⟨k, by omega, rfl⟩

end Go.Proofs.Ytgbkfmjkemkajaa

namespace Go.Proofs.Ytgbkfmjkemkajaa

/-- What the places add up to. -/
def sumB (p : Nat → Bool) : Nat → Nat
  | 0 => 0
  | k + 1 => sumB p k + if p k = true then k else 0

theorem sum_step (p : Nat → Bool) (k : Nat) : sumB p (k + 1) = sumB p k + if p k = true then k else 0 := rfl
theorem sum_same {p p' : Nat → Bool} {k : Nat} (h : ∀ i, i < k → p i = p' i) : sumB p k = sumB p' k := by
  induction k with
  | zero => rfl
  | succ k ih => rw [sum_step, sum_step, ih fun i hi => h i (by omega), h k (by omega)]
theorem sum_none {p : Nat → Bool} {k : Nat} (h : ∀ i, i < k → p i = false) : sumB p k = 0 := by
  induction k with
  | zero => rfl
  | succ k ih =>
    rw [sum_step, ih fun i hi => h i (by omega), h k (by omega)]
    rfl
theorem sum_less {p : Nat → Bool} {c k : Nat} (hc : c < k) (h : p c = true) : sumB (fun i => if i = c then false else p i) k + c = sumB p k := by
  induction k with
  | zero => omega
  | succ k ih =>
    rw [sum_step, sum_step]
    by_cases e : c = k
    · subst e
      rw [sum_same (p := fun i => if i = c then false else p i) (p' := p) (fun i hi => if_neg (by omega)), if_neg (by simp), if_pos h]
      omega
    · have i1 := ih (by omega)
      have e2 : (if k = c then false else p k) = p k := if_neg (by omega)
      rw [e2]
      omega
theorem sum_le (p : Nat → Bool) (k : Nat) : sumB p k ≤ k * k := by
  induction k with
  | zero => exact Nat.le_refl _
  | succ k ih =>
    rw [sum_step, Nat.succ_mul, Nat.mul_succ]
    split <;> omega
/-- Of just one, it is that one. -/
theorem sum_one {p : Nat → Bool} {k : Nat} (h : cntB p k = 1) : sumB p k < k ∧ p (sumB p k) = true := by
  induction k with
  | zero => cases h
  | succ k ih =>
    rw [cnt_step] at h
    rw [sum_step]
    by_cases e : p k = true
    · rw [if_pos e] at h ⊢
      have : sumB p k = 0 := sum_none fun i hi => by
        cases hp : p i
        · rfl
        · have := cnt_some hi hp
          omega
      rw [this, Nat.zero_add]
      exact ⟨by omega, e⟩
    · rw [if_neg e] at h ⊢
      obtain ⟨h1, h2⟩ := ih h
      exact ⟨by omega, h2⟩

/-- What the open cells of a line add up to. -/
def sumL (n : Nat) (d : Int × Int) (b : Nat → Bool) (j : Int) : Nat := sumB (onB n d b j) (n * n)

theorem sumL_le {n : Nat} (h64 : n ≤ 64) (d : Int × Int) (b : Nat → Bool) (j : Int) : sumL n d b j ≤ 16777216 := by
  have := sum_le (onB n d b j) (n * n)
  have h2 : n * n ≤ 4096 := Nat.mul_le_mul h64 h64
  have h3 : n * n * (n * n) ≤ 4096 * 4096 := Nat.mul_le_mul h2 h2
  unfold sumL
  omega
theorem sumL_shut {n : Nat} {d : Int × Int} {b : Nat → Bool} {c : Nat} (hc : c < n * n) (h : b c = true) (j : Int) : sumL n d (shutB b c) j + (if lnI n d c = j then c else 0) = sumL n d b j := by
  by_cases e : lnI n d c = j
  · rw [if_pos e]
    have := sum_less (p := onB n d b j) hc (onB_true.2 ⟨h, e⟩)
    unfold sumL
    rw [← this]
    congr 1
    refine sum_same fun i _ => ?_
    unfold onB shutB
    by_cases ec : i = c
    · rw [if_pos ec, if_pos ec]
      rfl
    · rw [if_neg ec, if_neg ec]
  · rw [if_neg e, Nat.add_zero]
    refine sum_same fun i _ => ?_
    unfold onB shutB
    by_cases ec : i = c
    · subst ec
      rw [if_pos rfl]
      simp [e]
    · rw [if_neg ec]
theorem sumL_one {n : Nat} {d : Int × Int} {b : Nat → Bool} {j : Int} (h : cntL n d b j = 1) : sumL n d b j < n * n ∧ b (sumL n d b j) = true ∧ lnI n d (sumL n d b j) = j := by
  obtain ⟨h1, h2⟩ := sum_one (p := onB n d b j) h
  obtain ⟨h3, h4⟩ := onB_true.1 h2
  exact ⟨h1, h3, h4⟩

/-- The first m cells. -/
def ltB (m : Nat) : Nat → Bool := fun i => decide (i < m)
theorem ltB_shut (m : Nat) : shutB (ltB (m + 1)) m = ltB m := by
  funext i
  unfold shutB ltB
  by_cases e : i = m
  · rw [if_pos e]
    simp [e]
  · rw [if_neg e]
    by_cases h : i < m
    · simp [h]; omega
    · simp [h]; omega
theorem ltB_at (m : Nat) : ltB (m + 1) m = true := by unfold ltB; simp
theorem cntL_up {n : Nat} {d : Int × Int} {m : Nat} (hm : m < n * n) (j : Int) : cntL n d (ltB (m + 1)) j = cntL n d (ltB m) j + (if lnI n d m = j then 1 else 0) := by
  have := cntL_shut (d := d) hm (ltB_at m) j
  rw [ltB_shut] at this
  exact this.symm
theorem sumL_up {n : Nat} {d : Int × Int} {m : Nat} (hm : m < n * n) (j : Int) : sumL n d (ltB (m + 1)) j = sumL n d (ltB m) j + (if lnI n d m = j then m else 0) := by
  have := sumL_shut (d := d) hm (ltB_at m) j
  rw [ltB_shut] at this
  exact this.symm
theorem cntL_zero (n : Nat) (d : Int × Int) (j : Int) : cntL n d (ltB 0) j = 0 := cnt_none fun i _ => by unfold onB ltB; simp
theorem sumL_zero (n : Nat) (d : Int × Int) (j : Int) : sumL n d (ltB 0) j = 0 := sum_none fun i _ => by unfold onB ltB; simp
theorem onB_all {n : Nat} {d : Int × Int} {j : Int} {i : Nat} (h : i < n * n) : onB n d (ltB (n * n)) j i = onB n d (fun _ => true) j i := by
  unfold onB ltB
  simp [h]
theorem cntL_all (n : Nat) (d : Int × Int) (j : Int) : cntL n d (ltB (n * n)) j = cntL n d (fun _ => true) j := cnt_same fun _ hi => onB_all hi
theorem sumL_all (n : Nat) (d : Int × Int) (j : Int) : sumL n d (ltB (n * n)) j = sumL n d (fun _ => true) j := sum_same fun _ hi => onB_all hi

/-- A place of a bin. -/
def okP (n : Nat) (L : List (Int × Int)) (x : Nat × Nat) : Prop := x.1 < L.length ∧ x.2 < binN n (dk L x.1)
/-- Each in the heap is a bin's that has come to one; each bin that has just one is there, but for one. -/
structure QOk (n : Nat) (L : List (Int × Int)) (bk : Nat → Nat → Bool) (f : Nat → Nat × Nat) (m : Nat) (but : Nat × Nat → Prop) : Prop where
  ok : ∀ x, InQ f m x → okP n L x ∧ cntL n (dk L x.1) (bk x.1) (x.2 : Int) ≤ 1
  all : ∀ x, okP n L x → cntL n (dk L x.1) (bk x.1) (x.2 : Int) = 1 → InQ f m x ∨ but x

/-- The k-th direction's row is behind the closing. -/
def bkAt (b : Nat → Bool) (c k : Nat) : Nat → Nat → Bool := fun i => if i < k then shutB b c else b
theorem bkAt_zero (b : Nat → Bool) (c : Nat) : bkAt b c 0 = fun _ => b := rfl
theorem bkAt_ne {b : Nat → Bool} {c k i : Nat} (h : i ≠ k) : bkAt b c (k + 1) i = bkAt b c k i := by
  unfold bkAt
  by_cases e : i < k
  · rw [if_pos e, if_pos (by omega)]
  · rw [if_neg e, if_neg (by omega)]
theorem bkAt_new {b : Nat → Bool} {c k : Nat} : bkAt b c (k + 1) k = shutB b c := if_pos (by omega)
theorem bkAt_old {b : Nat → Bool} {c k : Nat} : bkAt b c k k = b := if_neg (by omega)

theorem cntL_less {n : Nat} {d : Int × Int} {b : Nat → Bool} {c : Nat} (hc : c < n * n) (h : b c = true) (j : Int) : cntL n d (shutB b c) j ≤ cntL n d b j := by
  have := cntL_shut (d := d) hc h j
  omega

section
variable {n : Nat} {L : List (Int × Int)} {b : Nat → Bool} {c k j : Nat} {f : Nat → Nat × Nat} {m : Nat} {but : Nat × Nat → Prop}

/-- The k-th direction's line of the cell that is closed does not come to one. -/
theorem QOk.pass (h : QOk n L (bkAt b c k) f m but) (hc : c < n * n) (hb : b c = true) (hl : lnI n (dk L k) c = (j : Int)) (h1 : cntL n (dk L k) (shutB b c) (j : Int) ≠ 1) : QOk n L (bkAt b c (k + 1)) f m but := by
  refine ⟨fun x hx => ?_, fun x hx hx1 => ?_⟩
  · obtain ⟨h2, h3⟩ := h.ok x hx
    refine ⟨h2, ?_⟩
    by_cases e : x.1 = k
    · rw [e, bkAt_old] at h3
      rw [e, bkAt_new]
      exact Nat.le_trans (cntL_less hc hb _) h3
    · rw [bkAt_ne e]; exact h3
  · refine h.all x hx ?_
    by_cases e : x.1 = k
    · rw [e, bkAt_new] at hx1
      rw [e, bkAt_old]
      have := cntL_shut (d := dk L k) hc hb (x.2 : Int)
      by_cases e2 : (x.2 : Int) = (j : Int)
      · rw [e2] at hx1
        exact absurd hx1 h1
      · rw [if_neg (by omega)] at this
        omega
    · rw [bkAt_ne e] at hx1; exact hx1
/-- It comes to one, and is put into the heap. -/
theorem QOk.put {f' : Nat → Nat × Nat} (h : QOk n L (bkAt b c k) f m but) (hc : c < n * n) (hb : b c = true) (hk : k < L.length) (hj : j < binN n (dk L k)) (hl : lnI n (dk L k) c = (j : Int)) (h1 : cntL n (dk L k) (shutB b c) (j : Int) = 1)
    (hf : ∀ x, InQ f' (m + 1) x ↔ x = (k, j) ∨ InQ f m x) : QOk n L (bkAt b c (k + 1)) f' (m + 1) but := by
  refine ⟨fun x hx => ?_, fun x hx hx1 => ?_⟩
  · rcases (hf x).1 hx with rfl | hx
    · refine ⟨⟨hk, hj⟩, ?_⟩
      dsimp only
      rw [bkAt_new]
      omega
    · obtain ⟨h2, h3⟩ := h.ok x hx
      refine ⟨h2, ?_⟩
      by_cases e : x.1 = k
      · rw [e, bkAt_old] at h3
        rw [e, bkAt_new]
        exact Nat.le_trans (cntL_less hc hb _) h3
      · rw [bkAt_ne e]; exact h3
  · by_cases ex : x = (k, j)
    · exact Or.inl ((hf x).2 (Or.inl ex))
    · suffices hs : cntL n (dk L x.1) (bkAt b c k x.1) (x.2 : Int) = 1 by
        rcases h.all x hx hs with hq | hq
        · exact Or.inl ((hf x).2 (Or.inr hq))
        · exact Or.inr hq
      by_cases e : x.1 = k
      · rw [e, bkAt_new] at hx1
        rw [e, bkAt_old]
        have := cntL_shut (d := dk L k) hc hb (x.2 : Int)
        rw [if_neg (fun e2 => ex (Prod.ext e (by rw [hl] at e2; exact (Int.ofNat.inj e2).symm)))] at this
        omega
      · rw [bkAt_ne e] at hx1; exact hx1
/-- Behind the last direction. -/
theorem QOk.shut (h : QOk n L (bkAt b c L.length) f m (fun x => x = (k, j))) (hc : c < n * n) (hb : b c = true) (hl : lnI n (dk L k) c = (j : Int)) (h1 : cntL n (dk L k) b (j : Int) = 1) : QOk n L (fun _ => shutB b c) f m (fun _ => False) := by
  refine ⟨fun x hx => ?_, fun x hx hx1 => ?_⟩
  · obtain ⟨h2, h3⟩ := h.ok x hx
    have e : bkAt b c L.length x.1 = shutB b c := if_pos h2.1
    rw [e] at h3
    exact ⟨h2, h3⟩
  · have e : bkAt b c L.length x.1 = shutB b c := if_pos hx.1
    rcases h.all x hx (by rw [e]; exact hx1) with hq | rfl
    · exact Or.inl hq
    · dsimp only at hx1
      have := cntL_shut (d := dk L k) hc hb (j : Int)
      rw [if_pos hl] at this
      omega
/-- One is taken out of which no cell is open. -/
theorem QOk.skip {f' : Nat → Nat × Nat} (h : QOk n L (fun _ => b) f (m + 1) (fun _ => False)) (hf : ∀ x, InQ f (m + 1) x → x = (k, j) ∨ InQ f' m x) (hs : ∀ x, InQ f' m x → InQ f (m + 1) x) (h1 : cntL n (dk L k) b (j : Int) ≠ 1) : QOk n L (fun _ => b) f' m (fun _ => False) := by
  refine ⟨fun x hx => h.ok x (hs x hx), fun x hx hx1 => ?_⟩
  rcases h.all x hx hx1 with hq | hq
  · rcases hf x hq with rfl | hq
    · exact absurd hx1 h1
    · exact Or.inl hq
  · exact hq.elim
theorem QOk.take {f' : Nat → Nat × Nat} (h : QOk n L (fun _ => b) f (m + 1) (fun _ => False)) (hf : ∀ x, InQ f (m + 1) x → x = (k, j) ∨ InQ f' m x) (hs : ∀ x, InQ f' m x → InQ f (m + 1) x) : QOk n L (fun _ => b) f' m (fun x => x = (k, j)) := by
  refine ⟨fun x hx => h.ok x (hs x hx), fun x hx hx1 => ?_⟩
  rcases h.all x hx hx1 with hq | hq
  · rcases hf x hq with rfl | hq
    · exact Or.inr rfl
    · exact Or.inl hq
  · exact hq.elim
/-- None is left. -/
theorem QOk.done (h : QOk n L (fun _ => b) f 0 (fun _ => False)) : ∀ k, k < L.length → ∀ j, j < binN n (dk L k) → cntL n (dk L k) b (j : Int) ≠ 1 := fun k hk j hj h1 => by
  rcases h.all (k, j) ⟨hk, hj⟩ h1 with ⟨i, hi, _⟩ | hq
  · omega
  · exact hq
end
end Go.Proofs.Ytgbkfmjkemkajaa

namespace Go.Proofs.Ytgbkfmjkemkajaa
open Go.RowKit

/-- A row of places. -/
def PRow (w : World) (q m cap : Nat) (f : Nat → Nat × Nat) : Prop := ∃ cur : Array Value, w.heap[q]? = some (.cells cur 81 (0, 0)) ∧ (cur.size = cap * 2 ∧ m ≤ cap ∧ cap ≤ maxLen) ∧ ∀ i, i < m → cur[i * 2]? = some (.int .i64 ((f i).1 : Nat)) ∧ cur[i * 2 + 1]? = some (.int .i64 ((f i).2 : Nat))

theorem prow_at {w : World} {q m cap : Nat} {f : Nat → Nat × Nat} (h : PRow w q m cap f) {i : Nat} (hi : i < m) : w.cell? ⟨q, i * 2, none⟩ = some (.int .i64 ((f i).1 : Nat)) ∧ w.cell? ⟨q, i * 2 + 1, none⟩ = some (.int .i64 ((f i).2 : Nat)) := by
  obtain ⟨cur, h1, h2, h3⟩ := h
  obtain ⟨h4, h5⟩ := h3 i hi
  constructor
  · rw [cell_of_row w q _ cur _ (0, 0) h1]; exact h4
  · rw [cell_of_row w q _ cur _ (0, 0) h1]; exact h5
theorem prow_frozen {w : World} {q m cap : Nat} {f : Nat → Nat × Nat} (h : PRow w q m cap f) (i : Nat) : w.frozen? ⟨q, i, none⟩ = false := by
  obtain ⟨cur, h1, h2, h3⟩ := h
  exact frozen_of_row w q i cur _ h1
theorem prow_lt {w : World} {q m cap : Nat} {f : Nat → Nat × Nat} (h : PRow w q m cap f) : q < w.heap.size := by
  obtain ⟨cur, h1, _⟩ := h
  exact (Array.getElem?_eq_some_iff.1 h1).1
theorem prow_keep {w w' : World} {q m cap : Nat} {f : Nat → Nat × Nat} (h : PRow w q m cap f) (hb : w'.heap[q]? = w.heap[q]?) : PRow w' q m cap f := by
  obtain ⟨cur, h1, h2, h3⟩ := h
  exact ⟨cur, by rw [hb]; exact h1, h2, h3⟩

set_option maxRecDepth 100000 in
set_option maxHeartbeats 1600000 in
theorem qLess {q m cap i j : Nat} {f : Nat → Nat × Nat} (hi : i < m) (hj : j < m) (w : World) (h : PRow w q m cap f) :
    Calls Try.prog 108 #[.slice (some ⟨q, 0, none⟩) m cap, .int .i64 i, .int .i64 j] w fun e w' => (∃ b, e = .returned (.bool b)) ∧ Below w.heap.size w w' := by
  obtain ⟨c1, c2⟩ := prow_at h hi
  obtain ⟨d1, d2⟩ := prow_at h hj
  have q1 : ((i : Int) < (m : Int)) = True := by simp; omega
  have q2 : ((j : Int) < (m : Int)) = True := by simp; omega
  generalize (f i).1 = a1 at *
  generalize (f i).2 = a2 at *
  generalize (f j).1 = b1 at *
  generalize (f j).2 = b2 at *
  clear h hi hj
  by_cases e : a1 = b1
  · subst e
    go_enter Try.func108, Try.ntmps108
    go_wp2_with fail
    go_quiet (fail)
    go_wp2_with fail
    go_quiet (fail)
    go_wp2_with fail
    go_ret
    exact ⟨⟨_, rfl⟩, ⟨rfl, rfl, rfl, Nat.le_refl _, fun _ _ => rfl⟩⟩
  · have q3 : ((a1 : Int) == (b1 : Int)) = false := by simp; omega
    have e' := hide e
    clear e
    go_enter Try.func108, Try.ntmps108
    go_wp2_with fail
    go_quiet (fail)
    go_wp2_with fail
    go_quiet (fail)
    go_wp2_with fail
    go_ret
    exact ⟨⟨_, rfl⟩, ⟨rfl, rfl, rfl, Nat.le_refl _, fun _ _ => rfl⟩⟩

/-- What lies there is left as it lay. -/
structure Aside (S : Nat → Prop) (w w' : World) : Prop where
  os : w'.os = w.os
  tape : w'.tape = w.tape
  output : w'.output = w.output
  size : w.heap.size ≤ w'.heap.size
  block : ∀ g, S g → w'.heap[g]? = w.heap[g]?
theorem Aside.refl (S : Nat → Prop) (w : World) : Aside S w w := ⟨rfl, rfl, rfl, Nat.le_refl _, fun _ _ => rfl⟩
theorem Aside.trans {S : Nat → Prop} {w w' w'' : World} (h : Aside S w w') (k : Aside S w' w'') : Aside S w w'' :=
  ⟨k.os.trans h.os, k.tape.trans h.tape, k.output.trans h.output, Nat.le_trans h.size k.size, fun g hg => (k.block g hg).trans (h.block g hg)⟩
theorem Aside.mono {S S' : Nat → Prop} {w w' : World} (h : Aside S w w') (hs : ∀ g, S' g → S g) : Aside S' w w' := ⟨h.os, h.tape, h.output, h.size, fun g hg => h.block g (hs g hg)⟩
theorem Aside.of_below {S : Nat → Prop} {n : Nat} {w w' : World} (h : Below n w w') (hs : ∀ g, S g → g < n) : Aside S w w' := ⟨h.os, h.tape, h.output, h.size, fun g hg => h.block g (hs g hg)⟩
theorem Aside.below {S : Nat → Prop} {n : Nat} {w w' : World} (h : Aside S w w') (hs : ∀ g, g < n → S g) : Below n w w' := ⟨h.os, h.tape, h.output, h.size, fun g hg => h.block g (hs g hg)⟩

theorem Aside.drew {S : Nat → Prop} {w w' : World} (h : Aside S w w') : Aside S w w'.drew := ⟨h.os, h.tape, h.output, h.size, h.block⟩
theorem Aside.setCell {S : Nat → Prop} {w w' : World} (h : Aside S w w') {p : Addr} (hp : ¬ S p.block) (v : Value) : Aside S w (w'.setCell p v) := by
  have k := (Below.refl 0 w').setCell (p := p) (Nat.zero_le _) v
  exact ⟨k.os.trans h.os, k.tape.trans h.tape, k.output.trans h.output, Nat.le_trans h.size k.size, fun g hg => (Below.heap_setCell _ _ _ _ (fun e => hp (e ▸ hg))).trans (h.block g hg)⟩
theorem Aside.alloc {S : Nat → Prop} {w w' : World} (h : Aside S w w') (hs : ∀ g, S g → g < w'.heap.size) (o : Obj) : Aside S w (w'.alloc o) :=
  h.trans (Aside.of_below ((Below.refl w'.heap.size w').alloc (Nat.le_refl _) o) hs)

def updF (f : Nat → Nat × Nat) (i : Nat) (x : Nat × Nat) : Nat → Nat × Nat := fun k => if k = i then x else f k
theorem swap_upd (f : Nat → Nat × Nat) (i j : Nat) : updF (updF f i (f j)) j (f i) = swapF f i j := by
  funext k
  unfold updF swapF
  by_cases e : k = i
  · subst e
    rw [if_pos rfl, if_pos rfl]
    split
    · next e2 => rw [e2]
    · rfl
  · rw [if_neg e, if_neg e]
theorem prow_set {w : World} {q m cap : Nat} {f : Nat → Nat × Nat} (h : PRow w q m cap f) {i : Nat} (hi : i < m) (x : Nat × Nat) :
    PRow ((w.setCell ⟨q, i * 2, none⟩ (.int .i64 (x.1 : Nat))).setCell ⟨q, i * 2 + 1, none⟩ (.int .i64 (x.2 : Nat))) q m cap (updF f i x) := by
  obtain ⟨cur, h1, h2, h3⟩ := h
  have a1 := heap_setCell_same w q (i * 2) cur _ (.int .i64 (x.1 : Nat)) h1
  have a2 := heap_setCell_same _ q (i * 2 + 1) _ _ (.int .i64 (x.2 : Nat)) a1
  refine ⟨_, a2, by simpa using h2, fun k hk => ?_⟩
  unfold updF
  by_cases e : k = i
  · subst e
    rw [if_pos rfl]
    constructor
    · rw [Array.getElem?_setIfInBounds_ne (by omega), Array.getElem?_setIfInBounds_self_of_lt (by omega)]
    · rw [Array.getElem?_setIfInBounds_self_of_lt (by rw [Array.size_setIfInBounds]; omega)]
  · rw [if_neg e]
    obtain ⟨h4, h5⟩ := h3 k hk
    constructor
    · rw [Array.getElem?_setIfInBounds_ne (by omega), Array.getElem?_setIfInBounds_ne (by omega)]; exact h4
    · rw [Array.getElem?_setIfInBounds_ne (by omega), Array.getElem?_setIfInBounds_ne (by omega)]; exact h5
theorem prow_swap {w : World} {q m cap : Nat} {f : Nat → Nat × Nat} (h : PRow w q m cap f) {i j : Nat} (hi : i < m) (hj : j < m) :
    PRow ((((w.setCell ⟨q, i * 2, none⟩ (.int .i64 ((f j).1 : Nat))).setCell ⟨q, i * 2 + 1, none⟩ (.int .i64 ((f j).2 : Nat))).setCell ⟨q, j * 2, none⟩ (.int .i64 ((f i).1 : Nat))).setCell ⟨q, j * 2 + 1, none⟩ (.int .i64 ((f i).2 : Nat))).drew q m cap (swapF f i j) := by
  have := prow_set (prow_set h hi (f j)) hj (f i)
  rw [swap_upd] at this
  exact prow_keep this rfl

set_option maxRecDepth 100000 in
set_option maxHeartbeats 1600000 in
theorem qSwap {q m cap i j : Nat} {f : Nat → Nat × Nat} (hi : i < m) (hj : j < m) (w : World) (h : PRow w q m cap f) :
    Calls Try.prog 109 #[.slice (some ⟨q, 0, none⟩) m cap, .int .i64 i, .int .i64 j] w fun e w' => (∃ v, e = .returned v) ∧ PRow w' q m cap (swapF f i j) ∧ Aside (fun g => g < w.heap.size ∧ g ≠ q) w w' := by
  obtain ⟨c1, c2⟩ := prow_at h hi
  obtain ⟨d1, d2⟩ := prow_at h hj
  have fz := fun k => prow_frozen h k
  have q1 : ((i : Int) < (m : Int)) = True := by simp; omega
  have q2 : ((j : Int) < (m : Int)) = True := by simp; omega
  have H := hide h
  clear h
  have f1 := fz (i * 2)
  have f2 := fz (i * 2 + 1)
  have f3 := fz (j * 2)
  have f4 := fz (j * 2 + 1)
  clear fz
  have hfin : Hid (PRow ((((w.setCell ⟨q, i * 2, none⟩ (.int .i64 ((f j).1 : Nat))).setCell ⟨q, i * 2 + 1, none⟩ (.int .i64 ((f j).2 : Nat))).setCell ⟨q, j * 2, none⟩ (.int .i64 ((f i).1 : Nat))).setCell ⟨q, j * 2 + 1, none⟩ (.int .i64 ((f i).2 : Nat))).drew q m cap (swapF f i j) ∧ Aside (fun g => g < w.heap.size ∧ g ≠ q) w ((((w.setCell ⟨q, i * 2, none⟩ (.int .i64 ((f j).1 : Nat))).setCell ⟨q, i * 2 + 1, none⟩ (.int .i64 ((f j).2 : Nat))).setCell ⟨q, j * 2, none⟩ (.int .i64 ((f i).1 : Nat))).setCell ⟨q, j * 2 + 1, none⟩ (.int .i64 ((f i).2 : Nat))).drew) :=
    ⟨prow_swap (unhide H) hi hj, ((((Aside.refl _ w).setCell (fun h => h.2 rfl) _).setCell (fun h => h.2 rfl) _).setCell (fun h => h.2 rfl) _).setCell (fun h => h.2 rfl) _ |>.drew⟩
  clear H
  by_cases e : i = j
  · subst e
    go_enter Try.func109, Try.ntmps109
    go_wp2_with fail
    go_region
    all_goals go_end0
    all_goals exact ⟨⟨_, rfl⟩, unhide hfin⟩
  · have e' := hide e
    have n1 : (i * 2 = j * 2) = False := by simp; omega
    have n2 : (i * 2 = j * 2 + 1) = False := by simp; omega
    have n3 : (i * 2 + 1 = j * 2) = False := by simp; omega
    have n4 : (j * 2 = i * 2) = False := by simp; omega
    have n5 : (j * 2 = i * 2 + 1) = False := by simp; omega
    have n6 : (j * 2 + 1 = i * 2) = False := by simp; omega
    have n7 : (i = j) = False := by simp; omega
    have n8 : (j = i) = False := by simp; omega
    clear e
    go_enter Try.func109, Try.ntmps109
    go_wp2_with fail
    go_region
    all_goals go_end0
    all_goals exact ⟨⟨_, rfl⟩, unhide hfin⟩

/-- The places' cells, one behind the other. -/
def plXs (f : Nat → Nat × Nat) : Nat → List Value
  | 0 => []
  | k + 1 => plXs f k ++ [.int .i64 ((f k).1 : Nat), .int .i64 ((f k).2 : Nat)]
theorem plXs_len (f : Nat → Nat × Nat) (k : Nat) : (plXs f k).length = k * 2 := by
  induction k with
  | zero => rfl
  | succ k ih =>
    show (plXs f k ++ [_, _]).length = _
    rw [List.length_append, ih]
    show k * 2 + 2 = _
    omega
theorem plXs_at {f : Nat → Nat × Nat} {k i : Nat} (h : i < k) : (plXs f k)[i * 2]? = some (.int .i64 ((f i).1 : Nat)) ∧ (plXs f k)[i * 2 + 1]? = some (.int .i64 ((f i).2 : Nat)) := by
  induction k with
  | zero => omega
  | succ k ih =>
    show (plXs f k ++ [_, _])[i * 2]? = _ ∧ (plXs f k ++ [_, _])[i * 2 + 1]? = _
    by_cases e : i = k
    · subst e
      rw [List.getElem?_append_right (by rw [plXs_len]; omega), List.getElem?_append_right (by rw [plXs_len]; omega), plXs_len, Nat.sub_self, Nat.add_sub_cancel_left]
      exact ⟨rfl, rfl⟩
    · rw [List.getElem?_append_left (by rw [plXs_len]; omega), List.getElem?_append_left (by rw [plXs_len]; omega)]
      exact ih (by omega)
theorem take_pl {cur : Array Value} {f : Nat → Nat × Nat} {m : Nat} (h : ∀ i, i < m → cur[i * 2]? = some (.int .i64 ((f i).1 : Nat)) ∧ cur[i * 2 + 1]? = some (.int .i64 ((f i).2 : Nat))) : cur.toList.take (m * 2) = plXs f m := by
  induction m with
  | zero => simp [plXs]
  | succ m ih =>
    obtain ⟨h1, h2⟩ := h m (by omega)
    have e : (m + 1) * 2 = m * 2 + 1 + 1 := by omega
    rw [e, List.take_add_one, List.take_add_one, ih fun i hi => h i (by omega), Array.getElem?_toList, Array.getElem?_toList, h1, h2, List.append_assoc]
    rfl

/-- A list of places, wherever it lies. -/
def QV (w : World) (v : Value) (m : Nat) (f : Nat → Nat × Nat) : Prop := (v = .slice none 0 0 ∧ m = 0) ∨ ∃ q cap, v = .slice (some ⟨q, 0, none⟩) m cap ∧ PRow w q m cap f

theorem QV.own {w : World} {v : Value} {m : Nat} {f : Nat → Nat × Nat} (h : QV w v m f) : w.ownsRow 0 81 2 v m (plXs f m) := by
  refine ⟨plXs_len f m, ?_⟩
  rcases h with h | ⟨q, cap, rfl, cur, h1, ⟨h2, h3, h4⟩, h5⟩
  · exact Or.inl h
  · exact Or.inr ⟨q, cap, cur, rfl, Nat.zero_le _, h1, h3, h4, h2, take_pl h5⟩
theorem qv_of {w : World} {v : Value} {m : Nat} {f : Nat → Nat × Nat} {xs : List Value} (h : w.ownsRow 0 81 2 v m xs) (hx : xs = plXs f m) : QV w v m f := by
  subst hx
  rcases h.2 with h | ⟨q, cap, cur, rfl, _, h1, h3, h4, h2, h5⟩
  · exact Or.inl h
  · refine Or.inr ⟨q, cap, rfl, cur, h1, ⟨h2, h3, h4⟩, fun i hi => ?_⟩
    obtain ⟨a1, a2⟩ := plXs_at (f := f) hi
    rw [← h5, List.getElem?_take, if_pos (by omega), Array.getElem?_toList] at a1 a2
    exact ⟨a1, a2⟩
theorem QV.keep {w w' : World} {v : Value} {m : Nat} {f : Nat → Nat × Nat} (h : QV w v m f) (hb : ∀ q, v.ownBlock = some q → w'.heap[q]? = w.heap[q]?) : QV w' v m f := by
  rcases h with h | ⟨q, cap, rfl, h⟩
  · exact Or.inl h
  · exact Or.inr ⟨q, cap, rfl, prow_keep h (hb q rfl)⟩
theorem QV.lt {w : World} {v : Value} {m : Nat} {f : Nat → Nat × Nat} (h : QV w v m f) {q : Nat} (hq : v.ownBlock = some q) : q < w.heap.size := by
  rcases h with ⟨rfl, _⟩ | ⟨q', cap, rfl, h⟩
  · cases hq
  · have : q' = q := by simpa [Value.ownBlock] using hq
    rw [← this]
    exact prow_lt h
theorem QV.put {f : Nat → Nat × Nat} {m : Nat} {x : Nat × Nat} : plXs (putF f m x) (m + 1) = plXs f m ++ [.int .i64 (x.1 : Nat), .int .i64 (x.2 : Nat)] := by
  have same : ∀ k, k ≤ m → plXs (putF f m x) k = plXs f k := by
    intro k
    induction k with
    | zero => intro _; rfl
    | succ k ih =>
      intro hk
      show plXs (putF f m x) k ++ [_, _] = plXs f k ++ [_, _]
      have e : putF f m x k = f k := if_neg (by omega)
      rw [ih (by omega), e]
  show plXs (putF f m x) m ++ [_, _] = _
  have e : putF f m x m = x := if_pos rfl
  rw [same m (Nat.le_refl _), e]

/-- The struct that holds the heap in its last cell. -/
def st6 (c : Nat → Value) (v : Value) : Array Value := #[c 0, c 1, c 2, c 3, c 4, v]
structure HeapAt (w : World) (B : Nat) (c : Nat → Value) (v : Value) (m : Nat) (f : Nat → Nat × Nat) : Prop where
  st : w.heap[B]? = some (.cells (st6 c v) 58 (0, 0))
  qv : QV w v m f
  ne : v.ownBlock ≠ some B
/-- What the heap's steps do: its own cell, its own list, new blocks. -/
structure HTurn (w w' : World) (B : Nat) (v v' : Value) : Prop where
  rest : Aside (fun g => g < w.heap.size ∧ g ≠ B ∧ v.ownBlock ≠ some g) w w'
  own : v'.ownBlock = v.ownBlock ∨ ∃ q, v'.ownBlock = some q ∧ w.heap.size ≤ q
theorem HTurn.trans {w w' w'' : World} {B : Nat} {v v' v'' : Value} (h : HTurn w w' B v v') (k : HTurn w' w'' B v' v'') : HTurn w w'' B v v'' := by
  refine ⟨h.rest.trans (k.rest.mono fun g hg => ⟨Nat.lt_of_lt_of_le hg.1 h.rest.size, hg.2.1, fun e => ?_⟩), ?_⟩
  · rcases h.own with ho | ⟨q, ho, hq⟩
    · exact hg.2.2 (ho ▸ e)
    · rw [ho] at e
      have e : q = g := by simpa using e
      have := hg.1
      omega
  · rcases k.own with ko | ⟨q, ko, hq⟩
    · rw [ko]; exact h.own
    · exact Or.inr ⟨q, ko, Nat.le_trans h.rest.size hq⟩
theorem HTurn.of_below {w w' : World} {B : Nat} {v : Value} (h : Below w.heap.size w w') : HTurn w w' B v v := ⟨Aside.of_below h fun _ hg => hg.1, Or.inl rfl⟩
theorem HeapAt.below {w w' : World} {B : Nat} {c : Nat → Value} {v : Value} {m : Nat} {f : Nat → Nat × Nat} (h : HeapAt w B c v m f) (hb : Below w.heap.size w w') : HeapAt w' B c v m f :=
  ⟨(hb.block _ (Array.getElem?_eq_some_iff.1 h.st).1).trans h.st, h.qv.keep fun _ hq => hb.block _ (h.qv.lt hq), h.ne⟩
theorem HeapAt.cell {w : World} {B : Nat} {c : Nat → Value} {v : Value} {m : Nat} {f : Nat → Nat × Nat} (h : HeapAt w B c v m f) : w.cell? ⟨B, 5, none⟩ = some v := cell_of_row w B 5 _ _ (0, 0) h.st
theorem HeapAt.frozen {w : World} {B : Nat} {c : Nat → Value} {v : Value} {m : Nat} {f : Nat → Nat × Nat} (h : HeapAt w B c v m f) : w.frozen? ⟨B, 5, none⟩ = false := frozen_of_row w B 5 _ _ h.st
/-- The cell is given another value. -/
theorem HeapAt.store {w : World} {B : Nat} {c : Nat → Value} {v v' : Value} (h : w.heap[B]? = some (.cells (st6 c v) 58 (0, 0))) : (w.setCell ⟨B, 5, none⟩ v').heap[B]? = some (.cells (st6 c v') 58 (0, 0)) :=
  heap_setCell_same w B 5 _ _ v' h
end Go.Proofs.Ytgbkfmjkemkajaa

namespace Go.Proofs.Ytgbkfmjkemkajaa
open Go.RowKit

section
variable {P : Program}
theorem run_method_val {w : World} {t elem : TypeId} {f : FuncId} {a : Addr} {u : Value} {name : String} {n : Nat} {i : TypeInfo} {m : Method}
    (hi : P.info? t = some i) (hm : i.methods.find? (·.name == name) = some m) (hp : m.path = #[]) (hf : m.func = some (f, false)) (hu : P.underlying t = some (.pointer elem)) (hl : (loadVar elem a).run P w = .ok u w) :
    (method (n + 1) t (.pointer (some a)) name).run P w = .ok (f, u) w := by
  have hs : ∀ s, Builtin.ssaWrapNilChk_ #[t] t #[.pointer (some a), strVal "", strVal s] = pure (.pointer (some a)) := fun _ => rfl
  simp [method, typeInfo, hi, hm, hp, hf, follow, receiverAt, run_underlying hu, Place.get, hs, Sem.run_bind, asAddr, hl]
theorem run_method_ptr {w : World} {t elem : TypeId} {f : FuncId} {v : Value} {name : String} {n : Nat} {i : TypeInfo} {m : Method}
    (hi : P.info? t = some i) (hm : i.methods.find? (·.name == name) = some m) (hp : m.path = #[]) (hf : m.func = some (f, true)) (hu : P.underlying t = some (.pointer elem)) :
    (method (n + 1) t v name).run P w = .ok (f, v) w := by
  simp [method, typeInfo, hi, hm, hp, hf, follow, receiverAt, run_underlying hu, Place.get, Sem.run_bind]
end

theorem found (name : String) (x : Array FieldStep × Option (FuncId × Bool)) (h : (Try.prog.info? 98).bind (fun i => (i.methods.find? (·.name == name)).map (fun m => (m.path, m.func))) = some x) :
    ∃ i m, Try.prog.info? 98 = some i ∧ i.methods.find? (·.name == name) = some m ∧ m.path = x.1 ∧ m.func = x.2 := by
  cases hi : Try.prog.info? 98 with
  | none => rw [hi] at h; cases h
  | some i =>
    rw [hi] at h
    simp only [Option.bind_some] at h
    cases hm : i.methods.find? (·.name == name) with
    | none => rw [hm] at h; cases h
    | some m =>
      rw [hm] at h
      simp only [Option.map_some, Option.some.injEq] at h
      subst h
      exact ⟨i, m, rfl, hm, rfl, rfl⟩
theorem loadQ {w : World} {a : Addr} {u : Value} (h : w.cell? a = some u) : (loadVar 56 a).run Try.prog w = .ok u w := by
  simp [go_sem, h]

theorem findLen {w : World} {a : Addr} {u : Value} (h : w.cell? a = some u) (n : Nat) : (method (n + 1) 98 (.pointer (some a)) "Len").run Try.prog w = .ok (43, u) w := by
  obtain ⟨i, m, h1, h2, h3, h4⟩ := found "Len" (#[], some (43, false)) (by kernel_rfl)
  exact run_method_val h1 h2 h3 h4 Try.underlying98 (loadQ h)
theorem findLess {w : World} {a : Addr} {u : Value} (h : w.cell? a = some u) (n : Nat) : (method (n + 1) 98 (.pointer (some a)) "Less").run Try.prog w = .ok (108, u) w := by
  obtain ⟨i, m, h1, h2, h3, h4⟩ := found "Less" (#[], some (108, false)) (by kernel_rfl)
  exact run_method_val h1 h2 h3 h4 Try.underlying98 (loadQ h)
theorem findSwap {w : World} {a : Addr} {u : Value} (h : w.cell? a = some u) (n : Nat) : (method (n + 1) 98 (.pointer (some a)) "Swap").run Try.prog w = .ok (109, u) w := by
  obtain ⟨i, m, h1, h2, h3, h4⟩ := found "Swap" (#[], some (109, false)) (by kernel_rfl)
  exact run_method_val h1 h2 h3 h4 Try.underlying98 (loadQ h)
theorem findPush {w : World} (v : Value) (n : Nat) : (method (n + 1) 98 v "Push").run Try.prog w = .ok (111, v) w := by
  obtain ⟨i, m, h1, h2, h3, h4⟩ := found "Push" (#[], some (111, true)) (by kernel_rfl)
  exact run_method_ptr h1 h2 h3 h4 Try.underlying98
theorem findPop {w : World} (v : Value) (n : Nat) : (method (n + 1) 98 v "Pop").run Try.prog w = .ok (110, v) w := by
  obtain ⟨i, m, h1, h2, h3, h4⟩ := found "Pop" (#[], some (110, true)) (by kernel_rfl)
  exact run_method_ptr h1 h2 h3 h4 Try.underlying98
end Go.Proofs.Ytgbkfmjkemkajaa
