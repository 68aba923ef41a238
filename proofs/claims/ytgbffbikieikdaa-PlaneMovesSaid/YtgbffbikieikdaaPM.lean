/- Fields moved round; cells turned by roots: what stands where. -/
import Derived.Test.YtgbffbikieikdaaPG
import Derived.Test.YtgbffbikieikdaaRF
namespace Go.Proofs.Ytgbffbikieikdaa
open Go.RowKit Fl

/-- Where the cell came from. -/
def back (n V j : Nat) : Nat := (j + (n - V)) % n

theorem mod_two {a n : Nat} (h : a < 2 * n) : a % n = if a < n then a else a - n := by
  by_cases c : a < n
  · rw [if_pos c, Nat.mod_eq_of_lt c]
  · rw [if_neg c, Nat.mod_eq_sub_mod (by omega), Nat.mod_eq_of_lt (by omega)]

theorem back_of {n V y : Nat} (hy : y < n) (hV : V < n) : back n V ((y + V) % n) = y := by
  unfold back
  rw [mod_two (a := y + V) (by omega)]
  by_cases c : y + V < n
  · rw [if_pos c, mod_two (by omega), if_neg (by omega)]
    omega
  · rw [if_neg c, mod_two (by omega), if_pos (by omega)]
    omega

theorem of_back {n V j : Nat} (hj : j < n) (hV : V < n) : (back n V j + V) % n = j := by
  unfold back
  rw [mod_two (a := j + (n - V)) (by omega)]
  by_cases c : j + (n - V) < n
  · rw [if_pos c, mod_two (by omega), if_neg (by omega)]
    omega
  · rw [if_neg c, mod_two (by omega), if_pos (by omega)]
    omega

theorem back_lt {n V j : Nat} (hn : 0 < n) : back n V j < n := Nat.mod_lt _ hn

theorem back_iff {n V y j : Nat} (hy : y < n) (hj : j < n) (hV : V < n) : j = (y + V) % n ↔ back n V j = y :=
  ⟨fun h => by rw [h]; exact back_of hy hV, fun h => by rw [← h]; exact (of_back hj hV).symm⟩

/-- The field in the middle of the move: the cells up to (x, y) laid. -/
def moving (f : Nat → Nat → Nat × Nat) (n U V y x j i : Nat) : Nat × Nat := if back n V j < y ∨ (back n V j = y ∧ back n U i < x) then f (back n V j) (back n U i) else (0, 0)
def moved (f : Nat → Nat → Nat × Nat) (n U V j i : Nat) : Nat × Nat := f (back n V j) (back n U i)

theorem moving_zero (f : Nat → Nat → Nat × Nat) (n U V k : Nat) : flat n (moving f n U V 0 0) k = (0, 0) := by
  unfold flat moving
  rw [if_neg (by omega)]

theorem moving_step {f : Nat → Nat → Nat × Nat} {n U V y x : Nat} (hy : y < n) (hx : x < n) (hU : U < n) (hV : V < n) {k : Nat} (hk : k < n * n) :
    upd (flat n (moving f n U V y x)) ((y + V) % n * n + (x + U) % n) (f y x) k = flat n (moving f n U V y (x + 1)) k := by
  obtain ⟨k1, k2, _⟩ := flat_place hk
  rw [flat_upd (Nat.mod_lt _ (by omega))]
  unfold flat moving
  dsimp only
  by_cases c : k / n = (y + V) % n ∧ k % n = (x + U) % n
  · rw [if_pos c]
    have e1 := (back_iff hy k1 hV).1 c.1
    have e2 := (back_iff hx k2 hU).1 c.2
    rw [e1, e2, if_pos (by omega)]
  · rw [if_neg c]
    have c' : ¬ (back n V (k / n) = y ∧ back n U (k % n) = x) := fun h => c ⟨(back_iff hy k1 hV).2 h.1, (back_iff hx k2 hU).2 h.2⟩
    by_cases c2 : back n V (k / n) < y ∨ (back n V (k / n) = y ∧ back n U (k % n) < x)
    · rw [if_pos c2, if_pos (by omega)]
    · rw [if_neg c2, if_neg (by omega)]

theorem moving_next {f : Nat → Nat → Nat × Nat} {n U V y k : Nat} (hn : 0 < n) : flat n (moving f n U V y n) k = flat n (moving f n U V (y + 1) 0) k := by
  unfold flat moving
  have h := back_lt (V := U) (j := k % n) hn
  by_cases c : back n V (k / n) < y + 1
  · rw [if_pos (by omega), if_pos (by omega)]
  · rw [if_neg (by omega), if_neg (by omega)]

theorem moving_all {f : Nat → Nat → Nat × Nat} {n U V k : Nat} (hn : 0 < n) : flat n (moving f n U V n 0) k = flat n (moved f n U V) k := by
  unfold flat moving moved
  have h := back_lt (V := V) (j := k / n) hn
  rw [if_pos (by omega)]

/-- The field with its cells up to (x, y) changed. -/
def turning2 (P Q : Nat → Nat → Nat × Nat) (y x j i : Nat) : Nat × Nat := if j < y ∨ (j = y ∧ i < x) then Q j i else P j i

theorem turning2_zero (P Q : Nat → Nat → Nat × Nat) : turning2 P Q 0 0 = P := by
  funext j i
  unfold turning2
  rw [if_neg (by omega)]

theorem turning2_here (P Q : Nat → Nat → Nat × Nat) (y x : Nat) : turning2 P Q y x y x = P y x := by
  unfold turning2
  rw [if_neg (by omega)]

theorem turning2_step {P Q : Nat → Nat → Nat × Nat} {n y x : Nat} (hx : x < n) (k : Nat) : upd (flat n (turning2 P Q y x)) (y * n + x) (Q y x) k = flat n (turning2 P Q y (x + 1)) k := by
  rw [flat_upd hx]
  unfold flat turning2
  dsimp only
  by_cases c : k / n = y ∧ k % n = x
  · rw [if_pos c, c.1, c.2, if_pos (by omega)]
  · rw [if_neg c]
    by_cases c2 : k / n < y ∨ (k / n = y ∧ k % n < x)
    · rw [if_pos c2, if_pos (by omega)]
    · rw [if_neg c2, if_neg (by omega)]

theorem turning2_next {P Q : Nat → Nat → Nat × Nat} {n y k : Nat} (hn : 0 < n) : flat n (turning2 P Q y n) k = flat n (turning2 P Q (y + 1) 0) k := by
  unfold flat turning2
  have h := Nat.mod_lt k hn
  by_cases c : k / n < y + 1
  · rw [if_pos (by omega), if_pos (by omega)]
  · rw [if_neg (by omega), if_neg (by omega)]

theorem turning2_all {P Q : Nat → Nat → Nat × Nat} {n k : Nat} (hk : k < n * n) : flat n (turning2 P Q n 0) k = flat n Q k := by
  obtain ⟨k1, _, _⟩ := flat_place hk
  unfold flat turning2
  rw [if_pos (by omega)]

/-- Which root turns the cell. -/
def rootAt (L n U V j i : Nat) : Nat := (i * U + j * V) % n * 2 ^ (12 - L)
/-- The transform with each cell turned back. -/
def turnedB (L n U V : Nat) (f : Nat → Nat → Nat × Nat) (j i : Nat) : Nat × Nat := mulC (planeB L f j i) (conjB (rootAt L n U V j i))

structure MovedOk (L n U V : Nat) (f : Nat → Nat → Nat × Nat) : Prop where
  mul : ∀ j, j < n → ∀ i, i < n → MulTo (planeB L f j i).1 (planeB L f j i).2 (conjB (rootAt L n U V j i)).1 (conjB (rootAt L n U V j i)).2 (turnedB L n U V f j i).1 (turnedB L n U V f j i).2
  far : ∀ k, k < n * n → FarC 4589168020290535424 (flat n (turnedB L n U V f) k) (flat n (planeB L (moved f n U V)) k)

theorem field_moved {L n U V b : Nat} (hn : n = 2 ^ L) {f : Nat → Nat → Nat × Nat} {F : Nat → Nat → Int × Int} (h : Field (2 ^ L) b f F) : Field (2 ^ L) b (moved f n U V) (fun j i => F (back n V j) (back n U i)) := by
  have h0 : 0 < n := by rw [hn]; exact Nat.two_pow_pos L
  exact ⟨fun j _ i _ => h.cv _ (by rw [← hn]; exact back_lt h0) _ (by rw [← hn]; exact back_lt h0), fun j _ i _ => h.le _ (by rw [← hn]; exact back_lt h0) _ (by rw [← hn]; exact back_lt h0)⟩

theorem moved_ok {L n U V b : Nat} (hL : L ≤ 5) (hn : n = 2 ^ L) (hb : b = 1095) (hU : U < n) (hV : V < n) {f : Nat → Nat → Nat × Nat} {F : Nat → Nat → Int × Int} (h : Field (2 ^ L) b f F) : MovedOk L n U V f := by
  have key := moved_far (u := U) (v := V) hL hb h (field_moved (U := U) (V := V) hn h) (fun j hj i hi => by
    rw [← hn] at hj hi ⊢
    rw [back_of hj hV, back_of hi hU])
  rw [← hn] at key
  refine ⟨fun j hj i hi => (key j hj i hi _ rfl).1, fun k hk => ?_⟩
  obtain ⟨k1, k2, _⟩ := flat_place hk
  exact (key (k / n) k1 (k % n) k2 _ rfl).2
end Go.Proofs.Ytgbffbikieikdaa
