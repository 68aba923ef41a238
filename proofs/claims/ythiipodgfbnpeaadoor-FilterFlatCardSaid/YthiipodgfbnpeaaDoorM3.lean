/- One butterfly. The transform by halves, laid into a row. The transform of a list: weights, halves, Forward. -/
import Derived.Test.YthiipodgfbnpeaaDoorR5
import Derived.Deep.RegionWith
import Derived.Deep.DeepCutAuto
namespace Go.Proofs.YthiipodgfbnpeaaDoor
open Go.RowKit
attribute [local go_sem] store_complex

set_option maxHeartbeats 1600000 in
theorem butterflyAny {t e o : Nat × Nat} (h : Fly t e o) (w : World) :
    Calls Tryd.prog 59 #[.agg #[.complex .f64 e.1 e.2, .complex .f64 o.1 o.2], .complex .f64 t.1 t.2] w fun r w' =>
      r = .returned (.agg #[.complex .f64 (addC e (mulC t o)).1 (addC e (mulC t o)).2, .complex .f64 (subC e (mulC t o)).1 (subC e (mulC t o)).2]) ∧ Below w.heap.size w w' := by
  have hm := hide (mul45 h.mul)
  have ha := hide (addAny h.add)
  have hs := hide (subAny h.sub)
  clear h
  generalize addC e (mulC t o) = p at ha ⊢
  generalize subC e (mulC t o) = q at hs ⊢
  generalize mulC t o = m at hm ha hs
  obtain ⟨t1, t2⟩ := t
  obtain ⟨e1, e2⟩ := e
  obtain ⟨o1, o2⟩ := o
  obtain ⟨p1, p2⟩ := p
  obtain ⟨q1, q2⟩ := q
  obtain ⟨m1, m2⟩ := m
  go_enter Tryd.func59, Tryd.ntmps59
  go_wp2_with (first | (go_at_call 58; refine (unhide hm _).mono ?_; rintro e w' ⟨rfl, rfl⟩))
  go_region_with (first | (go_at_call 63; refine (unhide ha _).mono ?_; rintro e w' ⟨rfl, rfl⟩) | (go_at_call 64; refine (unhide hs _).mono ?_; rintro e w' ⟨rfl, rfl⟩))
  all_goals go_wp2_with fail
  all_goals refine bodyPost_ret (results_cell_row (P := Tryd.prog) rfl _ _ (w.heap.size + 1) 69 _ (0, 0) _ rfl (heap_alloc2_new w _ _) Tryd.underlying69 rfl (by kernel_rfl)) rfl ?_
  all_goals exact ⟨rfl, (((Below.refl _ _).alloc (Nat.le_refl _) _).alloc (by simp) _).drew⟩
end Go.Proofs.YthiipodgfbnpeaaDoor

namespace Go.Proofs.YthiipodgfbnpeaaDoor
open Go.RowKit
attribute [local go_sem] store_complex

/-- What the row holds behind the call: the transform at the places from o on, what it held elsewhere. -/
def laid (F : Nat → Nat × Nat) (o l c : Nat) (X : Nat → Nat × Nat) : Nat → Nat × Nat := fun i => if o ≤ i ∧ i < o + 2 ^ l then fft l c X (i - o) else F i

theorem row_drew {w : World} {g n : Nat} {f : Nat → Nat × Nat} (h : Row w g n f) : Row w.drew g n f := h
theorem grown_drew' {w w' : World} {r : Option Nat} (h : w.grownBy w' r) : w.grownBy w'.drew r := ⟨h.os, h.tape, h.output, h.size, h.block⟩
theorem grown_drew {w w' : World} {r : Option Nat} (h : w.drew.grownBy w' r) : w.grownBy w' r := ⟨h.os, h.tape, h.output, h.size, h.block⟩

/-- What stands fast in all calls of one transform. -/
structure Fix (c b L n g gx gw : Nat) (xs : Nat → Nat × Nat) : Prop where
  odd : c % 2 = 1
  b60 : 60 ≤ b
  b19 : b ≤ 1900
  len : L ≤ 12
  hn : n = 2 ^ L
  hgx : g ≠ gx
  hgw : g ≠ gw
  num : ∃ X : Nat → Int × Int, (∀ j, j < n → CV (xs j) (X j)) ∧ ∀ j, j < n → N2 (X j) (2 ^ b)

def sub (xs : Nat → Nat × Nat) (ox s : Nat) : Nat → Nat × Nat := fun i => xs (ox + i * s)

/-- Where a call stands. -/
structure At (L n l m s o ox lx cap cx : Nat) : Prop where
  al : l ≤ L
  am : m = 2 ^ l
  an : m * s = n
  ao : o + m ≤ n
  aox : ox < s
  alx : lx + ox = n
  acap : m ≤ cap
  acx : lx ≤ cx
  n4 : n ≤ 4096

theorem at_half {L n l m s o ox lx cap cx : Nat} (h : At L n (l + 1) m s o ox lx cap cx) : ∃ k, m = 2 * k ∧ k = 2 ^ l ∧ 1 ≤ k ∧ At L n l k (2 * s) o ox lx cap cx ∧ At L n l k (2 * s) (o + k) (ox + s) (lx - s) (cap - k) (cx - s) ∧ s + 1 ≤ lx ∧ k * s + k * s = n ∧ k + 1 ≤ cap := by
  obtain ⟨h1, h2, h3, h4, h5, h6, h7, h8, h9⟩ := h
  have e : 2 ^ (l + 1) = 2 * 2 ^ l := by rw [Nat.pow_succ]; omega
  have p : 1 ≤ 2 ^ l := Nat.one_le_two_pow
  refine ⟨2 ^ l, by omega, rfl, p, ?_⟩
  rw [h2, e] at h3
  rw [h2, e] at h4 h7
  have q : 2 ^ l * (2 * s) = n := by rw [← h3]; grind
  have q2 : 2 ^ l * s + 2 ^ l * s = n := by rw [← h3]; grind
  have q3 : s ≤ 2 ^ l * s := Nat.le_mul_of_pos_left _ (by omega)
  generalize 2 ^ l * s = T at q2 q3
  exact ⟨⟨by omega, rfl, q, by omega, by omega, h6, by omega, h8, h9⟩, ⟨by omega, rfl, q, by omega, by omega, by omega, by omega, by omega, h9⟩, by omega, q2, by omega⟩

set_option maxHeartbeats 1600000 in
theorem lay_one {c L n g gx q ax : Nat} {xs : Nat → Nat × Nat} {F : Nat → Nat × Nat} {o ox lx cap cx s : Nat} (hA : At L n 0 1 s o ox lx cap cx) (hax : ax = q + ox) (sI : Int) (w : World) (hF : Row w g n F) (hx : Span w gx q n xs) (gwv : Value) :
    Calls Tryd.prog 53 #[.slice (some ⟨g, o, none⟩) 1 cap, .slice (some ⟨gx, ax, none⟩) lx cx, gwv, .int .i64 sI] w fun e w' =>
      e = .returned (.tuple #[]) ∧ Row w' g n (laid F o 0 c (sub xs ox s)) ∧ w.grownBy w' (some g) := by
  obtain ⟨h1, h2, h3, h4, h5, h6, h7, h8, h9⟩ := hA
  have c1 : w.cell? ⟨gx, ax, none⟩ = some (.complex .f64 (xs ox).1 (xs ox).2) := by rw [hax]; exact hx.at_ ox (by omega)
  have c2 : w.cell? ⟨g, o, none⟩ = some (.complex .f64 (F o).1 (F o).2) := row_at hF (by omega)
  have c3 := row_frozen hF o
  have hR := hide (row_set hF o (xs ox))
  have hl : 0 < lx := by omega
  clear hF hx hax h1 h2 h3 h4 h5 h6 h7 h8 h9
  go_enter Tryd.func53, Tryd.ntmps53
  go_wp2_with fail
  refine bodyPost_ret (results_none rfl _ _ _) rfl ?_
  refine ⟨rfl, row_ext (unhide hR) fun i _ => ?_, grown_set _ _ _ _⟩
  unfold upd laid sub
  by_cases e : i = o
  · subst e
    rw [if_pos rfl, if_pos (by omega)]
    show _ = xs (ox + 0 * s)
    rw [Nat.zero_mul, Nat.add_zero]
  · rw [if_neg e, if_neg (by omega)]

theorem sub_even (xs : Nat → Nat × Nat) (ox s : Nat) : sub xs ox (2 * s) = fun i => sub xs ox s (2 * i) := by
  funext i
  unfold sub
  rw [show i * (2 * s) = 2 * i * s by grind]
theorem sub_odd (xs : Nat → Nat × Nat) (ox s : Nat) : sub xs (ox + s) (2 * s) = fun i => sub xs ox s (2 * i + 1) := by
  funext i
  unfold sub
  rw [show ox + s + i * (2 * s) = ox + (2 * i + 1) * s by grind]

/-- What the row holds in the middle of the loop. -/
def mid (F : Nat → Nat × Nat) (o l k c : Nat) (x : Nat → Nat × Nat) (j : Nat) : Nat → Nat × Nat := fun i =>
  if o ≤ i ∧ i < o + j then fft (l + 1) c x (i - o) else if o + k ≤ i ∧ i < o + k + j then fft (l + 1) c x (i - o)
  else if o + k ≤ i ∧ i < o + k + k then fft l c (fun i => x (2 * i + 1)) (i - (o + k)) else if o ≤ i ∧ i < o + k then fft l c (fun i => x (2 * i)) (i - o) else F i

theorem mid_zero {F : Nat → Nat × Nat} {o l k c : Nat} {xs : Nat → Nat × Nat} {ox s : Nat} (hk : k = 2 ^ l) (i : Nat) :
    laid (laid F o l c (sub xs ox (2 * s))) (o + k) l c (sub xs (ox + s) (2 * s)) i = mid F o l k c (sub xs ox s) 0 i := by
  rw [sub_even, sub_odd]
  unfold mid laid
  rw [if_neg (by omega : ¬ (o ≤ i ∧ i < o + 0)), if_neg (by omega : ¬ (o + k ≤ i ∧ i < o + k + 0)), ← hk]

theorem mid_last {F : Nat → Nat × Nat} {o l k c : Nat} {x : Nat → Nat × Nat} (hk : k = 2 ^ l) (i : Nat) : mid F o l k c x k i = laid F o (l + 1) c x i := by
  have e : 2 ^ (l + 1) = k + k := by rw [Nat.pow_succ, hk]; omega
  unfold mid laid
  rw [e]
  by_cases h1 : o ≤ i ∧ i < o + k
  · rw [if_pos h1, if_pos (by omega)]
  · by_cases h2 : o + k ≤ i ∧ i < o + k + k
    · rw [if_neg h1, if_pos h2, if_pos (by omega)]
    · rw [if_neg h1, if_neg h2, if_neg h2, if_neg h1, if_neg (by omega)]

theorem mid_step {F : Nat → Nat × Nat} {o l k c j : Nat} {x : Nat → Nat × Nat} (hj : j < k) (i : Nat) :
    upd (upd (mid F o l k c x j) (o + j) (fft (l + 1) c x j)) (o + (j + k)) (fft (l + 1) c x (j + k)) i = mid F o l k c x (j + 1) i := by
  unfold upd
  by_cases h1 : i = o + (j + k)
  · subst h1
    rw [if_pos rfl]
    unfold mid
    rw [if_neg (by omega), if_pos (by omega), Nat.add_sub_cancel_left]
  · rw [if_neg h1]
    by_cases h2 : i = o + j
    · subst h2
      rw [if_pos rfl]
      unfold mid
      rw [if_pos (by omega), Nat.add_sub_cancel_left]
    · rw [if_neg h2]
      unfold mid
      by_cases h3 : o ≤ i ∧ i < o + j
      · rw [if_pos h3, if_pos (by omega)]
      · rw [if_neg h3, if_neg (by omega : ¬ (o ≤ i ∧ i < o + (j + 1)))]
        by_cases h4 : o + k ≤ i ∧ i < o + k + j
        · rw [if_pos h4, if_pos (by omega)]
        · rw [if_neg h4, if_neg (by omega : ¬ (o + k ≤ i ∧ i < o + k + (j + 1)))]

theorem mid_even {F : Nat → Nat × Nat} {o l k c j : Nat} {x : Nat → Nat × Nat} (hj : j < k) : mid F o l k c x j (o + j) = fft l c (fun i => x (2 * i)) j := by
  unfold mid
  rw [if_neg (by omega), if_neg (by omega), if_neg (by omega), if_pos (by omega), Nat.add_sub_cancel_left]
theorem mid_odd {F : Nat → Nat × Nat} {o l k c j : Nat} {x : Nat → Nat × Nat} (hj : j < k) : mid F o l k c x j (o + (j + k)) = fft l c (fun i => x (2 * i + 1)) j := by
  unfold mid
  rw [if_neg (by omega), if_neg (by omega), if_pos (by omega), show o + (j + k) - (o + k) = j by omega]

theorem wB_stride {c L n l m s : Nat} (hL : L ≤ 12) (hn : n = 2 ^ L) (hl : l + 1 ≤ L) (hm : m = 2 ^ (l + 1)) (hs : m * s = n) (j : Nat) : wB c L (j * s) = wB c (l + 1) j := by
  have e : s * 2 ^ (12 - L) = 2 ^ (12 - (l + 1)) := by
    have h1 : 2 ^ (l + 1) * (s * 2 ^ (12 - L)) = 2 ^ (l + 1) * 2 ^ (12 - (l + 1)) := by
      rw [← Nat.mul_assoc, ← hm, hs, hn, hm, ← Nat.pow_add, ← Nat.pow_add]
      congr 1
      omega
    exact Nat.eq_of_mul_eq_mul_left (Nat.two_pow_pos _) h1
  unfold wB
  rw [show c * (j * s) * 2 ^ (12 - L) = c * j * (s * 2 ^ (12 - L)) by grind, e]

theorem fly_at {c b L n g gx gw : Nat} {xs : Nat → Nat × Nat} (hK : Fix c b L n g gx gw xs) {l m s o ox lx cap cx j : Nat} (hA : At L n (l + 1) m s o ox lx cap cx) (hj : j < 2 ^ l) :
    Fly (wB c L (j * s)) (fft l c (fun i => sub xs ox s (2 * i)) j) (fft l c (fun i => sub xs ox s (2 * i + 1)) j) := by
  obtain ⟨X, h1, h2⟩ := hK.num
  have hlt : ∀ i, i < 2 ^ (l + 1) → ox + i * s < n := by
    intro i hi
    have h3 : i * s + s ≤ 2 ^ (l + 1) * s := by rw [← Nat.succ_mul]; exact Nat.mul_le_mul_right _ hi
    have h4 := hA.an
    rw [hA.am] at h4
    have := hA.aox
    omega
  rw [wB_stride hK.len hK.hn hA.al hA.am hA.an]
  have hL := hK.len
  have hl := hA.al
  exact fft_fly c hK.odd b hK.b60 hK.b19 (by omega) (sub xs ox s) (fun i => X (ox + i * s)) (fun i hi => h1 _ (hlt i hi)) (fun i hi => h2 _ (hlt i hi)) j hj

theorem fft_low {l c : Nat} {x : Nat → Nat × Nat} {j : Nat} (hj : j < 2 ^ l) : fft (l + 1) c x j = addC (fft l c (fun i => x (2 * i)) j) (mulC (wB c (l + 1) j) (fft l c (fun i => x (2 * i + 1)) j)) := if_pos hj
theorem fft_high {l c : Nat} {x : Nat → Nat × Nat} {j k : Nat} (hk : k = 2 ^ l) : fft (l + 1) c x (j + k) = subC (fft l c (fun i => x (2 * i)) j) (mulC (wB c (l + 1) j) (fft l c (fun i => x (2 * i + 1)) j)) := by
  subst hk
  show (if j + 2 ^ l < 2 ^ l then _ else _) = _
  rw [if_neg (by omega), Nat.add_sub_cancel]

theorem grown_any {w w' : World} {r : Option Nat} (h : w.grownBy w' none) : w.grownBy w' r := ⟨h.os, h.tape, h.output, h.size, fun k hk _ => h.block k hk (by simp)⟩

theorem fly_post {wr w3 : World} {a b : Value} {p q : Nat × Nat} (h0 : w3.cell? ⟨wr.heap.size, 0, none⟩ = some a) (h1 : w3.cell? ⟨wr.heap.size, 1, none⟩ = some b) (hg : wr.grownBy w3 none) :
    ((w3.setCell ⟨wr.heap.size, 0, none⟩ (.complex .f64 p.1 p.2)).setCell ⟨wr.heap.size, 1, none⟩ (.complex .f64 q.1 q.2)).cell? ⟨wr.heap.size, 0, none⟩ = some (.complex .f64 p.1 p.2) ∧
    ((w3.setCell ⟨wr.heap.size, 0, none⟩ (.complex .f64 p.1 p.2)).setCell ⟨wr.heap.size, 1, none⟩ (.complex .f64 q.1 q.2)).cell? ⟨wr.heap.size, 1, none⟩ = some (.complex .f64 q.1 q.2) ∧
    wr.grownBy ((w3.setCell ⟨wr.heap.size, 0, none⟩ (.complex .f64 p.1 p.2)).setCell ⟨wr.heap.size, 1, none⟩ (.complex .f64 q.1 q.2)) none := by
  refine ⟨by simp [go_sem, h0], by simp [go_sem, h1], ⟨hg.os, hg.tape, hg.output, by simpa [World.setCell] using hg.size, fun i hi hr => ?_⟩⟩
  rw [Below.heap_setCell _ _ _ _ (by simp; omega), Below.heap_setCell _ _ _ _ (by simp; omega)]
  exact hg.block i hi hr

set_option maxHeartbeats 1600000 in
theorem lay_step {c b L n g gx gw q : Nat} {xs : Nat → Nat × Nat} (hK : Fix c b L n g gx gw xs) (l : Nat)
    (ih : ∀ (F : Nat → Nat × Nat) (o ox lx cap cx s m : Nat) (_ : At L n l m s o ox lx cap cx) (ax : Nat) (_ : ax = q + ox) (sI : Int) (_ : sI = s) (w : World) (_ : Row w g n F) (_ : Span w gx q n xs) (_ : Row w gw n (wB c L)),
      Calls Tryd.prog 53 #[.slice (some ⟨g, o, none⟩) m cap, .slice (some ⟨gx, ax, none⟩) lx cx, .slice (some ⟨gw, 0, none⟩) n n, .int .i64 sI] w fun e w' =>
        e = .returned (.tuple #[]) ∧ Row w' g n (laid F o l c (sub xs ox s)) ∧ w.grownBy w' (some g))
    {F : Nat → Nat × Nat} {o ox lx cap cx s m ax : Nat} (hA : At L n (l + 1) m s o ox lx cap cx) (hax : ax = q + ox) (w : World) (hF : Row w g n F) (hx : Span w gx q n xs) (hw : Row w gw n (wB c L)) :
    Calls Tryd.prog 53 #[.slice (some ⟨g, o, none⟩) m cap, .slice (some ⟨gx, ax, none⟩) lx cx, .slice (some ⟨gw, 0, none⟩) n n, .int .i64 s] w fun e w' =>
      e = .returned (.tuple #[]) ∧ Row w' g n (laid F o (l + 1) c (sub xs ox s)) ∧ w.grownBy w' (some g) := by
  obtain ⟨k, hm, hk, hk1, A1, A2, hlxs, hks, hcapk⟩ := at_half hA
  have hmI : (m : Int) / 2 = (k : Int) := by omega
  have hm1 : ((m : Int) == 1) = false := by simp; omega
  have hcap := A1.acap
  have hcx := A1.acx
  have B1 := hide A1
  have B2 := hide A2
  have I := hide ih
  have hk2 : (k : Int) ≤ (cap : Int) := by omega
  have hk3 : (k : Int) ≤ (m : Int) := by omega
  have hs2 : (s : Int) ≤ (lx : Int) := by omega
  have hlx : lx ≤ 4096 := by have := A1.alx; have := A1.n4; omega
  have hs4 : s ≤ 4096 := by omega
  have hck : ¬ cap = k := by omega
  have hcs : ¬ cx = s := by omega
  have hmk : m - k = k := by omega
  have hwr : IntKind.i64.wrap (2 * (s : Int)) = 2 * (s : Int) := by rw [IntKind.wrap_i64]; omega
  have hk4 : k ≤ 4096 := by have := A1.ao; have := A1.n4; omega
  have HA := hide hA
  have Hax := hide hax
  have hFh := hide hF
  have hxh := hide hx
  have hwh := hide hw
  have Hm := hide hm
  have Hk := hide hk
  have Hks := hide hks
  clear hA hax A1 A2 ih hF hx hw hm hk hks
  go_enter Tryd.func53, Tryd.ntmps53
  go_wp2_with fail
  refine (unhide I F o ox lx cap cx (2 * s) k (unhide B1) ax (unhide Hax) _ (by push_cast; rfl) w (unhide hFh) (unhide hxh) (unhide hwh)).mono ?_
  rintro e w1 ⟨rfl, hR1, hg1⟩
  have hx1 := hide (span_grown (unhide hxh) hg1 (by simpa using (fun e => hK.hgx e.symm)))
  have hw1 := hide (row_grown (unhide hwh) hg1 (by simpa using (fun e => hK.hgw e.symm)))
  have hR1 := hide hR1
  have hg1 := hide hg1
  go_wp2_with fail
  go_cut [39] (fun v wx => Hid (Row wx g n (laid (laid F o l c (sub xs ox (2 * s))) (o + k) l c (sub xs (ox + s) (2 * s))) ∧ w.grownBy wx (some g)))
  case first =>
    go_region_with (first | (go_at_call 53; refine (unhide I (laid F o l c (sub xs ox (2 * s))) (o + k) (ox + s) (lx - s) (cap - k) (cx - s) (2 * s) k (unhide B2) _ (by have := unhide Hax; omega) _ (by push_cast; rfl) w1.drew (row_drew (unhide hR1)) (span_drew (unhide hx1)) (row_drew (unhide hw1))).mono ?_; rintro e w2 ⟨rfl, hR2, hg2⟩))
    all_goals (go_wp2_with fail)
    all_goals go_meet
    case rel => exact ⟨hR2, grown_trans (unhide hg1) (grown_drew hg2)⟩
  case rest =>
    obtain ⟨hR2, hg2⟩ := unhide hcut
    have hw2 := hide (row_grown (unhide hwh) hg2 (by simpa using (fun e => hK.hgw e.symm)))
    have hR2 : Hid (Row wc g n (mid F o l k c (sub xs ox s) 0)) := row_ext hR2 fun i _ => mid_zero (unhide Hk) i
    have hg2 := hide hg2
    clear hcut hR1 hg1 hx1 hw1 hFh hxh I B1 B2
    go_wp2_with fail
    go_loopw [41] (fun ix wr => ∃ j : Nat, j ≤ k ∧ ix = .int .i64 j ∧ Hid (Row wr g n (mid F o l k c (sub xs ox s) j)) ∧ Hid (w.grownBy wr (some g))) (fun ix _ => k - (intOf ix).toNat)
    case atStart => exact ⟨0, Nat.zero_le _, rfl, hR2, hg2⟩
    case round =>
      obtain ⟨j, hj, rfl, hRr, hgr⟩ := hrel
      by_cases hjk : j < k
      · have hI : (j : Int) < (k : Int) := by omega
        have hR := unhide hRr
        have hon : o + m ≤ n := (unhide HA).ao
        have hjs : j * s < n := by
          have h1 : (j + 1) * s ≤ k * s := Nat.mul_le_mul_right _ hjk
          rw [Nat.add_mul, Nat.one_mul] at h1
          have := unhide Hks
          omega
        have c1 := row_at hR (i := o + j) (by omega)
        have c2 := row_at hR (i := o + (j + k)) (by omega)
        rw [mid_even hjk] at c1
        rw [mid_odd hjk] at c2
        have c3 := row_at (row_grown (unhide hwh) (unhide hgr) (by simpa using (fun e => hK.hgw e.symm))) hjs
        have f1 := row_frozen hR (o + j)
        have f2 := row_frozen hR (o + (j + k))
        have hB := hide (butterflyAny (fly_at hK (unhide HA) (by rw [← unhide Hk]; exact hjk)))
        have hp := hide (fft_low (c := c) (x := sub xs ox s) (by rw [← unhide Hk]; exact hjk))
        have hq := hide (fft_high (c := c) (x := sub xs ox s) (j := j) (unhide Hk))
        rw [wB_stride hK.len hK.hn (unhide HA).al (unhide HA).am (unhide HA).an] at hB c3
        unfold cv at c1 c2 c3
        generalize fft l c (fun i => sub xs ox s (2 * i)) j = e at c1 hB hp hq
        generalize fft l c (fun i => sub xs ox s (2 * i + 1)) j = oo at c2 hB hp hq
        generalize wB c (l + 1) j = t at c3 hB hp hq
        generalize addC e (mulC t oo) = p at hB hp
        generalize subC e (mulC t oo) = q at hB hq
        have hI2 : (j : Int) + (k : Int) < (m : Int) := by omega
        have hI3 : (j : Int) < (m : Int) := by omega
        have hn4 : n ≤ 4096 := (unhide HA).n4
        have hwj : IntKind.i64.wrap ((j : Int) * (s : Int)) = ((j * s : Nat) : Int) := by
          rw [← Int.natCast_mul]
          generalize j * s = y at hjs
          rw [IntKind.wrap_i64]
          omega
        generalize j * s = js at c3 hjs hwj
        have hI4 : (js : Int) < (n : Int) := by omega
        have hgl := row_lt hR
        have hgwl : gw < wr.heap.size := row_lt (row_grown (unhide hwh) (unhide hgr) (by simpa using (fun e => hK.hgw e.symm)))
        clear hR
        go_wp2_with fail
        go_region
        all_goals go_wp2_with fail
        go_cut [62] (fun v wx => Hid (wx.cell? ⟨wr.heap.size, 0, none⟩ = some (.complex .f64 p.1 p.2) ∧ wx.cell? ⟨wr.heap.size, 1, none⟩ = some (.complex .f64 q.1 q.2) ∧ wr.grownBy wx none))
        case first =>
          go_region_with (first | (go_at_call 59; refine (unhide hB _).mono ?_; rintro r w3 ⟨rfl, hb3⟩
                                   have q0 : w3.cell? ⟨wr.heap.size, 0, none⟩ = some (.complex .f64 e.1 e.2) := by rw [hb3.cell (by simp)]; simp [go_sem]
                                   have q1 : w3.cell? ⟨wr.heap.size, 1, none⟩ = some (.complex .f64 oo.1 oo.2) := by rw [hb3.cell (by simp)]; simp [go_sem]
                                   have z0 : w3.frozen? ⟨wr.heap.size, 0, none⟩ = false := by rw [hb3.frozen (by simp)]; simp [go_sem]
                                   have z1 : w3.frozen? ⟨wr.heap.size, 1, none⟩ = false := by rw [hb3.frozen (by simp)]; simp [go_sem]))
          all_goals go_wp2_with fail
          all_goals go_meet
          all_goals exact fly_post q0 q1 (grown_trans (World.grownBy_alloc wr _ none) (grown_drew (grown_drew (below_grown hb3))))
        case rest =>
          obtain ⟨d0, d1, hgd⟩ := unhide hcut
          have e1 : wc.cell? ⟨g, o + j, none⟩ = some (.complex .f64 e.1 e.2) := hgd.cell c1 (by simp)
          have e2 : wc.cell? ⟨g, o + (j + k), none⟩ = some (.complex .f64 oo.1 oo.2) := hgd.cell c2 (by simp)
          have e3 : wc.frozen? ⟨g, o + j, none⟩ = false := (World.frozen?_of_block (hgd.block g hgl (by simp))).trans f1
          have e4 : wc.frozen? ⟨g, o + (j + k), none⟩ = false := (World.frozen?_of_block (hgd.block g hgl (by simp))).trans f2
          have hRc := hide (row_set (row_set (row_grown (unhide hRr) hgd (by simp)) (o + j) p) (o + (j + k)) q)
          have hgc : Hid (w.grownBy ((wc.setCell ⟨g, o + j, none⟩ (.complex .f64 p.1 p.2)).setCell ⟨g, o + (j + k), none⟩ (.complex .f64 q.1 q.2)) (some g)) :=
            grown_trans (unhide hgr) (grown_trans (grown_any hgd) (grown_trans (grown_set _ _ _ _) (grown_set _ _ _ _)))
          have hne : g ≠ wr.heap.size := by omega
          have hne2 : wr.heap.size ≠ g := by omega
          have hjj : ¬ o + j = o + (j + k) := by omega
          have hjj2 : ¬ o + (j + k) = o + j := by omega
          clear hcut hRr hgr hgd c1 c2 c3 f1 f2 hB
          go_wp2_with fail
          go_region
          all_goals go_wp2_with fail
          all_goals refine ⟨⟨j + 1, hjk, by go_num, row_drew (row_ext (unhide hRc) fun i _ => ?_), grown_drew' (unhide hgc)⟩, by simp [intOf]; omega⟩
          all_goals rw [← unhide hp, ← unhide hq]
          all_goals exact mid_step hjk i
      · have hjk' : j = k := by omega
        go_wp2_with fail
        go_end0
        subst hjk'
        exact ⟨rfl, row_ext (unhide hRr) fun i _ => mid_last (unhide Hk) i, unhide hgr⟩

theorem layAny {c b L n g gx gw q : Nat} {xs : Nat → Nat × Nat} (hK : Fix c b L n g gx gw xs) (l : Nat) : ∀ (F : Nat → Nat × Nat) (o ox lx cap cx s m : Nat) (_ : At L n l m s o ox lx cap cx) (ax : Nat) (_ : ax = q + ox) (sI : Int) (_ : sI = s) (w : World) (_ : Row w g n F) (_ : Span w gx q n xs) (_ : Row w gw n (wB c L)),
      Calls Tryd.prog 53 #[.slice (some ⟨g, o, none⟩) m cap, .slice (some ⟨gx, ax, none⟩) lx cx, .slice (some ⟨gw, 0, none⟩) n n, .int .i64 sI] w fun e w' =>
        e = .returned (.tuple #[]) ∧ Row w' g n (laid F o l c (sub xs ox s)) ∧ w.grownBy w' (some g) := by
  induction l with
  | zero =>
    intro F o ox lx cap cx s m hA ax hax sI _ w hF hx _
    have hm : m = 1 := hA.am
    subst hm
    exact lay_one hA hax sI w hF hx _
  | succ l ih =>
    intro F o ox lx cap cx s m hA ax hax sI hs w hF hx hw
    subst hs
    exact lay_step hK l ih hA hax w hF hx hw
end Go.Proofs.YthiipodgfbnpeaaDoor

namespace Go.Proofs.YthiipodgfbnpeaaDoor
open Go.RowKit
attribute [local go_sem] store_complex

theorem laid_all {F : Nat → Nat × Nat} {l c : Nat} {xs : Nat → Nat × Nat} (i : Nat) (hi : i < 2 ^ l) : laid F 0 l c (sub xs 0 1) i = fft l c xs i := by
  unfold laid
  rw [if_pos (by omega)]
  have : sub xs 0 1 = xs := by
    funext j
    unfold sub
    rw [Nat.mul_one, Nat.zero_add]
  rw [this, Nat.sub_zero]

theorem zeros_get (n i : Nat) (hi : i < n) : (madeCells #[Value.complex .f64 0 0] n).toList[i]? = some (.complex .f64 0 0) := by
  rw [toList_madeCells_one, List.getElem?_replicate, if_pos (by omega)]

/-- Numbers whose transform is reckoned without loss of range. -/
def Nums (b n : Nat) (xs : Nat → Nat × Nat) : Prop := ∃ X : Nat → Int × Int, (∀ j, j < n → CV (xs j) (X j)) ∧ ∀ j, j < n → N2 (X j) (2 ^ b)

set_option maxHeartbeats 1600000 in
theorem byHalvesAny {c b L n gx ax gw cx : Nat} {xs : Nat → Nat × Nat} (hc : c % 2 = 1) (hb : 60 ≤ b) (hb2 : b ≤ 1900) (hL : L ≤ 12) (hn : n = 2 ^ L) (hX : Nums b n xs) (hcx : n ≤ cx) (w : World) (hx : Span w gx ax n xs) (hw : Row w gw n (wB c L)) :
    Calls Tryd.prog 44 #[.slice (some ⟨gx, ax, none⟩) n cx, .slice (some ⟨gw, 0, none⟩) n n] w fun e w' =>
      ∃ g, e = .returned (.slice (some ⟨g, 0, none⟩) n n) ∧ w.heap.size ≤ g ∧ Row w' g n (fft L c xs) ∧ Below w.heap.size w w' := by
  obtain ⟨i0, hi0, hz0, hz1, hz2⟩ := info_parts infoC
  have h1 := hx.lt
  have h2 := row_lt hw
  have hK : Fix c b L n w.heap.size gx gw xs := ⟨hc, hb, hb2, hL, hn, by omega, by omega, hX⟩
  have hn4 : n ≤ 4096 := by rw [hn]; exact Nat.pow_le_pow_right (n := 2) (by decide) hL
  have hA : At L n L n 1 0 0 n n cx := ⟨Nat.le_refl _, hn, Nat.mul_one _, by omega, by omega, by omega, Nat.le_refl _, hcx, hn4⟩
  have hH := hide (layAny (q := ax) hK L (fun _ => (0, 0)) 0 0 n n cx 1 n hA ax rfl 1 rfl)
  have HN := hide hn
  clear hK hX hA hn
  go_enter Tryd.func44, Tryd.ntmps44
  go_wp2_with (first
    | (at_make; refine wpList_make_full _ rfl (.tmp 7) (.tmp 7) 32 rfl w.heap.size 33 i0 (.complex .f64 0 0) 1 Tryd.underlying32 hi0 hz0 hz1 .i64 .i64 n n n rfl rfl rfl rfl ?c1 ?c2 ?c3 ?_))
  case c1 => rw [hz2]; omega
  case c2 => unfold maxLen; omega
  case c3 => exact Nat.le_refl _
  intro w2 hown2 hg2
  have hT := row_made hown2 (fun _ => (0, 0)) (fun i hi => zeros_get n i hi) (fun _ _ => rfl)
  have hx2 := span_grown hx hg2 (by simp)
  have hw2 := row_grown hw hg2 (by simp)
  have hC := hide (unhide hH w2 hT hx2 hw2)
  have hB := hide (grown_below hg2)
  have hs2 := hide hg2.size
  clear hT hx2 hw2 hown2 hg2 hH hx hw
  go_wp2_with fail
  refine (unhide hC).mono ?_
  rintro e w3 ⟨rfl, hR3, hg3⟩
  go_wp2_with fail
  go_ret
  exact ⟨_, rfl, Nat.le_refl _, row_ext hR3 fun i hi => laid_all i (by rw [← unhide HN]; exact hi), (unhide hB).trans (grown_below' hg3 (Nat.le_refl _) (unhide hs2))⟩

/-- The weights that the chapter calls W. -/
theorem wB_conj {L n k : Nat} (hL : L ≤ 12) (hn : n = 2 ^ L) (hk : k < n) : wB 4095 L k = (plainB (full (k * 2 ^ (12 - L))).1, plainB (negB (full (k * 2 ^ (12 - L))).2)) := by
  have hp : 2 ^ L * 2 ^ (12 - L) = 4096 := by rw [← Nat.pow_add, show L + (12 - L) = 12 by omega]
  have hlt : k * 2 ^ (12 - L) < 4096 := by
    rw [← hp, ← hn]
    exact Nat.mul_lt_mul_of_pos_right hk (Nat.two_pow_pos _)
  rw [← full_conj hlt]
  unfold wB
  rw [Nat.mul_assoc]
  generalize k * 2 ^ (12 - L) = y at hlt
  congr 1
  omega

theorem wB_plain {L n k : Nat} (hL : L ≤ 12) (hn : n = 2 ^ L) (hk : k < n) : full (k * 2 ^ (12 - L)) = wB 1 L k := by
  have hp : 2 ^ L * 2 ^ (12 - L) = 4096 := by rw [← Nat.pow_add, show L + (12 - L) = 12 by omega]
  have hlt : k * 2 ^ (12 - L) < 4096 := by
    rw [← hp, ← hn]
    exact Nat.mul_lt_mul_of_pos_right hk (Nat.two_pow_pos _)
  unfold wB
  rw [Nat.one_mul, Nat.mod_eq_of_lt hlt]

theorem table_row {L n : Nat} (hL : L ≤ 12) (hn : n = 2 ^ L) (w : World) :
    Calls Tryd.prog 14 #[.int .i64 n] w fun e w' => ∃ g, e = .returned (.tuple #[.slice (some ⟨g, 0, none⟩) n n, .int .i64 0]) ∧ w.heap.size ≤ g ∧ Row w' g n (wB 1 L) ∧ Below w.heap.size w w' := by
  refine (table_yes (s := 2 ^ (12 - L)) ⟨L, hL, hn, rfl⟩ w).mono ?_
  rintro e w' ⟨g, rfl, hg, hT, hB⟩
  exact ⟨g, rfl, hg, row_ext (row_of_tab hT) fun i hi => wB_plain hL hn hi, hB⟩

/-- The table's first k numbers turned into weights. -/
def turning (L k : Nat) : Nat → Nat × Nat := fun i => if i < k then wB 4095 L i else wB 1 L i

set_option maxHeartbeats 1600000 in
theorem weightsAny {L n : Nat} (hL : L ≤ 12) (hn : n = 2 ^ L) (w : World) :
    Calls Tryd.prog 43 #[.int .i64 n] w fun e w' => ∃ g, e = .returned (.tuple #[.slice (some ⟨g, 0, none⟩) n n, .int .i64 0]) ∧ w.heap.size ≤ g ∧ Row w' g n (wB 4095 L) ∧ Below w.heap.size w w' := by
  have hT := hide (table_row hL hn)
  have hn4 : n ≤ 4096 := by rw [hn]; exact Nat.pow_le_pow_right (n := 2) (by decide) hL
  have HN := hide hn
  clear hn
  go_enter Tryd.func43, Tryd.ntmps43
  go_wp2_with fail
  refine (unhide hT _).mono ?_
  rintro e w1 ⟨g, rfl, hg, hR, hB⟩
  have hR : Hid (Row w1 g n (turning L 0)) := row_ext hR fun i _ => by unfold turning; rw [if_neg (by omega)]
  have hB := hide hB
  have hg := hide hg
  go_wp2_with fail
  go_loopw [15] (fun ix wr => ∃ k : Nat, k ≤ n ∧ ix = .int .i64 k ∧ Hid (Row wr g n (turning L k)) ∧ Hid (Below w.heap.size w wr)) (fun ix _ => n - (intOf ix).toNat)
  case atStart => exact ⟨0, Nat.zero_le _, rfl, hR, hB⟩
  case round =>
    obtain ⟨k, hk, rfl, hRr, hBr⟩ := hrel
    by_cases hkn : k < n
    · have hI : (k : Int) < (n : Int) := by omega
      have c1 := row_at (unhide hRr) hkn
      have f1 := row_frozen (unhide hRr) k
      have hv : turning L k k = full (k * 2 ^ (12 - L)) := by
        unfold turning
        rw [if_neg (by omega), wB_plain hL (unhide HN) hkn]
      have hw := hide (wB_conj hL (unhide HN) hkn)
      rw [hv] at c1
      unfold cv at c1
      have hS := hide (fun v => row_set (unhide hRr) k v)
      generalize (full (k * 2 ^ (12 - L))).1 = x at c1 hw
      generalize (full (k * 2 ^ (12 - L))).2 = y at c1 hw
      have hRn : Hid (Row (wr.setCell ⟨g, k, none⟩ (.complex .f64 (plainB x) (plainB (negB y)))) g n (turning L (k + 1))) := by
        refine row_ext (unhide hS (plainB x, plainB (negB y))) fun i _ => ?_
        unfold upd turning
        by_cases e : i = k
        · subst e
          rw [if_pos rfl, if_pos (by omega)]
          exact (unhide hw).symm
        · rw [if_neg e]
          by_cases e2 : i < k
          · rw [if_pos e2, if_pos (by omega)]
          · rw [if_neg e2, if_neg (by omega)]
      have hBn := hide ((unhide hBr).setCell (p := ⟨g, k, none⟩) (unhide hg) (.complex .f64 (plainB x) (plainB (negB y))))
      clear hv hw hS hRr hBr hR hB
      go_wp2_with (first | (go_at_call 52; refine (conjAny _ _ _).mono ?_; rintro e w3 ⟨rfl, rfl⟩) | (go_at_call 19; refine (plain34 _ _ _).mono ?_; rintro e w3 ⟨rfl, rfl⟩))
      go_roundw
      case rel => exact ⟨k + 1, hkn, by go_num, hRn, hBn⟩
      case measure => simp [intOf]; omega
    · have hkn' : k = n := by omega
      subst hkn'
      go_wp2_with fail
      go_ret2
      exact ⟨_, rfl, unhide hg, row_ext (unhide hRr) fun i hi => by unfold turning; rw [if_pos hi], unhide hBr⟩

set_option maxHeartbeats 800000 in
theorem forwardSpan {b L n gx ax cx : Nat} {xs : Nat → Nat × Nat} (hb : 60 ≤ b) (hb2 : b ≤ 1900) (hL : L ≤ 12) (hn : n = 2 ^ L) (hX : Nums b n xs) (hcx : n ≤ cx) (w : World) (hx : Span w gx ax n xs) :
    Calls Tryd.prog 30 #[.slice (some ⟨gx, ax, none⟩) n cx] w fun e w' =>
      ∃ g, e = .returned (.tuple #[.slice (some ⟨g, 0, none⟩) n n, .int .i64 0]) ∧ w.heap.size ≤ g ∧ Row w' g n (fft L 4095 xs) ∧ Below w.heap.size w w' := by
  have hW := hide (weightsAny hL hn)
  have hH := hide (fun gw => byHalvesAny (c := 4095) (gx := gx) (ax := ax) (gw := gw) (by decide) hb hb2 hL hn hX hcx)
  have hx := hide hx
  clear hX hn
  go_enter Tryd.func30, Tryd.ntmps30
  go_wp2_with fail
  refine (unhide hW _).mono ?_
  rintro e w1 ⟨gw, rfl, hg, hR, hB⟩
  have hC := hide (unhide hH gw w1 (span_below (unhide hx) hB (unhide hx).lt) hR)
  have hB := hide hB
  clear hR hg hH hW
  go_wp2_with fail
  refine (unhide hC).mono ?_
  rintro e w2 ⟨g2, rfl, hg2, hR2, hB2⟩
  go_wp2_with fail
  go_ret2
  exact ⟨_, rfl, Nat.le_trans (unhide hB).size hg2, hR2, (unhide hB).trans (hB2.mono (unhide hB).size)⟩

theorem forwardAny {b L n gx cx : Nat} {xs : Nat → Nat × Nat} (hb : 60 ≤ b) (hb2 : b ≤ 1900) (hL : L ≤ 12) (hn : n = 2 ^ L) (hX : Nums b n xs) (hcx : n ≤ cx) (w : World) (hx : Row w gx n xs) :
    Calls Tryd.prog 30 #[.slice (some ⟨gx, 0, none⟩) n cx] w fun e w' =>
      ∃ g, e = .returned (.tuple #[.slice (some ⟨g, 0, none⟩) n n, .int .i64 0]) ∧ w.heap.size ≤ g ∧ Row w' g n (fft L 4095 xs) ∧ Below w.heap.size w w' := forwardSpan hb hb2 hL hn hX hcx w (span_row hx)
end Go.Proofs.YthiipodgfbnpeaaDoor
