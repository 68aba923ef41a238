/- The transform by halves, laid into a row. -/
import Derived.Test.YtgbffbikieikdaaR6
import Derived.Deep.DeepCutAuto
namespace Go.Proofs.Ytgbffbikieikdaa
open Go.RowKit
attribute [local go_sem] store_complex

/-- What the row holds behind the call: the transform at the places from o on, what it held elsewhere. -/
def laid (F : Nat → Nat × Nat) (o l c : Nat) (X : Nat → Nat × Nat) : Nat → Nat × Nat := fun i => if o ≤ i ∧ i < o + 2 ^ l then fft l c X (i - o) else F i

theorem row_drew {w : World} {g n : Nat} {f : Nat → Nat × Nat} (h : Row w g n f) : Row w.drew g n f := h
theorem grown_drew' {w w' : World} {r : Option Nat} (h : w.grownBy w' r) : w.grownBy w'.drew r := ⟨h.os, h.tape, h.output, h.size, h.block⟩
theorem grown_drew {w w' : World} {r : Option Nat} (h : w.drew.grownBy w' r) : w.grownBy w' r := ⟨h.os, h.tape, h.output, h.size, h.block⟩

/-- What stands fast in all calls of one transform. -/
structure Fix (c b L n g gx gw : Nat) (xs : Nat → Nat × Nat) : Prop where
  odd : c % 2 = 1
  b60 : 60 ≤ b
  b19 : b ≤ 1900
  len : L ≤ 12
  hn : n = 2 ^ L
  hgx : g ≠ gx
  hgw : g ≠ gw
  num : ∃ X : Nat → Int × Int, (∀ j, j < n → CV (xs j) (X j)) ∧ ∀ j, j < n → N2 (X j) (2 ^ b)

def sub (xs : Nat → Nat × Nat) (ox s : Nat) : Nat → Nat × Nat := fun i => xs (ox + i * s)

/-- Where a call stands. -/
structure At (L n l m s o ox lx cap cx : Nat) : Prop where
  al : l ≤ L
  am : m = 2 ^ l
  an : m * s = n
  ao : o + m ≤ n
  aox : ox < s
  alx : lx + ox = n
  acap : m ≤ cap
  acx : lx ≤ cx
  n4 : n ≤ 4096

theorem at_half {L n l m s o ox lx cap cx : Nat} (h : At L n (l + 1) m s o ox lx cap cx) : ∃ k, m = 2 * k ∧ k = 2 ^ l ∧ 1 ≤ k ∧ At L n l k (2 * s) o ox lx cap cx ∧ At L n l k (2 * s) (o + k) (ox + s) (lx - s) (cap - k) (cx - s) ∧ s + 1 ≤ lx ∧ k * s + k * s = n ∧ k + 1 ≤ cap := by
  obtain ⟨h1, h2, h3, h4, h5, h6, h7, h8, h9⟩ := h
  have e : 2 ^ (l + 1) = 2 * 2 ^ l := by rw [Nat.pow_succ]; omega
  have p : 1 ≤ 2 ^ l := Nat.one_le_two_pow
  refine ⟨2 ^ l, by omega, rfl, p, ?_⟩
  rw [h2, e] at h3
  rw [h2, e] at h4 h7
  have q : 2 ^ l * (2 * s) = n := by rw [← h3]; grind
  have q2 : 2 ^ l * s + 2 ^ l * s = n := by rw [← h3]; grind
  have q3 : s ≤ 2 ^ l * s := Nat.le_mul_of_pos_left _ (by omega)
  generalize 2 ^ l * s = T at q2 q3
  exact ⟨⟨by omega, rfl, q, by omega, by omega, h6, by omega, h8, h9⟩, ⟨by omega, rfl, q, by omega, by omega, by omega, by omega, by omega, h9⟩, by omega, q2, by omega⟩

set_option maxHeartbeats 1600000 in
theorem lay_one {c L n g gx q ax : Nat} {xs : Nat → Nat × Nat} {F : Nat → Nat × Nat} {o ox lx cap cx s : Nat} (hA : At L n 0 1 s o ox lx cap cx) (hax : ax = q + ox) (sI : Int) (w : World) (hF : Row w g n F) (hx : Span w gx q n xs) (gwv : Value) :
    Calls Try.prog 33 #[.slice (some ⟨g, o, none⟩) 1 cap, .slice (some ⟨gx, ax, none⟩) lx cx, gwv, .int .i64 sI] w fun e w' =>
      e = .returned (.tuple #[]) ∧ Row w' g n (laid F o 0 c (sub xs ox s)) ∧ w.grownBy w' (some g) := by
  obtain ⟨h1, h2, h3, h4, h5, h6, h7, h8, h9⟩ := hA
  have c1 : w.cell? ⟨gx, ax, none⟩ = some (.complex .f64 (xs ox).1 (xs ox).2) := by rw [hax]; exact hx.at_ ox (by omega)
  have c2 : w.cell? ⟨g, o, none⟩ = some (.complex .f64 (F o).1 (F o).2) := row_at hF (by omega)
  have c3 := row_frozen hF o
  have hR := hide (row_set hF o (xs ox))
  have hl : 0 < lx := by omega
  clear hF hx hax h1 h2 h3 h4 h5 h6 h7 h8 h9
  go_enter Try.func33, Try.ntmps33
  go_wp2_with fail
  refine bodyPost_ret (results_none rfl _ _ _) rfl ?_
  refine ⟨rfl, row_ext (unhide hR) fun i _ => ?_, grown_set _ _ _ _⟩
  unfold upd laid sub
  by_cases e : i = o
  · subst e
    rw [if_pos rfl, if_pos (by omega)]
    show _ = xs (ox + 0 * s)
    rw [Nat.zero_mul, Nat.add_zero]
  · rw [if_neg e, if_neg (by omega)]

theorem sub_even (xs : Nat → Nat × Nat) (ox s : Nat) : sub xs ox (2 * s) = fun i => sub xs ox s (2 * i) := by
  funext i
  unfold sub
  rw [show i * (2 * s) = 2 * i * s by grind]
theorem sub_odd (xs : Nat → Nat × Nat) (ox s : Nat) : sub xs (ox + s) (2 * s) = fun i => sub xs ox s (2 * i + 1) := by
  funext i
  unfold sub
  rw [show ox + s + i * (2 * s) = ox + (2 * i + 1) * s by grind]

/-- What the row holds in the middle of the loop. -/
def mid (F : Nat → Nat × Nat) (o l k c : Nat) (x : Nat → Nat × Nat) (j : Nat) : Nat → Nat × Nat := fun i =>
  if o ≤ i ∧ i < o + j then fft (l + 1) c x (i - o) else if o + k ≤ i ∧ i < o + k + j then fft (l + 1) c x (i - o)
  else if o + k ≤ i ∧ i < o + k + k then fft l c (fun i => x (2 * i + 1)) (i - (o + k)) else if o ≤ i ∧ i < o + k then fft l c (fun i => x (2 * i)) (i - o) else F i

theorem mid_zero {F : Nat → Nat × Nat} {o l k c : Nat} {xs : Nat → Nat × Nat} {ox s : Nat} (hk : k = 2 ^ l) (i : Nat) :
    laid (laid F o l c (sub xs ox (2 * s))) (o + k) l c (sub xs (ox + s) (2 * s)) i = mid F o l k c (sub xs ox s) 0 i := by
  rw [sub_even, sub_odd]
  unfold mid laid
  rw [if_neg (by omega : ¬ (o ≤ i ∧ i < o + 0)), if_neg (by omega : ¬ (o + k ≤ i ∧ i < o + k + 0)), ← hk]

theorem mid_last {F : Nat → Nat × Nat} {o l k c : Nat} {x : Nat → Nat × Nat} (hk : k = 2 ^ l) (i : Nat) : mid F o l k c x k i = laid F o (l + 1) c x i := by
  have e : 2 ^ (l + 1) = k + k := by rw [Nat.pow_succ, hk]; omega
  unfold mid laid
  rw [e]
  by_cases h1 : o ≤ i ∧ i < o + k
  · rw [if_pos h1, if_pos (by omega)]
  · by_cases h2 : o + k ≤ i ∧ i < o + k + k
    · rw [if_neg h1, if_pos h2, if_pos (by omega)]
    · rw [if_neg h1, if_neg h2, if_neg h2, if_neg h1, if_neg (by omega)]

theorem mid_step {F : Nat → Nat × Nat} {o l k c j : Nat} {x : Nat → Nat × Nat} (hj : j < k) (i : Nat) :
    upd (upd (mid F o l k c x j) (o + j) (fft (l + 1) c x j)) (o + (j + k)) (fft (l + 1) c x (j + k)) i = mid F o l k c x (j + 1) i := by
  unfold upd
  by_cases h1 : i = o + (j + k)
  · subst h1
    rw [if_pos rfl]
    unfold mid
    rw [if_neg (by omega), if_pos (by omega), Nat.add_sub_cancel_left]
  · rw [if_neg h1]
    by_cases h2 : i = o + j
    · subst h2
      rw [if_pos rfl]
      unfold mid
      rw [if_pos (by omega), Nat.add_sub_cancel_left]
    · rw [if_neg h2]
      unfold mid
      by_cases h3 : o ≤ i ∧ i < o + j
      · rw [if_pos h3, if_pos (by omega)]
      · rw [if_neg h3, if_neg (by omega : ¬ (o ≤ i ∧ i < o + (j + 1)))]
        by_cases h4 : o + k ≤ i ∧ i < o + k + j
        · rw [if_pos h4, if_pos (by omega)]
        · rw [if_neg h4, if_neg (by omega : ¬ (o + k ≤ i ∧ i < o + k + (j + 1)))]

theorem mid_even {F : Nat → Nat × Nat} {o l k c j : Nat} {x : Nat → Nat × Nat} (hj : j < k) : mid F o l k c x j (o + j) = fft l c (fun i => x (2 * i)) j := by
  unfold mid
  rw [if_neg (by omega), if_neg (by omega), if_neg (by omega), if_pos (by omega), Nat.add_sub_cancel_left]
theorem mid_odd {F : Nat → Nat × Nat} {o l k c j : Nat} {x : Nat → Nat × Nat} (hj : j < k) : mid F o l k c x j (o + (j + k)) = fft l c (fun i => x (2 * i + 1)) j := by
  unfold mid
  rw [if_neg (by omega), if_neg (by omega), if_pos (by omega), show o + (j + k) - (o + k) = j by omega]

theorem wB_stride {c L n l m s : Nat} (hL : L ≤ 12) (hn : n = 2 ^ L) (hl : l + 1 ≤ L) (hm : m = 2 ^ (l + 1)) (hs : m * s = n) (j : Nat) : wB c L (j * s) = wB c (l + 1) j := by
  have e : s * 2 ^ (12 - L) = 2 ^ (12 - (l + 1)) := by
    have h1 : 2 ^ (l + 1) * (s * 2 ^ (12 - L)) = 2 ^ (l + 1) * 2 ^ (12 - (l + 1)) := by
      rw [← Nat.mul_assoc, ← hm, hs, hn, hm, ← Nat.pow_add, ← Nat.pow_add]
      congr 1
      omega
    exact Nat.eq_of_mul_eq_mul_left (Nat.two_pow_pos _) h1
  unfold wB
  rw [show c * (j * s) * 2 ^ (12 - L) = c * j * (s * 2 ^ (12 - L)) by grind, e]

theorem fly_at {c b L n g gx gw : Nat} {xs : Nat → Nat × Nat} (hK : Fix c b L n g gx gw xs) {l m s o ox lx cap cx j : Nat} (hA : At L n (l + 1) m s o ox lx cap cx) (hj : j < 2 ^ l) :
    Fly (wB c L (j * s)) (fft l c (fun i => sub xs ox s (2 * i)) j) (fft l c (fun i => sub xs ox s (2 * i + 1)) j) := by
  obtain ⟨X, h1, h2⟩ := hK.num
  have hlt : ∀ i, i < 2 ^ (l + 1) → ox + i * s < n := by
    intro i hi
    have h3 : i * s + s ≤ 2 ^ (l + 1) * s := by rw [← Nat.succ_mul]; exact Nat.mul_le_mul_right _ hi
    have h4 := hA.an
    rw [hA.am] at h4
    have := hA.aox
    omega
  rw [wB_stride hK.len hK.hn hA.al hA.am hA.an]
  have hL := hK.len
  have hl := hA.al
  exact fft_fly c hK.odd b hK.b60 hK.b19 (by omega) (sub xs ox s) (fun i => X (ox + i * s)) (fun i hi => h1 _ (hlt i hi)) (fun i hi => h2 _ (hlt i hi)) j hj

theorem fft_low {l c : Nat} {x : Nat → Nat × Nat} {j : Nat} (hj : j < 2 ^ l) : fft (l + 1) c x j = addC (fft l c (fun i => x (2 * i)) j) (mulC (wB c (l + 1) j) (fft l c (fun i => x (2 * i + 1)) j)) := if_pos hj
theorem fft_high {l c : Nat} {x : Nat → Nat × Nat} {j k : Nat} (hk : k = 2 ^ l) : fft (l + 1) c x (j + k) = subC (fft l c (fun i => x (2 * i)) j) (mulC (wB c (l + 1) j) (fft l c (fun i => x (2 * i + 1)) j)) := by
  subst hk
  show (if j + 2 ^ l < 2 ^ l then _ else _) = _
  rw [if_neg (by omega), Nat.add_sub_cancel]

theorem grown_any {w w' : World} {r : Option Nat} (h : w.grownBy w' none) : w.grownBy w' r := ⟨h.os, h.tape, h.output, h.size, fun k hk _ => h.block k hk (by simp)⟩

theorem fly_post {wr w3 : World} {a b : Value} {p q : Nat × Nat} (h0 : w3.cell? ⟨wr.heap.size, 0, none⟩ = some a) (h1 : w3.cell? ⟨wr.heap.size, 1, none⟩ = some b) (hg : wr.grownBy w3 none) :
    ((w3.setCell ⟨wr.heap.size, 0, none⟩ (.complex .f64 p.1 p.2)).setCell ⟨wr.heap.size, 1, none⟩ (.complex .f64 q.1 q.2)).cell? ⟨wr.heap.size, 0, none⟩ = some (.complex .f64 p.1 p.2) ∧
    ((w3.setCell ⟨wr.heap.size, 0, none⟩ (.complex .f64 p.1 p.2)).setCell ⟨wr.heap.size, 1, none⟩ (.complex .f64 q.1 q.2)).cell? ⟨wr.heap.size, 1, none⟩ = some (.complex .f64 q.1 q.2) ∧
    wr.grownBy ((w3.setCell ⟨wr.heap.size, 0, none⟩ (.complex .f64 p.1 p.2)).setCell ⟨wr.heap.size, 1, none⟩ (.complex .f64 q.1 q.2)) none := by
  refine ⟨by simp [go_sem, h0], by simp [go_sem, h1], ⟨hg.os, hg.tape, hg.output, by simpa [World.setCell] using hg.size, fun i hi hr => ?_⟩⟩
  rw [Below.heap_setCell _ _ _ _ (by simp; omega), Below.heap_setCell _ _ _ _ (by simp; omega)]
  exact hg.block i hi hr

set_option maxHeartbeats 1600000 in
theorem lay_step {c b L n g gx gw q : Nat} {xs : Nat → Nat × Nat} (hK : Fix c b L n g gx gw xs) (l : Nat)
    (ih : ∀ (F : Nat → Nat × Nat) (o ox lx cap cx s m : Nat) (_ : At L n l m s o ox lx cap cx) (ax : Nat) (_ : ax = q + ox) (sI : Int) (_ : sI = s) (w : World) (_ : Row w g n F) (_ : Span w gx q n xs) (_ : Row w gw n (wB c L)),
      Calls Try.prog 33 #[.slice (some ⟨g, o, none⟩) m cap, .slice (some ⟨gx, ax, none⟩) lx cx, .slice (some ⟨gw, 0, none⟩) n n, .int .i64 sI] w fun e w' =>
        e = .returned (.tuple #[]) ∧ Row w' g n (laid F o l c (sub xs ox s)) ∧ w.grownBy w' (some g))
    {F : Nat → Nat × Nat} {o ox lx cap cx s m ax : Nat} (hA : At L n (l + 1) m s o ox lx cap cx) (hax : ax = q + ox) (w : World) (hF : Row w g n F) (hx : Span w gx q n xs) (hw : Row w gw n (wB c L)) :
    Calls Try.prog 33 #[.slice (some ⟨g, o, none⟩) m cap, .slice (some ⟨gx, ax, none⟩) lx cx, .slice (some ⟨gw, 0, none⟩) n n, .int .i64 s] w fun e w' =>
      e = .returned (.tuple #[]) ∧ Row w' g n (laid F o (l + 1) c (sub xs ox s)) ∧ w.grownBy w' (some g) := by
  obtain ⟨k, hm, hk, hk1, A1, A2, hlxs, hks, hcapk⟩ := at_half hA
  have hmI : (m : Int) / 2 = (k : Int) := by omega
  have hm1 : ((m : Int) == 1) = false := by simp; omega
  have hcap := A1.acap
  have hcx := A1.acx
  have B1 := hide A1
  have B2 := hide A2
  have I := hide ih
  have hk2 : (k : Int) ≤ (cap : Int) := by omega
  have hk3 : (k : Int) ≤ (m : Int) := by omega
  have hs2 : (s : Int) ≤ (lx : Int) := by omega
  have hlx : lx ≤ 4096 := by have := A1.alx; have := A1.n4; omega
  have hs4 : s ≤ 4096 := by omega
  have hck : ¬ cap = k := by omega
  have hcs : ¬ cx = s := by omega
  have hmk : m - k = k := by omega
  have hwr : IntKind.i64.wrap (2 * (s : Int)) = 2 * (s : Int) := by rw [IntKind.wrap_i64]; omega
  have hk4 : k ≤ 4096 := by have := A1.ao; have := A1.n4; omega
  have HA := hide hA
  have Hax := hide hax
  have hFh := hide hF
  have hxh := hide hx
  have hwh := hide hw
  have Hm := hide hm
  have Hk := hide hk
  have Hks := hide hks
  clear hA hax A1 A2 ih hF hx hw hm hk hks
  go_enter Try.func33, Try.ntmps33
  go_wp2_with fail
  refine (unhide I F o ox lx cap cx (2 * s) k (unhide B1) ax (unhide Hax) _ (by push_cast; rfl) w (unhide hFh) (unhide hxh) (unhide hwh)).mono ?_
  rintro e w1 ⟨rfl, hR1, hg1⟩
  have hx1 := hide (span_grown (unhide hxh) hg1 (by simpa using (fun e => hK.hgx e.symm)))
  have hw1 := hide (row_grown (unhide hwh) hg1 (by simpa using (fun e => hK.hgw e.symm)))
  have hR1 := hide hR1
  have hg1 := hide hg1
  go_wp2_with fail
  go_cut [39] (fun v wx => Hid (Row wx g n (laid (laid F o l c (sub xs ox (2 * s))) (o + k) l c (sub xs (ox + s) (2 * s))) ∧ w.grownBy wx (some g)))
  case first =>
    go_region_with (first | (go_at_call 33; refine (unhide I (laid F o l c (sub xs ox (2 * s))) (o + k) (ox + s) (lx - s) (cap - k) (cx - s) (2 * s) k (unhide B2) _ (by have := unhide Hax; omega) _ (by push_cast; rfl) w1.drew (row_drew (unhide hR1)) (span_drew (unhide hx1)) (row_drew (unhide hw1))).mono ?_; rintro e w2 ⟨rfl, hR2, hg2⟩))
    all_goals (go_wp2_with fail)
    all_goals go_meet
    case rel => exact ⟨hR2, grown_trans (unhide hg1) (grown_drew hg2)⟩
  case rest =>
    obtain ⟨hR2, hg2⟩ := unhide hcut
    have hw2 := hide (row_grown (unhide hwh) hg2 (by simpa using (fun e => hK.hgw e.symm)))
    have hR2 : Hid (Row wc g n (mid F o l k c (sub xs ox s) 0)) := row_ext hR2 fun i _ => mid_zero (unhide Hk) i
    have hg2 := hide hg2
    clear hcut hR1 hg1 hx1 hw1 hFh hxh I B1 B2
    go_wp2_with fail
    go_loopw [41] (fun ix wr => ∃ j : Nat, j ≤ k ∧ ix = .int .i64 j ∧ Hid (Row wr g n (mid F o l k c (sub xs ox s) j)) ∧ Hid (w.grownBy wr (some g))) (fun ix _ => k - (intOf ix).toNat)
    case atStart => exact ⟨0, Nat.zero_le _, rfl, hR2, hg2⟩
    case round =>
      obtain ⟨j, hj, rfl, hRr, hgr⟩ := hrel
      by_cases hjk : j < k
      · have hI : (j : Int) < (k : Int) := by omega
        have hR := unhide hRr
        have hon : o + m ≤ n := (unhide HA).ao
        have hjs : j * s < n := by
          have h1 : (j + 1) * s ≤ k * s := Nat.mul_le_mul_right _ hjk
          rw [Nat.add_mul, Nat.one_mul] at h1
          have := unhide Hks
          omega
        have c1 := row_at hR (i := o + j) (by omega)
        have c2 := row_at hR (i := o + (j + k)) (by omega)
        rw [mid_even hjk] at c1
        rw [mid_odd hjk] at c2
        have c3 := row_at (row_grown (unhide hwh) (unhide hgr) (by simpa using (fun e => hK.hgw e.symm))) hjs
        have f1 := row_frozen hR (o + j)
        have f2 := row_frozen hR (o + (j + k))
        have hB := hide (butterflyAny (fly_at hK (unhide HA) (by rw [← unhide Hk]; exact hjk)))
        have hp := hide (fft_low (c := c) (x := sub xs ox s) (by rw [← unhide Hk]; exact hjk))
        have hq := hide (fft_high (c := c) (x := sub xs ox s) (j := j) (unhide Hk))
        rw [wB_stride hK.len hK.hn (unhide HA).al (unhide HA).am (unhide HA).an] at hB c3
        unfold cv at c1 c2 c3
        generalize fft l c (fun i => sub xs ox s (2 * i)) j = e at c1 hB hp hq
        generalize fft l c (fun i => sub xs ox s (2 * i + 1)) j = oo at c2 hB hp hq
        generalize wB c (l + 1) j = t at c3 hB hp hq
        generalize addC e (mulC t oo) = p at hB hp
        generalize subC e (mulC t oo) = q at hB hq
        have hI2 : (j : Int) + (k : Int) < (m : Int) := by omega
        have hI3 : (j : Int) < (m : Int) := by omega
        have hn4 : n ≤ 4096 := (unhide HA).n4
        have hwj : IntKind.i64.wrap ((j : Int) * (s : Int)) = ((j * s : Nat) : Int) := by
          rw [← Int.natCast_mul]
          generalize j * s = y at hjs
          rw [IntKind.wrap_i64]
          omega
        generalize j * s = js at c3 hjs hwj
        have hI4 : (js : Int) < (n : Int) := by omega
        have hgl := row_lt hR
        have hgwl : gw < wr.heap.size := row_lt (row_grown (unhide hwh) (unhide hgr) (by simpa using (fun e => hK.hgw e.symm)))
        clear hR
        go_wp2_with fail
        go_region
        all_goals go_wp2_with fail
        go_cut [62] (fun v wx => Hid (wx.cell? ⟨wr.heap.size, 0, none⟩ = some (.complex .f64 p.1 p.2) ∧ wx.cell? ⟨wr.heap.size, 1, none⟩ = some (.complex .f64 q.1 q.2) ∧ wr.grownBy wx none))
        case first =>
          go_region_with (first | (go_at_call 44; refine (unhide hB _).mono ?_; rintro r w3 ⟨rfl, hb3⟩
                                   have q0 : w3.cell? ⟨wr.heap.size, 0, none⟩ = some (.complex .f64 e.1 e.2) := by rw [hb3.cell (by simp)]; simp [go_sem]
                                   have q1 : w3.cell? ⟨wr.heap.size, 1, none⟩ = some (.complex .f64 oo.1 oo.2) := by rw [hb3.cell (by simp)]; simp [go_sem]
                                   have z0 : w3.frozen? ⟨wr.heap.size, 0, none⟩ = false := by rw [hb3.frozen (by simp)]; simp [go_sem]
                                   have z1 : w3.frozen? ⟨wr.heap.size, 1, none⟩ = false := by rw [hb3.frozen (by simp)]; simp [go_sem]))
          all_goals go_wp2_with fail
          all_goals go_meet
          all_goals exact fly_post q0 q1 (grown_trans (World.grownBy_alloc wr _ none) (grown_drew (grown_drew (below_grown hb3))))
        case rest =>
          obtain ⟨d0, d1, hgd⟩ := unhide hcut
          have e1 : wc.cell? ⟨g, o + j, none⟩ = some (.complex .f64 e.1 e.2) := hgd.cell c1 (by simp)
          have e2 : wc.cell? ⟨g, o + (j + k), none⟩ = some (.complex .f64 oo.1 oo.2) := hgd.cell c2 (by simp)
          have e3 : wc.frozen? ⟨g, o + j, none⟩ = false := (World.frozen?_of_block (hgd.block g hgl (by simp))).trans f1
          have e4 : wc.frozen? ⟨g, o + (j + k), none⟩ = false := (World.frozen?_of_block (hgd.block g hgl (by simp))).trans f2
          have hRc := hide (row_set (row_set (row_grown (unhide hRr) hgd (by simp)) (o + j) p) (o + (j + k)) q)
          have hgc : Hid (w.grownBy ((wc.setCell ⟨g, o + j, none⟩ (.complex .f64 p.1 p.2)).setCell ⟨g, o + (j + k), none⟩ (.complex .f64 q.1 q.2)) (some g)) :=
            grown_trans (unhide hgr) (grown_trans (grown_any hgd) (grown_trans (grown_set _ _ _ _) (grown_set _ _ _ _)))
          have hne : g ≠ wr.heap.size := by omega
          have hne2 : wr.heap.size ≠ g := by omega
          have hjj : ¬ o + j = o + (j + k) := by omega
          have hjj2 : ¬ o + (j + k) = o + j := by omega
          clear hcut hRr hgr hgd c1 c2 c3 f1 f2 hB
          go_wp2_with fail
          go_region
          all_goals go_wp2_with fail
          all_goals refine ⟨⟨j + 1, hjk, by go_num, row_drew (row_ext (unhide hRc) fun i _ => ?_), grown_drew' (unhide hgc)⟩, by simp [intOf]; omega⟩
          all_goals rw [← unhide hp, ← unhide hq]
          all_goals exact mid_step hjk i
      · have hjk' : j = k := by omega
        go_wp2_with fail
        go_end0
        subst hjk'
        exact ⟨rfl, row_ext (unhide hRr) fun i _ => mid_last (unhide Hk) i, unhide hgr⟩

theorem layAny {c b L n g gx gw q : Nat} {xs : Nat → Nat × Nat} (hK : Fix c b L n g gx gw xs) (l : Nat) : ∀ (F : Nat → Nat × Nat) (o ox lx cap cx s m : Nat) (_ : At L n l m s o ox lx cap cx) (ax : Nat) (_ : ax = q + ox) (sI : Int) (_ : sI = s) (w : World) (_ : Row w g n F) (_ : Span w gx q n xs) (_ : Row w gw n (wB c L)),
      Calls Try.prog 33 #[.slice (some ⟨g, o, none⟩) m cap, .slice (some ⟨gx, ax, none⟩) lx cx, .slice (some ⟨gw, 0, none⟩) n n, .int .i64 sI] w fun e w' =>
        e = .returned (.tuple #[]) ∧ Row w' g n (laid F o l c (sub xs ox s)) ∧ w.grownBy w' (some g) := by
  induction l with
  | zero =>
    intro F o ox lx cap cx s m hA ax hax sI _ w hF hx _
    have hm : m = 1 := hA.am
    subst hm
    exact lay_one hA hax sI w hF hx _
  | succ l ih =>
    intro F o ox lx cap cx s m hA ax hax sI hs w hF hx hw
    subst hs
    exact lay_step hK l ih hA hax w hF hx hw
end Go.Proofs.Ytgbffbikieikdaa
