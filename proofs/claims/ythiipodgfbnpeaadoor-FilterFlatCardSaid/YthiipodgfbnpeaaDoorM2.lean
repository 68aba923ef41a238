/- The roots of an eighth, of a quarter, of all. The table of roots. -/
import Derived.Test.YthiipodgfbnpeaaDoorR2
import Derived.Deep.QuietTactic
import Derived.BigQuiet
namespace Go.Proofs.YthiipodgfbnpeaaDoor
open Go.RowKit

theorem and_bit0 : ∀ a : Nat, a < 33 → ∀ b : Nat, b < 16 → ∀ t : Nat, t < 10 → bits .and .i64 ((16 * a + b : Nat) : Int) ((2 ^ t : Nat) : Int) = (((16 * a + b) / 2 ^ t % 2 * 2 ^ t : Nat) : Int) := by decide +kernel
theorem and_bit (k t : Nat) (hk : k ≤ 512) (ht : t ≤ 9) : bits .and .i64 (k : Int) ((2 ^ t : Nat) : Int) = ((k / 2 ^ t % 2 * 2 ^ t : Nat) : Int) := by
  have := and_bit0 (k / 16) (by omega) (k % 16) (by omega) t (by omega)
  rw [show 16 * (k / 16) + k % 16 = k by omega] at this
  exact this

/-- The slice v holds the first L steps. -/
def Has (w : World) (v : Value) (L : Nat) : Prop := (L = 0 ∧ ∃ ao cap, v = .slice ao 0 cap) ∨ ∃ g cap, v = .slice (some ⟨g, 0, none⟩) L cap ∧ ∀ i, i < L → w.cell? ⟨g, i, none⟩ = some (.complex .f64 (st i).1 (st i).2)

theorem has_of_owns {w : World} {B L : Nat} {v : Value} (h : w.ownsRow B 33 1 v L (stepVals L)) : Has w v L := by
  rcases h.2 with ⟨h1, h2⟩ | ⟨g, cap, cur, h1, h2⟩
  · exact .inl ⟨h2, none, 0, h1⟩
  · refine .inr ⟨g, cap, h1, fun i hi => ?_⟩
    subst h1
    rw [h.cellAt i (by omega)]
    exact stepVals_get hi

def Len (n L : Nat) : Prop := (n < 8 ∧ L = 0) ∨ ∃ j, j ≤ 9 ∧ n = 8 * 2 ^ j ∧ L = j + 1

theorem ord_len {n s : Nat} (h : Ord n s) : ∃ L, Len n L := by
  by_cases h8 : n < 8
  · exact ⟨0, .inl ⟨h8, rfl⟩⟩
  · obtain ⟨j, hj, hn, -⟩ := ord_eight h (by omega)
    exact ⟨j + 1, .inr ⟨j, hj, hn, rfl⟩⟩

theorem len_steps {n L : Nat} (h : Len n L) (hn : n ≤ 4096) (w : World) :
    Calls Tryd.prog 22 #[.int .i64 n] w fun e w' => ∃ v, e = .returned v ∧ w'.ownsRow w.heap.size 33 1 v L (stepVals L) ∧ Below w.heap.size w w' := by
  rcases h with ⟨h8, rfl⟩ | ⟨j, hj, rfl, rfl⟩
  · exact stepsTo_any n 0 (by omega) (fun i hi => absurd hi (by omega)) (by rw [Nat.pow_zero]; omega) hn w
  · refine stepsTo_any _ (j + 1) (by omega) (fun i hi => ?_) ?_ hn w
    · have : 2 ^ i ≤ 2 ^ j := Nat.pow_le_pow_right (by decide) (by omega)
      omega
    · have := Nat.two_pow_pos j
      rw [Nat.pow_succ]; omega

theorem half_pow {j i : Nat} (h : i < j) : 2 ^ (j - i) / 2 = 2 ^ (j - (i + 1)) := by
  rw [show j - i = j - (i + 1) + 1 by omega, Nat.pow_succ]; omega

theorem div_step {k j i : Nat} (h : i ≤ j) : k / 2 ^ (j + 1 - i) = k / 2 ^ (j - i) / 2 := by
  rw [show j + 1 - i = j - i + 1 by omega, Nat.pow_succ, Nat.div_div_eq_div_mul]

theorem pow_step {i : Nat} (h : i ≤ 9) : 2 ^ (10 - i) = 2 * 2 ^ (9 - i) := by
  rw [show 10 - i = 9 - i + 1 by omega, Nat.pow_succ]; omega

/-- What has been multiplied so far, when i bits have been looked at. -/
def part (j k i : Nat) : Nat × Nat := full (k / 2 ^ (j + 1 - i) * 2 ^ (10 - i))

theorem part_zero {j k : Nat} (hk : k ≤ 2 ^ j) : part j k 0 = (4607182418800017408, 0) := by
  have : 0 < 2 ^ j := Nat.two_pow_pos j
  unfold part
  rw [Nat.div_eq_of_lt (by rw [Nat.sub_zero, Nat.pow_succ]; omega), Nat.zero_mul]
  exact at_nought

theorem part_last {j k : Nat} (hj : j ≤ 9) : part j k (j + 1) = full (k * 2 ^ (9 - j)) := by
  unfold part
  rw [show j + 1 - (j + 1) = 0 by omega, show 10 - (j + 1) = 9 - j by omega, Nat.pow_zero, Nat.div_one]

theorem part_even {j k i : Nat} (hj : j ≤ 9) (hi : i ≤ j) (h : k / 2 ^ (j - i) % 2 = 0) : part j k (i + 1) = part j k i := by
  unfold part
  rw [show j + 1 - (i + 1) = j - i by omega, show 10 - (i + 1) = 9 - i by omega, div_step hi, pow_step (show i ≤ 9 by omega)]
  generalize k / 2 ^ (j - i) = c at *
  generalize 2 ^ (9 - i) = p
  rw [← Nat.mul_assoc, show c / 2 * 2 = c by omega]

theorem part_odd {j k i : Nat} (hj : j ≤ 9) (hi : i ≤ j) (hk : k ≤ 2 ^ j) (h : k / 2 ^ (j - i) % 2 = 1) : mulP (part j k i) (st i) = some (part j k (i + 1)) := by
  have hle : k / 2 ^ (j - i) ≤ 2 ^ i := by
    have h1 : k / 2 ^ (j - i) ≤ 2 ^ j / 2 ^ (j - i) := Nat.div_le_div_right hk
    rw [Nat.pow_div (by omega) (by decide), show j - (j - i) = i by omega] at h1
    exact h1
  have key := at_odd (show i ≤ 9 by omega) h hle
  unfold part
  rw [show j + 1 - (i + 1) = j - i by omega, show 10 - (i + 1) = 9 - i by omega, div_step hi, pow_step (show i ≤ 9 by omega)]
  rw [← key]
  generalize k / 2 ^ (j - i) = c at *
  generalize 2 ^ (9 - i) = p
  rw [← Nat.mul_assoc, show c / 2 * 2 = c - 1 by omega]

set_option maxHeartbeats 1600000 in
theorem eighth_some (n j k g cap : Nat) (hj : j ≤ 9) (hn : n = 8 * 2 ^ j) (hk : k ≤ 2 ^ j) (w : World)
    (hc : ∀ i, i < j + 1 → w.cell? ⟨g, i, none⟩ = some (.complex .f64 (st i).1 (st i).2)) :
    Calls Tryd.prog 48 #[.int .i64 n, .int .i64 k, .slice (some ⟨g, 0, none⟩) (j + 1) cap] w fun e w' =>
      e = .returned (.complex .f64 (full (k * 2 ^ (9 - j))).1 (full (k * 2 ^ (9 - j))).2) ∧ w' = w := by
  have hb : n ≤ 4096 := by rw [hn]; exact le_top hj
  have hkk : k ≤ 512 := by
    have := le_top hj
    omega
  have hn8 : Hid (n / 8 = 2 ^ j) := by rw [hn]; exact Nat.mul_div_cancel_left _ (by decide)
  have hK := hide hk
  have hC := hide hc
  have h0 := hide (part_zero hk)
  have hl := hide (part_last (k := k) hj)
  clear hn hk hc
  go_enter Tryd.func48, Tryd.ntmps48
  go_wp2_with fail
  go_loopw [7, 8, 15] (fun r b ix wr => ∃ i bb : Nat, i ≤ j + 1 ∧ r = .complex .f64 (part j k i).1 (part j k i).2 ∧ b = .int .i64 bb ∧ Hid (i ≤ j → bb = 2 ^ (j - i)) ∧ ix = .int .i64 i ∧ wr = w) (fun _ _ ix _ => 20 - (intOf ix).toNat)
  case atStart => exact ⟨0, n / 8, Nat.zero_le _, by rw [unhide h0], by go_num, fun _ => unhide hn8, rfl, rfl⟩
  case round =>
    obtain ⟨i, bb, hi, rfl, rfl, hbb, rfl, rfl⟩ := hrel
    by_cases h : i < j + 1
    · have hcell := unhide hC i h
      have hpw : bb = 2 ^ (j - i) := unhide hbb (by omega)
      have hval := and_bit k (j - i) (by omega) (by omega)
      rw [← hpw] at hval
      have hbpos : 0 < bb := by rw [hpw]; exact Nat.two_pow_pos _
      have hb5 : bb ≤ 512 := by
        rw [hpw]
        have : 2 ^ (j - i) ≤ 2 ^ 9 := Nat.pow_le_pow_right (by decide) (by omega)
        exact this
      have hnext : Hid (i + 1 ≤ j → bb / 2 = 2 ^ (j - (i + 1))) := fun h' => by rw [hpw]; exact half_pow (by omega)
      rcases Nat.mod_two_eq_zero_or_one (k / 2 ^ (j - i)) with hm | hm
      · have hp := hide (part_even hj (by omega) hm)
        rw [← hpw] at hm
        rw [hm, Nat.zero_mul] at hval
        clear hpw hm
        go_wp2_with fail
        go_roundw
        case rel => exact ⟨i + 1, bb / 2, by omega, by rw [unhide hp], by go_num, hnext, by go_num, by trivial⟩
        case measure => simp [intOf]; omega
      · obtain ⟨x, y, hxy, hfull⟩ := mulTo_of_mulP (part_odd hj (by omega) (unhide hK) hm)
        have hp := hide hfull
        have hM := hide hxy
        rw [← hpw] at hm
        rw [hm, Nat.one_mul] at hval
        clear hpw hm hfull hxy
        go_wp2_with (first | (go_at_call 58; refine (mul45 (unhide hM) _).mono ?_; rintro e w' ⟨rfl, rfl⟩) | (go_at_call 19; refine (plain34 _ _ _).mono ?_; rintro e w' ⟨rfl, rfl⟩))
        go_roundw
        case rel => exact ⟨i + 1, bb / 2, by omega, by rw [unhide hp], by go_num, hnext, by go_num, by trivial⟩
        case measure => simp [intOf]; omega
    · have hij : i = j + 1 := by omega
      subst hij
      go_wp2_with fail
      go_ret
      refine ⟨?_, rfl⟩
      show Ending.returned (Value.complex .f64 (part j k (j + 1)).1 (part j k (j + 1)).2) = _
      rw [unhide hl]

set_option maxHeartbeats 800000 in
theorem eighth_none (n : Nat) (hb : n ≤ 4096) (k : Int) (ao : Option Addr) (cap : Nat) (w : World) :
    Calls Tryd.prog 48 #[.int .i64 n, .int .i64 k, .slice ao 0 cap] w fun e w' => e = .returned (.complex .f64 4607182418800017408 0) ∧ w' = w := by
  go_enter Tryd.func48, Tryd.ntmps48
  go_wp2_with fail
  refine wp_loop_rounds 1 ?_
  rw [rounds_succ]
  go_wp2_with fail
  go_ret
  exact ⟨rfl, rfl⟩

theorem eighth_any {n s L k : Nat} (ho : Ord n s) (hL : Len n L) (hk : k ≤ n / 8) (kI : Int) (hkI : kI = k) {v : Value} {w : World} (hv : Has w v L) :
    Calls Tryd.prog 48 #[.int .i64 n, .int .i64 kI, v] w fun e w' => e = .returned (.complex .f64 (full (k * s)).1 (full (k * s)).2) ∧ w' = w := by
  subst hkI
  rcases hL with ⟨h8, rfl⟩ | ⟨j, hj, hn, rfl⟩
  · have hk0 : k = 0 := by omega
    subst hk0
    have hf : full (0 * s) = (4607182418800017408, 0) := at_zero s
    rw [hf]
    rcases hv with ⟨_, ao, cap, rfl⟩ | ⟨g, cap, rfl, _⟩
    · exact eighth_none n (ord_le ho).1 _ _ _ w
    · exact eighth_none n (ord_le ho).1 _ _ _ w
  · rcases hv with ⟨h0, _⟩ | ⟨g, cap, rfl, hc⟩
    · omega
    · have hs : s = 2 ^ (9 - j) := by
        obtain ⟨e, he, h1, h2⟩ := ho
        have h3 : 2 ^ e = 2 ^ (j + 3) := by rw [← h1, hn, Nat.pow_add]; omega
        have h4 : e = j + 3 := by have := congrArg Nat.log2 h3; rwa [Nat.log2_two_pow, Nat.log2_two_pow] at this
        rw [h2, h4, show 12 - (j + 3) = 9 - j by omega]
      subst hs
      refine eighth_some n j k g cap hj hn ?_ w hc
      rw [hn, Nat.mul_div_cancel_left _ (by decide)] at hk
      exact hk

set_option maxHeartbeats 800000 in
theorem quarter_any {n s L k : Nat} (ho : Ord n s) (hL : Len n L) (h4 : 4 ≤ n) (hk : k < n / 4) (kI : Int) (hkI : kI = k) {v : Value} {w : World} (hv : Has w v L) :
    Calls Tryd.prog 37 #[.int .i64 n, .int .i64 kI, v] w fun e w' => e = .returned (.complex .f64 (full (k * s)).1 (full (k * s)).2) ∧ w' = w := by
  subst hkI
  have hle := ord_le ho
  by_cases c : n / 8 < k
  · have hr := hide (at_swap ho h4 c hk)
    have h88 : n / 4 - k ≤ n / 8 := by
      rcases ord_cases ho with h | h | h | h | h | h | h | h | h | h | h | h | h <;> omega
    have hc := hide (eighth_any ho hL (k := n / 4 - k) h88 ((n : Int) / 4 - (k : Int)) (by omega) hv)
    clear ho hL hv h88
    go_enter Tryd.func37, Tryd.ntmps37
    go_wp2_with (first | (go_at_call 48; refine (unhide hc).mono ?_; rintro e w' ⟨rfl, rfl⟩))
    go_ret
    exact ⟨ret_eq (unhide hr), rfl⟩
  · have hc := hide (eighth_any ho hL (k := k) (by omega) (k : Int) rfl hv)
    clear ho hL hv
    go_enter Tryd.func37, Tryd.ntmps37
    go_wp2_with (first | (go_at_call 48; refine (unhide hc).mono ?_; rintro e w' ⟨rfl, rfl⟩))
    go_ret
    exact ⟨rfl, rfl⟩
theorem turn_step {n s q r t : Nat} (ho : Ord n s) (h4 : 4 ≤ n) (hq : n / 4 = q) : full ((r + (t + 1) * q) * s) = turnP (full ((r + t * q) * s)) := by
  have h1 : r + (t + 1) * q - n / 4 = r + t * q := by rw [hq, Nat.add_mul, Nat.one_mul]; omega
  rw [← h1]
  exact at_turn ho h4 (by rw [hq, Nat.add_mul, Nat.one_mul]; omega)

set_option maxHeartbeats 1600000 in
theorem rootAt_four {n s L k : Nat} (ho : Ord n s) (hL : Len n L) (h4 : 4 ≤ n) (hk : k < n) {v : Value} {w : World} (hv : Has w v L) :
    Calls Tryd.prog 23 #[.int .i64 n, .int .i64 k, v] w fun e w' => e = .returned (.complex .f64 (full (k * s)).1 (full (k * s)).2) ∧ w' = w := by
  have hle := ord_le ho
  obtain ⟨q, hq⟩ : ∃ q, n / 4 = q := ⟨_, rfl⟩
  have hqI : (n : Int) / 4 = (q : Int) := by omega
  have hqpos : 0 < q := by omega
  have hrem : ((k : Int) % (q : Int)) = ((k % q : Nat) : Int) := by simp
  have hquo : ((k : Int) / (q : Int)) = ((k / q : Nat) : Int) := by simp
  have hrlt : k % q < q := Nat.mod_lt _ hqpos
  have hdm : Hid (k % q + k / q * q = k) := by show k % q + k / q * q = k; rw [Nat.mul_comm]; exact Nat.mod_add_div k q
  have hcq : k / q ≤ k := Nat.div_le_self _ _
  have hts := hide fun r t => turn_step (r := r) (t := t) ho h4 hq
  have hc := hide (quarter_any ho hL h4 (k := k % q) (by omega) ((k % q : Nat) : Int) rfl hv)
  clear ho hL hv hq
  obtain ⟨r, hr⟩ : ∃ r, r = k % q := ⟨_, rfl⟩
  obtain ⟨c, hcc⟩ : ∃ c, c = k / q := ⟨_, rfl⟩
  rw [← hr] at hrem hrlt hdm hc
  rw [← hcc] at hquo hdm hcq
  clear hr hcc
  go_enter Tryd.func23, Tryd.ntmps23
  go_wp2_with (first | (go_at_call 37; refine (unhide hc).mono ?_; rintro e w' ⟨rfl, rfl⟩))
  go_loopw [8, 28] (fun a ix wr => ∃ t : Nat, t ≤ c ∧ a = .complex .f64 (full ((r + t * q) * s)).1 (full ((r + t * q) * s)).2 ∧ ix = .int .i64 t ∧ wr = w') (fun _ ix _ => c - (intOf ix).toNat)
  case atStart => exact ⟨0, Nat.zero_le _, by rw [Nat.zero_mul, Nat.add_zero], rfl, rfl⟩
  case round =>
    obtain ⟨t, ht, rfl, rfl, rfl⟩ := hrel
    by_cases h : t < c
    · have hs := hide (unhide hts r t)
      clear hts
      go_wp2_with (first | (go_at_call 38; refine (turn35 _ _ _).mono ?_; rintro e w2 ⟨rfl, rfl⟩) | (go_at_call 19; refine (plain34 _ _ _).mono ?_; rintro e w2 ⟨rfl, rfl⟩))
      go_roundw
      case rel => exact ⟨t + 1, by omega, by rw [unhide hs]; rfl, by go_num, by trivial⟩
      case measure => simp [intOf]; omega
    · have htc : t = c := by omega
      subst htc
      go_wp2_with fail
      go_ret
      refine ⟨?_, rfl⟩
      show Ending.returned (Value.complex .f64 (full ((r + t * q) * s)).1 (full ((r + t * q) * s)).2) = _
      rw [unhide hdm]

theorem ord4 : Ord 4 1024 := ⟨2, by decide, rfl, rfl⟩

set_option maxHeartbeats 1600000 in
theorem rootAt_any {n s L k : Nat} (ho : Ord n s) (hL : Len n L) (hk : k < n) (kI : Int) (hkI : kI = k) {v : Value} {w : World} (hv : Has w v L) :
    Calls Tryd.prog 23 #[.int .i64 n, .int .i64 kI, v] w fun e w' => e = .returned (.complex .f64 (full (k * s)).1 (full (k * s)).2) ∧ w' = w := by
  subst hkI
  by_cases h4 : 4 ≤ n
  · exact rootAt_four ho hL h4 hk hv
  · have hc : (n = 1 ∧ s = 4096) ∨ (n = 2 ∧ s = 2048) := by
      rcases ord_cases ho with h | h | h | h | h | h | h | h | h | h | h | h | h <;> omega
    have hL0 : Len 4 L := by
      rcases hL with ⟨_, h⟩ | ⟨j, _, h, _⟩
      · exact .inl ⟨by decide, h⟩
      · have := Nat.two_pow_pos j; omega
    rcases hc with ⟨rfl, rfl⟩ | ⟨rfl, rfl⟩
    · have hk0 : k = 0 := by omega
      subst hk0
      have hr := hide (rootAt_four ord4 hL0 (by decide) (k := 0) (by decide) hv)
      clear ho hL hL0 hv h4 hk
      go_enter Tryd.func23, Tryd.ntmps23
      go_wp2_with (first | (go_at_call 23; refine (unhide hr).mono ?_; rintro e w' ⟨rfl, rfl⟩))
      go_ret
      exact ⟨rfl, rfl⟩
    · have hr := hide (rootAt_four ord4 hL0 (by decide) (k := k * 2) (by omega) hv)
      have hcast : ((k * 2 : Nat) : Int) = (k : Int) * 2 := by simp
      rw [hcast] at hr
      have he : k * 2 * 1024 = k * 2048 := by omega
      rw [he] at hr
      clear ho hL hL0 hv h4 hcast he
      go_enter Tryd.func23, Tryd.ntmps23
      go_wp2_with (first | (go_at_call 23; refine (unhide hr).mono ?_; rintro e w' ⟨rfl, rfl⟩))
      go_ret
      exact ⟨rfl, rfl⟩
end Go.Proofs.YthiipodgfbnpeaaDoor

namespace Go.Proofs.YthiipodgfbnpeaaDoor
open Go.RowKit

theorem store_complex {P : Program} {w : World} {a : Addr} {m : Mode} (k : FloatKind) (x y : Nat) : (store a (.complex k x y) m).run P w = stored P w a (.complex k x y) m := run_store P w a _ m rfl
attribute [local go_sem] store_complex

def val (s i : Nat) : Value := .complex .f64 (full (i * s)).1 (full (i * s)).2

/-- Block g is a row of n cells, the first k of which are roots. -/
def Tab (w : World) (g n s k : Nat) : Prop := ∃ xs, w.ownsRow g 33 1 (.slice (some ⟨g, 0, none⟩) n n) n xs ∧ ∀ i, i < k → xs[i]? = some (val s i)

theorem tab_cell {w : World} {g n s k i : Nat} (h : Tab w g n s k) (hk : k ≤ n) (hi : i < k) : w.cell? ⟨g, i, none⟩ = some (val s i) := by
  obtain ⟨xs, h1, h2⟩ := h
  rw [h1.cellAt i (by omega)]
  exact h2 i hi

theorem row_cell {w : World} {g n s k i : Nat} (h : Tab w g n s k) (hi : i < n) : (∃ u, w.cell? ⟨g, i, none⟩ = some u) ∧ w.frozen? ⟨g, i, none⟩ = false := by
  obtain ⟨xs, h1, h2⟩ := h
  refine ⟨?_, h1.frozenAt i⟩
  rw [h1.cellAt i (by omega)]
  have hl : xs.length = n * 1 := h1.1
  exact ⟨xs[i]'(by omega), List.getElem?_eq_getElem (by omega)⟩

theorem tab_store {w : World} {g n s k : Nat} (h : Tab w g n s k) (hk : k < n) : Tab (w.setCell ⟨g, k, none⟩ (val s k)) g n s (k + 1) := by
  obtain ⟨xs, h1, h2⟩ := h
  have hl : xs.length = n * 1 := h1.1
  refine ⟨xs.set k (val s k), (h1.stored k _).1, fun i hi => ?_⟩
  by_cases c : i = k
  · subst c
    rw [List.getElem?_set_self (by omega)]
  · rw [List.getElem?_set_ne (by omega)]
    exact h2 i (by omega)

theorem tab_block {w w' : World} {g n s k : Nat} (h : Tab w g n s k) (hb : w'.heap[g]? = w.heap[g]?) : Tab w' g n s k := by
  obtain ⟨xs, ⟨h0, h1⟩, h2⟩ := h
  refine ⟨xs, ⟨h0, ?_⟩, h2⟩
  rcases h1 with ⟨h3, h4⟩ | ⟨g', cap, cur, h3, h4⟩
  · exact .inl ⟨h3, h4⟩
  · have hg : g' = g := by
      simp only [Value.slice.injEq, Option.some.injEq, Addr.mk.injEq, and_true] at h3
      exact h3.1.symm
    subst hg
    exact .inr ⟨g', cap, cur, h3, h4.1, by rw [hb]; exact h4.2.1, h4.2.2⟩

theorem tab_lt {w : World} {g n s k : Nat} (h : Tab w g n s k) : g < w.heap.size := by
  obtain ⟨xs, h1, h2⟩ := h
  exact (h1.lt g rfl).2

theorem tab_made {w w' : World} {n s : Nat} {xs : List Value} (h : w'.ownsRow w.heap.size 33 1 (.slice (some ⟨w.heap.size, 0, none⟩) n n) n xs) : Tab w' w.heap.size n s 0 :=
  ⟨xs, h, fun i hi => absurd hi (by omega)⟩

theorem has_below {w w' : World} {v : Value} {L B : Nat} (h : Has w v L) (hb : Below B w w') (hv : ∀ g, v.ownBlock = some g → g < B) : Has w' v L := by
  rcases h with h | ⟨g, cap, rfl, h⟩
  · exact .inl h
  · exact .inr ⟨g, cap, rfl, fun i hi => (hb.cell (hv g rfl)).trans (h i hi)⟩

theorem cell_heap {w w' : World} (h : w'.heap = w.heap) (a : Addr) : w'.cell? a = w.cell? a := World.cell?_of_block (by rw [h])

theorem grown_below {w w' : World} (h : w.grownBy w' none) : Below w.heap.size w w' := (Below.refl _ _).grown h (Nat.le_refl _) (fun k hk => by cases hk)

set_option maxHeartbeats 1600000 in
theorem table_yes {n s : Nat} (h : Ord n s) (w : World) :
    Calls Tryd.prog 14 #[.int .i64 n] w fun e w' => ∃ g, e = .returned (.tuple #[.slice (some ⟨g, 0, none⟩) n n, .int .i64 0]) ∧ w.heap.size ≤ g ∧ Tab w' g n s n ∧ Below w.heap.size w w' := by
  obtain ⟨i0, hi0, hz0, hz1, hz2⟩ := info_parts infoC
  have hc := hide (isOrder_yes h)
  have hl := ord_le h
  obtain ⟨L, hL⟩ := ord_len h
  have hst := hide (len_steps hL hl.1)
  have hat := hide fun (k : Nat) (hk : k < n) (v : Value) (w : World) (hv : Has w v L) => rootAt_any h hL hk (k : Int) rfl hv
  clear h hL
  go_enter Tryd.func14, Tryd.ntmps14
  go_wp2_with (first | (go_at_call 21; refine (unhide hc _).mono ?_; rintro e w' ⟨rfl, rfl⟩))
  refine (unhide hst _).mono ?_
  rintro e w1 ⟨v, rfl, hown, hbel⟩
  have hH := hide (has_of_owns hown)
  have hV : Hid (∀ g, v.ownBlock = some g → g < w1.heap.size) := fun g hg => (hown.lt g hg).2
  clear hown
  go_wp2_with (first
    | (at_make; refine wpList_make_full _ rfl (.tmp 12) (.tmp 12) 32 rfl w1.heap.size 33 i0 (.complex .f64 0 0) 1 Tryd.underlying32 hi0 hz0 hz1 .i64 .i64 n n n rfl rfl rfl rfl ?c1 ?c2 ?c3 ?_))
  case c1 => rw [hz2]; omega
  case c2 => unfold maxLen; omega
  case c3 => exact Nat.le_refl _
  intro w2 hown2 hg2
  have hT := hide (tab_made (s := s) hown2)
  have hB := hide (grown_below hg2)
  clear hown2 hg2
  go_wp2_with fail
  go_loopw [16] (fun ix wr => ∃ k : Nat, k ≤ n ∧ ix = .int .i64 k ∧ Hid (Tab wr w1.heap.size n s k) ∧ Hid (Below w1.heap.size w1 wr)) (fun ix _ => n - (intOf ix).toNat)
  case atStart => exact ⟨0, Nat.zero_le _, rfl, unhide hT, unhide hB⟩
  case round =>
    obtain ⟨k, hk, rfl, hTr, hBr⟩ := hrel
    by_cases hkn : k < n
    · have hc := hide (unhide hat k hkn v wr (has_below (unhide hH) (unhide hBr) (unhide hV)))
      have hI : (k : Int) < (n : Int) := by omega
      obtain ⟨⟨u, hu⟩, hf⟩ := row_cell (unhide hTr) hkn
      have hR := hide (tab_store (unhide hTr) hkn)
      have hBn := hide ((unhide hBr).setCell (p := ⟨w1.heap.size, k, none⟩) (Nat.le_refl _) (val s k))
      clear hat hTr hBr hT hB
      go_wp2_with (first | (go_at_call 23; refine (unhide hc).mono ?_; rintro e w' ⟨rfl, rfl⟩))
      go_roundw
      case rel => exact ⟨k + 1, hkn, by go_num, unhide hR, unhide hBn⟩
      case measure => simp [intOf]; omega
    · have hkn' : k = n := by omega
      subst hkn'
      go_wp2_with fail
      go_ret2
      exact ⟨_, rfl, hbel.size, unhide hTr, hbel.trans ((unhide hBr).mono hbel.size)⟩
end Go.Proofs.YthiipodgfbnpeaaDoor
