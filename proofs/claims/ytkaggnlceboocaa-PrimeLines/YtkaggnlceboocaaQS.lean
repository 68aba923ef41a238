/- Package prime's own sums of a list. -/
import Derived.Test.YtkaggnlceboocaaQL
import Derived.Test.YtkaggnlceboocaaYG
import Derived.Test.YtkaggnlceboocaaYQ
import Derived.Laws.ComplexArith
import Derived.BigRegion
import Derived.OwnWalkIn
import Derived.TacticsInMore
import Derived.LoopNIn
import Derived.LoopIn
import Derived.Shelf.Abstract
import Derived.Shelf.RegionOpen
namespace Go.Proofs.Ytkaggnlceboocaa
open Go.RowKit Go.Shelf
attribute [local go_sem] Oper.semAt_some store_complex

theorem mixed : Try.prog.follows .mixedOrders = true := by kernel_rfl
theorem onP_lt {p m t k : Nat} (ht : t < p) (hk : k < p) : (onP p m t k).1 < p ∧ (onP p m t k).2 < p := by
  unfold onP
  split
  · exact ⟨ht, hk⟩
  · exact ⟨hk, Nat.mod_lt _ (by omega)⟩

/-- The place of a cell of a line in the row of all cells. -/
def plP (p m t k : Nat) : Nat := (onP p m t k).2 * p + (onP p m t k).1
theorem plP_lt {p m t k : Nat} (ht : t < p) (hk : k < p) : plP p m t k < p * p := by
  obtain ⟨h1, h2⟩ := onP_lt (m := m) ht hk
  unfold plP
  have : ((onP p m t k).2 + 1) * p ≤ p * p := Nat.mul_le_mul_right _ h2
  rw [Nat.succ_mul] at this
  omega

/-- The sum of the first k cells of a line. -/
def sumZ (z : Nat → Int × Int) (p m t : Nat) : Nat → Int × Int
  | 0 => (0, 0)
  | k + 1 => addZ (sumZ z p m t k) (z (plP p m t k))

theorem sumZ_le {z : Nat → Int × Int} {p m t M : Nat} (ht : t < p) (hz : ∀ j, j < p * p → (z j).1.natAbs ≤ M ∧ (z j).2.natAbs ≤ M) : ∀ k, k ≤ p → (sumZ z p m t k).1.natAbs ≤ k * M ∧ (sumZ z p m t k).2.natAbs ≤ k * M
  | 0, _ => by simp [sumZ]
  | k + 1, h => by
    obtain ⟨h1, h2⟩ := sumZ_le (m := m) ht hz k (by omega)
    obtain ⟨h3, h4⟩ := hz _ (plP_lt (m := m) ht (show k < p by omega))
    simp only [sumZ, addZ]
    rw [Nat.succ_mul]
    constructor <;> omega

theorem add_sumQ {a b r : Nat × Nat} (h : AddTo a b r) : cSumBits .add .f64 a.1 a.2 b.1 b.2 = some (r.1, r.2) := by
  unfold cSumBits
  rw [h.one, h.two]
  rfl

/-- What stands while the list is summed: its row, the grid's box. -/
structure Sums (w : World) (N NN g c : Nat) (f' : Nat → Nat × Nat) (W : World) : Prop where
  row : Row W (w.heap.size + 1) N f'
  box : W.heap[w.heap.size]? = some (.cells #[.int .i64 N, .slice (some ⟨g, 0, none⟩) NN c] 39 (0, 0))
  below : Below w.heap.size w W

theorem Sums.on {w W W' : World} {N NN g c : Nat} {f' : Nat → Nat × Nat} (h : Sums w N NN g c f' W) (hb : Below W.heap.size W W') : Sums w N NN g c f' W' := by
  have := row_lt h.row
  exact ⟨row_below h.row hb this, (hb.block _ (by omega)).trans h.box, h.below.trans (hb.mono h.below.size)⟩

theorem Sums.set {w W : World} {N NN g c : Nat} {f' : Nat → Nat × Nat} (h : Sums w N NN g c f' W) (k : Nat) (v : Nat × Nat) : Sums w N NN g c (upd f' k v) (W.setCell ⟨w.heap.size + 1, k, none⟩ (cv v)) :=
  ⟨row_set h.row k v, (Below.heap_setCell _ _ _ _ (by show w.heap.size ≠ w.heap.size + 1; omega)).trans h.box, h.below.setCell (p := ⟨w.heap.size + 1, k, none⟩) (by show w.heap.size ≤ w.heap.size + 1; omega) _⟩

theorem below_drewQ (B : Nat) (W : World) (k : Nat) : Below B W (W.drewN k) := ⟨rfl, rfl, rfl, Nat.le_refl _, fun _ _ => rfl⟩

set_option maxRecDepth 100000 in
set_option maxHeartbeats 6400000 in
theorem sumsAny {N M g c m : Nat} {f : Nat → Nat × Nat} {z : Nat → Int × Int} (w : World) (h1 : 1 ≤ N) (h2 : N ≤ 61) (hM : M ≤ N) (hR : Row w g (N * N) f) (hz : ∀ j, j < N * N → Cell (f j) (z j) m) (hm : m ≤ 1048576) :
    Calls Try.prog 13 #[gridV N g c, .int .i64 M] w fun e w' => ∃ g' f', e = .returned (.slice (some ⟨g', 0, none⟩) N N) ∧ w.heap.size ≤ g' ∧ Row w' g' N f' ∧ (∀ t, t < N → IC (f' t) (sumZ z N M t N)) ∧ Below w.heap.size w w' := by
  obtain ⟨i0, hi0, hz0, hz1, hz2⟩ := info_parts infoC
  have kO := hide (fun T K (hT : T < N) (hK : K < N) W => onLineAny (N := N) (M := M) (T := T) (K := K) (by omega) h2 hM hT hK W)
  have kS := hide (fun T (hT : T < N) K (hK : K ≤ N) => sumZ_le (m := M) (z := z) (M := m) hT (fun j hj => ⟨(hz j hj).le1, (hz j hj).le2⟩) K hK)
  have hsq : N * N ≤ 3721 := Nat.mul_le_mul h2 h2
  have kP := hide (fun T (hT : T < N) K (hK : K < N) => plP_lt (p := N) (m := M) hT hK)
  unfold gridV
  generalize N * N = NN at *
  have hb1 := (Below.refl w.heap.size w).alloc (Nat.le_refl _) (.cells #[.int .i64 N, .slice (some ⟨g, 0, none⟩) NN c] 39)
  have hc1 := hide (heap_alloc_new w (.cells #[.int .i64 N, .slice (some ⟨g, 0, none⟩) NN c] 39))
  have hb1 := hide hb1
  have hR := hide hR
  have hz := hide hz
  go_enter Try.func13, Try.ntmps13
  go_wp2_with (first
    | (at_make; refine wpList_make_full _ rfl (.tmp 12) (.tmp 12) 37 rfl w.heap.size 36 i0 (.complex .f64 0 0) 1 Try.underlying37 hi0 hz0 hz1 .i64 .i64 N N N rfl rfl rfl rfl ?c1 ?c2 ?c3 ?_))
  case c1 => rw [hz2]; omega
  case c2 => unfold maxLen; omega
  case c3 => simp
  intro W2 hown2 hg2
  have hT : Row W2 (w.heap.size + 1) N (fun _ => (0, 0)) := row_made hown2 (fun _ => (0, 0)) (fun i hi => zeros_get N i hi) (fun _ _ => rfl)
  have hb2 := grown_below hg2
  rw [World.size_alloc] at hb2
  have S2 : Hid (Sums w N NN g c (fun _ => (0, 0)) W2) := ⟨hT, (hb2.block _ (Nat.lt_succ_self _)).trans (unhide hc1), (unhide hb1).trans (hb2.mono (Nat.le_succ _))⟩
  clear hT hb2 hown2 hg2 hc1 hb1
  go_wp2_with fail
  go_loopw [15] (fun tv wr => ∃ (t : Nat) (f' : Nat → Nat × Nat), t ≤ N ∧ tv = .int .i64 t ∧ Hid (Sums w N NN g c f' wr) ∧ Hid (∀ j, j < t → IC (f' j) (sumZ z N M j N)) ∧ Hid (∀ j, t ≤ j → j < N → f' j = (0, 0))) (fun tv _ => N - (intOf tv).toNat)
  case atStart => exact ⟨0, _, Nat.zero_le _, rfl, S2, fun j hj => absurd hj (by omega), fun _ _ _ => rfl⟩
  case round =>
    clear S2
    obtain ⟨t, f0, ht, rfl, S, hD, hO⟩ := hrel
    by_cases htN : t < N
    · have q1 : ((t : Int) < (N : Int)) = True := by simp; omega
      have hI0 : Hid (IC (f0 t) (sumZ z N M t 0)) := by
        show IC (f0 t) (sumZ z N M t 0)
        rw [unhide hO t (Nat.le_refl _) htN]
        exact ic_zero
      have hO0 : Hid (∀ j, t < j → j < N → f0 j = (0, 0)) := fun j h h' => unhide hO j (by omega) h'
      clear hO
      go_wp2_with fail
      go_loopw [19] (fun kv wr => ∃ (k : Nat) (f' : Nat → Nat × Nat), k ≤ N ∧ kv = .int .i64 k ∧ Hid (Sums w N NN g c f' wr) ∧ Hid (∀ j, j < t → IC (f' j) (sumZ z N M j N)) ∧ Hid (IC (f' t) (sumZ z N M t k)) ∧ Hid (∀ j, t < j → j < N → f' j = (0, 0))) (fun kv _ => N - (intOf kv).toNat)
      case atStart => exact ⟨0, _, Nat.zero_le _, rfl, S, hD, hI0, hO0⟩
      case round =>
        clear S hD hI0 hO0
        obtain ⟨k, f', hk, rfl, S, hD, hI, hO⟩ := hrel
        by_cases hkN : k < N
        · have q2 : ((k : Int) < (N : Int)) = True := by simp; omega
          have kx := hide (unhide kO t k htN hkN wr)
          go_wp2_with fail
          refine (unhide kx).mono ?_
          rintro e w3 ⟨rfl, hb3⟩
          have hgw := row_lt (unhide hR)
          have S3 := (unhide S).on hb3
          clear kx hb3 S
          obtain ⟨on1, on2⟩ := onP_lt (p := N) (m := M) htN hkN
          have hpl := unhide kP t htN k hkN
          have hcell := unhide hz _ hpl
          have hle := unhide kS t htN (k + 1) (by omega)
          have hstep : sumZ z N M t (k + 1) = addZ (sumZ z N M t k) (z (plP N M t k)) := rfl
          have hsz : (k + 1) * m ≤ 61 * 1048576 := Nat.mul_le_mul (by omega) hm
          rw [hstep] at hle
          obtain ⟨r, hA, hIr, _, _⟩ := ic_add (unhide hI) hcell.ic (Nat.lt_of_le_of_lt hle.1 (by omega)) (Nat.lt_of_le_of_lt hle.2 (by omega))
          rw [← hstep] at hIr
          have kA := add_sumQ hA
          have hpe : plP N M t k = (onP N M t k).2 * N + (onP N M t k).1 := rfl
          obtain ⟨⟨x, y⟩, hxy⟩ : ∃ o, onP N M t k = o := ⟨_, rfl⟩
          rw [hxy] at on1 on2 hpe ⊢
          dsimp only at on1 on2 hpe ⊢
          obtain ⟨pl, hpl2⟩ : ∃ pl, plP N M t k = pl := ⟨_, rfl⟩
          rw [hpl2] at hpe hpl kA
          obtain ⟨yN, hyN⟩ : ∃ yN, y * N = yN := ⟨_, rfl⟩
          have hyb : yN ≤ 60 * 61 := by rw [← hyN]; exact Nat.mul_le_mul (by omega) h2
          have n1 : IntKind.i64.wrap ((y : Int) * (N : Int)) = (yN : Int) := by
            rw [← Int.natCast_mul, hyN, IntKind.wrap_i64]; omega
          have n2 : IntKind.i64.wrap ((yN : Int) + (x : Int)) = (pl : Int) := by
            rw [IntKind.wrap_i64, hpe, hyN]; omega
          have hb4 := (Below.refl w3.heap.size w3).alloc (Nat.le_refl _) (.cells #[.int .i64 x, .int .i64 y] 28)
          have S4 := S3.on hb4
          have hS4 : Hid (∀ nq, Sums w N NN g c (upd f' t r) (((w3.alloc (.cells #[.int .i64 x, .int .i64 y] 28)).drewN nq).setCell ⟨w.heap.size + 1, t, none⟩ (cv r))) := fun nq =>
            Sums.set (W := (w3.alloc (.cells #[.int .i64 x, .int .i64 y] 28)).drewN nq) ⟨S4.row, S4.box, S4.below.trans (below_drewQ _ _ nq)⟩ t r
          have cl := heap_alloc_new w3 (.cells #[.int .i64 x, .int .i64 y] 28)
          have k1 := row_at S4.row htN
          have k1f := row_frozen S4.row t
          have k2 := cell_of_row _ _ 1 _ _ (0, 0) S4.box
          have k3 := cell_of_row _ _ 0 _ _ (0, 0) cl
          have k4 := cell_of_row _ _ 1 _ _ (0, 0) cl
          have k5 := row_at (row_below (unhide hR) S4.below hgw) hpl
          simp only [List.getElem?_toArray, List.getElem?_cons_zero, List.getElem?_cons_succ] at k2 k3 k4
          have hD' : Hid (∀ j, j < t → IC (upd f' t r j) (sumZ z N M j N)) := fun j hj => by
            unfold upd
            rw [if_neg (by omega)]
            exact unhide hD j hj
          have hI' : Hid (IC (upd f' t r t) (sumZ z N M t (k + 1))) := by
            show IC (upd f' t r t) _
            unfold upd
            rw [if_pos rfl]
            exact hIr
          have hO' : Hid (∀ j, t < j → j < N → upd f' t r j = (0, 0)) := fun j h h' => by
            unfold upd
            rw [if_neg (by omega)]
            exact unhide hO j h h'
          generalize f' t = a at k1 kA
          generalize f pl = b at k5 kA
          obtain ⟨a1, a2⟩ := a
          obtain ⟨b1, b2⟩ := b
          obtain ⟨r1, r2⟩ := r
          unfold cv at k1 k5 hS4
          dsimp only at kA k1 k5 hS4
          have kA := fun (w : World) t => run_complex_sum (P := Try.prog) w .add (Or.inl rfl) t .f64 _ _ _ _ _ _ kA
          clear hA hIr hle hcell hstep hxy hpl2 hpe hyN S3 S4 hb4 cl hD hI hO kO kS kP hz hR
          go_wp2_with fail
          generalize w3.alloc (.cells #[.int .i64 x, .int .i64 y] 28) = w4 at *
          refine (wpIn_wide (n := 0)).1 ?_
          refine region_quiet 17 mixed (by kernel_rfl) ?_
          simp only [List.take_succ_cons, List.take_zero, List.drop_succ_cons, List.drop_zero]
          repeat (gi_big_quiet_step (fail))
          refine wpQuietIn_nil ?_
          intro _ hw'
          obtain ⟨nq, rfl⟩ := hw'
          gi_wp2
          have S5 := hide (unhide hS4 nq)
          clear hS4 k1 k1f k2 k3 k4 k5 kA
          generalize (w4.drewN nq).setCell ⟨w.heap.size + 1, t, none⟩ (.complex .f64 r1 r2) = w5 at *
          go_wp2_with fail
          exact ⟨⟨k + 1, _, hkN, by go_num, S5, hD', hI', hO'⟩, by simp [intOf]; omega⟩
        · have q2 : ((k : Int) < (N : Int)) = False := by simp; omega
          have e : k = N := by omega
          subst e
          have hD' : Hid (∀ j, j < t + 1 → IC (f' j) (sumZ z k M j k)) := fun j hj => by
            by_cases c : j = t
            · subst c; exact unhide hI
            · exact unhide hD j (by omega)
          have hO' : Hid (∀ j, t + 1 ≤ j → j < k → f' j = (0, 0)) := fun j h h' => unhide hO j (by omega) h'
          clear hD hI hO
          go_wp2_with fail
          exact ⟨⟨t + 1, f', by omega, by go_num, S, hD', hO'⟩, by simp [intOf]; omega⟩
    · have q1 : ((t : Int) < (N : Int)) = False := by simp; omega
      have e : t = N := by omega
      subst e
      clear hO
      go_wp2_with fail
      go_ret
      exact ⟨w.heap.size + 1, f0, rfl, by omega, (unhide S).row, unhide hD, (unhide S).below⟩
end Go.Proofs.Ytkaggnlceboocaa
