/- FitFalls: what it has in hand behind ray.All. FitFalls: behind ray.All. -/
import Derived.Test.YtfnbcpeipoobkaaGreatM40
import Derived.Test.YtfnbcpeipoobkaaGreatM25
import Derived.Test.YtfnbcpeipoobkaaGreatM36
import Derived.Test.YtfnbcpeipoobkaaGreatM15
namespace Go.Proofs.YtfnbcpeipoobkaaGreat
open Go Go.RowKit Go.Shelf Fl Ieee

def body3 (fn : Func) : Code := fn.body.getD .skip
def ops3 (fn : Func) : Array Oper := cops (cfst (csnd (csnd (csnd (csnd (csnd (csnd (csnd (body3 fn)))))))))
def rest3 (fn : Func) : Code := csnd (csnd (csnd (csnd (csnd (csnd (csnd (csnd (body3 fn))))))))
/-- A number such as a bin holds. -/
def KC (b : Nat × Nat) : Prop := ∃ z, DC 0 b z ∧ Sm 16384 z
/-- A row of such. -/
def KRow (w : World) (g m : Nat) : Prop := ∃ cur : Array Value, w.heap[g]? = some (.cells cur 28 (0, 0)) ∧ m ≤ cur.size ∧ ∀ j, j < m → ∃ b, cur[j]? = some (cv b) ∧ KC b
theorem krow_lt {w : World} {g m : Nat} (h : KRow w g m) : g < w.heap.size := by
  obtain ⟨cur, h1, _⟩ := h
  exact (Array.getElem?_eq_some_iff.1 h1).1
theorem krow_keep {w w' : World} {g m : Nat} (h : KRow w g m) (hb : w'.heap[g]? = w.heap[g]?) : KRow w' g m := by
  obtain ⟨cur, h1, h2⟩ := h
  exact ⟨cur, by rw [hb]; exact h1, h2⟩
theorem krow_at {w : World} {g m j : Nat} (h : KRow w g m) (hj : j < m) : ∃ b : Nat × Nat, w.cell? ⟨g, j, none⟩ = some (cv b) := by
  obtain ⟨cur, h1, h2, h3⟩ := h
  obtain ⟨b, h4, _⟩ := h3 j hj
  exact ⟨b, by rw [cell_of_row w g _ cur _ (0, 0) h1]; exact h4⟩
theorem krow_frozen {w : World} {g m : Nat} (h : KRow w g m) (j : Nat) : w.frozen? ⟨g, j, none⟩ = false := by
  obtain ⟨cur, h1, _⟩ := h
  exact frozen_of_row w g j cur _ h1
theorem krow_set {w : World} {g m : Nat} (h : KRow w g m) (k : Nat) {b : Nat × Nat} (hb : KC b) : KRow (w.setCell ⟨g, k, none⟩ (cv b)) g m := by
  obtain ⟨cur, h1, h2, h3⟩ := h
  refine ⟨cur.setIfInBounds k (cv b), heap_setCell_same w g k cur _ _ h1, by simpa using h2, fun j hj => ?_⟩
  by_cases e : j = k
  · subst e
    exact ⟨b, by simp [Array.getElem?_setIfInBounds]; omega, hb⟩
  · rw [Array.getElem?_setIfInBounds_ne (Ne.symm e)]
    exact h3 j hj
/-- What the law has in hand. -/
structure HandF (base : Nat) (w : World) (n gg gb sb gq : Nat) (ps : List PD) (fc : Nat → Nat × Nat) : Prop where
  g0 : w.heap[gb]? = some (.cells #[.int .i64 n, .slice (some ⟨gg, 0, none⟩) (n * n : Nat) (n * n : Nat)] 27)
  s0 : w.heap[sb]? = some (.cells #[.int .i64 n, .slice (some ⟨gq, 0, none⟩) ps.length ps.length] 33)
  row : Row w gg (n * n) fc
  lt : gq < w.heap.size
  cells : ∀ i, i < ps.length → w.cell? ⟨gq, i * 3, none⟩ = some (.int .i64 (ps.getD i p0).d.1) ∧ w.cell? ⟨gq, i * 3 + 1, none⟩ = some (.int .i64 (ps.getD i p0).d.2) ∧ w.cell? ⟨gq, i * 3 + 2, none⟩ = some (.slice (some ⟨(ps.getD i p0).gb, 0, none⟩) (ps.getD i p0).nb (ps.getD i p0).nb)
  bins : ∀ i, i < ps.length → KRow w (ps.getD i p0).gb (ps.getD i p0).nb
  ok : ∀ i, i < ps.length → okD (ps.getD i p0).d.1 (ps.getD i p0).d.2 = true ∧ binsS n (ps.getD i p0).d = (((ps.getD i p0).nb : Int), 0) ∧ (ps.getD i p0).nb ≤ 225
  far : ∀ i, i < ps.length → base ≤ (ps.getD i p0).gb ∧ (ps.getD i p0).gb ≠ gb ∧ (ps.getD i p0).gb ≠ sb ∧ (ps.getD i p0).gb ≠ gg ∧ (ps.getD i p0).gb ≠ gq
theorem HandF.set {base : Nat} {w : World} {n gg gb sb gq i : Nat} {ps : List PD} {fc : Nat → Nat × Nat} (h : HandF base w n gg gb sb gq ps fc) (hi : i < ps.length) (k : Nat) {b : Nat × Nat} (hb : KC b) : HandF base (w.setCell ⟨(ps.getD i p0).gb, k, none⟩ (cv b)) n gg gb sb gq ps fc := by
  obtain ⟨f1, f2, f3, f4, f5⟩ := h.far i hi
  have keep : ∀ q, (ps.getD i p0).gb ≠ q → (w.setCell ⟨(ps.getD i p0).gb, k, none⟩ (cv b)).heap[q]? = w.heap[q]? := fun q hq => Below.heap_setCell _ _ _ _ (Ne.symm hq)
  refine ⟨(keep gb f2).trans h.g0, (keep sb f3).trans h.s0, row_keep h.row (keep gg f4), by rw [World.size_setCell]; exact h.lt, fun j hj => ?_, fun j hj => ?_, h.ok, h.far⟩
  · obtain ⟨c1, c2, c3⟩ := h.cells j hj
    have kq := keep gq f5
    exact ⟨(World.cell?_of_block (a := ⟨gq, j * 3, none⟩) kq).trans c1, (World.cell?_of_block (a := ⟨gq, j * 3 + 1, none⟩) kq).trans c2, (World.cell?_of_block (a := ⟨gq, j * 3 + 2, none⟩) kq).trans c3⟩
  · by_cases e : (ps.getD i p0).gb = (ps.getD j p0).gb
    · rw [e]
      exact krow_set (h.bins j hj) k hb
    · exact krow_keep (h.bins j hj) (keep _ e)
theorem HandF.drew {base : Nat} {w : World} {n gg gb sb gq : Nat} {ps : List PD} {fc : Nat → Nat × Nat} (h : HandF base w n gg gb sb gq ps fc) : HandF base w.drew n gg gb sb gq ps fc := ⟨h.g0, h.s0, h.row, h.lt, h.cells, h.bins, h.ok, h.far⟩
/-- The projections, as the fit takes them. -/
theorem HandF.pj {base : Nat} {w : World} {n gg gb sb gq : Nat} {ps : List PD} {fc : Nat → Nat × Nat} (h : HandF base w n gg gb sb gq ps fc) : ∃ (ps' : List PJ) (zb : Nat → Nat → Int × Int), ps'.length = ps.length ∧ PJAt w gq ps' ∧ ∀ i, i < ps'.length → PJok n (ps'.getD i pj0) ∧ nbs ps' i ≤ 225 ∧ ∀ j, j < nbs ps' i → DC 0 ((ps'.getD i pj0).b j) (zb i j) ∧ Sm 16384 (zb i j) := by
  have key : ∀ i j, ∃ y : (Nat × Nat) × (Int × Int), i < ps.length → j < (ps.getD i p0).nb → w.cell? ⟨(ps.getD i p0).gb, j, none⟩ = some (cv y.1) ∧ DC 0 y.1 y.2 ∧ Sm 16384 y.2 := fun i j => by
    by_cases c : i < ps.length ∧ j < (ps.getD i p0).nb
    · obtain ⟨cur, h1, h2, h3⟩ := h.bins i c.1
      obtain ⟨b, h4, z, h5, h6⟩ := h3 j c.2
      exact ⟨(b, z), fun _ _ => ⟨by rw [cell_of_row w _ _ cur _ (0, 0) h1]; exact h4, h5, h6⟩⟩
    · exact ⟨((0, 0), (0, 0)), fun a b => absurd ⟨a, b⟩ c⟩
  obtain ⟨F, hF⟩ : ∃ F : Nat → Nat → (Nat × Nat) × (Int × Int), ∀ i j, i < ps.length → j < (ps.getD i p0).nb → w.cell? ⟨(ps.getD i p0).gb, j, none⟩ = some (cv (F i j).1) ∧ DC 0 (F i j).1 (F i j).2 ∧ Sm 16384 (F i j).2 := ⟨fun i j => Classical.choose (key i j), fun i j => Classical.choose_spec (key i j)⟩
  have hg : ∀ i, i < ps.length → ((List.range ps.length).map fun i => PJ.mk (ps.getD i p0).d (ps.getD i p0).gb (ps.getD i p0).nb (ps.getD i p0).nb fun j => (F i j).1).getD i pj0 = PJ.mk (ps.getD i p0).d (ps.getD i p0).gb (ps.getD i p0).nb (ps.getD i p0).nb fun j => (F i j).1 := fun i hi => by
    simp [List.getD_eq_getElem?_getD, hi]
  refine ⟨(List.range ps.length).map fun i => PJ.mk (ps.getD i p0).d (ps.getD i p0).gb (ps.getD i p0).nb (ps.getD i p0).nb fun j => (F i j).1, fun i j => (F i j).2, by simp, ⟨h.lt, fun i hi => ?_, fun i hi => ?_⟩, fun i hi => ?_⟩
  · have hi : i < ps.length := by simpa using hi
    rw [hg i hi]
    exact h.cells i hi
  · have hi : i < ps.length := by simpa using hi
    rw [hg i hi]
    obtain ⟨cur, h1, h2, h3⟩ := h.bins i hi
    refine ⟨cur, h1, h2, fun j hj => ?_⟩
    have := (hF i j hi hj).1
    rwa [cell_of_row w _ _ cur _ (0, 0) h1] at this
  · have hi : i < ps.length := by simpa using hi
    obtain ⟨o1, o2, o3⟩ := h.ok i hi
    unfold nbs
    rw [hg i hi]
    exact ⟨⟨o1, o2, Nat.le_refl _, by show (ps.getD i p0).nb ≤ 4096; omega⟩, o3, fun j hj => (hF i j hi hj).2⟩
/-- A byte as a small number. -/
def b8 (y : Int) : Nat × Nat := (floatOfInt .f64 (IntKind.i8.wrap y), 0)
theorem kc_b8 (y : Int) : KC (b8 y) := by
  have h := wrap8_le y
  exact ⟨(IntKind.i8.wrap y, 0), ⟨dv_iv (iv_ofInt _ (by omega)), dv_zero (by decide), float8_lt h, (by decide : 0 < 18446744073709551616)⟩, by show (IntKind.i8.wrap y).natAbs ≤ 16384; omega, (by decide : (0 : Int).natAbs ≤ 16384)⟩
theorem kc_zero : KC (0, 0) := ⟨(0, 0), dc_zero (by decide), ⟨by decide, by decide⟩⟩
theorem dc_small (L : List Int) (k : Nat) : DC 0 (smallB L k) (smallZ L k) ∧ Sm 128 (smallZ L k) := by
  have h := small_cell L k
  exact ⟨⟨dv_iv h.ic.one, dv_iv h.ic.two, h.lt1, h.lt2⟩, h.le1, h.le2⟩
theorem fitR_none {p n t : Nat} {ps : List PJ} {zb : Nat → Nat → Int × Int} {z : Nat → Int × Int} (h1 : 1 ≤ n) (h2 : n ≤ 64) (hP : ∀ i, i < ps.length → PJok n (ps.getD i pj0)) (h : ∀ i, i < ps.length → ∀ j, j < nbs ps i → fitR p n ps zb z t i j = (0, 0)) : ∀ i, i < ps.length → ∀ j, j < nbs ps i → fitR p n ps zb z (t + 1) i j = (0, 0) := fun i hi j hj => by
  rw [fitR_next, h i hi j hj]
  have hl : ∀ k, k < n * n → layZ (ixP n ps) (fitR p n ps zb z t) k ps.length = (0, 0) := fun k hk => layZ_none fun q hq => h q hq _ (by
    obtain ⟨o1, o2, _⟩ := hP q hq
    have := ix_bounds h1 h2 o1 hk
    rw [o2] at this
    have := this.2
    show (ixS n (ps.getD q pj0).d _).toNat < (ps.getD q pj0).nb
    dsimp only at this
    omega)
  have ha : ∀ k, k ≤ n * n → accZ (ixN n (ps.getD i pj0).d) (fun k => layZ (ixP n ps) (fitR p n ps zb z t) k ps.length) k j = (0, 0) := fun k => by
    induction k with
    | zero => intro _; rfl
    | succ k ih =>
      intro hk
      show (if j = _ then addZ (accZ _ _ k j) (layZ _ _ k _) else accZ _ _ k j) = _
      rw [ih (by omega), hl k (by omega)]
      split <;> rfl
  rw [ha _ (Nat.le_refl _)]
  simp [subZ, upZ]
/-- A run that ended early has the field of all rounds. -/
theorem fit_end {p n t : Nat} {ps : List PJ} {zb : Nat → Nat → Int × Int} {z : Nat → Int × Int} {f : Nat → Nat × Nat} (h1 : 1 ≤ n) (h2 : n ≤ 64) (hP : ∀ i, i < ps.length → PJok n (ps.getD i pj0)) (hf : ∀ k, k < n * n → DC (p * t) (f k) (fitZ p n ps zb z t k)) (h : ∀ i, i < ps.length → ∀ j, j < nbs ps i → fitR p n ps zb z t i j = (0, 0)) :
    ∀ d, p * (t + d) ≤ 1074 → (∀ k, k < n * n → DC (p * (t + d)) (f k) (fitZ p n ps zb z (t + d) k)) ∧ ∀ i, i < ps.length → ∀ j, j < nbs ps i → fitR p n ps zb z (t + d) i j = (0, 0)
  | 0, _ => ⟨hf, h⟩
  | d + 1, hd => by
    have e : p * (t + (d + 1)) = p * (t + d) + p := by rw [← Nat.add_assoc, Nat.mul_add p (t + d) 1, Nat.mul_one]
    obtain ⟨g1, g2⟩ := fit_end h1 h2 hP hf h d (by omega)
    refine ⟨fun k hk => ?_, fitR_none h1 h2 hP g2⟩
    rw [← Nat.add_assoc t d 1, fitZ_stays h1 h2 hP g2 hk, Nat.add_assoc, e]
    exact dc_up p (g1 k hk) (by omega)
theorem fit_done {p n t r : Nat} {ps : List PJ} {zb : Nat → Nat → Int × Int} {z : Nat → Int × Int} {f : Nat → Nat × Nat} (h1 : 1 ≤ n) (h2 : n ≤ 64) (hP : ∀ i, i < ps.length → PJok n (ps.getD i pj0)) (ht : t ≤ r) (hr : p * r ≤ 1074) (hf : ∀ k, k < n * n → DC (p * t) (f k) (fitZ p n ps zb z t k)) (h : t = r ∨ mxAll (nbs ps) (fitR p n ps zb z t) ps.length = 0) : ∀ k, k < n * n → DC (p * r) (f k) (fitZ p n ps zb z r k) := by
  rcases h with rfl | h
  · exact hf
  · obtain ⟨d, rfl⟩ : ∃ d, r = t + d := ⟨r - t, by omega⟩
    exact (fit_end h1 h2 hP hf (mxAll_zero h) d hr).1
theorem sqAll_nb {nb nb' : Nat → Nat} {zr : Nat → Nat → Int × Int} : ∀ {k : Nat}, (∀ i, i < k → nb i = nb' i) → sqAll nb zr k = sqAll nb' zr k
  | 0, _ => rfl
  | k + 1, h => by
    show sqAll nb zr k + sqRow (zr k) (nb k) = sqAll nb' zr k + sqRow (zr k) (nb' k)
    rw [sqAll_nb fun i hi => h i (by omega), h k (by omega)]
theorem cntB_nb {nb nb' : Nat → Nat} : ∀ {k : Nat}, (∀ i, i < k → nb i = nb' i) → cntB nb k = cntB nb' k
  | 0, _ => rfl
  | k + 1, h => by
    show cntB nb k + nb k = cntB nb' k + nb' k
    rw [cntB_nb fun i hi => h i (by omega), h k (by omega)]
theorem cntB_le {nb : Nat → Nat} {c : Nat} : ∀ {k : Nat}, (∀ i, i < k → nb i ≤ c) → cntB nb k ≤ k * c
  | 0, _ => by simp [cntB]
  | k + 1, h => by
    have h1 := cntB_le (nb := nb) (c := c) (k := k) fun i hi => h i (by omega)
    have h2 := h k (by omega)
    show cntB nb k + nb k ≤ (k + 1) * c
    rw [Nat.add_mul, Nat.one_mul]
    omega
end Go.Proofs.YtfnbcpeipoobkaaGreat

namespace Go.Proofs.YtfnbcpeipoobkaaGreat
open Go Go.RowKit Go.Shelf Fl Ieee
attribute [local go_sem] store_complex

theorem bytes_at {w W : World} {a : Option Addr} {g o base : Nat} {S : List Int} (h : Bytes w a g o S) (hb : Below base w W) (hl : 0 < S.length → g < base) {i : Nat} (hi : i < S.length) : ∃ y, S[i]? = some y ∧ a = some ⟨g, o, none⟩ ∧ W.cell? ⟨g, o + i, none⟩ = some (.int .u8 y) := by
  have hp : 0 < S.length := by omega
  refine ⟨_, List.getElem?_eq_getElem hi, (h.at_ hp).1, ?_⟩
  exact (hb.cell (p := ⟨g, o + i, none⟩) (hl hp)).trans (h.cell i _ (List.getElem?_eq_getElem hi))
theorem next_sq {n r N last now C : Nat} {ps : List PJ} {zb : Nat → Nat → Int × Int} {z : Nat → Int × Int} (h1 : 1 ≤ n) (h2 : n ≤ 8) (hN : ps.length = N) (hP : N ≤ 4) (hok : ∀ i, i < ps.length → PJok n (ps.getD i pj0)) (hr1 : 0 < r) (hr : r ≤ 3) (hF : FitBd 5 n r 4398046511104 C ps zb z) (hcnt : cntB (nbs ps) N ≤ 4000)
    (hl : SqAt last (cntB (nbs ps) N) (sqAll (nbs ps) (fitR 5 n ps zb z (r - 1)) N * 2 ^ (1074 - 10 * (r - 1)))) (hn : SqAt now (cntB (nbs ps) N) (sqAll (nbs ps) (fitR 5 n ps zb z r) N * 2 ^ (1074 - 10 * r))) : ∃ x rr, double.mul last 4472074429978902528 = some x ∧ double.add last x = some rr ∧ (double.order now rr == some .gt) = false := by
  subst hN
  obtain ⟨t, rfl⟩ : ∃ t, r = t + 1 := ⟨r - 1, by omega⟩
  rw [Nat.add_sub_cancel] at hl
  have hfall := fit_falls (t := t) (zb := zb) (z := z) h1 h2 hP hok
  have hle := sqAll_le (nb := nbs ps) (zr := fitR 5 n ps zb z t) (k := ps.length) fun i hi j hj => (hF.rest t (by omega) i hi j hj).mono (by omega)
  generalize sqAll (nbs ps) (fitR 5 n ps zb z (t + 1)) ps.length = Sn at *
  generalize sqAll (nbs ps) (fitR 5 n ps zb z t) ps.length = Sl at *
  generalize cntB (nbs ps) ps.length = m at *
  obtain ⟨U, hU⟩ : ∃ U : Nat, U = 1300 := ⟨_, rfl⟩
  have hrm := room (S := Sl) (e := 1074 - 10 * t) (U := U) (by omega) (by omega) (by omega)
  obtain ⟨e, he⟩ : ∃ e, 1074 - 10 * (t + 1) = e := ⟨_, rfl⟩
  have e1 : 1074 - 10 * t = e + 10 := by omega
  have e2 : Sl * 2 ^ (e + 10) = (1024 * Sl) * 2 ^ e := by
    rw [Int.pow_add, show (2 : Int) ^ 10 = 1024 by decide, Int.mul_comm (2 ^ e) 1024, ← Int.mul_assoc, Int.mul_comm Sl 1024]
  rw [e1, e2] at hl hrm
  rw [he] at hn
  exact not_greater (U := U) hn hl hcnt hcnt hfall (by omega) (by omega) (by omega) hrm
set_option maxRecDepth 100000 in
set_option maxHeartbeats 16000000 in
theorem rest3Ok {base n gg gb sb gq gs os sc : Nat} {ps : List PD} {L S : List Int} {sa : Option Addr} {x0 x2 x3 x4 x5 x6 x7 x9 x12 x13 x14 x15 x16 x17 x18 x19 x20 x21 x22 x23 x24 x25 x26 x27 x28 x29 x30 x31 x32 x33 x34 x35 x36 x37 x38 x39 x40 x41 x42 x43 x44 x45 x46 x47 x48 x49 x50 x51 x52 x53 x54 x55 x56 x57 x58 x59 x60 x61 x62 x63 x64 x65 x66 x67 x68 x69 x70 x71 x72 x73 x74 x75 x76 x77 x78 x79 x80 x81 x82 x83 x84 x85 x86 x87 x88 x89 x90 x91 x92 x93 x94 x95 x96 x97 x98 x99 x100 x101 x102 x103 x104 x105 x106 x107 x108 x109 x110 x111 x112 x113 x114 x115 x116 x117 x118 x119 x120 x121 x122 x123 x124 x125 x126 x127 x128 x129 x130 x131 x132 x133 x134 x135 x136 x137 x138 x139 x140 x141 x142 x143 x144 x145 x146 x147 x148 x149 x150 x151 x152 x153 x154 x155 x156 x157 x158 x159 x160 x161 x162 x163 x164 x165 x166 x167 x168 x169 x170 x171 x172 x173 x174 x175 x176 x177 x178 x179 x180 : Value} (w : World) (h1 : 1 ≤ n) (h2 : n ≤ 8) (hSl : S.length ≤ 9223372036854775807) (hN4 : ps.length ≤ 4) (hbase : base ≤ w.heap.size) (h : HandF base w n gg gb sb gq ps (smallB L)) (hBy : Bytes w sa gs os S) (hBl : 0 < S.length → gs < base) :
    Code.wp (barP Tryz.prog) (rest3 Tryz.f3) (fun e a w' => e = .ret ∧ a.defers = [] ∧ a.tmps[6]?.getD undef = .bool true ∧ Below base w w') ⟨#[x0, .slice sa S.length sc, x2, x3, x4, x5, x6, x7, .pointer (some ⟨gb, 0, none⟩), x9, .pointer (some ⟨sb, 0, none⟩), .int .i64 0, x12, x13, x14, x15, x16, x17, x18, x19, x20, x21, x22, x23, x24, x25, x26, x27, x28, x29, x30, x31, x32, x33, x34, x35, x36, x37, x38, x39, x40, x41, x42, x43, x44, x45, x46, x47, x48, x49, x50, x51, x52, x53, x54, x55, x56, x57, x58, x59, x60, x61, x62, x63, x64, x65, x66, x67, x68, x69, x70, x71, x72, x73, x74, x75, x76, x77, x78, x79, x80, x81, x82, x83, x84, x85, x86, x87, x88, x89, x90, x91, x92, x93, x94, x95, x96, x97, x98, x99, x100, x101, x102, x103, x104, x105, x106, x107, x108, x109, x110, x111, x112, x113, x114, x115, x116, x117, x118, x119, x120, x121, x122, x123, x124, x125, x126, x127, x128, x129, x130, x131, x132, x133, x134, x135, x136, x137, x138, x139, x140, x141, x142, x143, x144, x145, x146, x147, x148, x149, x150, x151, x152, x153, x154, x155, x156, x157, x158, x159, x160, x161, x162, x163, x164, x165, x166, x167, x168, x169, x170, x171, x172, x173, x174, x175, x176, x177, x178, x179, x180], []⟩ w := by
  have hsq : n * n ≤ 64 := Nat.mul_le_mul h2 h2
  have hsq1 : 1 ≤ n * n := Nat.mul_le_mul h1 h1
  have H := hide h
  have HY := hide hBy
  have HL := hide hBl
  clear h hBy hBl
  obtain ⟨N, hN⟩ : ∃ N, ps.length = N := ⟨_, rfl⟩
  rw [hN] at hN4
  have hNh := hide hN
  clear hN
  obtain ⟨SL, hSL⟩ : ∃ SL, S.length = SL := ⟨_, rfl⟩
  rw [hSL] at hSl ⊢
  have hSLh := hide hSL
  clear hSL
  simp only [rest3, body3, csnd, Tryz.f3, Option.getD_some]
  go_wp2_with fail
  go_loopw [12, 13] (fun av iv wr => ∃ (at' i : Nat), i ≤ N ∧ iv = .int .i64 i ∧ av = .int .i64 at' ∧ at' ≤ SL ∧ Hid (HandF base wr n gg gb sb gq ps (smallB L)) ∧ Hid (Below base w wr)) (fun _ iv _ => N - (intOf iv).toNat)
  case atStart => exact ⟨0, 0, Nat.zero_le _, rfl, rfl, Nat.zero_le _, H, Below.refl _ _⟩
  case round =>
    obtain ⟨at', i, hi, rfl, rfl, hat, hH, hB⟩ := hrel
    have s0 := (unhide hH).s0
    rw [unhide hNh] at s0
    have k1 := block_cell s0 1
    simp only [List.getElem?_toArray, List.getElem?_cons_zero, List.getElem?_cons_succ] at k1
    clear s0
    by_cases c : i < N
    · have q1 : ((i : Int) < (N : Int)) = True := by simp; omega
      have hil : i < ps.length := by rw [unhide hNh]; exact c
      go_wp2_with fail
      obtain ⟨wo, rfl⟩ : ∃ wo : World, wo = wr := ⟨_, rfl⟩
      clear k1
      obtain ⟨nb, hnb⟩ : ∃ nb, (ps.getD i p0).nb = nb := ⟨_, rfl⟩
      obtain ⟨gp, hgp⟩ : ∃ gp, (ps.getD i p0).gb = gp := ⟨_, rfl⟩
      have hnb225 := ((unhide hH).ok i hil).2.2
      rw [hnb] at hnb225
      have hfar := ((unhide hH).far i hil).1
      rw [hgp] at hfar
      have hnbh := hide hnb
      have hgph := hide hgp
      clear hnb hgp
      have m1 : i * 3 < N * 3 := by omega
      go_loopw [12, 14] (fun av kv ws => ∃ (a1 k : Nat), k ≤ nb ∧ kv = .int .i64 k ∧ av = .int .i64 a1 ∧ a1 ≤ SL ∧ Hid (HandF base ws n gg gb sb gq ps (smallB L)) ∧ Hid (Below base w ws)) (fun _ kv _ => nb - (intOf kv).toNat)
      case atStart => exact ⟨at', 0, Nat.zero_le _, rfl, rfl, hat, hH, hB⟩
      case round =>
        clear hH hB hat
        obtain ⟨at', k, hk, rfl, rfl, hat, hH, hB⟩ := hrel
        have s0 := (unhide hH).s0
        rw [unhide hNh] at s0
        have k1 := block_cell s0 1
        simp only [List.getElem?_toArray, List.getElem?_cons_zero, List.getElem?_cons_succ] at k1
        obtain ⟨_, _, c3⟩ := (unhide hH).cells i hil
        rw [unhide hnbh, unhide hgph] at c3
        clear s0
        by_cases ck : k < nb
        · have q2 : ((k : Int) < (nb : Int)) = True := by simp; omega
          have hKR := (unhide hH).bins i hil
          rw [unhide hnbh, unhide hgph] at hKR
          obtain ⟨b0, e0⟩ := krow_at hKR ck
          have f0 := krow_frozen hKR k
          unfold cv at e0
          clear hKR
          by_cases ca : at' < SL
          · have q3 : ((at' : Int) < (SL : Int)) = True := by simp; omega
            obtain ⟨y, hy, rfl, r1⟩ := bytes_at (unhide HY) (unhide hB) (unhide HL) (i := at') (by rw [unhide hSLh]; exact ca)
            have HS := (unhide hH).set hil k (kc_b8 y)
            rw [unhide hgph] at HS
            unfold b8 cv at HS
            dsimp only at HS
            have HS := hide HS
            have HB := hide ((unhide hB).setCell (p := ⟨gp, k, none⟩) hfar (.complex .f64 (floatOfInt .f64 (IntKind.i8.wrap y)) 0))
            clear hH hB hy
            go_wp2_with fail
            refine (wpIn_wide (n := 3)).1 ?_
            refine region_cls 15 (fun W => W = wr.drew) rfl mixed (by kernel_rfl) ?_
            simp only [List.take_succ_cons, List.take_zero, List.drop_succ_cons, List.drop_zero]
            refine quiet_val (.pointer (some ⟨sb, 1, none⟩)) (fun _ => trivial) rfl (fun W hW => by subst hW; go_simp) ?_
            refine quiet_val (.slice (some ⟨gq, 0, none⟩) N N) (fun _ => trivial) rfl (fun W hW => by subst hW; go_simp) ?_
            refine quiet_val (.int .i64 i) (fun _ => trivial) rfl (fun W hW => by subst hW; go_simp) ?_
            refine quiet_val (.pointer (some ⟨gq, i * 3, none⟩)) (fun _ => trivial) rfl (fun W hW => by subst hW; go_simp) ?_
            refine quiet_val (.pointer (some ⟨gq, i * 3 + 2, none⟩)) (fun _ => trivial) rfl (fun W hW => by subst hW; go_simp) ?_
            refine quiet_val (.slice (some ⟨gp, 0, none⟩) nb nb) (fun _ => trivial) rfl (fun W hW => by subst hW; go_simp) ?_
            refine quiet_val (.int .i64 k) (fun _ => trivial) rfl (fun W hW => by subst hW; go_simp) ?_
            refine quiet_val (.slice (some ⟨gs, os, none⟩) SL sc) (fun _ => trivial) rfl (fun W hW => by subst hW; go_simp) ?_
            refine quiet_val (.int .i64 at') (fun _ => trivial) rfl (fun W hW => by subst hW; go_simp) ?_
            refine quiet_val (.pointer (some ⟨gs, os + at', none⟩)) (fun _ => trivial) rfl (fun W hW => by subst hW; go_simp) ?_
            refine quiet_val (.int .u8 y) (fun _ => trivial) rfl (fun W hW => by subst hW; go_simp) ?_
            refine quiet_val (.int .i8 (IntKind.i8.wrap y)) (fun _ => trivial) rfl (fun W hW => by subst hW; go_simp) ?_
            refine quiet_val (.float .f64 (floatOfInt .f64 (IntKind.i8.wrap y))) (fun _ => trivial) rfl (fun W hW => by subst hW; go_simp) ?_
            refine quiet_val (.complex .f64 (floatOfInt .f64 (IntKind.i8.wrap y)) 0) (fun _ => trivial) rfl (fun W hW => by subst hW; go_simp) ?_
            refine quiet_val (.pointer (some ⟨gp, k, none⟩)) (fun _ => trivial) rfl (fun W hW => by subst hW; go_simp) ?_
            refine wpQuietIn_nil ?_
            intro w5 hw5
            subst hw5
            gi_wp2
            go_wp2_with fail
            exact ⟨⟨at' + 1, k + 1, ck, by go_num, by go_num, ca, (unhide HS).drew, (unhide HB).drew⟩, by simp [intOf]; omega⟩
          · have q3 : ((at' : Int) < (SL : Int)) = False := by simp; omega
            have HS := (unhide hH).set hil k kc_zero
            rw [unhide hgph] at HS
            unfold cv at HS
            dsimp only at HS
            have HS := hide HS
            have HB := hide ((unhide hB).setCell (p := ⟨gp, k, none⟩) hfar (.complex .f64 0 0))
            clear hH hB
            go_wp2_with fail
            exact ⟨⟨at', k + 1, ck, by go_num, rfl, hat, HS, HB⟩, by simp [intOf]; omega⟩
        · have q2 : ((k : Int) < (nb : Int)) = False := by simp; omega
          go_wp2_with fail
          exact ⟨⟨at', i + 1, c, by go_num, rfl, hat, hH, hB⟩, by simp [intOf]; omega⟩
    · have q1 : ((i : Int) < (N : Int)) = False := by simp; omega
      obtain ⟨ps', zb, hl', hPJ, hok⟩ := (unhide hH).pj
      rw [unhide hNh] at hl'
      have HPJ := hide hPJ
      have HOK := hide hok
      have hlh := hide hl'
      have HB := hB
      obtain ⟨wx, rfl⟩ : ∃ wx : World, wx = wr := ⟨_, rfl⟩
      have hbx := (unhide HB).size
      have G0 := hide ((unhide hH).g0)
      have S0 : Hid (wx.heap[sb]? = some (.cells #[.int .i64 n, .slice (some ⟨gq, 0, none⟩) N N] 33)) := by
        have := (unhide hH).s0
        rw [unhide hNh] at this
        exact this
      have R0 := hide ((unhide hH).row)
      have hPok : Hid (∀ i, i < ps'.length → PJok n (ps'.getD i pj0)) := fun i hi => (unhide HOK i hi).1
      have hFit : Hid (∀ r, r ≤ 3 → FitBd 5 n r 4398046511104 1236950581248 ps' zb (smallZ L)) := fun r hr => fit_bounds h1 h2 (by rw [unhide hlh]; exact hN4) (unhide hPok) hr (fun k _ => (dc_small L k).2) (fun i hi j hj => ((unhide HOK i hi).2.2 j hj).2)
      have hcnt : Hid (cntB (nbs ps') N ≤ 4000) := by
        have := cntB_le (nb := nbs ps') (c := 225) (k := N) (fun i hi => (unhide HOK i (by rw [unhide hlh]; exact hi)).2.1)
        have h4 : N * 225 ≤ 4 * 225 := Nat.mul_le_mul_right 225 hN4
        show cntB (nbs ps') N ≤ 4000
        omega
      clear hPJ hok hl' H HY HL hH hB
      obtain ⟨NN, hNN⟩ : ∃ NN, n * n = NN := ⟨_, rfl⟩
      rw [hNN] at hsq hsq1 G0 R0
      have hNNh := hide hNN
      clear hNN
      go_wp2_with fail
      clear k1
      go_loopw [15, 16] (fun lv rv ws => ∃ (r last : Nat), r ≤ 4 ∧ rv = .int .i64 r ∧ lv = .float .f64 last ∧ Hid (0 < r → SqAt last (cntB (nbs ps') N) (sqAll (nbs ps') (fitR 5 n ps' zb (smallZ L) (r - 1)) N * 2 ^ (1074 - 10 * (r - 1)))) ∧ Hid (Below wx.heap.size wx ws)) (fun _ rv _ => 4 - (intOf rv).toNat)
      case atStart => exact ⟨0, 0, by decide, rfl, rfl, fun hr => absurd hr (by decide), Below.refl _ _⟩
      case round =>
        obtain ⟨r, last, hr4, rfl, rfl, hLast, hBx⟩ := hrel
        by_cases cr : r ≤ 3
        · have q2 : ((r : Int) ≤ 3) = True := by simp; omega
          have ltg := (Array.getElem?_eq_some_iff.1 (unhide G0)).1
          have lts := (Array.getElem?_eq_some_iff.1 (unhide S0)).1
          have ltr := row_lt (unhide R0)
          have g0 := ((unhide hBx).block gb ltg).trans (unhide G0)
          have s0 := ((unhide hBx).block sb lts).trans (unhide S0)
          have k0 := block_cell g0 0
          have k1 := block_cell g0 1
          have k2 := block_cell s0 1
          simp only [List.getElem?_toArray, List.getElem?_cons_zero, List.getElem?_cons_succ] at k0 k1 k2
          have kR := runOk (p := 5) (n := n) (rounds := r) (gc := gg) (cc := n * n) (gq := gq) (cq := N) (B := 4398046511104) (C := 1236950581248) (ps := ps') (zb := zb) (f0 := smallB L) (z := smallZ L) h1 (by omega) (by decide) (by omega) (by rw [unhide hlh]; omega) (fun i hi => ⟨unhide hPok i hi, fun j hj => ((unhide HOK i hi).2.2 j hj).1⟩) (unhide hFit r cr) (by decide) (by decide) (by decide) (Nat.le_refl _) wr ((unhide HPJ).below (unhide hBx)) (by rw [unhide hNNh]; exact row_below (unhide R0) (unhide hBx) ltr) (fun k _ => (dc_small L k).1)
          unfold gridV at kR
          rw [unhide hlh, unhide hNNh] at kR
          have kR := hide kR
          have HX1 := hide (fun (W : World) (hb : Below wr.heap.size wr W) => (unhide hBx).trans (hb.mono (unhide hBx).size))
          clear g0 s0
          go_wp2_with fail
          refine (unhide kR).mono ?_
          rintro e w2 ⟨t, gF, cF, gS, cS, Ls, ht, rfl, hcF, hgF, ⟨f, hf1, hf2⟩, hend, _, _, _, hb2⟩
          have hfd := fit_done (r := r) h1 (by omega) (unhide hPok) ht (by omega) hf2 hend
          have y3 := (Below.refl w2.heap.size w2).alloc (Nat.le_refl _) (.cells #[.int .i64 n, .slice (some ⟨gF, 0, none⟩) NN cF, .slice (some ⟨gS, 0, none⟩) (t + 1) cS] 43)
          have B3 := unhide HX1 _ (hb2.trans (y3.mono hb2.size))
          have s3 := (B3.block sb lts).trans (unhide S0)
          have k3 := block_cell s3 1
          simp only [List.getElem?_toArray, List.getElem?_cons_zero, List.getElem?_cons_succ] at k3
          have kT := restsAll (s := 5 * r) (n := n) (gc := gF) (cc := cF) (gq := gq) (cq := N) (B := 4398046511104) (C := 1236950581248) (ps := ps') (zb := fun i j => upZ (5 * r) (zb i j)) (f := f) (z := fitZ 5 n ps' zb (smallZ L) r) h1 (by omega) (by omega) (by rw [unhide hlh]; omega) (binsZ_up (fun i hi => ⟨unhide hPok i hi, fun j hj => ((unhide HOK i hi).2.2 j hj).1⟩) (unhide hFit r cr) (Nat.le_refl r) (by omega)) (by decide) (by decide) hcF _ ((unhide HPJ).below B3) (row_below hf1 y3 (row_lt hf1)) (fun k hk => ⟨hfd k hk, ((unhide hFit r cr).cell r (Nat.le_refl r) k hk).of_up⟩)
          unfold gridV at kT
          rw [unhide hlh] at kT
          rw [unhide hNNh] at kT ⊢
          have kT := hide kT
          have B3 := hide B3
          clear kR k0 k1 k2 s3 hf1 hf2 hfd hend hb2 y3 HX1
          go_wp2_with fail
          refine (unhide kT).mono ?_
          rintro e w4 ⟨g, ps'', rfl, hT', hg, hb4⟩
          have hT : RestAt w4 g (5 * r) n N N ps' ps'' (fitR 5 n ps' zb (smallZ L) r) := hT'
          have hnb : ∀ i, i < N → (ps''.getD i pj0).nb = nbs ps' i := fun i hi => (hT.ok i hi).2.1
          have h225 : ∀ i, i < N → nbs ps' i ≤ 225 := fun i hi => (unhide HOK i (by rw [unhide hlh]; exact hi)).2.1
          have ec : cntB (fun i => (ps''.getD i pj0).nb) N = cntB (nbs ps') N := cntB_nb hnb
          have es : sqAll (fun i => (ps''.getD i pj0).nb) (fitR 5 n ps' zb (smallZ L) r) N = sqAll (nbs ps') (fitR 5 n ps' zb (smallZ L) r) N := sqAll_nb hnb
          have kQ := squaresOk (s := 5 * r) (e := 1074 - 10 * r) (gq := g) (cq := N) (N := N) (ps := ps'') (zr := fitR 5 n ps' zb (smallZ L) r) (by omega) (by omega) hT.len (by omega) (fun i hi => by
            have e1 := hnb i hi
            have e2 : (ps''.getD i pj0).cb = nbs ps' i := (hT.ok i hi).2.2.1
            have e3 := h225 i hi
            rw [e1, e2]
            omega) (by rw [ec]; exact unhide hcnt) (fun i hi j hj => ⟨(hT.ok i hi).2.2.2 j (Nat.lt_of_lt_of_eq hj (hnb i hi)), ((unhide hFit r cr).rest r (Nat.le_refl r) i (by rw [unhide hlh]; exact hi) j (Nat.lt_of_lt_of_eq hj (hnb i hi))).mono (by omega)⟩) w4 hT.pj
          rw [ec, es] at kQ
          have kQ := hide kQ
          have B4 := hide ((unhide B3).trans (hb4.mono (unhide B3).size))
          clear kT k3 hT hT' hnb h225 ec es hb4 B3
          go_wp2_with fail
          refine (unhide kQ).mono ?_
          rintro e w5 ⟨⟨now, rfl, hSq⟩, hb5⟩
          have B5 := hide ((unhide B4).trans (hb5.mono (unhide B4).size))
          have HSq : Hid (0 < r + 1 → SqAt now (cntB (nbs ps') N) (sqAll (nbs ps') (fitR 5 n ps' zb (smallZ L) (r + 1 - 1)) N * 2 ^ (1074 - 10 * (r + 1 - 1)))) := fun _ => hSq
          clear kQ hb5 B4
          by_cases r0 : r = 0
          · have q5 : ((0 : Int) < (r : Int)) = False := by simp; omega
            have q6 : (0 < r) = False := by simp; omega
            clear hSq
            go_wp2_with fail
            exact ⟨⟨r + 1, now, by omega, by go_num, rfl, HSq, B5⟩, by simp [intOf]; omega⟩
          · have q5 : ((0 : Int) < (r : Int)) = True := by simp; omega
            have q6 : (0 < r) = True := by simp; omega
            obtain ⟨x, rr, f1, f2, ho⟩ := next_sq h1 h2 (unhide hlh) hN4 (unhide hPok) (by omega) cr (unhide hFit r cr) (unhide hcnt) (unhide hLast (by omega)) hSq
            have f1 := fun (w : World) t => run_float_arith (P := (barP Tryz.prog)) w .mul t .f64 _ _ _ f1
            have f2 := fun (w : World) t => run_float_arith (P := (barP Tryz.prog)) w .add t .f64 _ _ _ f2
            have ho : (FloatKind.f64.format.order now rr == some .gt) = false := ho
            clear hSq
            go_wp2_with fail
            exact ⟨⟨r + 1, now, by omega, by go_num, rfl, HSq, B5⟩, by simp [intOf]; omega⟩
        · have q2 : ((r : Int) ≤ 3) = False := by simp; omega
          have BF := hide ((unhide HB).trans ((unhide hBx).mono (by omega)))
          go_wp2_with fail
          exact unhide BF
end Go.Proofs.YtfnbcpeipoobkaaGreat
