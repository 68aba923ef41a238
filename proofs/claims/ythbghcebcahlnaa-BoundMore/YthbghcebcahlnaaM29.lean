/- bound.Run of a grid's own projections. bound.Run of a grid's own projections: all that may come. A sound grid is told as such. Bytes as small whole numbers: the statement's own list. -/
import Derived.Test.YthbghcebcahlnaaM28
import Derived.Test.YthbghcebcahlnaaM27
import Derived.BigRegion
namespace Go.Proofs.Ythbghcebcahlnaa
open Go.RowKit Go.Shelf

set_option maxHeartbeats 800000 in
theorem linesZero {n : Int} {gq cq : Nat} (w : World) : Calls (barP Try.prog) 21 #[.int .i64 n, .slice (some ⟨gq, 0, none⟩) (0 : Nat) cq] w fun e w' => e = .returned (.slice none 0 0) ∧ w' = w := by
  go_enter Bar.func21, Bar.ntmps21
  go_wp2_with fail
  go_loopw [5, 17] (fun v kv wr => v = .slice none 0 0 ∧ kv = .int .i64 0 ∧ w = wr) (fun _ _ _ => 0)
  case atStart => exact ⟨rfl, rfl, rfl⟩
  case round =>
    obtain ⟨rfl, rfl, rfl⟩ := hrel
    go_wp2_with fail
    go_ret
    exact ⟨rfl, rfl⟩
set_option maxRecDepth 100000 in
set_option maxHeartbeats 3200000 in
theorem runZero {n gq cq : Nat} {u v : Value} {A B : List Int} (h1 : 1 ≤ n) (h2 : n ≤ 16) (hl : levs n A B = true) (hc : ∀ i, i < A.length → A.getD i 0 ≤ B.getD i 0) (w : World) (hu : Ints w u A) (hv : Ints w v B) (hq : gq < w.heap.size) :
    Calls (barP Try.prog) 9 #[.int .i64 n, .slice (some ⟨gq, 0, none⟩) (0 : Nat) cq, u, v] w fun e w' => ∃ gl cl gh ch, e = .returned (.tuple #[.slice (some ⟨gl, 0, none⟩) A.length cl, .slice (some ⟨gh, 0, none⟩) A.length ch, .int .i64 0]) ∧
      IRow w' gl A.length (fun i => A.getD i 0) ∧ IRow w' gh A.length (fun i => B.getD i 0) ∧ Below w.heap.size w w' := by
  have kl := hide (lookGood (cq := cq) (ps := []) h1 h2 hl (Nat.zero_le _) (fun i hi => absurd hi (Nat.not_lt_zero _)) (fun i j hi => absurd hi (Nat.not_lt_zero _)) w hu hv ⟨hq, fun i hi => absurd hi (Nat.not_lt_zero _), fun i hi => absurd hi (Nat.not_lt_zero _)⟩)
  rw [show ([] : List PD).length = 0 from rfl] at kl
  obtain ⟨lA, lB⟩ := levs_len hl
  obtain ⟨m1, m2⟩ := sq_small (n := (n : Int)) (by omega) (by omega)
  have hu := hide hu
  have hv := hide hv
  have hc := hide hc
  have e12 : Hid (A.length = B.length) := by show _ = _; omega
  have mA1 : 1 ≤ A.length := by omega
  have mA2 : A.length ≤ 4096 := by omega
  have mB1 : 1 ≤ B.length := by omega
  have mB2 : B.length ≤ 4096 := by omega
  clear hl lA lB m1 m2
  go_enter Bar.func9, Bar.ntmps9
  go_wp2_with fail
  refine (unhide kl).mono ?_
  rintro e w1 ⟨rfl, hb1⟩
  have B1 := hide hb1
  obtain ⟨a1, cap1, g1, o1, rfl, i1⟩ := ints_below (unhide hu) hb1
  have k2 := hide (cloneInts (cap := cap1) mA1 mA2 w1 i1)
  clear hb1 i1 kl
  go_wp2_with fail
  refine (unhide k2).mono ?_
  rintro e w2 ⟨gl, cl, rfl, hgl, r2, own2, hb2⟩
  have B2 := hide ((unhide B1).trans (hb2.mono (unhide B1).size))
  obtain ⟨a2, cap2, g2, o2, rfl, i2⟩ := ints_below (unhide hv) (unhide B2)
  have k3 := hide (cloneInts (cap := cap2) mB1 mB2 w2 i2)
  have R2 := hide r2
  have hs1 : w.heap.size ≤ w1.heap.size := (unhide B1).size
  have hs2 : w1.heap.size ≤ w2.heap.size := hb2.size
  have gl2 : gl < w2.heap.size := vrow_lt r2
  clear hb2 i2 k2 r2 own2 B1
  go_wp2_with fail
  refine (unhide k3).mono ?_
  rintro e w3 ⟨gh, ch, rfl, hgh, r3, own3, hb3⟩
  have B3 := hide ((unhide B2).trans (hb3.mono (by omega)))
  have R2 := hide (vrow_keep (unhide R2) (hb3.block _ gl2))
  have gh3 : gh < w3.heap.size := vrow_lt r3
  have hs3 : w2.heap.size ≤ w3.heap.size := hb3.size
  have r3' := r3
  rw [← unhide e12] at r3'
  have R3 := hide r3'
  clear hb3 k3 r3 r3' own3 B2
  rw [← unhide e12]
  go_wp2_with fail
  refine (linesZero _).mono ?_
  rintro e w4 ⟨rfl, rfl⟩
  have k5 := hide (settleNil (cl := cl) (ch := ch) mA2 (unhide hc) w4 (unhide R2) (unhide R3))
  go_wp2_with fail
  refine (unhide k5).mono ?_
  rintro e w5 ⟨rfl, hb5⟩
  have B6 := hide ((unhide B3).trans (hb5.mono (unhide B3).size))
  have R6 := hide (vrow_keep (w' := w5) (unhide R2) (hb5.block _ (vrow_lt (unhide R2))))
  have R7 := hide (vrow_keep (w' := w5) (unhide R3) (hb5.block _ (vrow_lt (unhide R3))))
  clear k5 hb5 B3 R2 R3
  go_wp2_with fail
  go_ret3
  exact ⟨gl, cl, gh, ch, rfl, unhide R6, unhide R7, unhide B6⟩
end Go.Proofs.Ythbghcebcahlnaa

namespace Go.Proofs.Ythbghcebcahlnaa
open Go.RowKit Go.Shelf

theorem lk_all (n : Int) (ps : List PD) : lk n ps ps.length 0 = ps.flatMap (allS' n) := by
  unfold lk
  rw [List.take_length]
  simp
theorem allS_len (n : Int) (p : PD) : (allS' n p).length = p.nb := by simp [allS']
theorem flat_len (n : Int) : ∀ ps : List PD, (∀ p, p ∈ ps → p.nb ≤ 512) → (ps.flatMap (allS' n)).length ≤ ps.length * 512
  | [], _ => by simp
  | p :: r, h => by
    have ih := flat_len n r fun q hq => h q (by simp [hq])
    have := h p (by simp)
    rw [List.flatMap_cons, List.length_append, allS_len, List.length_cons]
    omega
theorem pd_mem {ps : List PD} {p : PD} (h : p ∈ ps) : ∃ i, i < ps.length ∧ ps.getD i p0 = p := by
  obtain ⟨i, hi, rfl⟩ := List.getElem_of_mem h
  exact ⟨i, hi, by rw [List.getD_eq_getElem?_getD, List.getElem?_eq_getElem hi]; rfl⟩
theorem Own.fit {M : Nat} {g : Nat → Int} {x : List Nat × Int} (h : Own M g x) : Fit M x :=
  ⟨fun k hk => h.ins _ (getD_mem hk), by have := h.len; omega, fun h0 => by
    have := h.sum
    rw [List.length_eq_zero_iff.1 h0] at this
    exact this.symm⟩
/-- What Run leaves. -/
def RunPost (n : Nat) (ps : List PD) (A B : List Int) (g : Nat → Int) (w : World) (e : Ending) (w' : World) : Prop :=
  (e = .returned (.tuple #[.slice none 0 0, .slice none 0 0, .int .i64 112]) ∨ ∃ gl cl gh ch lo hi, e = .returned (.tuple #[.slice (some ⟨gl, 0, none⟩) A.length cl, .slice (some ⟨gh, 0, none⟩) A.length ch, .int .i64 0]) ∧
    IRow w' gl A.length lo ∧ IRow w' gh A.length hi ∧ Great A.length (lk n ps ps.length 0) (fun i => A.getD i 0) (fun i => B.getD i 0) lo hi ∧ Abt A.length g lo hi) ∧ Below w.heap.size w w'
theorem runOwn {n gq cq : Nat} {ps : List PD} {u v : Value} {A B : List Int} {g : Nat → Int} (h1 : 1 ≤ n) (h2 : n ≤ 16) (hl : levs n A B = true) (hd : ∀ i, i < ps.length → Dir64 (ps.getD i p0).d ∧ binsS n (ps.getD i p0).d = (((ps.getD i p0).nb : Int), 0) ∧ 1 ≤ (ps.getD i p0).nb)
    (hz : ∀ i j, i < ps.length → j < (ps.getD i p0).nb → ∀ W : World, Calls (barP Try.prog) 69 #[.complex .f64 ((ps.getD i p0).z j).1 ((ps.getD i p0).z j).2] W fun e W' => e = .returned (.bool false) ∧ Below W.heap.size W W')
    (hSo : Sound n ps) (hO : Owns A.length g (lk n ps ps.length 0)) (hA : Abt A.length g (fun i => A.getD i 0) (fun i => B.getD i 0))
    (w : World) (hu : Ints w u A) (hv : Ints w v B) (hp : ProjsAt w gq ps) :
    Calls (barP Try.prog) 9 #[.int .i64 n, .slice (some ⟨gq, 0, none⟩) ps.length cq, u, v] w (RunPost n ps A B g w) := by
  by_cases e0 : ps.length = 0
  · obtain rfl := List.length_eq_zero_iff.1 e0
    refine (runZero (cq := cq) h1 h2 hl (fun i hi => by have := hA i hi; dsimp only at this; omega) w hu hv hp.lt).mono ?_
    rintro e w' ⟨gl, cl, gh, ch, rfl, r1, r2, hb⟩
    refine ⟨.inr ⟨gl, cl, gh, ch, _, _, rfl, r1, r2, ⟨fun L hL => ?_, fun i _ => ⟨Int.le_refl _, Int.le_refl _⟩, fun l h _ hw => hw⟩, hA⟩, hb⟩
    rw [lk_all] at hL
    simp at hL
  · have hx1 : 1 ≤ (lk n ps ps.length 0).length := by
      have hm := (hd 0 (by omega)).2.2
      rw [lk_all]
      match ps, e0, hm with
      | p :: r, _, hm =>
        rw [List.flatMap_cons, List.length_append, allS_len]
        have : 1 ≤ p.nb := hm
        omega
    have hx2 : (lk n ps ps.length 0).length ≤ 100000 := by
      rw [lk_all]
      have := flat_len n ps fun p hp => by
        obtain ⟨i, hi, rfl⟩ := pd_mem hp
        exact (hSo.bins i hi).1
      have := hSo.few
      omega
    have hd' : ∀ i, i < ps.length → Dir64 (ps.getD i p0).d ∧ binsS n (ps.getD i p0).d = (((ps.getD i p0).nb : Int), 0) ∧ (ps.getD i p0).nb ≤ 2017 := fun i hi => ⟨(hd i hi).1, (hd i hi).2.1, by have := (hSo.bins i hi).1; omega⟩
    have hc : ∀ i, i < A.length → (stK (lk n ps ps.length 0) (fun i => A.getD i 0) (fun i => B.getD i 0) 0).lo i ≤ (stK (lk n ps ps.length 0) (fun i => A.getD i 0) (fun i => B.getD i 0) 0).hi i := fun i hi => by
      have := hA i hi
      show A.getD i 0 ≤ B.getD i 0
      dsimp only at this
      omega
    rcases sweeps_own hO hA with ⟨T, hT, hS, hG, hA2⟩ | hS
    · refine (runOk (cq := cq) h1 h2 hl hSo.few hd' hz hSo hx1 hx2 (fun x hx => (hO x hx).fit) hT hS rfl rfl hc w hu hv hp).mono ?_
      rintro e w' ⟨gl, cl, gh, ch, rfl, r1, r2, hb⟩
      exact ⟨.inr ⟨gl, cl, gh, ch, _, _, rfl, r1, r2, hG, hA2⟩, hb⟩
    · refine (runFew (cq := cq) h1 h2 hl hSo.few hd' hz hSo hx1 hx2 (fun x hx => (hO x hx).fit) hS rfl rfl hc w hu hv hp).mono ?_
      rintro e w' ⟨rfl, hb⟩
      exact ⟨.inl rfl, hb⟩
end Go.Proofs.Ythbghcebcahlnaa

namespace Go.Proofs.Ythbghcebcahlnaa
open Go.RowKit

def gridV (n : Nat) (g c : Nat) : Value := .agg #[.int .i64 n, .slice (some ⟨g, 0, none⟩) (n * n : Nat) c]

theorem square_le {n : Nat} (h : n ≤ 64) : n * n ≤ 4096 := Nat.mul_le_mul h h

set_option maxHeartbeats 400000 in
theorem gridSide {n : Nat} (h1 : 1 ≤ n) (h2 : n ≤ 64) (w : World) :
    Calls (barP Try.prog) 38 #[.int .i64 n] w fun e w' => e = .returned (.bool true) ∧ w' = w := by
  have q1 : (1 ≤ (n : Int)) = True := by simp; omega
  have q2 : ((n : Int) ≤ 64) = True := by simp; omega
  go_enter Bar.func38, Bar.ntmps38
  go_wp2_with fail
  go_ret
  exact ⟨rfl, rfl⟩

set_option maxHeartbeats 1600000 in
theorem soundAny {n g c m : Nat} {f : Nat → Nat × Nat} {z : Nat → Int × Int} (w : World) (h1 : 1 ≤ n) (h2 : n ≤ 64) (hR : Row w g (n * n) f) (hz : ∀ j, j < n * n → Cell (f j) (z j) m) (hm : m ≤ 1048576) :
    Calls (barP Try.prog) 22 #[gridV n g c] w fun e w' => e = .returned (.bool true) ∧ Below w.heap.size w w' := by
  have hq := square_le h2
  have kS := hide fun w => gridSide h1 h2 w
  unfold gridV
  obtain ⟨M, hM⟩ : ∃ M, n * n = M := ⟨_, rfl⟩
  have q5 : (n : Int) * (n : Int) = (M : Int) := by rw [← hM, Int.natCast_mul]
  rw [hM] at hR hz hq ⊢
  have q6 : IntKind.i64.wrap (M : Int) = M := by rw [IntKind.wrap_i64]; omega
  have hR := hide hR
  have hz := hide hz
  clear hM
  go_enter Bar.func22, Bar.ntmps22
  go_wp2_with (first | (go_at_call 38; refine (unhide kS _).mono ?_; rintro e w' ⟨rfl, rfl⟩))
  go_loopw [23] (fun iv wr => ∃ i : Nat, i ≤ M ∧ iv = .int .i64 i ∧ w.alloc (.cells #[.int .i64 n, .slice (some ⟨g, 0, none⟩) M c] 27) = wr) (fun iv _ => M - (intOf iv).toNat)
  case atStart => exact ⟨0, Nat.zero_le _, rfl, rfl⟩
  case round =>
    obtain ⟨i, hi, rfl, rfl⟩ := hrel
    by_cases hc : i < M
    · have p1 : ((i : Int) < (M : Int)) = True := by simp; omega
      have hR1 := row_below (unhide hR) ((Below.refl _ w).alloc (Nat.le_refl _) (.cells #[.int .i64 n, .slice (some ⟨g, 0, none⟩) M c] 27)) (row_lt (unhide hR))
      have c1 := row_at hR1 hc
      have f1 := row_frozen hR1 i
      have k := hide fun w => valueAny (unhide hz i hc) hm w
      clear hR1
      go_wp2_with (first | (go_at_call 39; refine (unhide k _).mono ?_; rintro e w' ⟨rfl, rfl⟩))
      go_roundw
      case rel => exact ⟨i + 1, by omega, by simp, trivial⟩
      case measure => simp [intOf]; omega
    · have e : i = M := by omega
      subst e
      have p1 : ((i : Int) < (i : Int)) = False := by simp
      go_wp2_with fail
      go_ret
      exact ⟨rfl, (Below.refl _ _).alloc (Nat.le_refl _) _⟩

set_option maxHeartbeats 800000 in
theorem gridCheck {n g c m : Nat} {f : Nat → Nat × Nat} {z : Nat → Int × Int} (w : World) (h1 : 1 ≤ n) (h2 : n ≤ 64) (hR : Row w g (n * n) f) (hz : ∀ j, j < n * n → Cell (f j) (z j) m) (hm : m ≤ 1048576) :
    Calls (barP Try.prog) 13 #[gridV n g c] w fun e w' => e = .returned (.int .i64 0) ∧ Below w.heap.size w w' := by
  have hB := (Below.refl _ w).alloc (Nat.le_refl _) (.cells #[.int .i64 n, .slice (some ⟨g, 0, none⟩) (n * n : Nat) c] 27)
  have k := hide (soundAny (c := c) _ h1 h2 (row_below hR hB (row_lt hR)) hz hm)
  have hB := hide hB
  clear hR hz hm h1 h2
  unfold gridV at *
  generalize n * n = M at *
  go_enter Bar.func13, Bar.ntmps13
  go_wp2_with fail
  refine (unhide k).mono ?_
  rintro e w' ⟨rfl, hw⟩
  have hB2 : Hid (Below w.heap.size w w') := (unhide hB).trans (hw.mono (by simp))
  clear hw
  go_wp2_with fail
  go_ret
  exact ⟨rfl, unhide hB2⟩
end Go.Proofs.Ythbghcebcahlnaa

namespace Go.Proofs.Ythbghcebcahlnaa
open Go.RowKit Fl

attribute [local go_sem] store_complex

/-- A slice of bytes in memory. -/
structure Bytes (w : World) (a : Option Addr) (g o : Nat) (L : List Int) : Prop where
  at_ : 0 < L.length → a = some ⟨g, o, none⟩ ∧ g < w.heap.size
  cell : ∀ i c, L[i]? = some c → w.cell? ⟨g, o + i, none⟩ = some (.int .u8 c)

theorem bytes_below {w w' : World} {a : Option Addr} {g o : Nat} {L : List Int} (h : Bytes w a g o L) (hb : Below w.heap.size w w') : Bytes w' a g o L := by
  refine ⟨fun hl => ⟨(h.at_ hl).1, Nat.lt_of_lt_of_le (h.at_ hl).2 hb.size⟩, fun i c hi => ?_⟩
  have hl : 0 < L.length := by
    have := (List.getElem?_eq_some_iff.1 hi).1
    omega
  exact (hb.cell (h.at_ hl).2).trans (h.cell i c hi)

/-- The numbers that a list of bytes makes, and their bits. -/
def smallZ (L : List Int) (i : Nat) : Int × Int := if 2 * i + 1 < L.length then (IntKind.i8.wrap (L.getD (2 * i) 0), IntKind.i8.wrap (L.getD (2 * i + 1) 0)) else (0, 0)
def smallB (L : List Int) (i : Nat) : Nat × Nat := (floatOfInt .f64 (smallZ L i).1, floatOfInt .f64 (smallZ L i).2)
/-- So far. -/
def smallTo (L : List Int) (k i : Nat) : Nat × Nat := if i < k then smallB L i else (0, 0)

theorem wrap8_le (x : Int) : (IntKind.i8.wrap x).natAbs ≤ 128 := by
  have e : IntKind.i8.wrap x = if x % 256 ≥ 128 then x % 256 - 256 else x % 256 := by simp [IntKind.wrap, IntKind.bits, IntKind.signed]
  rw [e]
  split <;> omega

theorem float8_all : ((List.range 257).all fun k => decide (floatOfInt .f64 ((k : Int) - 128) < 18446744073709551616)) = true := by decide +kernel
theorem float8_lt {z : Int} (h : z.natAbs ≤ 128) : floatOfInt .f64 z < 18446744073709551616 := by
  have h1 := List.all_eq_true.1 float8_all (z + 128).toNat (List.mem_range.2 (by omega))
  have h2 := of_decide_eq_true h1
  rw [show (((z + 128).toNat : Nat) : Int) - 128 = z by omega] at h2
  exact h2

theorem smallZ_le (L : List Int) (i : Nat) : (smallZ L i).1.natAbs ≤ 128 ∧ (smallZ L i).2.natAbs ≤ 128 := by
  unfold smallZ
  split
  · exact ⟨wrap8_le _, wrap8_le _⟩
  · exact ⟨by decide, by decide⟩

theorem float_zero {z : Int} (h : z = 0) : floatOfInt .f64 z = 0 := by subst h; rfl

theorem small_cell (L : List Int) (i : Nat) : Cell (smallB L i) (smallZ L i) 128 := by
  obtain ⟨h1, h2⟩ := smallZ_le L i
  exact ⟨⟨iv_ofInt _ (by omega), iv_ofInt _ (by omega)⟩, float8_lt h1, float8_lt h2, float_zero, float_zero, h1, h2⟩

theorem smallB_out {L : List Int} {i : Nat} (h : ¬ 2 * i + 1 < L.length) : smallB L i = (0, 0) := by
  unfold smallB smallZ
  rw [if_neg h]
  rfl

theorem smallTo_step (L : List Int) (k i : Nat) : upd (smallTo L k) k (smallB L k) i = smallTo L (k + 1) i := by
  unfold upd smallTo
  by_cases c : i = k
  · subst c
    rw [if_pos rfl, if_pos (by omega)]
  · rw [if_neg c]
    by_cases d : i < k
    · rw [if_pos d, if_pos (by omega)]
    · rw [if_neg d, if_neg (by omega)]

theorem smallTo_out {L : List Int} {k : Nat} (h : ¬ 2 * k + 1 < L.length) (i : Nat) : smallTo L k i = smallB L i := by
  unfold smallTo
  split
  · rfl
  · rw [smallB_out (by omega)]

end Go.Proofs.Ythbghcebcahlnaa
