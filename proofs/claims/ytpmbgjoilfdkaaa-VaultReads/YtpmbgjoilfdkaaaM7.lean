/- A field that is made cell by cell: the memory, wherever its boxes lie. The document's Change. The document's number of four bytes. What a file is: bodies, records, the next slice, the longest beginning that is a file. -/
import Derived.Test.YtpmbgjoilfdkaaaVA
import Derived.Deep.RegionLaw
namespace Go.Proofs.Ytpmbgjoilfdkaaa
open Go.RowKit Fl Ieee

structure UN (w wr : World) (R X n : Nat) (v : Value) (k : Nat) (f : Nat → Nat × Nat) : Prop where
  lo : w.heap.size ≤ R
  lx : R < X
  res : wr.heap[R]? = some (.cells #[.int .i64 0, .slice none 0 0] 30 (0, 0))
  box : wr.heap[X]? = some (.cells #[.int .i64 n, v] 30 (0, 0))
  own : wr.ownsRow (X + 1) 40 1 v k (cL f k)
  bel : Below w.heap.size w wr

theorem un_drew {w wr : World} {R X n k d : Nat} {v : Value} {f : Nat → Nat × Nat} (h : UN w wr R X n v k f) : UN w (wr.drewN d) R X n v k f := ⟨h.lo, h.lx, h.res, h.box, h.own, ⟨h.bel.os, h.bel.tape, h.bel.output, h.bel.size, h.bel.block⟩⟩
theorem un_size {w wr : World} {R X n k : Nat} {v : Value} {f : Nat → Nat × Nat} (h : UN w wr R X n v k f) : X < wr.heap.size := (Array.getElem?_eq_some_iff.1 h.box).1
theorem un_cell {w wr : World} {R X n k : Nat} {v : Value} {f : Nat → Nat × Nat} (h : UN w wr R X n v k f) : wr.cell? ⟨X, 0, none⟩ = some (.int .i64 n) ∧ wr.cell? ⟨X, 1, none⟩ = some v ∧ wr.frozen? ⟨X, 1, none⟩ = false := by
  have hb := h.box
  refine ⟨?_, ?_, ?_⟩
  · simp [World.cell?, hb]
  · simp [World.cell?, hb]
  · simp [World.frozen?, hb]
theorem un_mid {w wr w2 : World} {R X n k : Nat} {v : Value} {f : Nat → Nat × Nat} {o : Obj} (h : UN w wr R X n v k f) (hg : (wr.alloc o).grownBy w2 v.ownBlock) :
    w2.cell? ⟨X, 1, none⟩ = some v ∧ w2.frozen? ⟨X, 1, none⟩ = false := by
  have hs := un_size h
  have hb : w2.heap[X]? = some (.cells #[.int .i64 n, v] 30 (0, 0)) := by
    rw [hg.block _ (by rw [World.size_alloc]; omega) (fun e => by have := (h.own.lt _ e.symm).1; omega), Below.heap_alloc _ _ _ (by omega)]
    exact h.box
  exact ⟨by simp [World.cell?, hb], by simp [World.frozen?, hb]⟩
theorem un_step {w wr w2 : World} {R X n k : Nat} {v v' : Value} {f : Nat → Nat × Nat} {c : Nat × Nat} {o : Obj} (h : UN w wr R X n v k f) (hown : w2.ownsRow (X + 1) 40 1 v' (k + 1) (cL f k ++ [cv c])) (hg : (wr.alloc o).grownBy w2 v.ownBlock) :
    UN w (w2.setCell ⟨X, 1, none⟩ v') R X n v' (k + 1) (updC f k c) := by
  have hs := un_size h
  have hlo := h.lo
  have hlx := h.lx
  have hlt : ∀ b, v.ownBlock = some b → X + 1 ≤ b := fun b hb => (h.own.lt b hb).1
  have keep : ∀ j, j ≤ X → w2.heap[j]? = wr.heap[j]? := fun j hj => by
    rw [hg.block j (by rw [World.size_alloc]; omega) (fun e => by have := hlt j e.symm; omega), Below.heap_alloc _ _ _ (by omega)]
  refine ⟨h.lo, h.lx, ?_, ?_, ?_, ?_⟩
  · rw [Below.heap_setCell _ _ _ _ (by show R ≠ X; omega), keep _ (by omega)]
    exact h.res
  · have hb : w2.heap[X]? = some (.cells #[.int .i64 n, v] 30 (0, 0)) := by rw [keep _ (Nat.le_refl _)]; exact h.box
    rw [heap_setCell_same w2 X 1 _ _ _ hb]
    rfl
  · rw [cL_upd]
    exact own_setC hown (by omega)
  · refine Below.setCell ?_ (by show w.heap.size ≤ X; omega) _
    exact (h.bel.alloc h.bel.size o).grown hg (by rw [World.size_alloc]; have := h.bel.size; omega) (fun b hb => by have := hlt b hb; omega)
theorem un_row {w wr : World} {R X n k : Nat} {v : Value} {f : Nat → Nat × Nat} (h : UN w wr R X n v k f) (hk : 1 ≤ k) : ∃ g c, v = .slice (some ⟨g, 0, none⟩) k c ∧ X + 1 ≤ g ∧ Row wr g k f := by
  rcases h.own.2 with ⟨_, h2⟩ | ⟨g, cap, cur, h1, h2, h3, h4, _, h6, h7⟩
  · omega
  · refine ⟨g, cap, h1, h2, cur, h3, by omega, fun i hi => ?_⟩
    have h8 := cL_at (f := f) hi
    rw [← h7, List.getElem?_take, if_pos (by omega)] at h8
    simpa using h8

/-- The bits in which two fields are unlike. -/
def xorC (f p : Nat → Nat × Nat) (i : Nat) : Nat × Nat := ((f i).1 ^^^ (p i).1, (f i).2 ^^^ (p i).2)
theorem xor_lt {x y : Nat} (hx : x < 18446744073709551616) (hy : y < 18446744073709551616) : x ^^^ y < 18446744073709551616 := Nat.xor_lt_two_pow (n := 64) hx hy
end Go.Proofs.Ytpmbgjoilfdkaaa

namespace Go.Proofs.Ytpmbgjoilfdkaaa
open Go.RowKit Fl Ieee
attribute [local go_sem] store_complex

/-- What is asked of Change, of two fields of one side. -/
def ChangeOk (fn : Nat) : Prop := ∀ (n g c g' c' : Nat) (f p : Nat → Nat × Nat) (w : World), 1 ≤ n → n ≤ 64 → (∀ i, i < n * n → (f i).1 < 18446744073709551616 ∧ (f i).2 < 18446744073709551616) → (∀ i, i < n * n → (p i).1 < 18446744073709551616 ∧ (p i).2 < 18446744073709551616) → Row w g (n * n) f → Row w g' (n * n) p →
  Calls Try.prog fn #[fieldV n g (n * n) c, fieldV n g' (n * n) c'] w fun r w' => ∃ gz cz, r = .returned (.tuple #[fieldV n gz (n * n) cz, .int .i64 0]) ∧ Row w' gz (n * n) (xorC f p) ∧ w.heap.size ≤ gz ∧ Below w.heap.size w w'

set_option maxRecDepth 100000 in
set_option maxHeartbeats 12800000 in
theorem refChange : ChangeOk 36 := by
  intro n g c g' c' f p w h1 h2 hf hp hR hR'
  have kR := hide (fun W => refRight (g := g) (c := c) h1 h2 W)
  have kR' := hide (fun W => refRight (g := g') (c := c') h1 h2 W)
  have R1 := hide hR
  have R2 := hide hR'
  have HF := hide hf
  have HP := hide hp
  have hM2 : n * n ≤ 4096 := Nat.mul_le_mul h2 h2
  have hM1 : 1 ≤ n * n := Nat.mul_le_mul h1 h1
  generalize hM : n * n = M at *
  have B0 := hide (box2_new w n g M c g' c')
  obtain ⟨i0, hi0, hz0, hz1, hz2⟩ := info_parts infoCx
  clear hR hR' hf hp hM
  unfold fieldV at *
  go_enter Try.func36, Try.ntmps36
  go_wp2_with fail
  have s0 : ((w.alloc (.cells #[.int .i64 n, .slice (some ⟨g, 0, none⟩) M c] 30)).alloc (.cells #[.int .i64 n, .slice (some ⟨g', 0, none⟩) M c'] 30)).heap.size = w.heap.size + 1 + 1 := by rw [World.size_alloc, World.size_alloc]
  generalize (w.alloc (.cells #[.int .i64 n, .slice (some ⟨g, 0, none⟩) M c] 30)).alloc (.cells #[.int .i64 n, .slice (some ⟨g', 0, none⟩) M c'] 30) = W0 at *
  have z1 : (W0.alloc (.cells #[.int .i64 0, .slice none 0 0] 30)).heap[w.heap.size + 1 + 1]? = some (.cells #[.int .i64 0, .slice none 0 0] 30 (0, 0)) := by rw [← s0]; exact heap_alloc_new W0 _
  have y1 : (W0.alloc (.cells #[.int .i64 0, .slice none 0 0] 30)).heap.size = w.heap.size + 1 + 1 + 1 := by rw [World.size_alloc, s0]
  have bel1 : Below W0.heap.size W0 (W0.alloc (.cells #[.int .i64 0, .slice none 0 0] 30)) := (Below.refl _ _).alloc (Nat.le_refl _) _
  generalize W0.alloc (.cells #[.int .i64 0, .slice none 0 0] 30) = W1 at *
  refine (unhide kR _).mono ?_
  rintro e W2 ⟨rfl, hb2⟩
  have z2 : W2.heap[w.heap.size + 1 + 1]? = some (.cells #[.int .i64 0, .slice none 0 0] 30 (0, 0)) := by rw [hb2.block _ (by omega)]; exact z1
  have bel2 := bel1.trans (hb2.mono bel1.size)
  have y2 := hb2.size
  clear hb2 z1 bel1
  have HB := hide B0
  have a1 : W2.cell? ⟨w.heap.size + 1, 0, none⟩ = some (.int .i64 n) := (bel2.cell (p := ⟨w.heap.size + 1, 0, none⟩) (by show w.heap.size + 1 < _; omega)).trans (by simp [World.cell?, (unhide B0).two])
  have a2 : W2.cell? ⟨w.heap.size + 1, 1, none⟩ = some (.slice (some ⟨g', 0, none⟩) M c') := (bel2.cell (p := ⟨w.heap.size + 1, 1, none⟩) (by show w.heap.size + 1 < _; omega)).trans (by simp [World.cell?, (unhide B0).two])
  have BEL2 := hide bel2
  clear bel2
  go_wp2_with fail
  refine (unhide kR' _).mono ?_
  rintro e W3 ⟨rfl, hb3⟩
  have z3 : W3.heap[w.heap.size + 1 + 1]? = some (.cells #[.int .i64 0, .slice none 0 0] 30 (0, 0)) := by rw [hb3.block _ (by omega)]; exact z2
  have bel3 := (unhide BEL2).trans (hb3.mono (unhide BEL2).size)
  have y3 := hb3.size
  clear hb3 z2 a1 a2 BEL2
  have BOX : Hid (∀ wr : World, Below W0.heap.size W0 wr → wr.cell? ⟨w.heap.size, 0, none⟩ = some (.int .i64 n) ∧ wr.cell? ⟨w.heap.size, 1, none⟩ = some (.slice (some ⟨g, 0, none⟩) M c) ∧ wr.cell? ⟨w.heap.size + 1, 0, none⟩ = some (.int .i64 n) ∧ wr.cell? ⟨w.heap.size + 1, 1, none⟩ = some (.slice (some ⟨g', 0, none⟩) M c') ∧ Row wr g M f ∧ Row wr g' M p) := by
    intro wr hb
    have hl1 := row_lt (unhide R1)
    have hl2 := row_lt (unhide R2)
    refine ⟨(hb.cell (p := ⟨w.heap.size, 0, none⟩) (by show w.heap.size < _; omega)).trans (by simp [World.cell?, (unhide B0).one]), (hb.cell (p := ⟨w.heap.size, 1, none⟩) (by show w.heap.size < _; omega)).trans (by simp [World.cell?, (unhide B0).one]),
      (hb.cell (p := ⟨w.heap.size + 1, 0, none⟩) (by show w.heap.size + 1 < _; omega)).trans (by simp [World.cell?, (unhide B0).two]), (hb.cell (p := ⟨w.heap.size + 1, 1, none⟩) (by show w.heap.size + 1 < _; omega)).trans (by simp [World.cell?, (unhide B0).two]),
      row_keep (row_below (unhide R1) (unhide B0).bel hl1) (hb.block g (by omega)), row_keep (row_below (unhide R2) (unhide B0).bel hl2) (hb.block g' (by omega))⟩
  obtain ⟨d1, d2, d3, d4, _, _⟩ := unhide BOX W3 bel3
  have N0 : Hid (UN W0 (W3.alloc (.cells #[.int .i64 n, .slice none 0 0] 30)) (w.heap.size + 1 + 1) W3.heap.size n (.slice none 0 0) 0 (xorC f p)) := by
    refine ⟨by omega, by omega, ?_, heap_alloc_new W3 _, World.ownsRow_nil _ _ _ _, bel3.alloc bel3.size _⟩
    rw [Below.heap_alloc _ _ _ (by omega)]
    exact z3
  have BL := hide (unhide B0).bel
  have hX : w.heap.size + 1 + 1 < W3.heap.size := by omega
  clear bel3 z3 R1 R2 B0 HB y1 y2 y3 kR kR'
  go_wp2_with fail
  clear d1 d2 d3 d4
  generalize W3.alloc (.cells #[.int .i64 n, .slice none 0 0] 30) = W4 at *
  generalize W3.heap.size = X at *
  have k0 := bits32
  have kf := from31
  go_loopw [7] (fun iv wr => ∃ (i : Nat) (v : Value) (q : Nat → Nat × Nat), i ≤ M ∧ iv = .int .i64 i ∧ Hid (∀ j, j < i → q j = xorC f p j) ∧ Hid (UN W0 wr (w.heap.size + 1 + 1) X n v i q)) (fun iv _ => M - (intOf iv).toNat)
  case atStart => exact ⟨0, _, _, Nat.zero_le _, rfl, fun j hj => absurd hj (Nat.not_lt_zero j), N0⟩
  case round =>
    clear N0
    obtain ⟨i, v, q, hi, rfl, hq, hU⟩ := hrel
    obtain ⟨d1, d2, d3, d4, r1, r2⟩ := unhide BOX wr (unhide hU).bel
    by_cases hc : i < M
    · have q1 : ((i : Int) < (M : Int)) = True := by simp; omega
      have e1 := row_at r1 hc
      have e2 := row_at r2 hc
      obtain ⟨l1, l2⟩ := unhide HF i hc
      obtain ⟨l3, l4⟩ := unhide HP i hc
      unfold cv at e1 e2
      have hq2 : Hid (∀ j, j < i + 1 → updC q i ((f i).1 ^^^ (p i).1, (f i).2 ^^^ (p i).2) j = xorC f p j) := fun j hj => by
        unfold updC
        by_cases e : j = i
        · rw [if_pos e, e]
          rfl
        · rw [if_neg e]
          exact unhide hq j (by omega)
      have x1 : bits .xor .u64 ((f i).1 : Int) ((p i).1 : Int) = (((f i).1 ^^^ (p i).1 : Nat) : Int) := u64_xor_nat _ _ l1 l3
      have x2 : bits .xor .u64 ((f i).2 : Int) ((p i).2 : Int) = (((f i).2 ^^^ (p i).2 : Nat) : Int) := u64_xor_nat _ _ l2 l4
      generalize (f i).1 ^^^ (p i).1 = u1 at *
      generalize (f i).2 ^^^ (p i).2 = u2 at *
      generalize (f i).1 = f1 at *
      generalize (f i).2 = f2 at *
      generalize (p i).1 = p1 at *
      generalize (p i).2 = p2 at *
      have RR := hide (And.intro r1 r2)
      clear r1 r2 hq
      go_wp2_with fail
      go_quiet (fail)
      have hU1 := hide (un_drew (d := nq) (unhide hU))
      have RR1 : Hid (Row (wr.drewN nq) g M f ∧ Row (wr.drewN nq) g' M p) := unhide RR
      have d2' : (wr.drewN nq).cell? ⟨w.heap.size, 1, none⟩ = some (.slice (some ⟨g, 0, none⟩) M c) := d2
      have d4' : (wr.drewN nq).cell? ⟨w.heap.size + 1, 1, none⟩ = some (.slice (some ⟨g', 0, none⟩) M c') := d4
      have e1' : (wr.drewN nq).cell? ⟨g, i, none⟩ = some (.complex .f64 f1 f2) := e1
      have e2' : (wr.drewN nq).cell? ⟨g', i, none⟩ = some (.complex .f64 p1 p2) := e2
      clear hU RR d1 d2 d3 d4 e1 e2
      generalize wr.drewN nq = V1 at *
      go_wp2_with fail
      go_quiet (fail)
      have hU2 := hide (un_drew (d := nq) (unhide hU1))
      clear hU1 d2' d4' e1' e2' RR1
      generalize V1.drewN nq = V2 at *
      have hU3 : Hid (UN W0 V2.drew (w.heap.size + 1 + 1) X n v i q) := un_drew (d := 1) (unhide hU2)
      have hO : Hid ((V2.drew.alloc (.cells #[.complex .f64 u1 u2] 40)).ownsRow (X + 1) 40 1 v i (cL q i)) := (unhide hU3).own.alloc _
      have hnw : Hid (∀ j u, [Value.complex .f64 u1 u2][j]? = some u → (V2.drew.alloc (.cells #[.complex .f64 u1 u2] 40)).cell? ((⟨V2.heap.size, 0, none⟩ : Addr).add j) = some u) := one_newC V2.drew _ _
      have h1c : Hid (∀ u ∈ [Value.complex .f64 u1 u2], u.oneCell' = true) := fun u hu => by simp at hu; subst hu; rfl
      have hsz : X < V2.heap.size := un_size (unhide hU2)
      obtain ⟨_, k2, k3⟩ := un_cell (unhide hU2)
      have k4 : (V2.drew.alloc (.cells #[.complex .f64 u1 u2] 40)).cell? ⟨X, 1, none⟩ = some v := (World.cell?_of_block (Below.heap_alloc V2.drew _ _ hsz)).trans k2
      clear hU2
      go_wp2_with fail
      go_region_law (refine step_append_own rfl (.tmp 67) (.tmp 73) 28 rfl (X + 1) 40 i0 (.complex .f64 0 0) 1 16 Try.underlying28 hi0 hz0 hz1 hz2 rfl (by decide) v i (cL q i) rfl (unhide hO) ⟨V2.heap.size, 0, none⟩ 1 1 [.complex .f64 u1 u2] rfl rfl (unhide hnw) (unhide h1c) (by unfold maxLen; omega) (by omega) (by simp; omega) ?_
                     intro v' w5 hown' hgrow
                     obtain ⟨b5, b6⟩ := un_mid (unhide hU3) hgrow
                     have hU4 := hide (un_step (c := (u1, u2)) (unhide hU3) hown' hgrow)
                     obtain ⟨g5, c5, rfl⟩ := own_sliceC hown' (by omega)
                     clear hown' hgrow)
      all_goals go_wp2_with fail
      all_goals exact ⟨⟨i + 1, _, _, hc, by go_num, hq2, hU4⟩, by simp [intOf]; omega⟩
    · have q1 : ((i : Int) < (M : Int)) = False := by simp; omega
      have e : i = M := by omega
      subst e
      obtain ⟨gz, cz, rfl, hgz, hRz⟩ := un_row (unhide hU) hM1
      obtain ⟨k1, k2, _⟩ := un_cell (unhide hU)
      have RZ : Hid (Row wr gz i (xorC f p)) := row_ext hRz (unhide hq)
      have R0 := hide (unhide hU).res
      have z0 : wr.cell? ⟨w.heap.size + 1 + 1, 0, none⟩ = some (.int .i64 0) := by simp [World.cell?, (unhide hU).res]
      have z1 : wr.cell? ⟨w.heap.size + 1 + 1, 1, none⟩ = some (.slice none 0 0) := by simp [World.cell?, (unhide hU).res]
      have z2 : wr.frozen? ⟨w.heap.size + 1 + 1, 0, none⟩ = false := by simp [World.frozen?, (unhide hU).res]
      have z3 : wr.frozen? ⟨w.heap.size + 1 + 1, 1, none⟩ = false := by simp [World.frozen?, (unhide hU).res]
      have BB : Hid (Below w.heap.size w wr) := (unhide BL).trans ((unhide hU).bel.mono (by omega))
      clear hRz hU hq
      go_wp2_with fail
      obtain ⟨t1, t2, t3, t4⟩ := two_set (unhide R0) (.int .i64 n) (.slice (some ⟨gz, 0, none⟩) i cz)
      refine bodyPost_ret (results_two_tmp (P := Try.prog) rfl _ _ (w.heap.size + 1 + 1) (.int .i64 n) (.slice (some ⟨gz, 0, none⟩) i cz) (.int .i64 0) _ rfl rfl t1 t2 Try.underlying30 rfl (by kernel_rfl)) rfl ?_
      exact ⟨gz, cz, rfl, row_keep (unhide RZ) (t3 gz (by omega)), by omega, ((unhide BB).setCell (by show w.heap.size ≤ w.heap.size + 1 + 1; omega) _).setCell (by show w.heap.size ≤ w.heap.size + 1 + 1; omega) _⟩
end Go.Proofs.Ytpmbgjoilfdkaaa

namespace Go.Proofs.Ytpmbgjoilfdkaaa
open Go.RowKit Fl Ieee

theorem i64_or_nat {a b : Nat} (ha : a < 4611686018427387904) (hb : b < 4611686018427387904) : bits .or .i64 (a : Int) (b : Int) = ((a ||| b : Nat) : Int) := by
  have hl : a ||| b < 4611686018427387904 := Nat.or_lt_two_pow (n := 62) ha hb
  show IntKind.i64.wrap ((BitVec.ofInt 64 (a : Int) ||| BitVec.ofInt 64 (b : Int)).toNat : Int) = _
  rw [BitVec.toNat_or, ofInt_u64 a (by omega), ofInt_u64 b (by omega), IntKind.wrap_i64]
  omega

set_option maxRecDepth 100000 in
set_option maxHeartbeats 1600000 in
theorem refNumber4 {a : Option Addr} {g o c : Nat} {L : List Nat} (hl : 4 ≤ L.length) (w : World) (h : BAt w a g o L) :
    Calls Try.prog 34 #[.slice a L.length c] w fun r w' => ∃ d, r = .returned (.int .i64 (numB L 0 4 : Nat)) ∧ w' = w.drewN d := by
  obtain ⟨rfl, hg⟩ := h.at_ (by omega)
  have q0 : ((0 : Int) < (L.length : Int)) = True := by simp; omega
  have q1 : ((1 : Int) < (L.length : Int)) = True := by simp; omega
  have q2 : ((2 : Int) < (L.length : Int)) = True := by simp; omega
  have q3 : ((3 : Int) < (L.length : Int)) = True := by simp; omega
  have c0 : w.cell? ⟨g, o, none⟩ = some (.int .u8 (L.getD 0 0 : Nat)) := h.cell 0 (by omega)
  have c1 := h.cell 1 (by omega)
  have c2 := h.cell 2 (by omega)
  have c3 := h.cell 3 (by omega)
  have b0 := h.lt 0
  have b1 := h.lt 1
  have b2 := h.lt 2
  have b3 := h.lt 3
  have en : Hid (numB L 0 4 = ((L.getD 0 0 * 256 + L.getD 1 0) * 256 + L.getD 2 0) * 256 + L.getD 3 0) := by
    show _ = _
    simp [numB]
  clear h
  generalize L.getD 0 0 = y0 at *
  generalize L.getD 1 0 = y1 at *
  generalize L.getD 2 0 = y2 at *
  generalize L.getD 3 0 = y3 at *
  obtain ⟨t0, h0⟩ : ∃ t, t = y0 * 16777216 := ⟨_, rfl⟩
  obtain ⟨t1, h1⟩ : ∃ t, t = y1 * 65536 := ⟨_, rfl⟩
  obtain ⟨t2, h2⟩ : ∃ t, t = y2 * 256 := ⟨_, rfl⟩
  obtain ⟨u1, k1⟩ : ∃ t, t = t0 + t1 := ⟨_, rfl⟩
  obtain ⟨u2, k2⟩ : ∃ t, t = u1 + t2 := ⟨_, rfl⟩
  obtain ⟨u3, k3⟩ : ∃ t, t = u2 + y3 := ⟨_, rfl⟩
  have s0 : (y0 : Int) * 16777216 = (t0 : Int) := by omega
  have s1 : (y1 : Int) * 65536 = (t1 : Int) := by omega
  have s2 : (y2 : Int) * 256 = (t2 : Int) := by omega
  have o1 : bits .or .i64 (t0 : Int) (t1 : Int) = (u1 : Int) := by rw [i64_or_nat (by omega) (by omega), nat_join 24 t0 t1 (by rw [h0]; omega) (by omega), k1]
  have o2 : bits .or .i64 (u1 : Int) (t2 : Int) = (u2 : Int) := by rw [i64_or_nat (by omega) (by omega), nat_join 16 u1 t2 (by rw [k1, h0, h1]; omega) (by omega), k2]
  have o3 : bits .or .i64 (u2 : Int) (y3 : Int) = (u3 : Int) := by rw [i64_or_nat (by omega) (by omega), nat_join 8 u2 y3 (by rw [k2, k1, h0, h1, h2]; omega) (by omega), k3]
  have ef : Hid (numB L 0 4 = u3) := by
    show _ = _
    rw [unhide en]
    omega
  clear h0 h1 h2 k1 k2 k3 en
  go_enter Try.func34, Try.ntmps34
  go_wp2_with fail
  go_quiet (fail)
  go_wp2_with fail
  go_ret
  exact ⟨nq, by rw [unhide ef]; rfl, rfl⟩
end Go.Proofs.Ytpmbgjoilfdkaaa

namespace Go.Proofs.Ytpmbgjoilfdkaaa
open Go.RowKit Fl Ieee

def PackIs (n : Nat) (f : Nat → Nat × Nat) (L : List Nat) : Prop := ∃ a, Sh n (n * n) f a ∧ L = byL a n (n * n) f
theorem pack_one {n : Nat} {f : Nat → Nat × Nat} {L L' : List Nat} (h : PackIs n f L) (h' : PackIs n f L') : L = L' := by
  obtain ⟨a, h1, rfl⟩ := h
  obtain ⟨b, h2, rfl⟩ := h'
  rw [sh_one h1 h2]
theorem pack_congr {n : Nat} {f f' : Nat → Nat × Nat} (e : ∀ j, j < n * n → f' j = f j) {L : List Nat} (h : PackIs n f L) : PackIs n f' L := by
  obtain ⟨a, h1, rfl⟩ := h
  exact ⟨a, sh_congr e h1, (byL_congr e a n).symm⟩

/-- A slice's side and its cells. -/
abbrev Sli := Nat × (Nat → Nat × Nat)
def PSame (p q : Option Sli) : Prop := (p = none ∧ q = none) ∨ ∃ n a b, p = some (n, a) ∧ q = some (n, b) ∧ ∀ j, j < n * n → a j = b j
theorem psame_symm {p q : Option Sli} (h : PSame p q) : PSame q p := by
  rcases h with ⟨h1, h2⟩ | ⟨n, a, b, h1, h2, h3⟩
  · exact .inl ⟨h2, h1⟩
  · exact .inr ⟨n, b, a, h2, h1, fun j hj => (h3 j hj).symm⟩
theorem psame_some {p q : Option Sli} (h : PSame p q) {n : Nat} {a : Nat → Nat × Nat} (e : p = some (n, a)) : ∃ b, q = some (n, b) ∧ ∀ j, j < n * n → b j = a j := by
  rcases h with ⟨h1, _⟩ | ⟨n', a', b, h1, h2, h3⟩
  · rw [h1] at e; cases e
  · rw [h1] at e
    cases e
    exact ⟨b, h2, fun j hj => (h3 j hj).symm⟩

/-- The body of a slice behind the one ahead. -/
def BodyIs (prev : Option Sli) (n : Nat) (f : Nat → Nat × Nat) (bs : List Nat) : Prop := ∃ L, PackIs n f L ∧
  ((∃ p C, prev = some (n, p) ∧ PackIs n (xorC f p) C ∧ C.length < L.length ∧ bs = 1 :: C) ∨
   ((∀ p, prev = some (n, p) → ∃ C, PackIs n (xorC f p) C ∧ ¬ C.length < L.length) ∧ bs = 0 :: L))
theorem body_one {prev : Option Sli} {n : Nat} {f : Nat → Nat × Nat} {b b' : List Nat} (h : BodyIs prev n f b) (h' : BodyIs prev n f b') : b = b' := by
  obtain ⟨L, h1, h2⟩ := h
  obtain ⟨L', h1', h2'⟩ := h'
  obtain rfl := pack_one h1 h1'
  rcases h2 with ⟨p, C, e, hp, hl, rfl⟩ | ⟨hn, rfl⟩
  · rcases h2' with ⟨p', C', e', hp', _, rfl⟩ | ⟨hn', rfl⟩
    · rw [e] at e'
      cases e'
      rw [pack_one hp hp']
    · obtain ⟨C', hC, hl'⟩ := hn' p e
      obtain rfl := pack_one hp hC
      exact absurd hl hl'
  · rcases h2' with ⟨p', C', e', hp', hl', rfl⟩ | ⟨_, rfl⟩
    · obtain ⟨C, hC, hl⟩ := hn p' e'
      obtain rfl := pack_one hp' hC
      exact absurd hl' hl
    · rfl
theorem xor_congr {f p q : Nat → Nat × Nat} {m : Nat} (e : ∀ j, j < m → q j = p j) (j : Nat) (hj : j < m) : xorC f q j = xorC f p j := by
  unfold xorC
  rw [e j hj]
theorem xor_congr2 {f g p : Nat → Nat × Nat} {m : Nat} (e : ∀ j, j < m → g j = f j) (j : Nat) (hj : j < m) : xorC g p j = xorC f p j := by
  unfold xorC
  rw [e j hj]
theorem body_prev {prev prev' : Option Sli} (hs : PSame prev prev') {n : Nat} {f : Nat → Nat × Nat} {b : List Nat} (h : BodyIs prev n f b) : BodyIs prev' n f b := by
  obtain ⟨L, h1, h2⟩ := h
  refine ⟨L, h1, ?_⟩
  rcases h2 with ⟨p, C, e, hp, hl, rfl⟩ | ⟨hn, rfl⟩
  · obtain ⟨q, e', hq⟩ := psame_some hs e
    exact .inl ⟨q, C, e', pack_congr (xor_congr hq) hp, hl, rfl⟩
  · refine .inr ⟨fun q e' => ?_, rfl⟩
    obtain ⟨p, e, hp⟩ := psame_some (psame_symm hs) e'
    obtain ⟨C, hC, hl⟩ := hn p e
    exact ⟨C, pack_congr (xor_congr fun j hj => (hp j hj).symm) hC, hl⟩
theorem body_congr {prev : Option Sli} {n : Nat} {f f' : Nat → Nat × Nat} (e : ∀ j, j < n * n → f' j = f j) {b : List Nat} (h : BodyIs prev n f b) : BodyIs prev n f' b := by
  obtain ⟨L, h1, h2⟩ := h
  refine ⟨L, pack_congr e h1, ?_⟩
  rcases h2 with ⟨p, C, e1, hp, hl, rfl⟩ | ⟨hn, rfl⟩
  · exact .inl ⟨p, C, e1, pack_congr (xor_congr2 e) hp, hl, rfl⟩
  · refine .inr ⟨fun p e1 => ?_, rfl⟩
    obtain ⟨C, hC, hl⟩ := hn p e1
    exact ⟨C, pack_congr (xor_congr2 e) hC, hl⟩

def recL (bs : List Nat) : List Nat := highL bs.length 4 ++ highL (sumB bs bs.length) 4 ++ bs
def inner (B : List Nat) : List Nat := (B.drop 9).take (numB B 0 4 - 1)
/-- What is read at the head of bytes, the record's form aside. -/
def ReadIs (prev : Option Sli) (B : List Nat) (n : Nat) (f : Nat → Nat × Nat) : Prop := ∃ f0, Good (inner B) f0 ∧ n = side (inner B) ∧
  (B.getD 8 0 = 1 → ∃ p, prev = some (n, p) ∧ ∀ j, j < n * n → f j = xorC f0 p j) ∧ (B.getD 8 0 ≠ 1 → ∀ j, j < n * n → f j = f0 j)
/-- The slice of the record at the head of bytes, behind the one ahead, and the record's length. -/
structure NextIs (prev : Option Sli) (B : List Nat) (n : Nat) (f : Nat → Nat × Nat) (k : Nat) : Prop where
  len : 9 ≤ B.length
  num : k = 8 + numB B 0 4
  lo : 1 ≤ numB B 0 4
  hi : numB B 0 4 + 8 ≤ B.length
  read : ReadIs prev B n f
  form : ∃ bs, BodyIs prev n f bs ∧ recL bs = B.take k
theorem read_prev {prev prev' : Option Sli} (hs : PSame prev prev') {B : List Nat} {n : Nat} {f : Nat → Nat × Nat} (h : ReadIs prev B n f) : ReadIs prev' B n f := by
  obtain ⟨f0, h1, h2, h3, h4⟩ := h
  refine ⟨f0, h1, h2, fun e => ?_, h4⟩
  obtain ⟨p, e1, e2⟩ := h3 e
  obtain ⟨q, e3, e4⟩ := psame_some hs e1
  exact ⟨q, e3, fun j hj => by rw [e2 j hj, xor_congr (fun j hj => (e4 j hj).symm) j hj]⟩
theorem read_one {prev : Option Sli} {B : List Nat} {n n' : Nat} {f f' : Nat → Nat × Nat} (h : ReadIs prev B n f) (h' : ReadIs prev B n' f') : n' = n ∧ ∀ j, j < n * n → f' j = f j := by
  obtain ⟨f0, h1, h2, h3, h4⟩ := h
  obtain ⟨g0, k1, k2, k3, k4⟩ := h'
  have e : n' = n := by rw [h2, k2]
  subst e
  refine ⟨rfl, fun j hj => ?_⟩
  have hg : ∀ j, j < n' * n' → g0 j = f0 j := by
    intro j hj
    rw [h2] at hj
    exact good_same h1 k1.2.1 j hj
  by_cases c : B.getD 8 0 = 1
  · obtain ⟨p, e1, e2⟩ := h3 c
    obtain ⟨q, e3, e4⟩ := k3 c
    rw [e1] at e3
    cases e3
    rw [e2 j hj, e4 j hj, xor_congr2 hg j hj]
  · rw [h4 c j hj, k4 c j hj, hg j hj]
theorem next_prev {prev prev' : Option Sli} (hs : PSame prev prev') {B : List Nat} {n k : Nat} {f : Nat → Nat × Nat} (h : NextIs prev B n f k) : NextIs prev' B n f k := by
  obtain ⟨bs, h1, h2⟩ := h.form
  exact ⟨h.len, h.num, h.lo, h.hi, read_prev hs h.read, bs, body_prev hs h1, h2⟩
theorem next_one {prev : Option Sli} {B : List Nat} {n n' k k' : Nat} {f f' : Nat → Nat × Nat} (h : NextIs prev B n f k) (h' : NextIs prev B n' f' k') : k' = k ∧ n' = n ∧ ∀ j, j < n * n → f' j = f j :=
  ⟨by rw [h.num, h'.num], read_one h.read h'.read⟩
/-- What is read decides. -/
theorem next_no {prev : Option Sli} {B : List Nat} {n k : Nat} {f : Nat → Nat × Nat} (h : ReadIs prev B n f) {bs : List Nat} (hb : BodyIs prev n f bs) (hk : k = 8 + numB B 0 4) (hn : recL bs ≠ B.take k) (n' : Nat) (f' : Nat → Nat × Nat) (k' : Nat) : ¬ NextIs prev B n' f' k' := by
  intro hx
  obtain ⟨e1, e2⟩ := read_one h hx.read
  subst e1
  obtain ⟨bs', h1, h2⟩ := hx.form
  have h3 := body_congr (fun j hj => (e2 j hj).symm) h1
  obtain rfl := body_one hb h3
  rw [hx.num, ← hk] at h2
  exact hn h2

def prevOf (S : Nat → Sli) : Nat → Option Sli
  | 0 => none
  | i + 1 => some (S i)
/-- The first c records of bytes: slices, and where each begins. -/
structure Cuts (B : List Nat) (c : Nat) (S : Nat → Sli) (P : Nat → Nat) : Prop where
  zero : P 0 = 0
  step : ∀ i, i < c → ∃ k, NextIs (prevOf S i) (B.drop (P i)) (S i).1 (S i).2 k ∧ P (i + 1) = P i + k ∧ P (i + 1) ≤ 1048576
structure CutEnd (B : List Nat) (c : Nat) (S : Nat → Sli) (P : Nat → Nat) : Prop where
  cuts : Cuts B c S P
  le : c ≤ 64
  fin : c = 64 ∨ ∀ n f k, NextIs (prevOf S c) (B.drop (P c)) n f k → 1048576 < P c + k
theorem cuts_same {B : List Nat} {c c' : Nat} {S S' : Nat → Sli} {P P' : Nat → Nat} (h : Cuts B c S P) (h' : Cuts B c' S' P') :
    ∀ i, i ≤ c → i ≤ c' → P' i = P i ∧ PSame (prevOf S i) (prevOf S' i) ∧ ∀ j, j < i → (S' j).1 = (S j).1 ∧ ∀ m, m < (S j).1 * (S j).1 → (S' j).2 m = (S j).2 m
  | 0, _, _ => ⟨by rw [h.zero, h'.zero], .inl ⟨rfl, rfl⟩, fun j hj => absurd hj (Nat.not_lt_zero j)⟩
  | i + 1, h1, h2 => by
    obtain ⟨e1, e2, e3⟩ := cuts_same h h' i (by omega) (by omega)
    obtain ⟨k, n1, n2, _⟩ := h.step i (by omega)
    obtain ⟨k', m1, m2, _⟩ := h'.step i (by omega)
    rw [e1] at m1 m2
    obtain ⟨d1, d2, d3⟩ := next_one (next_prev e2 n1) m1
    refine ⟨by rw [m2, n2, d1], .inr ⟨(S i).1, (S i).2, (S' i).2, rfl, ?_, fun j hj => (d3 j hj).symm⟩, fun j hj => ?_⟩
    · show some (S' i) = _
      rw [← d2]
    · by_cases c : j = i
      · subst c
        exact ⟨d2, d3⟩
      · exact e3 j (by omega)
theorem cut_le {B : List Nat} {c c' : Nat} {S S' : Nat → Sli} {P P' : Nat → Nat} (h : CutEnd B c S P) (h' : CutEnd B c' S' P') : c' ≤ c := by
  by_cases hc : c' ≤ c
  · exact hc
  · exfalso
    obtain ⟨e1, e2, _⟩ := cuts_same h.cuts h'.cuts c (Nat.le_refl _) (by omega)
    obtain ⟨k, m1, m2, m3⟩ := h'.cuts.step c (by omega)
    have := h'.le
    rcases h.fin with h1 | h1
    · omega
    · have := h1 _ _ _ (next_prev (psame_symm e2) (by rw [e1] at m1; exact m1))
      omega
/-- There is but one longest beginning. -/
theorem cut_one {B : List Nat} {c c' : Nat} {S S' : Nat → Sli} {P P' : Nat → Nat} (h : CutEnd B c S P) (h' : CutEnd B c' S' P') :
    c' = c ∧ P' c' = P c ∧ ∀ j, j < c → (S' j).1 = (S j).1 ∧ ∀ m, m < (S j).1 * (S j).1 → (S' j).2 m = (S j).2 m := by
  have e : c' = c := Nat.le_antisymm (cut_le h h') (cut_le h' h)
  subst e
  obtain ⟨e1, _, e3⟩ := cuts_same h.cuts h'.cuts c' (Nat.le_refl _) (Nat.le_refl _)
  exact ⟨rfl, e1, e3⟩
theorem cuts_next {B : List Nat} {c k n : Nat} {S : Nat → Sli} {P : Nat → Nat} {f : Nat → Nat × Nat} (h : Cuts B c S P) (hn : NextIs (prevOf S c) (B.drop (P c)) n f k) (hp : P c + k ≤ 1048576) :
    Cuts B (c + 1) (fun i => if i = c then (n, f) else S i) (fun i => if i = c + 1 then P c + k else P i) := by
  have ep : ∀ i, i ≤ c → prevOf (fun i => if i = c then (n, f) else S i) i = prevOf S i := by
    intro i hi
    cases i with
    | zero => rfl
    | succ i =>
      show some (if i = c then (n, f) else S i) = some (S i)
      rw [if_neg (by omega)]
  refine ⟨?_, fun i hi => ?_⟩
  · show (if 0 = c + 1 then P c + k else P 0) = 0
    rw [if_neg (by omega)]
    exact h.zero
  · rw [ep i (by omega)]
    show ∃ k', NextIs (prevOf S i) (B.drop (if i = c + 1 then P c + k else P i)) (if i = c then (n, f) else S i).1 (if i = c then (n, f) else S i).2 k' ∧ (if i + 1 = c + 1 then P c + k else P (i + 1)) = (if i = c + 1 then P c + k else P i) + k' ∧ (if i + 1 = c + 1 then P c + k else P (i + 1)) ≤ 1048576
    rw [if_neg (by omega : ¬ i = c + 1)]
    by_cases e : i = c
    · subst e
      rw [if_pos rfl, if_pos rfl]
      exact ⟨k, hn, rfl, hp⟩
    · rw [if_neg e, if_neg (by omega)]
      exact h.step i (by omega)
theorem cuts_at {B : List Nat} {c : Nat} {S : Nat → Sli} {P : Nat → Nat} (h : Cuts B c S P) : P c ≤ B.length ∧ P c ≤ 1048576 := by
  cases c with
  | zero => rw [h.zero]; exact ⟨Nat.zero_le _, by decide⟩
  | succ i =>
    obtain ⟨k, h1, h2, h3⟩ := h.step i (Nat.lt_succ_self i)
    refine ⟨?_, h3⟩
    have e1 := h1.num
    have e2 := h1.lo
    have e3 := h1.hi
    rw [List.length_drop] at e3
    omega

/-- The parts of what is read. -/
theorem good_bits {L : List Nat} {f : Nat → Nat × Nat} (hl : ∀ i, L.getD i 0 < 256) (h : Good L f) : ∀ j, j < side L * side L → (f j).1 < 18446744073709551616 ∧ (f j).2 < 18446744073709551616 := by
  intro j hj
  have e8 : (256 : Nat) ^ 8 = 18446744073709551616 := by decide
  rcases h.2.1 j hj with ⟨_, e⟩ | ⟨_, e1, e2⟩ | ⟨_, e⟩
  · rw [e, ← e8]
    exact ⟨numB_lt hl _ 8, numB_lt hl _ 8⟩
  · exact ⟨e1.1, e2.1⟩
  · rw [e]
    exact ⟨float_lt _, float_lt _⟩
end Go.Proofs.Ytpmbgjoilfdkaaa
