/- A cell of the board closed: the walk. -/
import Derived.Test.YtgbkfmjkemkajaaPB4
import Derived.Test.YtgbkfmjkemkajaaPB2b
namespace Go.Proofs.Ytgbkfmjkemkajaa
open Go.RowKit

set_option maxHeartbeats 400000 in
theorem subNone (w : World) : Calls Try.prog 49 #[.complex .f64 0 0, .complex .f64 0 0] w fun e w' => e = .returned (.complex .f64 0 0) ∧ w' = w := by
  have k1 := fun (w : World) t => run_float_arith (P := Try.prog) w .sub t .f64 0 0 0 (by kernel_rfl)
  go_enter Try.func49, Try.ntmps49
  go_wp2
  go_ret
  exact ⟨rfl, rfl⟩

set_option maxHeartbeats 400000 in
theorem plainNone (w : World) : Calls Try.prog 48 #[.complex .f64 0 0] w fun e w' => e = .returned (.complex .f64 0 0) ∧ w' = w := by
  have h : (FloatKind.f64.format.order 0 0 == some .eq) = true := by kernel_rfl
  go_enter Try.func48, Try.ntmps48
  go_wp2
  go_ret
  exact ⟨rfl, rfl⟩

section
variable {w : World} {base n : Nat} {L : List (Int × Int)} {a : Option Addr} {cap g o : Nat} {V : BV} {bo : Nat → Bool} {bk : Nat → Nat → Bool}

theorem Board.rst (h : Board w base n L a cap g o V bo bk) {k j : Nat} (hk : k < L.length) (hj : j < binN n (dk L k)) : w.cell? ⟨V.blk (6 + 2 * k), j, none⟩ = some (.complex .f64 0 0) := by
  have hr := h.mem.row (2 * k + 1 + 5) (Or.inr (by omega))
  have e : (2 * k + 1) / 2 = k := by omega
  have := vrow_at (i := j) hr (by show j < binN n (dk L ((2 * k + 1) / 2)); rw [e]; exact hj)
  rw [show 6 + 2 * k = 2 * k + 1 + 5 by omega, this]
  show some (if (2 * k + 1) % 2 = 0 then _ else Value.complex .f64 0 0) = _
  rw [if_neg (by omega)]
theorem Board.frozen (h : Board w base n L a cap g o V bo bk) {r : Nat} (hr : Live L r) (i : Nat) : w.frozen? ⟨V.blk r, i, none⟩ = false := by
  obtain ⟨cur, h1, _⟩ := h.mem.row r hr
  exact frozen_of_row w _ i cur _ h1
theorem Board.ne (h : Board w base n L a cap g o V bo bk) {r s : Nat} (hr : Live L r) (hs : Live L s) (e : r ≠ s) : (V.blk r = V.blk s) = False := by
  simp
  exact fun x => e (h.mem.apart r s hr hs x)

theorem Board.step2 (h : Board w base n L a cap g o V bo bk) (hg : 0 < L.length → g < base) {c k q : Nat} (hk : k < L.length) (hc : c < n * n) (hb : bk k c = true) (hq : lnI n (dk L k) c = (q : Int)) :
    Board (((w.setCell ⟨V.blk (5 + 2 * k), q, none⟩ (.int .i64 (cntL n (dk L k) (shutB (bk k) c) (q : Int) : Nat))).setCell ⟨V.blk 4, k, none⟩ (.int .i64 (rdy n (dk L k) (shutB (bk k) c) (binN n (dk L k)) : Nat))).setCell ⟨V.blk (6 + 2 * k), q, none⟩ (.complex .f64 0 0)) base n L a cap g o V bo (fun k' => if k' = k then shutB (bk k) c else bk k') := by
  have l4 : Live L 4 := Or.inr (by omega)
  have l5 : Live L (5 + 2 * k) := Or.inr (by omega)
  have l6 : Live L (6 + 2 * k) := Or.inr (by omega)
  have hn : ∀ r, Live L r → (0 < L.length → g ≠ V.blk r) := fun r hr hl => by
    have := h.mem.above r hr
    have := hg hl
    omega
  refine ⟨mem_ext (mem_set (mem_set (mem_set h.mem l5 q _) l4 k _) l6 q _) fun r _ i _ => ?_, h.atR, h.atC, h.atY, dirs_set (dirs_set (dirs_set h.dirs (hn _ l5) _) (hn 4 l4) _) (hn _ l6) _⟩
  rw [← fb_step (a := a) (cap := cap) (V := V) (bo := bo) hc hb hq r i]
  by_cases e : r = 4 ∧ i = k
  · have n6 : ¬ (r = 6 + 2 * k ∧ i = q) := by omega
    have n5 : ¬ (r = 5 + 2 * k ∧ i = q) := by omega
    simp only [if_neg n6, if_neg n5, if_pos e]
  · simp only [if_neg e]
end

/-- What the last store of a round must leave to be read. -/
theorem Board.rests {w : World} {base n : Nat} {L : List (Int × Int)} {a : Option Addr} {cap g o : Nat} {V : BV} {bo : Nat → Bool} {bk : Nat → Nat → Bool} (h : Board w base n L a cap g o V bo bk) {k q : Nat} (hk : k < L.length) (hq : q < binN n (dk L k)) :
    w.cell? ⟨V.blk 0, 2, none⟩ = some (.slice (some ⟨V.blk 2, 0, none⟩) L.length V.cR) ∧ w.cell? ⟨V.blk 2, k, none⟩ = some (.slice (some ⟨V.blk (6 + 2 * k), 0, none⟩) (binN n (dk L k)) (binN n (dk L k))) ∧ w.cell? ⟨V.blk (6 + 2 * k), q, none⟩ = some (.complex .f64 0 0) ∧ w.frozen? ⟨V.blk (6 + 2 * k), q, none⟩ = false := by
  refine ⟨?_, h.rsts hk, h.rst hk hq, h.frozen (Or.inr (by omega)) q⟩
  rw [← h.atR (by omega)]
  exact h.field (i := 2) (by omega)

theorem Board.drew {w : World} {base n : Nat} {L : List (Int × Int)} {a : Option Addr} {cap g o : Nat} {V : BV} {bo : Nat → Bool} {bk : Nat → Nat → Bool} (h : Board w base n L a cap g o V bo bk) : Board w.drew base n L a cap g o V bo bk :=
  ⟨⟨h.mem.row, h.mem.above, h.mem.apart⟩, h.atR, h.atC, h.atY, ⟨h.dirs.at_, h.dirs.cell⟩⟩
theorem below_drew {B : Nat} {w w' : World} (h : Below B w w') : Below B w w'.drew := ⟨h.os, h.tape, h.output, h.size, h.block⟩

attribute [local go_sem] storeCx

theorem rdy_le (n : Nat) (d : Int × Int) (b : Nat → Bool) (B : Nat) : rdy n d b B ≤ B := cnt_le _ _

set_option maxRecDepth 100000 in
set_option maxHeartbeats 6400000 in
theorem boardClose {base n : Nat} {L : List (Int × Int)} {a : Option Addr} {cap g o : Nat} {V : BV} {bo : Nat → Bool} {c : Nat} (hn : 1 ≤ n) (h64 : n ≤ 64) (hL : L.length ≤ 64) (ho : ∀ d, d ∈ L → okD d.1 d.2 = true) (hc : c < n * n) (hbc : bo c = true) (w : World) (hg : 0 < L.length → g < base) (h : Board w base n L a cap g o V bo (fun _ => bo)) :
    Calls Try.prog 21 #[.pointer (some ⟨V.blk 0, 0, none⟩), .int .i64 c, .complex .f64 0 0] w fun e w' =>
      (∃ v, e = .returned v) ∧ Board w' base n L a cap g o V (shutB bo c) (fun _ => shutB bo c) ∧ Below base w w' := by
  have hM : n * n ≤ 4096 := Nat.mul_le_mul h64 h64
  have c1 : w.cell? ⟨V.blk 0, 1, none⟩ = some (.slice (some ⟨V.blk 1, 0, none⟩) (n * n) V.cO) := h.field (by omega)
  have x1 := h.open_ hc
  have f1 := h.frozen (r := 1) (Or.inl (by omega)) c
  have qc : ((c : Int) < (n : Int) * (n : Int)) = True := by
    have : ((c : Nat) : Int) < ((n * n : Nat) : Int) := by omega
    push_cast at this
    simp [this]
  have H1 := hide (h.shutOpen hg c)
  have a1 := h.mem.above 1 (Or.inl (by omega))
  have B1 := hide ((Below.refl base w).setCell (p := ⟨V.blk 1, c, none⟩) a1 (.bool false))
  have bd := hide (fun (k : Nat) (hk : k < L.length) (hb : bo c = true) => line_bounds (d := dk L k) hn h64 (ho _ (dk_mem hk)) hc)
  clear h
  go_enter Try.func21, Try.ntmps21
  go_wp2_with fail
  go_loopw [6] (fun kv wr => ∃ (k : Nat) (bk : Nat → Nat → Bool), k ≤ L.length ∧ kv = .int .i64 k ∧ Hid (bk = fun k' => if k' < k then shutB bo c else bo) ∧ Hid (Board wr base n L a cap g o V (shutB bo c) bk) ∧ Hid (Below base w wr)) (fun kv _ => L.length - (intOf kv).toNat)
  case atStart => exact ⟨0, _, Nat.zero_le _, rfl, rfl, H1, B1⟩
  case round =>
    clear c1 x1 f1
    obtain ⟨k, bk, hk, rfl, ebk, hb, hB⟩ := hrel
    have c5 : wr.cell? ⟨V.blk 0, 5, none⟩ = some (.slice a L.length cap) := (unhide hb).field (by omega)
    by_cases hkL : k < L.length
    · have q1 : ((k : Int) < (L.length : Int)) = True := by simp; omega
      obtain ⟨q, hq, eq⟩ := unhide bd k hkL hbc
      have kl := hide (boardLine (i := c) hn h64 hL hc (dk_at hkL) (ho _ (dk_mem hkL)) wr ((unhide hb).field (i := 0) (by omega)) c5 (unhide hb).dirs ((unhide hb).lt (r := 0) (Or.inl (by omega))))
      rw [eq] at kl
      have ek : bk k = bo := by rw [unhide ebk]; exact if_neg (Nat.lt_irrefl k)
      have en : Hid ((fun k' => if k' = k then shutB (bk k) c else bk k') = fun k' => if k' < k + 1 then shutB bo c else bo) := by
        show _ = _
        rw [ek, unhide ebk]
        funext k'
        dsimp only
        by_cases e1 : k' = k
        · rw [if_pos e1, if_pos (by omega)]
        · rw [if_neg e1]
          by_cases e2 : k' < k
          · rw [if_pos e2, if_pos (by omega)]
          · rw [if_neg e2, if_neg (by omega)]
      have hbB : base ≤ wr.heap.size := Nat.le_trans ((unhide hb).mem.above 0 (Or.inl (by omega))) (Nat.le_of_lt ((unhide hb).lt (r := 0) (Or.inl (by omega))))
      go_wp2_with fail
      refine (unhide kl).mono ?_
      rintro e w2 ⟨rfl, hb2⟩
      have hb' := (unhide hb).below hb2
      have hB2 := (unhide hB).trans (hb2.mono hbB)
      clear hb2 kl c5 hb hB
      have l0 : Live L 0 := Or.inl (by omega)
      have l2 : Live L 2 := Or.inr (by omega)
      have l3 : Live L 3 := Or.inr (by omega)
      have l4 : Live L 4 := Or.inr (by omega)
      have l5 : Live L (5 + 2 * k) := Or.inr (by omega)
      have l6 : Live L (6 + 2 * k) := Or.inr (by omega)
      have y2 : w2.cell? ⟨V.blk 0, 2, none⟩ = some (.slice V.aR L.length V.cR) := hb'.field (by omega)
      have y3 : w2.cell? ⟨V.blk 0, 3, none⟩ = some (.slice V.aC L.length V.cC) := hb'.field (by omega)
      have y4 : w2.cell? ⟨V.blk 0, 4, none⟩ = some (.slice V.aY L.length V.cY) := hb'.field (by omega)
      rw [hb'.atR (by omega)] at y2
      rw [hb'.atC (by omega)] at y3
      rw [hb'.atY (by omega)] at y4
      have z2 := hb'.rsts hkL
      have z3 := hb'.cnts hkL
      have z4 := hb'.rdys hkL
      have t5 := hb'.cnt hkL hq
      have t6 := hb'.rst hkL hq
      have f4 := hb'.frozen l4 k
      have f5 := hb'.frozen l5 q
      have f6 := hb'.frozen l6 q
      have d1 := hb'.ne l4 l0 (by omega)
      have d2 := hb'.ne l4 l2 (by omega)
      have d3 := hb'.ne l4 l3 (by omega)
      have d4 := hb'.ne l4 l5 (by omega)
      have d5 := hb'.ne l4 l6 (by omega)
      have d6 := hb'.ne l5 l0 (by omega)
      have d7 := hb'.ne l5 l2 (by omega)
      have d8 := hb'.ne l5 l3 (by omega)
      have d9 := hb'.ne l5 l4 (by omega)
      have da := hb'.ne l5 l6 (by omega)
      have e1 := hb'.ne l0 l4 (by omega)
      have e2 := hb'.ne l2 l4 (by omega)
      have e3 := hb'.ne l3 l4 (by omega)
      have e4 := hb'.ne l6 l4 (by omega)
      have e5 := hb'.ne l0 l5 (by omega)
      have e6 := hb'.ne l2 l5 (by omega)
      have e7 := hb'.ne l3 l5 (by omega)
      have e8 := hb'.ne l6 l5 (by omega)
      have hbk : bk k c = true := by rw [ek]; exact hbc
      have S1 := hide (hb'.step hg hkL hc hbk eq)
      have S2 := hide (hb'.step2 hg hkL hc hbk eq)
      have S3 := hide (fun hy => hb'.step' hg hkL hc hbk eq hy)
      have R1 := hide ((unhide S1).rests hkL hq)
      have R2 := hide ((unhide S2).rests hkL hq)
      have R3 := hide (fun hy => (unhide S3 hy).rests hkL hq)
      have hx1 := cntL_shut (d := dk L k) hc hbk (q : Int)
      rw [if_pos eq] at hx1
      have hr1 := rdy_shut hc hbk eq hq
      have hx2 := cntL_le n (dk L k) (bk k) (q : Int)
      have hr2 := rdy_le n (dk L k) (bk k) (binN n (dk L k))
      have hr3 := rdy_le n (dk L k) (shutB (bk k) c) (binN n (dk L k))
      have hbn := binN_le h64 (ho _ (dk_mem hkL))
      have u4 := hb'.mem.above 4 l4
      have u5 := hb'.mem.above _ l5
      have u6 := hb'.mem.above _ l6
      have v1 := hide (fun (v v' v'' : Value) => ((hB2.setCell (p := ⟨V.blk 4, k, none⟩) u4 v).setCell (p := ⟨V.blk (5 + 2 * k), q, none⟩) u5 v').setCell (p := ⟨V.blk (6 + 2 * k), q, none⟩) u6 v'')
      have v2 := hide (fun (v v' v'' : Value) => ((hB2.setCell (p := ⟨V.blk (5 + 2 * k), q, none⟩) u5 v).setCell (p := ⟨V.blk 4, k, none⟩) u4 v').setCell (p := ⟨V.blk (6 + 2 * k), q, none⟩) u6 v'')
      have v3 := hide (fun (v v' : Value) => (hB2.setCell (p := ⟨V.blk (5 + 2 * k), q, none⟩) u5 v).setCell (p := ⟨V.blk (6 + 2 * k), q, none⟩) u6 v')
      have en2 : Hid (∀ W, Board W base n L a cap g o V (shutB bo c) (fun k' => if k' = k then shutB (bk k) c else bk k') → Board W base n L a cap g o V (shutB bo c) (fun k' => if k' < k + 1 then shutB bo c else bo)) := fun W hW => by rw [← unhide en]; exact hW
      generalize cntL n (dk L k) (bk k) (q : Int) = x at *
      generalize cntL n (dk L k) (shutB (bk k) c) (q : Int) = x' at *
      generalize rdy n (dk L k) (bk k) (binN n (dk L k)) = R at *
      generalize rdy n (dk L k) (shutB (bk k) c) (binN n (dk L k)) = R' at *
      generalize binN n (dk L k) = bn at *
      have q2 : ((q : Int) < (bn : Int)) = True := by simp; omega
      have nx : IntKind.i64.wrap ((x : Int) - 1) = (x' : Int) := by rw [IntKind.wrap_i64]; omega
      clear hb' ek en hbk hB2 H1 B1 qc
      by_cases hX : x = 1
      · subst hX
        rw [if_pos rfl, if_neg (by omega)] at hr1
        have nr : IntKind.i64.wrap ((R : Int) - 1) = (R' : Int) := by rw [IntKind.wrap_i64]; omega
        obtain rfl : x' = 0 := by omega
        go_wp2_with fail
        go_region_held3 (fun w8 => w8.cell? ⟨V.blk 0, 2, none⟩ = some (.slice (some ⟨V.blk 2, 0, none⟩) L.length V.cR) ∧ w8.cell? ⟨V.blk 2, k, none⟩ = some (.slice (some ⟨V.blk (6 + 2 * k), 0, none⟩) bn bn) ∧ w8.cell? ⟨V.blk (6 + 2 * k), q, none⟩ = some (.complex .f64 0 0) ∧ w8.frozen? ⟨V.blk (6 + 2 * k), q, none⟩ = false)
          (first | exact unhide R1 | go_keep)
          (first
          | (go_at_call 49; with_reducible refine (subNone _).mono ?_; rintro e w' ⟨rfl, rfl⟩)
          | (go_at_call 48; with_reducible refine (plainNone _).mono ?_; rintro e w' ⟨rfl, rfl⟩))
        go_wp2_with fail
        exact ⟨⟨k + 1, _, by omega, by go_num, rfl, (unhide en2 _ (unhide S1)).drew, below_drew (unhide v1 _ _ _)⟩, by simp [intOf]; omega⟩
      · by_cases hX2 : x = 2
        · subst hX2
          rw [if_neg (by omega), if_pos rfl] at hr1
          have nr : IntKind.i64.wrap ((R : Int) + 1) = (R' : Int) := by rw [IntKind.wrap_i64]; omega
          obtain rfl : x' = 1 := by omega
          go_wp2_with fail
          go_region_held3 (fun w8 => w8.cell? ⟨V.blk 0, 2, none⟩ = some (.slice (some ⟨V.blk 2, 0, none⟩) L.length V.cR) ∧ w8.cell? ⟨V.blk 2, k, none⟩ = some (.slice (some ⟨V.blk (6 + 2 * k), 0, none⟩) bn bn) ∧ w8.cell? ⟨V.blk (6 + 2 * k), q, none⟩ = some (.complex .f64 0 0) ∧ w8.frozen? ⟨V.blk (6 + 2 * k), q, none⟩ = false)
            (first | exact unhide R2 | go_keep)
            (first
            | (go_at_call 49; with_reducible refine (subNone _).mono ?_; rintro e w' ⟨rfl, rfl⟩)
            | (go_at_call 48; with_reducible refine (plainNone _).mono ?_; rintro e w' ⟨rfl, rfl⟩))
          go_wp2_with fail
          exact ⟨⟨k + 1, _, by omega, by go_num, rfl, (unhide en2 _ (unhide S2)).drew, below_drew (unhide v2 _ _ _)⟩, by simp [intOf]; omega⟩
        · rw [if_neg hX, if_neg hX2] at hr1
          have hy : R' = R := by omega
          have qa : ((x : Int) == 1) = false := by simp; omega
          have qb : ((x' : Int) == 1) = false := by simp; omega
          have S4 := hide (unhide S3 hy)
          have R4 := hide (unhide R3 hy)
          clear hX hX2 hy S3 R3 hx1 hr1
          go_wp2_with fail
          go_region_held3 (fun w8 => w8.cell? ⟨V.blk 0, 2, none⟩ = some (.slice (some ⟨V.blk 2, 0, none⟩) L.length V.cR) ∧ w8.cell? ⟨V.blk 2, k, none⟩ = some (.slice (some ⟨V.blk (6 + 2 * k), 0, none⟩) bn bn) ∧ w8.cell? ⟨V.blk (6 + 2 * k), q, none⟩ = some (.complex .f64 0 0) ∧ w8.frozen? ⟨V.blk (6 + 2 * k), q, none⟩ = false)
            (first | exact unhide R4 | go_keep)
            (first
            | (go_at_call 49; with_reducible refine (subNone _).mono ?_; rintro e w' ⟨rfl, rfl⟩)
            | (go_at_call 48; with_reducible refine (plainNone _).mono ?_; rintro e w' ⟨rfl, rfl⟩))
          go_wp2_with fail
          exact ⟨⟨k + 1, _, by omega, by go_num, rfl, (unhide en2 _ (unhide S4)).drew, below_drew (unhide v3 _ _)⟩, by simp [intOf]; omega⟩
    · have q1 : ((k : Int) < (L.length : Int)) = False := by simp; omega
      have e : k = L.length := by omega
      have hend : Hid (Board wr base n L a cap g o V (shutB bo c) (fun _ => shutB bo c)) := by
        have hb1 := unhide hb
        rw [unhide ebk] at hb1
        refine ⟨mem_ext hb1.mem fun r hr i hi => ?_, hb1.atR, hb1.atC, hb1.atY, hb1.dirs⟩
        match r with
        | 0 => rfl
        | 1 => rfl
        | 2 => rfl
        | 3 => rfl
        | 4 =>
          show Value.int .i64 (rdy n (dk L i) (if i < k then shutB bo c else bo) (binN n (dk L i)) : Nat) = _
          rw [if_pos (by rw [e]; exact hi)]
          rfl
        | r + 5 =>
          show (if r % 2 = 0 then Value.int .i64 (cntL n (dk L (r / 2)) (if r / 2 < k then shutB bo c else bo) (i : Int) : Nat) else .complex .f64 0 0) = _
          rw [if_pos (show r / 2 < k by rcases hr with h1 | h1 <;> omega)]
          rfl
      have e' := hide e
      clear e
      go_wp2_with fail
      go_end0
      exact ⟨⟨_, rfl⟩, unhide hend, unhide hB⟩
end Go.Proofs.Ytgbkfmjkemkajaa
