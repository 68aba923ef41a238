/- The look through directions: lookThrough. All: the order of its last region. All: its last region up to the call of byWorkers. All: from its entry to its call of byWorkers. -/
import Derived.Test.YtfnbcpeipoobkaaGreatM38
import Derived.Orders
import Derived.Test.YtfnbcpeipoobkaaGreatM24
namespace Go.Proofs.YtfnbcpeipoobkaaGreat
open Go.RowKit

/-- Directions of which each is one, none twice, and not too many. -/
def GoodDirs (L : List (Int × Int)) : Prop := L.length ≤ 64 ∧ ∀ i, i < L.length → okD (L.getD i (0, 0)).1 (L.getD i (0, 0)).2 = true ∧ ∀ j, j < i → L.getD j (0, 0) ≠ L.getD i (0, 0)
theorem checkS_zero {P Q : Int} : checkS P Q = 0 ↔ okD P Q = true := by
  unfold checkS
  cases okD P Q <;> simp
theorem contains_held {w w2 w8 : World} {a : Option Addr} {g o k cap bx : Nat} {L : List (Int × Int)} {u v : Int} (hk : k ≤ L.length) (hL : L.length ≤ 4096) (H : Hid (Dirs w a g o L)) (hB2 : Hid (Below w.heap.size w w2)) (hlt : bx < w2.heap.size)
    (h : w8.cell? ⟨bx, 0, none⟩ = some (.int .i64 u) ∧ w8.cell? ⟨bx, 1, none⟩ = some (.int .i64 v) ∧ Hid (Below w2.heap.size w2 w8)) :
    Calls (barP Tryz.prog) 19 #[.slice a k cap, .agg #[.int .i64 u, .int .i64 v]] w8 fun e w9 => ∃ r : Bool, e = .returned (.bool r) ∧ (r = true ↔ ∃ j, j < k ∧ L.getD j (0, 0) = (u, v)) ∧ (w9.cell? ⟨bx, 0, none⟩ = some (.int .i64 u) ∧ w9.cell? ⟨bx, 1, none⟩ = some (.int .i64 v) ∧ Hid (Below w2.heap.size w2 w9)) := by
  have h8 : Below w2.heap.size w2 w8 := h.2.2
  refine (containsDir hk hL w8 (dirs_below (dirs_below (unhide H) (unhide hB2)) h8)).mono ?_
  rintro e w9 ⟨r, rfl, hr, hb⟩
  have hlt8 : bx < w8.heap.size := Nat.lt_of_lt_of_le hlt h8.size
  exact ⟨r, rfl, hr, (hb.cell (p := ⟨bx, 0, none⟩) hlt8).trans h.1, (hb.cell (p := ⟨bx, 1, none⟩) hlt8).trans h.2.1, h8.trans (hb.mono h8.size)⟩
theorem held2_drew {w2 w8 : World} {bx : Nat} {u v : Int} (h : w8.cell? ⟨bx, 0, none⟩ = some (.int .i64 u) ∧ w8.cell? ⟨bx, 1, none⟩ = some (.int .i64 v) ∧ Hid (Below w2.heap.size w2 w8)) : w8.drew.cell? ⟨bx, 0, none⟩ = some (.int .i64 u) ∧ w8.drew.cell? ⟨bx, 1, none⟩ = some (.int .i64 v) ∧ Hid (Below w2.heap.size w2 w8.drew) :=
  ⟨h.1, h.2.1, ⟨(unhide h.2.2).os, (unhide h.2.2).tape, (unhide h.2.2).output, (unhide h.2.2).size, (unhide h.2.2).block⟩⟩
set_option maxRecDepth 100000 in
set_option maxHeartbeats 6400000 in
theorem lookOk {a : Option Addr} {g o cap : Nat} {L : List (Int × Int)} (hL : L.length ≤ 9223372036854775807) (hI : ∀ i, i < L.length → I64 (L.getD i (0, 0)).1 ∧ I64 (L.getD i (0, 0)).2) (w : World) (h : Dirs w a g o L) (hcap : L.length ≤ cap) :
    Calls (barP Tryz.prog) 10 #[.slice a L.length cap] w fun e w' => ∃ r, e = .returned (.int .i64 r) ∧ (r = 0 ↔ GoodDirs L) ∧ Below w.heap.size w w' := by
  have H := hide h
  have HI := hide hI
  clear h hI
  obtain ⟨N, hN⟩ : ∃ N, L.length = N := ⟨_, rfl⟩
  rw [hN] at hL hcap
  rw [hN]
  have hN := hide hN
  by_cases cL : 64 < N
  · have q1 : ((64 : Int) < (N : Int)) = True := by simp; omega
    go_enter Bar.func10, Bar.ntmps10
    go_wp2_with fail
    go_ret
    refine ⟨2, rfl, ⟨fun x => absurd x (by omega), fun x => ?_⟩, Below.refl _ _⟩
    have := x.1
    rw [unhide hN] at this
    omega
  · have q1 : ((64 : Int) < (N : Int)) = False := by simp; omega
    go_enter Bar.func10, Bar.ntmps10
    go_wp2_with fail
    clear q1
    go_loopw [11] (fun iv wr => ∃ i : Nat, i ≤ N ∧ iv = .int .i64 i ∧ Hid (Below w.heap.size w wr) ∧ Hid (∀ k, k < i → okD (L.getD k (0, 0)).1 (L.getD k (0, 0)).2 = true ∧ ∀ j, j < k → L.getD j (0, 0) ≠ L.getD k (0, 0))) (fun iv _ => N - (intOf iv).toNat)
    case atStart => exact ⟨0, Nat.zero_le _, rfl, Below.refl _ _, fun k hk => absurd hk (by omega)⟩
    case round =>
      obtain ⟨i, hi, rfl, hB, hgood⟩ := hrel
      by_cases c1 : i < N
      · have q1 : ((i : Int) < (N : Int)) = True := by simp; omega
        have hlt : i < L.length := by rw [unhide hN]; exact c1
        have hda := ((unhide H).at_ (by omega)).1
        have hgl := ((unhide H).at_ (by omega)).2
        subst hda
        obtain ⟨e1, e2⟩ := dirs_get (unhide H) (i := i) hlt
        obtain ⟨i1, i2⟩ := unhide HI i hlt
        obtain ⟨u, v, huv⟩ : ∃ u v, L.getD i (0, 0) = (u, v) := ⟨_, _, rfl⟩
        rw [huv] at e1 e2 i1 i2
        have huv := hide huv
        have k1 : wr.cell? ⟨g, o + i * 2, none⟩ = some (.int .i64 u) := ((unhide hB).cell (p := ⟨g, o + i * 2, none⟩) hgl).trans e1
        have k2 : wr.cell? ⟨g, o + i * 2 + 1, none⟩ = some (.int .i64 v) := ((unhide hB).cell (p := ⟨g, o + i * 2 + 1, none⟩) hgl).trans e2
        clear e1 e2
        have b0 := cell_of (i := 0) (heap_alloc_new wr (.cells #[.int .i64 u, .int .i64 v] 38)) rfl
        have b1 := cell_of (i := 1) (heap_alloc_new wr (.cells #[.int .i64 u, .int .i64 v] 38)) rfl
        have sz : Hid ((wr.alloc (.cells #[.int .i64 u, .int .i64 v] 38)).heap.size = wr.heap.size + 1) := by show _ = _; simp
        have hB1 := hide ((unhide hB).alloc (unhide hB).size (.cells #[.int .i64 u, .int .i64 v] 38))
        go_wp2_with fail
        generalize wr.alloc (.cells #[.int .i64 u, .int .i64 v] 38) = w1 at *
        refine (dirCheckG i1 i2 w1).mono ?_
        rintro e w2 ⟨rfl, hg2⟩
        have hB2 := hide ((unhide hB1).trans (hg2.below.mono (unhide hB1).size))
        have hlt2 : wr.heap.size < w2.heap.size := by have := hg2.below.size; have := unhide sz; omega
        have hlt1 : wr.heap.size < w1.heap.size := by have := unhide sz; omega
        have d0 : w2.cell? ⟨wr.heap.size, 0, none⟩ = some (.int .i64 u) := (hg2.below.cell (p := ⟨wr.heap.size, 0, none⟩) hlt1).trans b0
        have d1 : w2.cell? ⟨wr.heap.size, 1, none⟩ = some (.int .i64 v) := (hg2.below.cell (p := ⟨wr.heap.size, 1, none⟩) hlt1).trans b1
        clear hg2 hB1 b0 b1 sz
        cases ok : okD u v with
        | false =>
          have ek : checkS u v = 60 := checkS_bad ok
          rw [ek]
          clear ek
          go_wp2_with fail
          go_ret
          refine ⟨60, rfl, ⟨fun x => absurd x (by omega), fun x => ?_⟩, unhide hB2⟩
          have := (x.2 i hlt).1
          rw [unhide huv, ok] at this
          cases this
        | true =>
          have ek : checkS u v = 0 := checkS_zero.2 ok
          rw [ek]
          clear ek
          have S0 : w2.cell? ⟨wr.heap.size, 0, none⟩ = some (.int .i64 u) ∧ w2.cell? ⟨wr.heap.size, 1, none⟩ = some (.int .i64 v) ∧ Hid (Below w2.heap.size w2 w2) := ⟨d0, d1, Below.refl _ _⟩
          have r1 : (0 : Int) ≤ (i : Int) := by omega
          have r2 : (i : Int) ≤ (cap : Int) := by omega
          have r3 : ¬ cap = 0 := by omega
          have r4 : i ≤ cap := by omega
          have ok := hide ok
          clear d0 d1 k1 k2
          go_wp2_with fail
          go_region_held3 (fun w8 => w8.cell? ⟨wr.heap.size, 0, none⟩ = some (.int .i64 u) ∧ w8.cell? ⟨wr.heap.size, 1, none⟩ = some (.int .i64 v) ∧ Hid (Below w2.heap.size w2 w8))
            (first | assumption | exact S0 | exact held2_drew S0 | exact held2_drew (by assumption) | go_keep)
            (first
            | (go_at_call 19; with_reducible refine (contains_held (w2 := w2) (by omega) (by rw [unhide hN]; omega) H hB2 hlt2 (by assumption)).mono ?_
               rintro e v9 ⟨r, rfl, hr, hs⟩
               have hr := hide hr))
          have hB9 := hide ((unhide hB2).trans ((unhide hs.2.2).mono (unhide hB2).size))
          clear hs S0
          cases r with
          | true =>
            go_wp2_with fail
            go_ret
            refine ⟨3, rfl, ⟨fun x => absurd x (by omega), fun x => ?_⟩, unhide hB9⟩
            obtain ⟨j, j1, j2⟩ := (unhide hr).1 (by trivial)
            exact absurd (j2.trans (unhide huv).symm) ((x.2 i hlt).2 j j1)
          | false =>
            go_wp2_with fail
            refine ⟨⟨i + 1, by omega, by go_num, hB9, fun k hk => ?_⟩, by simp [intOf]; omega⟩
            by_cases e : k = i
            · subst e
              rw [unhide huv]
              refine ⟨unhide ok, fun j hj he => ?_⟩
              have := (unhide hr).2 ⟨j, hj, he⟩
              cases this
            · exact unhide hgood k (by omega)
      · have q1 : ((i : Int) < (N : Int)) = False := by simp; omega
        obtain rfl : i = N := by omega
        go_wp2_with fail
        go_ret
        have hb := unhide hB
        exact ⟨0, rfl, ⟨fun _ => ⟨by rw [unhide hN]; omega, fun k hk => unhide hgood k (by rw [unhide hN] at hk; exact hk)⟩, fun _ => rfl⟩, ⟨hb.os, hb.tape, hb.output, hb.size, hb.block⟩⟩
end Go.Proofs.YtfnbcpeipoobkaaGreat

namespace Go.Proofs.YtfnbcpeipoobkaaGreat
open Go.RowKit

theorem go_next {ops : Array Oper} {fuel t : Nat} {listed : Array Bool} {rs : List Nat} (hr : Region.ready .any ops listed = rs) {i : Nat} (hi : rs[t % rs.length]? = some i) : Region.linearise.go .any ops (fuel + 1) t listed [] = i :: Region.linearise.go .any ops fuel (t / rs.length) (listed.setIfInBounds i true) [] := by
  subst hr
  simp only [Region.linearise.go]
  change (match (Region.ready .any ops listed)[t % (Region.ready .any ops listed).length]? with
      | some i => Region.linearise.go .any ops fuel (t / (Region.ready .any ops listed).length) (listed.setIfInBounds i true) [i]
      | none => [].reverse) = _
  rw [hi]
  dsimp only
  rw [linearise_go_acc]
  rfl
theorem go_one {ops : Array Oper} {fuel t : Nat} {listed : Array Bool} {i : Nat} (hr : Region.ready .any ops listed = [i]) : ∃ t', Region.linearise.go .any ops (fuel + 1) t listed [] = i :: Region.linearise.go .any ops fuel t' (listed.setIfInBounds i true) [] :=
  ⟨_, go_next hr (by simp [Nat.mod_one])⟩
def body7 (fn : Func) : Code := fn.body.getD .skip
def ops9 (fn : Func) : Array Oper := cops (cfst (csnd (csnd (csnd (csnd (body7 fn))))))
def lst (s0 s1 s2 s3 s4 s5 s6 s7 s8 : Bool) : Array Bool := #[s0, s1, s2, s3, s4, s5, s6, s7, s8]
/-- What is left behind the call. -/
def rest9 (s0 s1 : Bool) : List Nat := if s1 then [6, 7, 8] else if s0 then [1, 6, 7, 8] else [0, 1, 6, 7, 8]
theorem rest9_tt (t : Nat) : Region.linearise.go .any (ops9 Tryz.f5) 3 t (lst true true true true true true false false false) [] = [6, 7, 8] := by
  obtain ⟨t1, e1⟩ := go_one (ops := (ops9 Tryz.f5)) (fuel := 2) (t := t) (listed := lst true true true true true true false false false) (i := 6) (by kernel_rfl)
  obtain ⟨t2, e2⟩ := go_one (ops := (ops9 Tryz.f5)) (fuel := 1) (t := t1) (listed := lst true true true true true true true false false) (i := 7) (by kernel_rfl)
  obtain ⟨t3, e3⟩ := go_one (ops := (ops9 Tryz.f5)) (fuel := 0) (t := t2) (listed := lst true true true true true true true true false) (i := 8) (by kernel_rfl)
  rw [e1, show (lst true true true true true true false false false).setIfInBounds 6 true = lst true true true true true true true false false from rfl, e2, show (lst true true true true true true true false false).setIfInBounds 7 true = lst true true true true true true true true false from rfl, e3]
  rfl
theorem rest9_tf (t : Nat) : Region.linearise.go .any (ops9 Tryz.f5) 4 t (lst true false true true true true false false false) [] = [1, 6, 7, 8] := by
  obtain ⟨t1, e1⟩ := go_one (ops := (ops9 Tryz.f5)) (fuel := 3) (t := t) (listed := lst true false true true true true false false false) (i := 1) (by kernel_rfl)
  rw [e1, show (lst true false true true true true false false false).setIfInBounds 1 true = lst true true true true true true false false false from rfl, rest9_tt]
theorem rest9_ff (t : Nat) : Region.linearise.go .any (ops9 Tryz.f5) 5 t (lst false false true true true true false false false) [] = [0, 1, 6, 7, 8] := by
  obtain ⟨t1, e1⟩ := go_one (ops := (ops9 Tryz.f5)) (fuel := 4) (t := t) (listed := lst false false true true true true false false false) (i := 0) (by kernel_rfl)
  rw [e1, show (lst false false true true true true false false false).setIfInBounds 0 true = lst true false true true true true false false false from rfl, rest9_tf]
section
variable (T0 : List Value) (bg : Nat) (nV gV dV : Value)
/-- The temporaries while the region goes on. -/
def aS (s0 s1 s2 s3 s4 : Bool) : Act := ⟨(T0 ++ [bif s0 then .pointer (some ⟨bg, 0, none⟩) else undef, bif s1 then nV else undef, bif s2 then gV else undef, bif s3 then dV else undef, bif s4 then .int .i64 1 else undef, undef, undef]).toArray, []⟩
end
/-- How many are to come. -/
def toCome (s0 s1 s2 s3 s4 : Bool) : Nat := (!s0).toNat + (!s1).toNat + (!s2).toNat + (!s3).toNat + (!s4).toNat
theorem pick1 (t : Nat) (i : Nat) : [i][t % [i].length]? = some i := by simp [Nat.mod_one]
theorem pick_mem (t : Nat) (l : List Nat) (h : l ≠ []) : ∃ i, i ∈ l ∧ l[t % l.length]? = some i := by
  have : t % l.length < l.length := Nat.mod_lt _ (List.length_pos_iff.2 h)
  exact ⟨l[t % l.length], List.getElem_mem this, by simp [this]⟩
end Go.Proofs.YtfnbcpeipoobkaaGreat

namespace Go.Proofs.YtfnbcpeipoobkaaGreat
open Go Go.RowKit

def rdy9 (s0 s1 s2 s3 s4 : Bool) : List Nat := (bif s0 then [] else [0]) ++ (bif s0 && !s1 then [1] else []) ++ (bif s2 then [] else [2]) ++ (bif s3 then [] else [3]) ++ (bif s4 then [] else [4]) ++ (bif s2 && s3 && s4 then [5] else [])
theorem ready9 (s0 s1 s2 s3 s4 : Bool) (h : s1 = true → s0 = true) : Region.ready .any (ops9 Tryz.f5) (lst s0 s1 s2 s3 s4 false false false false) = rdy9 s0 s1 s2 s3 s4 := by
  cases s0
  · cases s1
    · cases s2 <;> cases s3 <;> cases s4 <;> kernel_rfl
    · cases h rfl
  · cases s1 <;> cases s2 <;> cases s3 <;> cases s4 <;> kernel_rfl
theorem rdy9_ne (s0 s1 s2 s3 s4 : Bool) : rdy9 s0 s1 s2 s3 s4 ≠ [] := by
  cases s2 <;> cases s3 <;> cases s4 <;> simp [rdy9]
section
variable {T : Machine → Prop} {b : Frame} {k : List Item} {cs : List Frame} {w : World} {T0 : List Value} {bg : Nat} {n : Int} {cV dV : Value}
/-- The temporaries while the region goes on, over a grid. -/
def aG (T0 : List Value) (bg : Nat) (n : Int) (cV dV : Value) (s0 s1 s2 s3 s4 : Bool) : Act := aS T0 bg (.int .i64 n) (.agg #[.int .i64 n, cV]) dV s0 s1 s2 s3 s4
theorem aG_tmp (hT : T0.length = 29) {i : Nat} (hi : i < 29) {s0 s1 s2 s3 s4 : Bool} : (aG T0 bg n cV dV s0 s1 s2 s3 s4).tmps[i]?.getD undef = T0.getD i undef := by
  simp [aG, aS, List.getElem?_append_left (hT ▸ hi)]
theorem aG_tmp2 (hT : T0.length = 29) {i : Nat} {s0 s1 s2 s3 s4 : Bool} : (aG T0 bg n cV dV s0 s1 s2 s3 s4).tmps[29 + i]?.getD undef = [bif s0 then .pointer (some ⟨bg, 0, none⟩) else undef, bif s1 then .int .i64 n else undef, bif s2 then .agg #[.int .i64 n, cV] else undef, bif s3 then dV else undef, bif s4 then .int .i64 1 else undef, undef, undef].getD i undef := by
  simp only [aG, aS, List.getElem?_toArray]
  rw [List.getElem?_append_right (by omega), hT, Nat.add_sub_cancel_left, List.getD_eq_getElem?_getD]
theorem aS_put (hT : T0.length = 29) (l : List Value) (i : Nat) (v : Value) : (Act.mk (T0 ++ l).toArray []).put (some (29 + i)) v = ⟨(T0 ++ l.set i v).toArray, []⟩ := by
  simp [Act.put, hT]
theorem aS_want {o : Oper} (h : o.guard = none) (y : Nat → Option Bool) : Region.wanted o y = true := by
  simp [Region.wanted, h]
theorem run9_0 (hT : T0.length = 29) (h3 : T0.getD 3 undef = .pointer (some ⟨bg, 0, none⟩)) {s0 s1 s2 s3 s4 : Bool} : (execOp (aG T0 bg n cV dV s0 s1 s2 s3 s4).eval { dst := some 29, op := .fieldAddr 27 (.tmp 3) 0, type := 0, pos := "ray.go:33", after := #[], guard := none }).run (barP Tryz.prog) w = .ok (.value (.pointer (some ⟨bg, 0, none⟩))) w := by
  have e := aG_tmp (bg := bg) (n := n) (cV := cV) (dV := dV) (s0 := s0) (s1 := s1) (s2 := s2) (s3 := s3) (s4 := s4) hT (i := 3) (by omega)
  rw [h3] at e
  simp [go_sem, e]
theorem run9_1 (hT : T0.length = 29) (hg : w.heap[bg]? = some (.cells #[.int .i64 n, cV] 27)) {s1 s2 s3 s4 : Bool} : (execOp (aG T0 bg n cV dV true s1 s2 s3 s4).eval { dst := some 30, op := .load 3 (.tmp 29), type := 3, pos := "ray.go:33", after := #[{ on := 0, ground := .data }], guard := none }).run (barP Tryz.prog) w = .ok (.value (.int .i64 n)) w := by
  have e : (aG T0 bg n cV dV true s1 s2 s3 s4).tmps[29]?.getD undef = .pointer (some ⟨bg, 0, none⟩) := aG_tmp2 hT (i := 0)
  have c0 : w.cell? ⟨bg, 0, none⟩ = some (.int .i64 n) := by simp [World.cell?, hg]
  simp [go_sem, e, c0]
theorem run9_2 {cap l : Nat} {ca : Option Addr} (hcV : cV = .slice ca l cap) (hT : T0.length = 29) (h3 : T0.getD 3 undef = .pointer (some ⟨bg, 0, none⟩)) (hg : w.heap[bg]? = some (.cells #[.int .i64 n, cV] 27)) {s0 s1 s2 s3 s4 : Bool} : (execOp (aG T0 bg n cV dV s0 s1 s2 s3 s4).eval { dst := some 31, op := .load 27 (.tmp 3), type := 27, pos := "ray.go:33", after := #[], guard := none }).run (barP Tryz.prog) w = .ok (.value (.agg #[.int .i64 n, cV])) w := by
  have e := aG_tmp (bg := bg) (n := n) (cV := cV) (dV := dV) (s0 := s0) (s1 := s1) (s2 := s2) (s3 := s3) (s4 := s4) hT (i := 3) (by omega)
  rw [h3] at e
  subst hcV
  have c0 : w.cell? ⟨bg, 0, none⟩ = some (.int .i64 n) := by simp [World.cell?, hg]
  have c1 : w.cell? ⟨bg, 1, none⟩ = some (.slice ca l cap) := by simp [World.cell?, hg]
  simp [go_sem, e, c0, c1]
theorem run9_3 (hT : T0.length = 29) (h1 : T0.getD 1 undef = dV) {s0 s1 s2 s3 s4 : Bool} {o : Oper} (ho : o.op = .move (.tmp 1)) : (execOp (aG T0 bg n cV dV s0 s1 s2 s3 s4).eval o).run (barP Tryz.prog) w = .ok (.value dV) w := by
  have e := aG_tmp (bg := bg) (n := n) (cV := cV) (dV := dV) (s0 := s0) (s1 := s1) (s2 := s2) (s3 := s3) (s4 := s4) hT (i := 1) (by omega)
  rw [h1] at e
  unfold execOp
  rw [ho]
  simp [go_sem, e]
theorem run9_4 (hT : T0.length = 29) (h2 : T0.getD 2 undef = .int .i64 1) {s0 s1 s2 s3 s4 : Bool} {o : Oper} (ho : o.op = .move (.tmp 2)) : (execOp (aG T0 bg n cV dV s0 s1 s2 s3 s4).eval o).run (barP Tryz.prog) w = .ok (.value (.int .i64 1)) w := by
  have e := aG_tmp (bg := bg) (n := n) (cV := cV) (dV := dV) (s0 := s0) (s1 := s1) (s2 := s2) (s3 := s3) (s4 := s4) hT (i := 2) (by omega)
  rw [h2] at e
  unfold execOp
  rw [ho]
  simp [go_sem, e]
set_option maxHeartbeats 4000000 in
/-- ████ Up to the call. ████ -/
theorem all_upto {cap l : Nat} {ca : Option Addr} (hcV : cV = .slice ca l cap) (hT : T0.length = 29) (h1 : T0.getD 1 undef = dV) (h2 : T0.getD 2 undef = .int .i64 1) (h3 : T0.getD 3 undef = .pointer (some ⟨bg, 0, none⟩)) (hg : w.heap[bg]? = some (.cells #[.int .i64 n, cV] 27)) (hk : b.kind ≠ .early)
    (hl : ∀ s0 s1, (s1 = true → s0 = true) → To T (lone (b.at (aG T0 bg n cV dV s0 s1 true true true) (.inRegion (ops9 Tryz.f5) (5 :: rest9 s0 s1) :: k)) cs w)) :
    ∀ (m t : Nat) (s0 s1 s2 s3 s4 : Bool), (s1 = true → s0 = true) → toCome s0 s1 s2 s3 s4 = m → To T (lone (b.at (aG T0 bg n cV dV s0 s1 s2 s3 s4) (.inRegion (ops9 Tryz.f5) (Region.linearise.go .any (ops9 Tryz.f5) (4 + m) t (lst s0 s1 s2 s3 s4 false false false false) []) :: k)) cs w) := by
  intro m
  induction m using Nat.strongRecOn with
  | ind m ih =>
    intro t s0 s1 s2 s3 s4 hs hm
    obtain ⟨i, hi, hp⟩ := pick_mem t (rdy9 s0 s1 s2 s3 s4) (rdy9_ne _ _ _ _ _)
    have hn := go_next (fuel := 3 + m) (ready9 s0 s1 s2 s3 s4 hs) hp
    rw [show 4 + m = 3 + m + 1 by omega, hn]
    generalize t / (rdy9 s0 s1 s2 s3 s4).length = t'
    clear hn hp
    simp only [rdy9, List.mem_append] at hi
    rcases hi with ((((hi | hi) | hi) | hi) | hi) | hi
    · cases s0
      · obtain rfl : i = 0 := by simpa using hi
        have hs1 : s1 = false := by cases s1 <;> simp_all
        subst hs1
        refine to_value (o := _) (by kernel_rfl) (aS_want rfl _) hk (run9_0 hT h3) ?_
        obtain ⟨m, rfl⟩ : ∃ m', m = m' + 1 := ⟨toCome true false s2 s3 s4, by rw [← hm]; cases s2 <;> cases s3 <;> cases s4 <;> rfl⟩
        have := ih m (Nat.lt_succ_self m) t' true false s2 s3 s4 (fun _ => rfl) (by clear ih; cases s2 <;> cases s3 <;> cases s4 <;> simp_all [toCome])
        rw [show 4 + m = 3 + (m + 1) by omega] at this
        unfold aG aS at this ⊢
        rw [aS_put (i := 0) hT]
        exact this
      · simp at hi
    · cases s0
      · simp at hi
      · cases s1
        · obtain rfl : i = 1 := by simpa using hi
          refine to_value (o := _) (by kernel_rfl) (aS_want rfl _) hk (run9_1 hT hg) ?_
          obtain ⟨m, rfl⟩ : ∃ m', m = m' + 1 := ⟨toCome true true s2 s3 s4, by rw [← hm]; cases s2 <;> cases s3 <;> cases s4 <;> rfl⟩
          have := ih m (Nat.lt_succ_self m) t' true true s2 s3 s4 (fun _ => rfl) (by clear ih; cases s2 <;> cases s3 <;> cases s4 <;> simp_all [toCome])
          rw [show 4 + m = 3 + (m + 1) by omega] at this
          unfold aG aS at this ⊢
          rw [aS_put (i := 1) hT]
          exact this
        · simp at hi
    · cases s2
      · obtain rfl : i = 2 := by simpa using hi
        refine to_value (o := _) (by kernel_rfl) (aS_want rfl _) hk (run9_2 hcV hT h3 hg) ?_
        obtain ⟨m, rfl⟩ : ∃ m', m = m' + 1 := ⟨toCome s0 s1 true s3 s4, by rw [← hm]; cases s0 <;> cases s1 <;> cases s3 <;> cases s4 <;> rfl⟩
        have := ih m (Nat.lt_succ_self m) t' s0 s1 true s3 s4 hs (by clear ih; cases s0 <;> cases s1 <;> cases s3 <;> cases s4 <;> simp_all [toCome])
        rw [show 4 + m = 3 + (m + 1) by omega] at this
        unfold aG aS at this ⊢
        rw [aS_put (i := 2) hT]
        exact this
      · simp at hi
    · cases s3
      · obtain rfl : i = 3 := by simpa using hi
        refine to_value (o := { dst := some 32, op := .move (.tmp 1), type := 23, pos := "ray.go:33", after := #[], guard := none }) (by kernel_rfl) (aS_want rfl _) hk (run9_3 hT h1 rfl) ?_
        obtain ⟨m, rfl⟩ : ∃ m', m = m' + 1 := ⟨toCome s0 s1 s2 true s4, by rw [← hm]; cases s0 <;> cases s1 <;> cases s2 <;> cases s4 <;> rfl⟩
        have := ih m (Nat.lt_succ_self m) t' s0 s1 s2 true s4 hs (by clear ih; cases s0 <;> cases s1 <;> cases s2 <;> cases s4 <;> simp_all [toCome])
        rw [show 4 + m = 3 + (m + 1) by omega] at this
        unfold aG aS at this ⊢
        rw [aS_put (i := 3) hT]
        exact this
      · simp at hi
    · cases s4
      · obtain rfl : i = 4 := by simpa using hi
        refine to_value (o := { dst := some 33, op := .move (.tmp 2), type := 3, pos := "ray.go:33", after := #[], guard := none }) (by kernel_rfl) (aS_want rfl _) hk (run9_4 hT h2 rfl) ?_
        obtain ⟨m, rfl⟩ : ∃ m', m = m' + 1 := ⟨toCome s0 s1 s2 s3 true, by rw [← hm]; cases s0 <;> cases s1 <;> cases s2 <;> cases s3 <;> rfl⟩
        have := ih m (Nat.lt_succ_self m) t' s0 s1 s2 s3 true hs (by clear ih; cases s0 <;> cases s1 <;> cases s2 <;> cases s3 <;> simp_all [toCome])
        rw [show 4 + m = 3 + (m + 1) by omega] at this
        unfold aG aS at this ⊢
        rw [aS_put (i := 4) hT]
        exact this
      · simp at hi
    · cases s2
      · simp at hi
      cases s3
      · simp at hi
      cases s4
      · simp at hi
      obtain rfl : i = 5 := by simpa using hi
      have := hl s0 s1 hs
      cases s0
      · cases s1
        · obtain rfl : m = 2 := by rw [← hm]; rfl
          rw [show (lst false false true true true false false false false).setIfInBounds 5 true = lst false false true true true true false false false from rfl, rest9_ff]
          exact this
        · cases hs rfl
      · cases s1
        · obtain rfl : m = 1 := by rw [← hm]; rfl
          rw [show (lst true false true true true false false false false).setIfInBounds 5 true = lst true false true true true true false false false from rfl, rest9_tf]
          exact this
        · obtain rfl : m = 0 := by rw [← hm]; rfl
          rw [show (lst true true true true true false false false false).setIfInBounds 5 true = lst true true true true true true false false false from rfl, rest9_tt]
          exact this
end
end Go.Proofs.YtfnbcpeipoobkaaGreat

namespace Go.Proofs.YtfnbcpeipoobkaaGreat
open Go Go.RowKit

/-- The memory at the call of byWorkers. -/
structure In7 (w w1 : World) (n : Int) (cV : Value) : Prop where
  low : Below w.heap.size w w1
  c0 : w1.heap[w.heap.size]? = some (.cells #[.int .i64 n, cV] 27)
  c1 : w1.heap[w.heap.size + 1]? = some (.cells #[.int .i64 0, .slice none 0 0] 33)
/-- The temporaries there. -/
structure Tm7 (w : World) (dV : Value) (T0 : List Value) : Prop where
  len : T0.length = 29
  t1 : T0.getD 1 undef = dV
  t2 : T0.getD 2 undef = .int .i64 1
  t3 : T0.getD 3 undef = .pointer (some ⟨w.heap.size, 0, none⟩)
  t6 : T0.getD 6 undef = .pointer (some ⟨w.heap.size + 1, 0, none⟩)
theorem In7.up {w w1 w2 : World} {n : Int} {cV : Value} (h : In7 w w1 n cV) (hb : Below w1.heap.size w1 w2) : In7 w w2 n cV := by
  have h0 := (Array.getElem?_eq_some_iff.1 h.c0).1
  have h1 := (Array.getElem?_eq_some_iff.1 h.c1).1
  exact ⟨h.low.trans (hb.mono (by omega)), (hb.block _ h0).trans h.c0, (hb.block _ h1).trans h.c1⟩
/-- All on its way: what lies in the memory, what the temporaries hold. -/
def At7 (w : World) (n : Int) (cV dV : Value) (a : Act) (w1 : World) : Prop := In7 w w1 n cV ∧ ∃ x0 x4 x5 x7 x8 x9 x10 x11 x12 x13 x14 x15 x16 x17 x18 x19 x20 x21 x22 x23 x24 x25 x26 x27 x28 : Value, a = ⟨#[x0, dV, .int .i64 1, .pointer (some ⟨w.heap.size, 0, none⟩), x4, x5, .pointer (some ⟨w.heap.size + 1, 0, none⟩), x7, x8, x9, x10, x11, x12, x13, x14, x15, x16, x17, x18, x19, x20, x21, x22, x23, x24, x25, x26, x27, x28, undef, undef, undef, undef, undef, undef, undef], []⟩
set_option maxRecDepth 100000 in
set_option maxHeartbeats 4000000 in
theorem all_to {T : Machine → Prop} {cs : List Frame} {n g c mz gd od cap : Nat} {da : Option Addr} {L : List (Int × Int)} {f : Nat → Nat × Nat} {z : Nat → Int × Int} (w : World) (h1 : 1 ≤ n) (h2 : n ≤ 64) (hR : Row w g (n * n) f) (hz : ∀ j, j < n * n → Cell (f j) (z j) mz) (hm : mz ≤ 1048576)
    (hD : Dirs w da gd od L) (hI : ∀ i, i < L.length → I64 (L.getD i (0, 0)).1 ∧ I64 (L.getD i (0, 0)).2) (hcap : L.length ≤ cap) (hG : GoodDirs L)
    (hl : ∀ w1 T0 s0 s1, (s1 = true → s0 = true) → In7 w w1 n (.slice (some ⟨g, 0, none⟩) (n * n : Nat) c) → Tm7 w (.slice da L.length cap) T0 → To T (lone ((Go.Conc.base 5).at (aG T0 w.heap.size n (.slice (some ⟨g, 0, none⟩) (n * n : Nat) c) (.slice da L.length cap) s0 s1 true true true) [.inRegion (ops9 Tryz.f5) (5 :: rest9 s0 s1), .code .ret]) cs w1)) :
    To T (lone (Frame.enter (barP Tryz.prog) 5 #[gridV n g c, .slice da L.length cap, .int .i64 1] .normal) cs w) := by
  rw [Go.Conc.enter_at _ Bar.func5 rfl]
  have hlt := row_lt hR
  have hi0 : In7 w ((w.alloc (.cells #[.int .i64 n, .slice (some ⟨g, 0, none⟩) (n * n : Nat) c] 27)).alloc (.cells #[.int .i64 0, .slice none 0 0] 33)) n (.slice (some ⟨g, 0, none⟩) (n * n : Nat) c) := by
    have := heap_alloc_new (w.alloc (.cells #[.int .i64 (n : Int), .slice (some ⟨g, 0, none⟩) (n * n : Nat) c] 27)) (.cells #[.int .i64 0, .slice none 0 0] 33)
    refine ⟨((Below.refl _ w).alloc (Nat.le_refl _) _).alloc (by simp) _, (alloc_old _ _ _ (by simp)).trans (heap_alloc_new w _), ?_⟩
    rwa [World.size_alloc] at this
  have kG := fun w1 (b : Below w.heap.size w w1) => gridCheck (c := c) w1 h1 h2 (row_below hR b hlt) hz hm
  have kL := fun w1 (b : Below w.heap.size w w1) => lookOk (cap := cap) (by have := hG.1; omega) hI w1 (dirs_below hD b) hcap
  clear hD hI hR hz hm
  replace kG := hide kG
  replace kL := hide kL
  replace hi0 := hide hi0
  replace hl := hide hl
  replace hG := hide hG
  clear h1 h2 hlt
  unfold gridV at *
  generalize L.length = ll at *
  generalize n * n = M at *
  clear hcap
  have e0 : #[Value.agg #[Value.int .i64 n, .slice (some ⟨g, 0, none⟩) M c], .slice da ll cap, .int .i64 1] ++ Array.replicate (Tryz.f5.ntmps - #[Value.agg #[Value.int .i64 n, .slice (some ⟨g, 0, none⟩) M c], .slice da ll cap, .int .i64 1].size) undef = #[.agg #[.int .i64 n, .slice (some ⟨g, 0, none⟩) M c], .slice da ll cap, .int .i64 1, undef, undef, undef, undef, undef, undef, undef, undef, undef, undef, undef, undef, undef, undef, undef, undef, undef, undef, undef, undef, undef, undef, undef, undef, undef, undef, undef, undef, undef, undef, undef, undef, undef] := by simp
  rw [e0]
  refine to_seq (to_wp (K := At7 w n (.slice (some ⟨g, 0, none⟩) M c) (.slice da ll cap)) ?c0 ?_)
  case c0 =>
    go_wp2_with fail
    exact ⟨unhide hi0, _, _, _, _, _, _, _, _, _, _, _, _, _, _, _, _, _, _, _, _, _, _, _, _, _, rfl⟩
  rintro _ w1 ⟨hi1, x0, x4, x5, x7, x8, x9, x10, x11, x12, x13, x14, x15, x16, x17, x18, x19, x20, x21, x22, x23, x24, x25, x26, x27, x28, rfl⟩
  replace hi1 := hide hi1
  refine to_seq (to_wp (K := At7 w n (.slice (some ⟨g, 0, none⟩) M c) (.slice da ll cap)) ?c1 ?_)
  case c1 =>
    have c0 : w1.cell? ⟨w.heap.size, 0, none⟩ = some (.int .i64 n) := by simp [World.cell?, (unhide hi1).c0]
    have c1 : w1.cell? ⟨w.heap.size, 1, none⟩ = some (.slice (some ⟨g, 0, none⟩) M c) := by simp [World.cell?, (unhide hi1).c0]
    go_wp2_with fail
    refine (unhide kG w1 (unhide hi1).low).mono ?_
    rintro e w2 ⟨rfl, hb2⟩
    replace hb2 := hide hb2
    go_wp2_with fail
    exact ⟨(unhide hi1).up (unhide hb2), _, _, _, _, _, _, _, _, _, _, _, _, _, _, _, _, _, _, _, _, _, _, _, _, _, rfl⟩
  clear hi1 x0 x4 x5 x7 x8 x9 x10 x11 x12 x13 x14 x15 x16 x17 x18 x19 x20 x21 x22 x23 x24 x25 x26 x27 x28 w1
  rintro _ w1 ⟨hi1, x0, x4, x5, x7, x8, x9, x10, x11, x12, x13, x14, x15, x16, x17, x18, x19, x20, x21, x22, x23, x24, x25, x26, x27, x28, rfl⟩
  replace hi1 := hide hi1
  refine to_seq (to_wp (K := At7 w n (.slice (some ⟨g, 0, none⟩) M c) (.slice da ll cap)) ?c2 ?_)
  case c2 =>
    go_wp2_with fail
    refine (unhide kL w1 (unhide hi1).low).mono ?_
    rintro e w2 ⟨r, rfl, hr, hb2⟩
    obtain rfl := hr.2 (unhide hG)
    clear hr
    replace hb2 := hide hb2
    go_wp2_with fail
    exact ⟨(unhide hi1).up (unhide hb2), _, _, _, _, _, _, _, _, _, _, _, _, _, _, _, _, _, _, _, _, _, _, _, _, _, rfl⟩
  clear hi1 x0 x4 x5 x7 x8 x9 x10 x11 x12 x13 x14 x15 x16 x17 x18 x19 x20 x21 x22 x23 x24 x25 x26 x27 x28 w1
  rintro _ w1 ⟨hi1, x0, x4, x5, x7, x8, x9, x10, x11, x12, x13, x14, x15, x16, x17, x18, x19, x20, x21, x22, x23, x24, x25, x26, x27, x28, rfl⟩
  replace hi1 := hide hi1
  refine to_seq (to_wp (K := At7 w n (.slice (some ⟨g, 0, none⟩) M c) (.slice da ll cap)) ?c3 ?_)
  case c3 =>
    go_wp2_with fail
    exact ⟨unhide hi1, _, _, _, _, _, _, _, _, _, _, _, _, _, _, _, _, _, _, _, _, _, _, _, _, _, rfl⟩
  clear hi1 x0 x4 x5 x7 x8 x9 x10 x11 x12 x13 x14 x15 x16 x17 x18 x19 x20 x21 x22 x23 x24 x25 x26 x27 x28 w1
  rintro _ w1 ⟨hi1, x0, x4, x5, x7, x8, x9, x10, x11, x12, x13, x14, x15, x16, x17, x18, x19, x20, x21, x22, x23, x24, x25, x26, x27, x28, rfl⟩
  refine to_seq (to_step step_region_draw ?_)
  have hi2 : In7 w { w1 with drawn := w1.drawn + 1 } n (.slice (some ⟨g, 0, none⟩) M c) := hi1.up ⟨rfl, rfl, rfl, Nat.le_refl _, fun _ _ => rfl⟩
  have e9 : ∀ t, Region.schedule ((barP Tryz.prog).follows .mixedOrders) (ops9 Tryz.f5) t = Region.linearise.go .any (ops9 Tryz.f5) (4 + 5) t (lst false false false false false false false false false) [] := by
    intro t
    rw [mixed]
    simp only [Region.schedule, Bool.true_or, if_true, Region.linearise]
    rw [show (ops9 Tryz.f5).size = 4 + 5 from by kernel_rfl]
    rfl
  refine (?_ : To T (lone ((Go.Conc.base 5).at _ (.inRegion (ops9 Tryz.f5) (Region.schedule ((barP Tryz.prog).follows .mixedOrders) (ops9 Tryz.f5) _) :: _)) cs _))
  rw [e9]
  exact all_upto (T0 := [x0, .slice da ll cap, .int .i64 1, .pointer (some ⟨w.heap.size, 0, none⟩), x4, x5, .pointer (some ⟨w.heap.size + 1, 0, none⟩), x7, x8, x9, x10, x11, x12, x13, x14, x15, x16, x17, x18, x19, x20, x21, x22, x23, x24, x25, x26, x27, x28]) rfl rfl rfl rfl rfl hi2.c0 (by simp [Go.Conc.base]) (fun s0 s1 hs => unhide hl _ _ s0 s1 hs hi2 ⟨rfl, rfl, rfl, rfl, rfl⟩) 5 _ false false false false false (fun h => by cases h) rfl
end Go.Proofs.YtfnbcpeipoobkaaGreat
