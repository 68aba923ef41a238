/- The landed peeling, step by step. -/
import Derived.Test.YtgbkfmjkemkajabM9
import Derived.RangeFuncNested
import Derived.RangeFuncBound
import Derived.RangeFuncCalls
import Derived.RangeFuncLeaves
import Derived.Shelf.RegionOpen
import Derived.OwnWalkIn
import Derived.TacticsInMore
import Derived.LoopNIn
import Derived.LoopIn
namespace Go.Proofs.Ytgbkfmjkemkajab
open Go.RowKit Go.Shelf
attribute [local go_sem] Oper.semAt_some

def measP (B p M : Nat) (W : World) : Nat := 65 * openN p M W + match W.cell? ⟨B, 5, none⟩ with | some (.slice _ k _) => k | _ => 0

section
variable {S : Nat → Prop} {w w' : World} {n : Nat} {L : List (Int × Int)} {a : Option Addr} {cap g o : Nat} {V : PV} {bo b : Nat → Bool} {bk : Nat → Nat → Bool} {v : Value} {m : Nat} {f : Nat → Nat × Nat}

theorem Peel.slice (h : Peel S w n L a cap g o V bo bk v m f) : ∃ ad c, v = .slice ad m c := by
  rcases h.heap.qv with ⟨rfl, rfl⟩ | ⟨q, c, rfl, _⟩
  · exact ⟨none, 0, rfl⟩
  · exact ⟨_, c, rfl⟩
theorem Peel.meas (h : Peel S w n L a cap g o V bo bk v m f) : measP V.B (V.blk 0) (n * n) w = 65 * cntB bo (n * n) + m := by
  obtain ⟨ad, c, rfl⟩ := h.slice
  unfold measP
  rw [h.heap.cell]
  have : openN (V.blk 0) (n * n) w = cntB bo (n * n) := by
    refine cnt_same fun i hi => ?_
    rw [h.open_ hi]
    cases bo i <;> rfl
  rw [this]

/-- What a round of the caller's may change: what lies in S, but not the directions. -/
structure BodyKeeps (S : Nat → Prop) (K g : Nat) (w w' : World) : Prop where
  rest : Aside (fun x => x < w.heap.size ∧ ¬ S x) w w'
  dirs : 0 < K → w'.heap[g]? = w.heap[g]?
theorem Peel.body (h : Peel S w n L a cap g o V bo bk v m f) (hb : BodyKeeps S L.length g w w') : Peel S w' n L a cap g o V bo bk v m f := by
  have hB : w'.heap[V.B]? = w.heap[V.B]? := hb.rest.block _ ⟨h.heap.lt, h.sB⟩
  exact ⟨⟨hB.trans h.heap.st, h.heap.qv.keep fun q hq => hb.rest.block q ⟨h.heap.qv.lt hq, h.sQ q hq⟩, h.heap.ne⟩, ⟨fun r hr => vrow_keep (h.mem.row r hr) (hb.rest.block _ ⟨h.lt hr, h.sR r hr⟩), h.mem.above, h.mem.apart⟩, h.apB, h.apQ, h.sB, h.sR, h.sQ, fun x hx => Nat.lt_of_lt_of_le (h.sS x hx) hb.rest.size, h.atF, h.atL, dirs_keep h.dirs hb.dirs hb.rest.size, h.dS⟩
end

set_option maxRecDepth 100000 in
set_option maxHeartbeats 6400000 in
theorem stepsIn {S : Nat → Prop} {n : Nat} {L : List (Int × Int)} {a : Option Addr} {cap g o : Nat} {V : PV} (J : (Nat → Bool) → World → Prop) (l mm : Nat) (hn : 1 ≤ n) (h64 : n ≤ 64) (hL : L.length ≤ 64) (ho : ∀ d, d ∈ L → okD d.1 d.2 = true)
    (hJ : ∀ b W W', J b W → Aside S W W' → J b W')
    (hY : ∀ b (x : Nat × Nat) W, (∃ v m f, Peel S W n L a cap g o V b (fun _ => b) v m f) → J b W → okP n L x → cntL n (dk L x.1) b (x.2 : Int) = 1 →
      YieldAt Fence.wide (mm - 1) Try.prog l #[.agg #[.int .i64 (x.1 : Nat), .int .i64 (x.2 : Nat)], .int .i64 (sumL n (dk L x.1) b (x.2 : Int) : Nat)] W fun e W' => e = .returned (.bool true) ∧ J (shutB b (sumL n (dk L x.1) b (x.2 : Int))) W' ∧ BodyKeeps S L.length g W W')
    (b0 : Nat → Bool) (W0 : World) (h0 : ∃ v m f, Peel S W0 n L a cap g o V b0 (fun _ => b0) v m f ∧ QOk n L (fun _ => b0) f m (fun _ => False) ∧ m + 64 * cntB b0 (n * n) ≤ 500000) (hH : Holds n L b0) (hJ0 : J b0 W0) :
    CallsIn Fence.wide mm Try.prog 17 #[.pointer (some ⟨V.B, 0, none⟩), .func (.yield l) #[] #[]] W0 fun e W' => (∃ u, e = .returned u) ∧ ∃ b, Final n L b ∧ (∃ v m f, Peel S W' n L a cap g o V b (fun _ => b) v m f) ∧ J b W' := by
  replace hJ := hide hJ
  replace hY := hide hY
  have hO := hide ho
  replace h0 := hide h0
  replace hH := hide hH
  replace hJ0 := hide hJ0
  clear ho
  refine callsIn_of_wp Try.func17 rfl trivial ?_ rfl
  simp only [Try.ntmps17, List.size_toArray, List.length_cons, List.length_nil, Nat.reduceAdd, Nat.reduceSub, Array.replicate_succ, Array.replicate_zero, List.push_toArray, List.append_toArray, List.nil_append, List.cons_append]
  gi_wp2_with fail
  gi_loopw [6] (fun _ wr => ∃ b v m f, Hid (Peel S wr n L a cap g o V b (fun _ => b) v m f) ∧ Hid (QOk n L (fun _ => b) f m (fun _ => False)) ∧ m + 64 * cntB b (n * n) ≤ 500000 ∧ Hid (Holds n L b) ∧ Hid (J b wr)) (fun _ wr => measP V.B (V.blk 0) (n * n) wr)
  case atStart =>
    obtain ⟨v, m, f, h1, h2, h3⟩ := unhide h0
    exact ⟨b0, v, m, f, h1, h2, h3, hH, hJ0⟩
  case round =>
    clear h0 hH hJ0
    obtain ⟨b, v, m, f, hP, hQ, hm, hH, hJb⟩ := hrel
    obtain ⟨ad, cp, rfl⟩ := (unhide hP).slice
    have hms := hide (unhide hP).meas
    have c5 := (unhide hP).heap.cell
    gi_wp2_with fail
    refine ⟨trivial, fun h => (by cases h), ?_⟩
    refine (callsIn_wide.2 (qLen wr)).mono ?_
    rintro e w1 ⟨rfl, hb1⟩
    have P1 := hide ((unhide hP).below hb1)
    have J1 := hide (unhide hJ b wr w1 (unhide hJb) (Aside.of_below hb1 (unhide hP).sS))
    clear hP hb1 hJb c5
    by_cases hz : m = 0
    · subst hz
      gi_wp2_with fail
      go_end0
      exact ⟨⟨_, rfl⟩, b, final_of hn h64 (unhide hO) (unhide hH) (unhide hQ).done, ⟨_, _, _, unhide P1⟩, unhide J1⟩
    · obtain ⟨m', rfl⟩ : ∃ m', m = m' + 1 := ⟨m - 1, by omega⟩
      have q1 : ((0 : Int) < ((m' + 1 : Nat) : Int)) = True := by simp only [eq_iff_iff, iff_true]; omega
      have k1 := hide (heapPop (by omega) w1 (unhide P1).heap)
      gi_wp2_with fail
      refine ⟨trivial, fun h => (by cases h), ?_⟩
      refine (callsIn_wide.2 (unhide k1)).mono ?_
      rintro e w2 ⟨x, rfl, hx, v2, f2, hh2, ⟨i2, j2⟩, t2⟩
      obtain ⟨hp2, ha2⟩ := (unhide P1).turn hh2 t2
      have P2 := hide hp2
      have J2 := hide (unhide hJ b w1 w2 (unhide J1) ha2)
      obtain ⟨⟨hx1, hx2⟩, hx3⟩ := (unhide hQ).ok x hx
      clear hh2 t2 hp2 ha2 P1 J1 k1 hx q1
      have y1 := hide (heap_alloc_new w2 (.cells #[.int .i64 (x.1 : Nat), .int .i64 (x.2 : Nat)] 58))
      have y2 := hide ((Below.refl w2.heap.size w2).alloc (Nat.le_refl _) (.cells #[.int .i64 (x.1 : Nat), .int .i64 (x.2 : Nat)] 58))
      have P3 := hide ((unhide P2).below (unhide y2))
      have J3 := hide (unhide hJ b _ _ (unhide J2) (Aside.of_below (unhide y2) (unhide P2).sS))
      have x3 : (w2.alloc (.cells #[.int .i64 (x.1 : Nat), .int .i64 (x.2 : Nat)] 58)).cell? ⟨w2.heap.size, 0, none⟩ = some (.int .i64 (x.1 : Nat)) := cell_of_row _ w2.heap.size 0 _ _ (0, 0) (unhide y1)
      have x4 : (w2.alloc (.cells #[.int .i64 (x.1 : Nat), .int .i64 (x.2 : Nat)] 58)).cell? ⟨w2.heap.size, 1, none⟩ = some (.int .i64 (x.2 : Nat)) := cell_of_row _ w2.heap.size 1 _ _ (0, 0) (unhide y1)
      have hs3 : w2.heap.size < (w2.alloc (.cells #[.int .i64 (x.1 : Nat), .int .i64 (x.2 : Nat)] 58)).heap.size := by rw [World.size_alloc]; omega
      gi_wp2_with fail
      clear y1
      have A3 := hide (Aside.of_below (unhide y2) (unhide P2).sS)
      generalize w2.alloc (.cells #[.int .i64 (x.1 : Nat), .int .i64 (x.2 : Nat)] 58) = w3 at *
      clear P2 J2 y2
      generalize w2.heap.size = pa at *
      have eL := (unhide P3).atL (by omega)
      have c3 := (unhide P3).c3
      rw [eL] at c3
      have c4 := (unhide P3).lines hx1
      have c5 := (unhide P3).cnt hx1 hx2
      have c6 := (unhide P3).sum hx1 hx2
      have l1 := (unhide P3).heap.lt
      have l2 := (unhide P3).lt (live2 (by omega))
      have l3 : V.blk (3 + x.1) < w3.heap.size := by rw [Nat.add_comm]; exact (unhide P3).lt (live3 hx1)
      have q2 : ((x.1 : Int) < (L.length : Int)) = True := by simp; omega
      have q3 : ((x.2 : Int) < ((binN n (dk L x.1) : Nat) : Int)) = True := by simp; omega
      have y3 := hide (((Below.refl w3.heap.size w3).alloc (Nat.le_refl _) (.cells #[.int .i64 (cntL n (dk L x.1) b (x.2 : Int) : Nat), .int .i64 (sumL n (dk L x.1) b (x.2 : Int) : Nat)] 96)).drew)
      have y4 := hide (heap_alloc_new w3 (.cells #[.int .i64 (cntL n (dk L x.1) b (x.2 : Int) : Nat), .int .i64 (sumL n (dk L x.1) b (x.2 : Int) : Nat)] 96))
      refine (wpIn_wide (n := mm)).2 ?_
      go_big_region
      have P4 := hide ((unhide P3).below (unhide y3))
      have J4 := hide (unhide hJ b _ _ (unhide J3) (Aside.of_below (unhide y3) (unhide P3).sS))
      have z1 : (w3.alloc (.cells #[.int .i64 (cntL n (dk L x.1) b (x.2 : Int) : Nat), .int .i64 (sumL n (dk L x.1) b (x.2 : Int) : Nat)] 96)).drew.cell? ⟨w3.heap.size, 0, none⟩ = some (.int .i64 (cntL n (dk L x.1) b (x.2 : Int) : Nat)) := cell_of_row _ w3.heap.size 0 _ _ (0, 0) (unhide y4)
      have z2 : (w3.alloc (.cells #[.int .i64 (cntL n (dk L x.1) b (x.2 : Int) : Nat), .int .i64 (sumL n (dk L x.1) b (x.2 : Int) : Nat)] 96)).drew.cell? ⟨w3.heap.size, 1, none⟩ = some (.int .i64 (sumL n (dk L x.1) b (x.2 : Int) : Nat)) := cell_of_row _ w3.heap.size 1 _ _ (0, 0) (unhide y4)
      have hp4 : w3.heap.size < (w3.alloc (.cells #[.int .i64 (cntL n (dk L x.1) b (x.2 : Int) : Nat), .int .i64 (sumL n (dk L x.1) b (x.2 : Int) : Nat)] 96)).drew.heap.size := by
        show w3.heap.size < (w3.alloc _).heap.size
        rw [World.size_alloc]; omega
      have hns : Hid (¬ S w3.heap.size) := fun hs => by have := (unhide P3).sS _ hs; omega
      have z3 := ((unhide y3).cell (p := ⟨pa, 0, none⟩) (by show pa < _; omega)).trans x3
      have z4 := ((unhide y3).cell (p := ⟨pa, 1, none⟩) (by show pa < _; omega)).trans x4
      clear P3 J3 y3 y4 c3 c4 c5 c6 x3 x4 eL l1 l2 l3
      generalize (w3.alloc (.cells #[.int .i64 (cntL n (dk L x.1) b (x.2 : Int) : Nat), .int .i64 (sumL n (dk L x.1) b (x.2 : Int) : Nat)] 96)).drew = w4 at *
      generalize w3.heap.size = pl at *
      by_cases hc0 : cntL n (dk L x.1) b (x.2 : Int) = 0
      · rw [hc0] at z1
        have Q4 := hide ((unhide hQ).skip i2 j2 (k := x.1) (j := x.2) (by omega))
        have M4 := hide (unhide P4).meas
        clear hY i2 j2 hc0 hx3
        gi_wp2_with fail
        exact ⟨⟨b, _, _, _, P4, Q4, by omega, hH, J4⟩, by rw [unhide M4, unhide hms]; omega⟩
      · have hc1 : cntL n (dk L x.1) b (x.2 : Int) = 1 := by omega
        rw [hc1] at z1
        obtain ⟨u1, u2, u3⟩ := sumL_one hc1
        obtain ⟨fn, tmps, assign, body, hyl, hRd⟩ := unhide hY b x w4 ⟨_, _, _, unhide P4⟩ (unhide J4) ⟨hx1, hx2⟩ hc1
        have Q4 := hide ((unhide hQ).take i2 j2 (k := x.1) (j := x.2))
        have hH4 := hide (holds_shut (unhide hH) (dk_mem hx1) u1 u2 (by rw [u3]; exact hc1))
        have hcl := hide (cnt_less u1 u2)
        have hc1 := hide hc1
        have u2 := hide u2
        have u3 := hide u3
        generalize sumL n (dk L x.1) b (x.2 : Int) = c at *
        clear hY i2 j2 hc0 hx3 hQ hH
        gi_wp2_with fail
        refine ⟨fun h => (by cases h), ?_⟩
        refine hRd.mono ?_
        rintro e w5 ⟨rfl, hJ5, hk5⟩
        have z5 := (World.cell?_of_block (a := ⟨pl, 1, none⟩) (hk5.rest.block pl ⟨hp4, unhide hns⟩)).trans z2
        have P5 := hide ((unhide P4).body hk5)
        have J5 := hide hJ5
        clear hJ5 hk5 P4 J4 hRd hyl z1 z2 z3 z4
        have k5 := hide (peelClose hn h64 hL (unhide hO) u1 (unhide u2) (by omega) w5 (unhide P5) (unhide Q4))
        gi_wp2_with fail
        refine ⟨trivial, fun h => (by cases h), ?_⟩
        refine (callsIn_wide.2 (unhide k5)).mono ?_
        rintro e w6 ⟨⟨_, rfl⟩, ⟨v6, m6, f6, hP6, hQ6, hm6⟩, hA6⟩
        have P6 := hide hP6
        have M6 := hide hP6.meas
        have J6 := hide (unhide hJ _ _ _ (unhide J5) hA6)
        have Q6 := hide (hQ6.shut u1 (unhide u2) (unhide u3) (unhide hc1))
        have hcl : cntB (shutB b c) (n * n) + 1 = cntB b (n * n) := unhide hcl
        clear hP6 hA6 hQ6 k5 P5 J5 Q4
        gi_wp2_with fail
        exact ⟨⟨shutB b c, v6, m6, f6, P6, Q6, by omega, hH4, J6⟩, by rw [unhide M6, unhide hms]; omega⟩
end Go.Proofs.Ytgbkfmjkemkajab
