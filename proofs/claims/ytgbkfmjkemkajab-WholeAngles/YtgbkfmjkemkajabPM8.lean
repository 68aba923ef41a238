/- The landed Open and Left. -/
import Derived.Test.YtgbkfmjkemkajabPM7
namespace Go.Proofs.Ytgbkfmjkemkajab
open Go.RowKit Go.Shelf
attribute [local go_sem] Oper.semAt_some

set_option maxHeartbeats 3200000 in
theorem lookThroughOk {n : Int} {L : List (Int × Int)} {a : Option Addr} {cap g o : Nat} (hN : L.length ≤ 9223372036854775807) (hA : All64 L) (w : World) (h : Dirs w a g o L) :
    Calls Try.prog 29 #[.int .i64 n, .slice a L.length cap] w fun e w' => e = .returned (.int .i64 (openErr n L)) ∧ Below w.heap.size w w' := by
  have kK := hide (dirKatz (n := n) (cap := cap) hN hA w h)
  unfold openErr
  by_cases c1 : n < 1 ∨ 64 < n
  · rw [if_pos c1]
    clear kK
    by_cases c2 : n < 1
    · have q1 : (n < 1) = True := by simp; omega
      clear c1 c2
      go_enter Try.func29, Try.ntmps29
      go_wp2_with fail
      go_ret
      exact ⟨rfl, Below.refl _ _⟩
    · have q1 : (n < 1) = False := by simp; omega
      have q2 : (64 < n) = True := by simp; omega
      clear c1 c2
      go_enter Try.func29, Try.ntmps29
      go_wp2_with fail
      go_ret
      exact ⟨rfl, Below.refl _ _⟩
  · rw [if_neg c1]
    have q1 : (n < 1) = False := by simp; omega
    have q2 : (64 < n) = False := by simp; omega
    by_cases c3 : 64 < L.length
    · rw [if_pos c3]
      have q3 : ((64 : Int) < (L.length : Int)) = True := by simp; omega
      clear c1 c3 kK
      go_enter Try.func29, Try.ntmps29
      go_wp2_with fail
      go_ret
      exact ⟨rfl, Below.refl _ _⟩
    · rw [if_neg c3]
      have q3 : ((64 : Int) < (L.length : Int)) = False := by simp; omega
      have e : (katzS n L).2 = twiceS L := by
        unfold katzS
        rw [if_neg c1]
        by_cases h0 : twiceS L = 0
        · rw [if_neg (fun h => h h0), h0]
        · rw [if_pos h0]
      rw [e] at kK
      generalize (katzS n L).1 = kb at *
      generalize twiceS L = te at *
      clear c1 c3 e
      go_enter Try.func29, Try.ntmps29
      go_wp2_with fail
      refine (unhide kK).mono ?_
      rintro e w1 ⟨rfl, hb1⟩
      have B1 := hide hb1
      clear hb1
      go_wp2_with fail
      go_ret
      exact ⟨rfl, unhide B1⟩

set_option maxHeartbeats 3200000 in
theorem openBad : OpenBad 11 := by
  intro n L a cap g o w hN hA h hE
  have k1 := hide (lookThroughOk (n := n) (cap := cap) hN hA w h)
  generalize openErr n L = er at *
  have q1 : (er != 0) = true := by simp; exact hE
  refine (callsIn_wide (n := 6)).1 ?_
  refine callsIn_of_wp_marks Try.func11 rfl trivial ?_ rfl
  simp only [Try.ntmps11, List.size_toArray, List.length_cons, List.length_nil, Nat.reduceAdd, Nat.reduceSub, Array.replicate_succ, Array.replicate_zero, List.push_toArray, List.append_toArray, List.nil_append, List.cons_append]
  gi_wp2_with fail
  refine ⟨trivial, ?_⟩
  refine (callsIn_wide.2 (unhide k1)).mono ?_
  rintro e w1 ⟨rfl, hb1⟩
  have B1 := hide hb1
  clear hb1 k1
  gi_wp2_with fail
  exact ⟨_, results_tmp2 rfl _ _ _, rfl, unhide B1⟩

theorem body_put {S : Nat → Prop} {K g l : Nat} {W : World} {o o' : Obj} (_hl : l < W.heap.size) (hs : S l) (hg : 0 < K → g ≠ l) : BodyKeeps S K g W ((W.putObj l o).putObj l o') :=
  ⟨⟨rfl, rfl, rfl, by simp, fun x hx => by
    have hne : x ≠ l := fun e => hx.2 (by rw [e]; exact hs)
    exact (World.putObj_heap_other hne).trans (World.putObj_heap_other hne)⟩, fun hk => (World.putObj_heap_other (hg hk)).trans (World.putObj_heap_other (hg hk))⟩

/-- The two blocks that a range over a function lays. -/
def loopBlocks (w : World) (x : Nat) : Prop := x = w.heap.size ∨ x = w.heap.size + 1

set_option maxRecDepth 100000 in
set_option maxHeartbeats 6400000 in
theorem openGood : OpenGood 11 := by
  intro n L a cap g o w hA h hE
  obtain ⟨m', hm, Sd⟩ := sound_of hE
  obtain rfl : n = m' := by omega
  have hn := Sd.n1
  have h64 := Sd.n64
  have hL := Sd.len
  have ho := Sd.ok
  have k1 := hide (lookThroughOk (n := n) (cap := cap) (by omega) hA w h)
  rw [hE] at k1
  have k2 := hide (fun (W : World) (hW : Dirs W a g o L) => untouchedOk (cap := cap) hn h64 hL ho W hW)
  have H := hide h
  have hO := hide ho
  clear h hE hA hm Sd ho
  refine (callsIn_wide (n := 6)).1 ?_
  refine callsIn_of_wp_marks Try.func11 rfl trivial ?_ rfl
  simp only [Try.ntmps11, List.size_toArray, List.length_cons, List.length_nil, Nat.reduceAdd, Nat.reduceSub, Array.replicate_succ, Array.replicate_zero, List.push_toArray, List.append_toArray, List.nil_append, List.cons_append]
  gi_wp2_with fail
  refine ⟨trivial, ?_⟩
  refine (callsIn_wide.2 (unhide k1)).mono ?_
  rintro e w1 ⟨rfl, hb1⟩
  have B1 := hide hb1
  have D1 := hide (dirs_below (unhide H) hb1)
  clear hb1 k1
  gi_wp2_with fail
  refine ⟨trivial, ?_⟩
  refine (callsIn_wide.2 (unhide k2 w1 (unhide D1))).mono ?_
  rintro e w2 ⟨V, v, m, f, rfl, hP, hQ, hm, hb2⟩
  have P2 := hide hP
  have Q2 := hide hQ
  have B2 := hide hb2
  clear hP hQ hb2 k2
  gi_wp2_with fail
  refine wpIn_rangeFunc ?_
  intro fn hfn
  obtain ⟨tm, htm⟩ : ∃ tm : Array Value, tm = #[Value.int .i64 n, .slice a L.length cap, undef, undef, .slice none 0 0, .int .i64 0, .int .i64 0, .pointer (some ⟨V.B, 0, none⟩), .int .i64 n, .slice a L.length cap, .int .i64 0, .int .i64 0, .bool false, undef, .int .i64 n, .slice a L.length cap, .pointer (some ⟨V.B, 0, none⟩), .pointer (some ⟨V.B, 0, none⟩), .func (.func 17) #[.pointer (some ⟨V.B, 0, none⟩)] #[], undef, undef, undef, undef, undef, undef] := ⟨_, rfl⟩
  obtain ⟨rec, hrec⟩ : ∃ rec : LoopState → Option Code → Loop, rec = fun st pe => { state := st, pending := pe, fn, tmps := tm, params := #[19, 20], assign := Code.skip, body := Code.block 1 Code.skip, defers := w2.heap.size } := ⟨_, rfl⟩
  obtain ⟨W1, hW1⟩ : ∃ W1, (w2.alloc (.deferred (some []))).alloc (.loop (rec .ready none)) = W1 := ⟨_, rfl⟩
  have hb3 : Below w2.heap.size w2 W1 := by rw [← hW1]; exact ((Below.refl _ w2).alloc (Nat.le_refl _) _).alloc (by rw [World.size_alloc]; omega) _
  have hs3 : W1.heap.size = w2.heap.size + 2 := by rw [← hW1, World.size_alloc, World.size_alloc]
  have hL1 : W1.heap[w2.heap.size + 1]? = some (.loop (rec .ready none)) := by
    rw [← hW1]; have := World.alloc_heap_new (w2.alloc (.deferred (some []))) (.loop (rec .ready none)); rwa [World.size_alloc] at this
  have hK1 : W1.heap[w2.heap.size]? = some (.deferred (some [])) := by
    rw [← hW1]; exact (Below.heap_alloc _ _ _ (by simp)).trans (World.alloc_heap_new w2 _)
  have hsz2 : w1.heap.size ≤ w2.heap.size := (unhide B2).size
  have hgl : 0 < L.length → g < w2.heap.size := fun hl => Nat.lt_of_lt_of_le ((unhide D1).at_ hl).2 (unhide B2).size
  have P3 := hide ((unhide P2).plus (N := loopBlocks w2) hb3 (fun x hx => by unfold loopBlocks at hx; omega))
  have kS := hide (stepsIn (S := fun x => x < w1.heap.size ∨ loopBlocks w2 x) (V := V) (cap := cap) (a := a) (g := g) (o := o)
    (fun _ W => (W.heap[w2.heap.size + 1]? = some (.loop (rec .ready none)) ∧ W.heap[w2.heap.size]? = some (.deferred (some []))) ∧ Below w1.heap.size W1 W) (w2.heap.size + 1) (6 - 1) hn h64 hL (unhide hO)
    (fun b W W' hj ha => ⟨⟨(ha.block _ (Or.inr (Or.inr rfl))).trans hj.1.1, (ha.block _ (Or.inr (Or.inl rfl))).trans hj.1.2⟩, hj.2.trans (ha.below fun x hx => Or.inl hx)⟩)
    (fun b x W hp hj hx hc => by
      obtain ⟨hj, hjb⟩ := hj
      have hlt : w2.heap.size + 1 < W.heap.size := (Array.getElem?_eq_some_iff.1 hj.1).1
      have hy := run_yield (P := Try.prog) (args := #[.agg #[.int .i64 (x.1 : Nat), .int .i64 (x.2 : Nat)], .int .i64 (sumL n (dk L x.1) b (x.2 : Int) : Nat)]) hj.1 (by rw [hrec]; rfl)
      rw [hrec] at hy
      refine ⟨fn, _, _, _, hy, roundIn_of_wpIn hfn ?_⟩
      clear hy
      gi_wp2
      refine ⟨_, run_beginRound hj.1 (by rw [hrec]), ?_⟩
      gi_wp2
      have hl2 : (W.putObj (w2.heap.size + 1) (.loop { rec .ready none with state := .busy })).heap[w2.heap.size + 1]? = some (.loop { rec .ready none with state := .busy }) := World.putObj_heap_same hlt
      have hre := run_endRound (P := Try.prog) none hl2
      refine ⟨_, _, hre, rfl, ⟨⟨?_, ?_⟩, ?_⟩, ?_⟩
      · have := World.putObj_heap_same (w := W.putObj (w2.heap.size + 1) (.loop { rec .ready none with state := .busy })) (r := w2.heap.size + 1) (o := .loop (rec .ready none)) (Array.getElem?_eq_some_iff.1 hl2).1
        rw [hrec] at this ⊢
        exact this
      · exact (World.putObj_heap_other (by omega)).trans ((World.putObj_heap_other (by omega)).trans hj.2)
      · exact hjb.trans ((body_put (S := loopBlocks w2) (K := 0) (g := 0) (by omega) (Or.inr rfl) (fun h => by omega)).rest.below fun x hx => ⟨by omega, fun h => by unfold loopBlocks at h; omega⟩)
      · exact body_put (by omega) (Or.inr (Or.inr rfl)) (fun hl => by have := hgl hl; omega))
    (fun _ => true) W1 ⟨v, m, f, unhide P3, unhide Q2, by have := cnt_le (fun _ => true) (n * n); have : n * n ≤ 4096 := Nat.mul_le_mul h64 h64; omega⟩ (holds_all n L) ⟨⟨hL1, hK1⟩, Below.refl _ _⟩)
  refine ⟨w2.heap.size + 1, [{ target := .collected w2.heap.size, args := #[] }], W1, { target := .fn (.func 17) #[], args := #[.pointer (some ⟨V.B, 0, none⟩), .func (.yield (w2.heap.size + 1)) #[] #[]] }, W1, 17,
    #[.pointer (some ⟨V.B, 0, none⟩), .func (.yield (w2.heap.size + 1)) #[] #[]], W1, ?_, ?_, fun _ _ => trivial, ?_, fun h => (by cases h), ?_⟩
  · rw [← hW1, hrec, htm]; exact run_enterLoop_outer _ _ _ _ _
  · simp [resolve, go_sem]
  · simp [invoke, go_sem, enters_of Try.func17 (by kernel_rfl) rfl _ _]
  · refine (unhide kS).mono ?_
    rintro e W2 ⟨⟨_, rfl⟩, b, hF, ⟨v4, m4, f4, hP4⟩, ⟨hl4, hk4⟩, hb4⟩
    have hnB : V.B ≠ w2.heap.size + 1 := fun e => hP4.sB (Or.inr (Or.inr e))
    have hnB' : V.B ≠ w2.heap.size := fun e => hP4.sB (Or.inr (Or.inl e))
    have hn0 : V.blk 0 ≠ w2.heap.size + 1 := fun e => hP4.sR 0 (live0 _) (Or.inr (Or.inr e))
    have hn0' : V.blk 0 ≠ w2.heap.size := fun e => hP4.sR 0 (live0 _) (Or.inr (Or.inl e))
    have hge : w1.heap.size ≤ V.blk 0 := Nat.le_of_not_lt fun e => hP4.sR 0 (live0 _) (Or.inl e)
    have hend := run_endLoop (P := Try.prog) hl4 (by rw [hrec]; simp)
    obtain ⟨W3, hW3⟩ : ∃ W3, W2.putObj (w2.heap.size + 1) (.loop { rec .ready none with state := .exhausted }) = W3 := ⟨_, rfl⟩
    have hend2 : (Instr.endLoop (w2.heap.size + 1)).run Try.prog W2 = .ok none W3 := by
      rw [← hW3, hend, hrec]
    have ot : ∀ x, x ≠ w2.heap.size + 1 → W3.heap[x]? = W2.heap[x]? := fun x hx => by rw [← hW3]; exact World.putObj_heap_other hx
    have bl3 : Below w2.heap.size W2 W3 := by rw [← hW3]; exact ⟨rfl, rfl, rfl, by simp, fun x hx => World.putObj_heap_other (by omega)⟩
    refine ⟨none, W3, hend2, ?_⟩
    clear hend hend2 hW3
    have c4 := (World.cell?_of_block (a := ⟨V.B, 4, none⟩) (ot V.B hnB)).trans hP4.c4
    have k1 := (ot w2.heap.size (by omega)).trans hk4
    have R4 : Hid (BRow (W3.putObj w2.heap.size (.deferred none)) (V.blk 0) (n * n) b) := vrow_keep (hP4.mem.row 0 (live0 _)) ((World.putObj_heap_other hn0').trans (ot _ hn0))
    have B4 : Hid (Below w.heap.size w (W3.putObj w2.heap.size (.deferred none))) := by
      have e1 := (((unhide B2).trans (hb3.mono hsz2)).trans hb4).trans (bl3.mono hsz2)
      have e2 : Below w1.heap.size W3 (W3.putObj w2.heap.size (.deferred none)) := ⟨rfl, rfl, rfl, by simp, fun x hx => World.putObj_heap_other (by omega)⟩
      exact (unhide B1).trans ((e1.trans e2).mono (unhide B1).size)
    have k1 := hide k1
    have hF := hide hF
    have hsw : w.heap.size ≤ w1.heap.size := (unhide B1).size
    clear hP4 hl4 hk4 hb4 kS hL1 hK1 hW1 hb3 P2 P3 Q2 D1 H ot bl3
    gi_wp2
    refine ⟨by simp, .inl ⟨_, _, rfl, run_takeDeferred (unhide k1), ?_⟩⟩
    refine ⟨_, results_tmp2 rfl _ _ _, ?_⟩
    exact ⟨V.blk 0, V.cO, b, rfl, by omega, unhide R4, unhide hF, unhide B4⟩
end Go.Proofs.Ytgbkfmjkemkajab
