/- BoundSound: directions that are none. BoundSound: its run in company. BoundSound: its run in company, of any arguments. A direction that came in, as the walk wants it. -/
import Derived.Test.YthbghcebcahlnaaM39
import Derived.Test.YthbghcebcahlnaaM19
import Derived.OpenShut
import Derived.ChangeOld
import Derived.ChangeSame
namespace Go.Proofs.Ythbghcebcahlnaa
open Go Go.RowKit Go.Shelf

set_option maxRecDepth 100000 in
set_option maxHeartbeats 4000000 in
theorem badCalls {n gl ol lc gd od dc : Nat} {la da : Option Addr} {L : List Int} {D : List (Int × Int)} {sv : Value} (w : World) (hn : n = sideB L.length) (h1 : 1 ≤ n) (h2 : n ≤ 8) (hLl : L.length ≤ 9223372036854775807) (hL : Byte8 L) (hB : Bytes w la gl ol L) (hD : Dirs w da gd od D) (hl : D.length ≤ 9223372036854775807) (hI : ∀ i, i < D.length → I64 (D.getD i (0, 0)).1 ∧ I64 (D.getD i (0, 0)).2) (hcap : D.length ≤ dc) (hG : ¬ GoodDirs D) :
    Calls (barP Try.prog) 3 #[.slice la L.length lc, .slice da D.length dc, sv] w fun e w' => e = .returned (.bool true) ∧ Below w.heap.size w w' := by
  have kG := fun w1 (b : Below w.heap.size w w1) => gridAny (cap := lc) hLl w1 (bytes_below hB b)
  rw [← hn] at kG
  have kA := fun w1 gg (b : Below w.heap.size w w1) (hR : Row w1 gg (n * n) (lvlB L)) => allBad (c := n * n) (f := lvlB L) (z := zL L) (mz := 255) w1 h1 (by omega) hR (fun j _ => cellB hL j) (by decide) (dirs_below hD b) hl hI hcap hG
  unfold gridV at kA
  clear hB hn hD hI hG hl hcap
  generalize la = la0 at *
  obtain ⟨lv, hlv⟩ : ∃ lv : Value, .slice la0 L.length lc = lv := ⟨_, rfl⟩
  obtain ⟨dv, hdv⟩ : ∃ dv : Value, .slice da D.length dc = dv := ⟨_, rfl⟩
  rw [hlv] at kG ⊢
  rw [hdv] at kA ⊢
  have kG := hide kG
  have kA := hide kA
  clear hlv hdv
  go_enter Bar.func3, Bar.ntmps3
  go_wp2_with fail
  refine (aliveOk _).mono ?_
  rintro e w1 ⟨rfl, hb⟩
  have B1 := hide hb
  clear hb
  go_wp2_with fail
  refine (unhide kG _ (unhide B1)).mono ?_
  rintro e w2 ⟨gg, rfl, hg', hrow, hb2⟩
  have s2 : w.heap.size ≤ w2.heap.size := Nat.le_trans (unhide B1).size hb2.size
  have bb := (Below.refl _ w2).alloc (Nat.le_refl _) (.cells #[.int .i64 n, .slice (some ⟨gg, 0, none⟩) (n * n : Nat) (n * n : Nat)] 27)
  have B2 := hide (((unhide B1).trans (hb2.mono (unhide B1).size)).trans (bb.mono s2))
  have hR := row_below hrow bb (row_lt hrow)
  have kA2 := hide (unhide kA _ gg (unhide B2) hR)
  clear hb2 hrow hg' bb hR kA kG
  go_wp2_with fail
  refine (unhide kA2).mono ?_
  rintro e w3 ⟨r, hr, rfl, hb3⟩
  have B3 := hide ((unhide B2).trans (hb3.mono (unhide B2).size))
  have q : (r = 0) = False := by simpa using hr
  have B4 := hide ((unhide B3).alloc (unhide B3).size (.cells #[.int .i64 0, .slice none 0 0] 31))
  clear hb3 kA2
  go_wp2_with fail
  go_ret
  exact ⟨rfl, unhide B4⟩
theorem bad_goes {w0 : World} {n gl ol lc gd od dc : Nat} {la da : Option Addr} {L : List Int} {D : List (Int × Int)} {sv : Value} (hn : n = sideB L.length) (h1 : 1 ≤ n) (h2 : n ≤ 8) (hLl : L.length ≤ 9223372036854775807) (hL : Byte8 L) (hB : Bytes w0 la gl ol L) (hD : Dirs w0 da gd od D) (hl : D.length ≤ 9223372036854775807) (hI : ∀ i, i < D.length → I64 (D.getD i (0, 0)).1 ∧ I64 (D.getD i (0, 0)).2) (hcap : D.length ≤ dc) (hG : ¬ GoodDirs D)
    (hfit : FitB (barP Try.prog) (Frame.enter (barP Try.prog) 3 #[.slice la L.length lc, .slice da D.length dc, sv] .normal) [] w0) :
    GoesW (bar Try.prog (barF Try.prog)) (barF Try.prog).size (Pieces 3 (Post3 w0) (Post3g w0)) (Frame.enter (barP Try.prog) 3 #[.slice la L.length lc, .slice da D.length dc, sv] .normal) [] w0 := by
  letI : Inhabited Junk := noJunk
  have hr : (barF Try.prog)[(barF Try.prog).size]? = none := by rw [Array.getElem?_eq_none_iff]; exact Nat.le_refl _
  refine goesW_mono ?_ (goesW_of_calls (P := (barP Try.prog)) Bar.again fenceB bodiesB (R := fun e w' => e = .returned (.bool true) ∧ ∀ k, k < w0.heap.size → w'.heap[k]? = w0.heap[k]?) (fun e w τ d => Iff.rfl) (fun w h => by cases h.1) hfit hr fun τ d => ?_)
  · rintro fr up w ⟨rfl, hk, he, hf, e, ⟨rfl, hlow⟩, m1, m2, m3, fn, hfn, hrun⟩
    refine .inl ⟨⟨rfl, m1, m2, m3, hf⟩, ?_, hlow⟩
    rw [hf, Bar.func3] at hfn
    obtain rfl := Option.some.inj hfn
    unfold results at hrun
    simp only [Try.f3] at hrun
    simpa [go_sem] using hrun
  · refine (badCalls (gl := gl) (ol := ol) (gd := gd) (od := od) (re w0 τ d) hn h1 h2 hLl hL ⟨hB.at_, hB.cell⟩ ⟨hD.at_, hD.cell⟩ hl hI hcap hG).mono ?_
    rintro e w' ⟨rfl, hb⟩
    exact ⟨rfl, fun k hk => hb.block k hk⟩
end Go.Proofs.Ythbghcebcahlnaa

namespace Go.Proofs.Ythbghcebcahlnaa
open Go Go.Conc Go.RowKit Go.Shelf

/-- What lies there is what lay in W. -/
abbrev keepJunk (W : World) : Inhabited Junk := ⟨⟨fun r o => o = W.heap[r]?⟩⟩
/-- What is not known, hidden by a dead view. -/
def cleanO (t : TypeId) (o : Obj) : Obj := if hides o = true then .view ⟨0, 0, some 0⟩ t else o
def clean (t : TypeId) (W : World) : World := { W with heap := W.heap.map (cleanO t), os := { W.os with env := #[] } }
theorem clean_at (t : TypeId) (W : World) (r : Nat) : (clean t W).heap[r]? = (W.heap[r]?).map (cleanO t) := by simp [clean]
theorem clean_size (t : TypeId) (W : World) : (clean t W).heap.size = W.heap.size := by simp [clean]
theorem clean_cell {t : TypeId} {W : World} {p : Addr} {x : Value} (h : W.cell? p = some x) : (clean t W).cell? p = some x := by
  unfold World.cell? at h ⊢
  rw [clean_at]
  cases hh : W.heap[p.block]? with
  | none => rw [hh] at h; cases h
  | some o =>
    rw [hh] at h
    cases o with
    | cells c e f => exact h
    | _ => cases h
theorem clean_ok (P : Program) (t : TypeId) (o : Obj) : okObj P (cleanO t o) := by
  cases o with
  | deferred d => exact (rfl : (some 0 : Option Nat).isSome = true)
  | loop l => exact (rfl : (some 0 : Option Nat).isSome = true)
  | view a t => exact (rfl : (some 0 : Option Nat).isSome = true)
  | pending => exact (rfl : (some 0 : Option Nat).isSome = true)
  | _ => trivial
theorem clean_kind (P : Program) (t : TypeId) (W : World) (r : Nat) (o : Obj) (h : (clean t W).heap[r]? = some o) : okObj P o := by
  rw [clean_at] at h
  obtain ⟨x, _, rfl⟩ := Option.map_eq_some_iff.1 h
  exact clean_ok P t x
theorem clean_sib (t : TypeId) (W : World) : @Sib (keepJunk W) Try.prog (fun _ => False) (clean t W) W := by
  letI : Inhabited Junk := keepJunk W
  refine ⟨(clean_size t W).symm, fun r _ => ?_, fun r hr => hr.elim, fun r o h => clean_kind _ t W r o h, rfl⟩
  rw [clean_at]
  cases h : W.heap[r]? with
  | none => exact .inl rfl
  | some o =>
    by_cases c : hides o = true
    · refine .inr ⟨h.symm, ⟨0, 0, some 0⟩, t, o, rfl, ?_, rfl, c⟩
      show some (cleanO t o) = _
      unfold cleanO
      rw [if_pos c]
    · refine .inl ?_
      show _ = some (cleanO t o)
      unfold cleanO
      rw [if_neg c]
theorem clean_bytes {t : TypeId} {W : World} {a : Option Addr} {g o : Nat} {L : List Int} (h : Bytes W a g o L) : Bytes (clean t W) a g o L :=
  ⟨fun hl => ⟨(h.at_ hl).1, (clean_size t W).symm ▸ (h.at_ hl).2⟩, fun i c hi => clean_cell (h.cell i c hi)⟩
theorem clean_dirs {t : TypeId} {W : World} {a : Option Addr} {g o : Nat} {L : List (Int × Int)} (h : Dirs W a g o L) : Dirs (clean t W) a g o L :=
  ⟨fun hl => ⟨(h.at_ hl).1, (clean_size t W).symm ▸ (h.at_ hl).2⟩, fun i c hi => ⟨clean_cell (h.cell i c hi).1, clean_cell (h.cell i c hi).2⟩⟩

/-- True, and all that lay there lies there, or a dead view does. -/
def PostT (t : TypeId) (W : World) (v : Value) (w' : World) : Prop := v = .bool true ∧ w'.os = W.os ∧ w'.output = W.output ∧ w'.tape = W.tape ∧ ∀ k, k < W.heap.size → w'.heap[k]? = W.heap[k]? ∨ w'.heap[k]? = some (.view ⟨0, 0, some 0⟩ t)
theorem kept_of {t : TypeId} {W w v : World} {V : Nat → Prop} (hs : @Sib (keepJunk W) Try.prog V w v) {k : Nat} (hV : ¬ V k) (hw : w.heap[k]? = (clean t W).heap[k]?) : v.heap[k]? = W.heap[k]? ∨ v.heap[k]? = some (.view ⟨0, 0, some 0⟩ t) := by
  letI : Inhabited Junk := keepJunk W
  rcases hs.like k hV with e | ⟨hj, _⟩
  · rw [e, hw, clean_at]
    cases h : W.heap[k]? with
    | none => exact .inl rfl
    | some o =>
      by_cases c : hides o = true
      · refine .inr ?_
        show some (cleanO t o) = _
        unfold cleanO
        rw [if_pos c]
      · refine .inl ?_
        show some (cleanO t o) = _
        unfold cleanO
        rw [if_neg c]
  · exact .inl hj
/-- One machine ends in one way: what two looks say of it holds at once. -/
theorem run_both {P : Program} {m : Machine} {A B : Value → World → Prop}
    (h1 : ∃ M last o w' t', runNT P (M + 1) m #[] = (.ended o w', t') ∧ runN P M m = .next last ∧ step P last = .ended o w' ∧ Go.Conc.Good P A last o w' t')
    (h2 : ∃ M last o w' t', runNT P (M + 1) m #[] = (.ended o w', t') ∧ runN P M m = .next last ∧ step P last = .ended o w' ∧ Go.Conc.Good P B last o w' t') :
    ∃ M last o w' t', runNT P (M + 1) m #[] = (.ended o w', t') ∧ runN P M m = .next last ∧ step P last = .ended o w' ∧ Go.Conc.Good P (fun v w => A v w ∧ B v w) last o w' t' := by
  obtain ⟨M, last, o, w', t', a1, a2, a3, a4⟩ := h1
  obtain ⟨M2, last2, o2, w2, t2, b1, b2, b3, b4⟩ := h2
  have late : ∀ (K j : Nat) (l x : Machine) (o : Outcome) (w : World), runN P K m = .next l → step P l = .ended o w → runN P (K + (j + 1)) m = .next x → False := by
    intro K j l x o w e1 e2 e3
    rw [runN_add, e1] at e3
    have e4 : runN P (j + 1) l = .ended o w := by
      unfold runN
      rw [e2]
    have e5 : runN P (j + 1) l = .next x := e3
    rw [e4] at e5
    cases e5
  have hM : M = M2 := by
    rcases Nat.lt_trichotomy M M2 with h | h | h
    · exact (late M (M2 - M - 1) last last2 o w' a2 a3 (by rw [show M + (M2 - M - 1 + 1) = M2 by omega]; exact b2)).elim
    · exact h
    · exact (late M2 (M - M2 - 1) last2 last o2 w2 b2 b3 (by rw [show M2 + (M - M2 - 1 + 1) = M by omega]; exact a2)).elim
  subst hM
  rw [a2] at b2
  rw [a1] at b1
  injection b2 with e1
  injection b1 with e2 e3
  injection e2 with e4 e5
  subst e1 e3 e4 e5
  obtain ⟨v, rfl, c1, c2⟩ := a4
  obtain ⟨v2, d0, d1, d2⟩ := b4
  injection d0 with d0
  subst d0
  exact ⟨M, last, _, w', t', a1, a2, a3, v, rfl, ⟨c1, d1⟩, c2⟩
theorem both_kept {W w' : World} {v : Value} (h0 : PostT 0 W v w') (h1 : PostT 1 W v w') : v = .bool true ∧ Below W.heap.size W w' := by
  have key : ∀ k, k < W.heap.size → w'.heap[k]? = W.heap[k]? := by
    intro k hk
    rcases h0.2.2.2.2 k hk with e | e
    · exact e
    · rcases h1.2.2.2.2 k hk with e' | e'
      · exact e'
      · rw [e] at e'
        simp at e'
  refine ⟨h0.1, h0.2.1, h0.2.2.2.1, h0.2.2.1, ?_, key⟩
  refine Nat.le_of_not_lt fun hc => ?_
  have e := key _ hc
  rw [Array.getElem?_eq_none (Nat.le_refl _)] at e
  rw [Array.getElem?_eq_getElem hc] at e
  cases e
end Go.Proofs.Ythbghcebcahlnaa

namespace Go.Proofs.Ythbghcebcahlnaa
open Go Go.Conc Go.RowKit Go.Shelf

theorem enter3 (args : Array Value) : Frame.enter (barP Try.prog) 3 args .normal = Frame.enter Try.prog 3 args .normal := by
  unfold Frame.enter
  rw [Bar.func3, Try.func3]
theorem okBody3 : okCode Try.prog (Try.f3.body.getD (.refuse "unsupported: a function without a Go body is entered")) = true := by kernel_rfl
theorem ok3 (args : Array Value) : okFrame Try.prog (Frame.enter Try.prog 3 args .normal) := by
  unfold Frame.enter
  rw [Try.func3]
  refine ⟨fun i hi => ?_, fun d hd => ?_⟩
  · have hi : i = .code (Try.f3.body.getD (.refuse "unsupported: a function without a Go body is entered")) := by simpa using hi
    rw [hi]
    exact okBody3
  · cases hd
theorem ok3B (args : Array Value) : okFrame (barP Try.prog) (Frame.enter (barP Try.prog) 3 args .normal) := by
  letI : Inhabited Junk := noJunk
  rw [enter3]
  refine ⟨fun i hi => ?_, fun d hd => (ok3 args).2 d hd⟩
  have h := (ok3 args).1 i hi
  have hi : i = .code (Try.f3.body.getD (.refuse "unsupported: a function without a Go body is entered")) := by
    unfold Frame.enter at hi
    rw [Try.func3] at hi
    simpa using hi
  rw [hi]
  show okCode (barP Try.prog) _ = true
  rw [show ∀ c, okCode (barP Try.prog) c = okCode (bar Try.prog (barF Try.prog)) c from fun _ => rfl, okCode_bar]
  exact okBody3
set_option maxRecDepth 100000 in
theorem sound_runT (t : TypeId) {W : World} {gl ol lc gd od dc gs os sc : Nat} {la da sa : Option Addr} {L S : List Int} {D : List (Int × Int)} (hLl : L.length ≤ 9223372036854775807) (hL : Byte8 L) (hS : Byte8 S) (hSl : S.length ≤ 9223372036854775807) (hDl : D.length ≤ 9223372036854775807)
    (hB : Bytes W la gl ol L) (hBS : Bytes W sa gs os S) (hD : Dirs W da gd od D) (hI : ∀ i, i < D.length → I64 (D.getD i (0, 0)).1 ∧ I64 (D.getD i (0, 0)).2) (hcap : D.length ≤ dc) :
    ∃ M last o w' t', runNT Try.prog (M + 1) (solo (G (Frame.enter Try.prog 3 #[.slice la L.length lc, .slice da D.length dc, .slice sa S.length sc] .normal) []) W) #[] = (.ended o w', t') ∧ runN Try.prog M (solo (G (Frame.enter Try.prog 3 #[.slice la L.length lc, .slice da D.length dc, .slice sa S.length sc] .normal) []) W) = .next last ∧
      step Try.prog last = .ended o w' ∧ Go.Conc.Good Try.prog (PostT t W) last o w' t' := by
  obtain ⟨s1, s8⟩ := sideB_le L.length
  have hfit : FitB (barP Try.prog) (Frame.enter (barP Try.prog) 3 #[.slice la L.length lc, .slice da D.length dc, .slice sa S.length sc] .normal) [] (clean t W) := ⟨ok3B _, fun f hf => (by cases hf), fun r o h => clean_kind _ t W r o h, rfl⟩
  have hg : ∃ r, GoesW (bar Try.prog (barF Try.prog)) r (Pieces 3 (Post3 (clean t W)) (Post3g (clean t W))) (Frame.enter Try.prog 3 #[.slice la L.length lc, .slice da D.length dc, .slice sa S.length sc] .normal) [] (clean t W) := by
    refine ⟨(barF Try.prog).size, ?_⟩
    rw [← enter3]
    by_cases hG : GoodDirs D
    · exact good_goes rfl s1 s8 hLl hL hS hSl (clean_bytes hB) (clean_bytes hBS) (clean_dirs hD) hI hcap hG hfit
    · exact bad_goes rfl s1 s8 hLl hL (clean_bytes hB) (clean_dirs hD) hDl hI hcap hG hfit
  letI : Inhabited Junk := keepJunk W
  refine law_run (i := 6) (fn := Try.f3) Try.func3 rfl (by kernel_rfl) (clean_sib t W) (ok3 _) hg ?_ ?_
  · rintro fr w v ⟨h6, hlow⟩ hs h1 h2 h3
    exact ⟨h6, h1, h2, h3, fun k hk => kept_of hs id (hlow k (by rw [clean_size]; exact hk))⟩
  · rintro g fr w v ⟨hgs, h6, hlow⟩ hs h1 h2 h3
    rw [clean_size] at hgs
    exact ⟨h6, h1, h2, h3, fun k hk => kept_of hs (fun e : k = g => by omega) (hlow k (by rw [clean_size]; exact hk))⟩
/-- ████ BoundSound, ON EVERY SCHEDULE. ████ -/
theorem sound_run {W : World} {gl ol lc gd od dc gs os sc : Nat} {la da sa : Option Addr} {L S : List Int} {D : List (Int × Int)} (hLl : L.length ≤ 9223372036854775807) (hL : Byte8 L) (hS : Byte8 S) (hSl : S.length ≤ 9223372036854775807) (hDl : D.length ≤ 9223372036854775807)
    (hB : Bytes W la gl ol L) (hBS : Bytes W sa gs os S) (hD : Dirs W da gd od D) (hI : ∀ i, i < D.length → I64 (D.getD i (0, 0)).1 ∧ I64 (D.getD i (0, 0)).2) (hcap : D.length ≤ dc) :
    ∃ M last o w' t', runNT Try.prog (M + 1) (solo (G (Frame.enter Try.prog 3 #[.slice la L.length lc, .slice da D.length dc, .slice sa S.length sc] .normal) []) W) #[] = (.ended o w', t') ∧ runN Try.prog M (solo (G (Frame.enter Try.prog 3 #[.slice la L.length lc, .slice da D.length dc, .slice sa S.length sc] .normal) []) W) = .next last ∧
      step Try.prog last = .ended o w' ∧ Go.Conc.Good Try.prog (fun v w' => v = .bool true ∧ Below W.heap.size W w') last o w' t' := by
  obtain ⟨M, last, o, w', t', h1, h2, h3, v, e, ⟨a, b⟩, c⟩ := run_both (sound_runT 0 (lc := lc) (sc := sc) hLl hL hS hSl hDl hB hBS hD hI hcap) (sound_runT 1 (lc := lc) (sc := sc) hLl hL hS hSl hDl hB hBS hD hI hcap)
  exact ⟨M, last, o, w', t', h1, h2, h3, v, e, both_kept a b, c⟩
end Go.Proofs.Ythbghcebcahlnaa

namespace Go.Proofs.Ythbghcebcahlnaa
open Go.ChangeShapes Go.WideShapes Go.ChangeAt Go.RowKit

theorem i64_bounds {x : Int} (h : (Lit.int .i64 x).wf = true) : I64 x := by
  have h' : (decide (-9223372036854775808 ≤ x) && decide (x ≤ 9223372036854775807)) = true := h
  unfold I64
  simpa using h'

section
variable {H : Type} {enc : TypeId × Value → H} {P : Program} {w : World} {base : Nat} {spare : Nat → Bool} {held : Bool}

theorem size2 {cs : Array Value} (h : cs.size = 2) : ∃ x y, cs = #[x, y] := by
  obtain ⟨l⟩ := cs
  match l, h with
  | [x, y], _ => exact ⟨x, y, rfl⟩

theorem open_pair {r : Reach} {b0 : Nat} {t : TypeId} {f0 f1 : Field} {k : IntKind} {v : Value} {d : DataW H} {p : List MemPlace} (ht : P.underlying t = some (.struct #[f0, f1])) (h0 : P.underlying f0.type = some (.int k)) (h1 : P.underlying f1.type = some (.int k))
    (hC : P.cellsOf t = 2) (o0 : f0.offset = 0) (o1 : f1.offset = 1) (c0 : P.cellsOf f0.type = 1) (c1 : P.cellsOf f1.type = 1)
    (hv : Value.okWide P w r b0 t v) (h : DataW.Trod enc P w base spare held t v d p) :
    ∃ x y, v = .agg #[.int k x, .int k y] ∧ d = .agg [.lit (.int k x), .lit (.int k y)] ∧ p = [] ∧ (Lit.int k x).wf = true ∧ (Lit.int k y).wf = true := by
  simp only [Value.okWide, ht] at hv
  obtain ⟨cs, rfl, hsz, _⟩ := hv
  obtain ⟨v0, v1, rfl⟩ := size2 (hsz.trans hC)
  obtain ⟨fuel, hf⟩ := h
  obtain ⟨y0, y1, n, hx, _, t0, t1⟩ := trod_struct2 ht hf
  rw [o0, c0] at t0
  rw [o1, c1] at t1
  simp [Value.cells] at t0 t1
  obtain ⟨x, e0, rfl, w0⟩ := DataW.trod_int h0 t0
  obtain ⟨y, e1, rfl, w1⟩ := DataW.trod_int h1 t1
  simp at e0 e1
  subst e0 e1
  simp at hx
  exact ⟨x, y, rfl, hx.1, hx.2, w0, w1⟩

theorem shut_pair {t : TypeId} {f0 f1 : Field} {k : IntKind} {x y : Int} (ht : P.underlying t = some (.struct #[f0, f1])) (h0 : P.underlying f0.type = some (.int k)) (h1 : P.underlying f1.type = some (.int k))
    (hC : P.cellsOf t = 2) (o0 : f0.offset = 0) (o1 : f1.offset = 1) (c0 : P.cellsOf f0.type = 1) (c1 : P.cellsOf f1.type = 1) (wx : (Lit.int k x).wf = true) (wy : (Lit.int k y).wf = true) :
    DataW.Trod enc P w base spare held t (.agg #[.int k x, .int k y]) (.agg [.lit (.int k x), .lit (.int k y)]) [] := by
  refine ⟨2, ?_⟩
  have := trod_struct2_mk (enc := enc) (w := w) (base := base) (spare := spare) (held := held) (n := 1) (cs := [.int k x, .int k y]) (y0 := (.lit (.int k x), [])) (y1 := (.lit (.int k y), [])) ht (by rw [hC]; rfl)
    (by rw [o0, c0]; exact trod_int_mk 0 h0 wx) (by rw [o1, c1]; exact trod_int_mk 0 h1 wy)
  exact this
end

theorem cellsDir : (barP Try.prog).cellsOf 47 = 2 := by kernel_rfl
theorem cellsInt : (barP Try.prog).cellsOf 3 = 1 := by kernel_rfl
end Go.Proofs.Ythbghcebcahlnaa
