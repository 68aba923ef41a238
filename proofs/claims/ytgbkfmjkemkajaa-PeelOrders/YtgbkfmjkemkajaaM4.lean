/- The first statement's walk: forms, order, the direction across. Slices of directions; two of them alike. A direction that came in, as the walk wants it. A map of directions to nothing; the program's own Katz. -/
import Derived.Test.YtgbkfmjkemkajaaM1
import Derived.Deep.RegionHeld3
import Derived.Test.YtgbkfmjkemkajaaM2
import Derived.OpenShut
import Derived.ChangeOld
import Derived.ChangeSame
import Derived.MapViews
import Derived.DeepKeys4
import Derived.Maps.OwnSet
import Derived.Maps.OwnOps
namespace Go.Proofs.Ytgbkfmjkemkajaa
open Go.RowKit

theorem fix_normal : normalS (-4) (-6) = ((2, 3), 0) := by decide +kernel
theorem fix_check : checkS 0 0 = 60 := by decide +kernel

theorem below_on {w0 w w' : World} (h : Below w0.heap.size w0 w) (hb : Below w.heap.size w w') : Below w0.heap.size w0 w' := h.trans (hb.mono h.size)
theorem below_alloc (w : World) (o : Obj) : Below w.heap.size w (w.alloc o) := (Below.refl _ _).alloc (Nat.le_refl _) _

/-- A direction in a box of its own. -/
structure BoxD (w : World) (b : Nat) (x y : Int) : Prop where
  one : w.cell? ⟨b, 0, none⟩ = some (.int .i64 x)
  two : w.cell? ⟨b, 1, none⟩ = some (.int .i64 y)
  lt : b < w.heap.size

theorem boxD_below {w w' : World} {b : Nat} {x y : Int} (h : BoxD w b x y) (hb : Below w.heap.size w w') : BoxD w' b x y :=
  ⟨(hb.cell h.lt).trans h.one, (hb.cell h.lt).trans h.two, Nat.lt_of_lt_of_le h.lt hb.size⟩
theorem boxD_new (w : World) (x y : Int) : BoxD (w.alloc (.cells #[.int .i64 x, .int .i64 y] 35)) w.heap.size x y := ⟨by simp [go_sem], by simp [go_sem], by simp⟩

end Go.Proofs.Ytgbkfmjkemkajaa

namespace Go.Proofs.Ytgbkfmjkemkajaa
open Go.RowKit

/-- A slice of directions in memory. -/
structure Dirs (w : World) (a : Option Addr) (g o : Nat) (L : List (Int × Int)) : Prop where
  at_ : 0 < L.length → a = some ⟨g, o, none⟩ ∧ g < w.heap.size
  cell : ∀ i c, L[i]? = some c → w.cell? ⟨g, o + i * 2, none⟩ = some (.int .i64 c.1) ∧ w.cell? ⟨g, o + i * 2 + 1, none⟩ = some (.int .i64 c.2)

theorem dirs_below {w w' : World} {a : Option Addr} {g o : Nat} {L : List (Int × Int)} (h : Dirs w a g o L) (hb : Below w.heap.size w w') : Dirs w' a g o L := by
  refine ⟨fun hl => ⟨(h.at_ hl).1, Nat.lt_of_lt_of_le (h.at_ hl).2 hb.size⟩, fun i c hi => ?_⟩
  have hl : 0 < L.length := by
    have := (List.getElem?_eq_some_iff.1 hi).1
    omega
  exact ⟨(hb.cell (h.at_ hl).2).trans (h.cell i c hi).1, (hb.cell (h.at_ hl).2).trans (h.cell i c hi).2⟩

theorem dirs_owns {w : World} {B : Nat} {v : Value} {L : List (Int × Int)} (h : w.ownsRow B 35 2 v L.length (flat2 L)) : ∃ a cap g, v = .slice a L.length cap ∧ Dirs w a g 0 L := by
  rcases h.2 with ⟨h1, h2⟩ | ⟨g, cap, cur, h1, h2, h3, h4, h5, h6, h7⟩
  · refine ⟨none, 0, 0, by rw [h2]; exact h1, ⟨fun hl => by omega, fun i c hi => ?_⟩⟩
    have := (List.getElem?_eq_some_iff.1 hi).1
    omega
  · refine ⟨_, cap, g, h1, ⟨fun _ => ⟨rfl, (Array.getElem?_eq_some_iff.1 h3).1⟩, fun i c hi => ?_⟩⟩
    have hlt := (List.getElem?_eq_some_iff.1 hi).1
    obtain ⟨f1, f2⟩ := flat2_get hi
    rw [← h7, List.getElem?_take, if_pos (by omega)] at f1 f2
    rw [Nat.zero_add]
    refine ⟨?_, ?_⟩
    · simp [World.cell?, h3]
      simpa using f1
    · simp [World.cell?, h3]
      simpa using f2

theorem infoDir : (Try.prog.info? 35).map (fun i => (i.zero, i.size, i.bytes)) = some (some (.agg #[.int .i64 0, .int .i64 0]), 2, 16) := by kernel_rfl

theorem flat2_at {L : List (Int × Int)} {j : Nat} {u : Value} (h : (flat2 L)[j]? = some u) : ∃ i c, L[i]? = some c ∧ ((j = i * 2 ∧ u = .int .i64 c.1) ∨ (j = i * 2 + 1 ∧ u = .int .i64 c.2)) := by
  have hj := (List.getElem?_eq_some_iff.1 h).1
  rw [flat2_length] at hj
  obtain ⟨x, y, hc⟩ := pairs2_get (L := L) (i := j / 2) (by omega)
  obtain ⟨f1, f2⟩ := flat2_get hc
  by_cases c : j % 2 = 0
  · have e : j = j / 2 * 2 := by omega
    rw [← e, h] at f1
    exact ⟨j / 2, (x, y), hc, Or.inl ⟨e, by simpa using f1⟩⟩
  · have e : j = j / 2 * 2 + 1 := by omega
    rw [← e, h] at f2
    exact ⟨j / 2, (x, y), hc, Or.inr ⟨e, by simpa using f2⟩⟩

theorem addr_plus (g o j : Nat) : (⟨g, o, none⟩ : Addr).add j = ⟨g, o + j, none⟩ := by unfold Addr.add; split <;> simp_all

end Go.Proofs.Ytgbkfmjkemkajaa

namespace Go.Proofs.Ytgbkfmjkemkajaa
open Go.ChangeShapes Go.WideShapes Go.ChangeAt Go.RowKit

theorem i64_bounds {x : Int} (h : (Lit.int .i64 x).wf = true) : I64 x := by
  have h' : (decide (-9223372036854775808 ≤ x) && decide (x ≤ 9223372036854775807)) = true := h
  unfold I64
  simpa using h'

section
variable {H : Type} {enc : TypeId × Value → H} {P : Program} {w : World} {base : Nat} {spare : Nat → Bool} {held : Bool}

theorem size2 {cs : Array Value} (h : cs.size = 2) : ∃ x y, cs = #[x, y] := by
  obtain ⟨l⟩ := cs
  match l, h with
  | [x, y], _ => exact ⟨x, y, rfl⟩

theorem open_pair {r : Reach} {b0 : Nat} {t : TypeId} {f0 f1 : Field} {k : IntKind} {v : Value} {d : DataW H} {p : List MemPlace} (ht : P.underlying t = some (.struct #[f0, f1])) (h0 : P.underlying f0.type = some (.int k)) (h1 : P.underlying f1.type = some (.int k))
    (hC : P.cellsOf t = 2) (o0 : f0.offset = 0) (o1 : f1.offset = 1) (c0 : P.cellsOf f0.type = 1) (c1 : P.cellsOf f1.type = 1)
    (hv : Value.okWide P w r b0 t v) (h : DataW.Trod enc P w base spare held t v d p) :
    ∃ x y, v = .agg #[.int k x, .int k y] ∧ d = .agg [.lit (.int k x), .lit (.int k y)] ∧ p = [] ∧ (Lit.int k x).wf = true ∧ (Lit.int k y).wf = true := by
  simp only [Value.okWide, ht] at hv
  obtain ⟨cs, rfl, hsz, _⟩ := hv
  obtain ⟨v0, v1, rfl⟩ := size2 (hsz.trans hC)
  obtain ⟨fuel, hf⟩ := h
  obtain ⟨y0, y1, n, hx, _, t0, t1⟩ := trod_struct2 ht hf
  rw [o0, c0] at t0
  rw [o1, c1] at t1
  simp [Value.cells] at t0 t1
  obtain ⟨x, e0, rfl, w0⟩ := DataW.trod_int h0 t0
  obtain ⟨y, e1, rfl, w1⟩ := DataW.trod_int h1 t1
  simp at e0 e1
  subst e0 e1
  simp at hx
  exact ⟨x, y, rfl, hx.1, hx.2, w0, w1⟩

theorem shut_pair {t : TypeId} {f0 f1 : Field} {k : IntKind} {x y : Int} (ht : P.underlying t = some (.struct #[f0, f1])) (h0 : P.underlying f0.type = some (.int k)) (h1 : P.underlying f1.type = some (.int k))
    (hC : P.cellsOf t = 2) (o0 : f0.offset = 0) (o1 : f1.offset = 1) (c0 : P.cellsOf f0.type = 1) (c1 : P.cellsOf f1.type = 1) (wx : (Lit.int k x).wf = true) (wy : (Lit.int k y).wf = true) :
    DataW.Trod enc P w base spare held t (.agg #[.int k x, .int k y]) (.agg [.lit (.int k x), .lit (.int k y)]) [] := by
  refine ⟨2, ?_⟩
  have := trod_struct2_mk (enc := enc) (w := w) (base := base) (spare := spare) (held := held) (n := 1) (cs := [.int k x, .int k y]) (y0 := (.lit (.int k x), [])) (y1 := (.lit (.int k y), [])) ht (by rw [hC]; rfl)
    (by rw [o0, c0]; exact trod_int_mk 0 h0 wx) (by rw [o1, c1]; exact trod_int_mk 0 h1 wy)
  exact this
end

theorem cellsDir : Try.prog.cellsOf 35 = 2 := by kernel_rfl
theorem cellsInt : Try.prog.cellsOf 3 = 1 := by kernel_rfl
end Go.Proofs.Ytgbkfmjkemkajaa

namespace Go.Proofs.Ytgbkfmjkemkajaa
open Go.RowKit Go.WideShapes
open Go.Maps (Keyed)

theorem laidD : laidOutB Try.prog = true := by kernel_rfl
theorem rowDir : (35 : TypeId) < Try.prog.types.size := of_decide_eq_true (by kernel_rfl)
theorem deepDir : Try.prog.keyTypeAt (Try.prog.types.size + 1) 35 = true := by kernel_rfl
theorem wideDir : (match Try.prog.underlying 35 with | some (.array _ _) | some (.struct _) => true | _ => false) = true := by rw [Try.underlying35]
set_option maxRecDepth 100000 in
theorem lawDir : Keyed Try.prog 35 := Keyed.of_law (deep_law_laid laidD (m := 2) (by omega) rowDir (by kernel_rfl) wideDir)
theorem formedDir {c0 c1 : Value} : (Value.agg #[c0, c1]).formed Try.prog 35 = true := by simp [Value.formed, Try.underlying35, cellsDir]
theorem zeroNone (w : World) : (zeroValue 74).run Try.prog w = .ok (.agg #[]) w := by kernel_rfl

def keyD (c : Int × Int) : Lit := (DataW.agg [.lit (.int .i64 c.1), .lit (.int .i64 c.2)] : DataW Unit).asKey
theorem i64_wfD {x : Int} (h : I64 x) : (Lit.int .i64 x).wf = true := by
  show (decide (-9223372036854775808 ≤ x) && decide (x ≤ 9223372036854775807)) = true
  unfold I64 at h
  simpa using h
set_option maxRecDepth 100000 in
theorem keyD_of {c : Int × Int} (h : Dir64 c) (w : World) : keyOf Try.prog 35 (.agg #[.int .i64 c.1, .int .i64 c.2]) = some (keyD c) :=
  (keyOf_asKey (enc := fun _ => ()) (w := w) (base := 0) (sp := fun _ => true) (held := true) deepDir wideDir formedDir
    (shut_pair Try.underlying35 Try.underlying3 Try.underlying3 cellsDir rfl rfl cellsInt cellsInt (i64_wfD h.one) (i64_wfD h.two))).1
set_option maxRecDepth 100000 in
theorem keyD_inj {c d : Int × Int} (hc : Dir64 c) (hd : Dir64 d) (w : World) (h : keyD c = keyD d) : c = d := by
  have e := lawDir.inj (keyD_of hc w) (h ▸ keyD_of hd w)
  obtain ⟨c1, c2⟩ := c
  obtain ⟨d1, d2⟩ := d
  simp at e
  simp [e.1, e.2]

/-- How a value of no cell reads. -/
def noneR (v : Value) : Option (DataW Unit × List MemPlace) :=
  match v with
  | .agg vs => if vs.size = 0 then some (.lit (.bool true), []) else none
  | _ => none
theorem noneR_inv {v : Value} {z : DataW Unit × List MemPlace} (h : noneR v = some z) : v = .agg #[] := by
  unfold noneR at h
  split at h
  · rename_i vs
    split at h
    · rename_i hs
      rw [Array.eq_empty_of_size_eq_zero hs]
    · cases h
  · cases h

/-- Block b holds a map whose keys are the directions of S. -/
def MapD (w : World) (b : Nat) (S : List (Int × Int)) : Prop :=
  ∃ (D : DataW Unit) (n : Nat), w.ownsMap Try.prog 35 noneR b n D ∧ n ≤ S.length ∧ ∀ c, Dir64 c → Maps.has D (keyD c) = decide (c ∈ S)

theorem mapD_made (w : World) : MapD (w.alloc (.map #[] 0)) w.heap.size [] :=
  ⟨.map [], 0, World.ownsMap_made w _ _ _, Nat.le_refl _, fun c _ => by simp [Maps.has]⟩
theorem MapD.lt {w : World} {b : Nat} {S : List (Int × Int)} (h : MapD w b S) : b < w.heap.size := by
  obtain ⟨D, n, h1, _⟩ := h
  exact h1.lt
theorem MapD.below {w w' : World} {b : Nat} {S : List (Int × Int)} (h : MapD w b S) (hb : Below w.heap.size w w') : MapD w' b S := by
  obtain ⟨D, n, h1, h2⟩ := h
  exact ⟨D, n, h1.kept (row := none) ⟨hb.os, hb.tape, hb.output, hb.size, fun k hk _ => hb.block k hk⟩ (by simp), h2⟩
theorem MapD.look {w : World} {b : Nat} {S : List (Int × Int)} (h : MapD w b S) {c : Int × Int} (hc : Dir64 c) :
    (Instr.lookup 72 (.map (some b)) (.agg #[.int .i64 c.1, .int .i64 c.2]) true).run Try.prog w = .ok (.tuple #[.agg #[], .bool (decide (c ∈ S))]) w := by
  obtain ⟨D, n, h1, h2, h3⟩ := h
  obtain ⟨v, ps, e1, e2⟩ := h1.look_ok lawDir Try.underlying72 (zeroNone w) (zd := .lit (.bool true)) (zp := []) rfl (keyD_of hc w)
  rw [e1, noneR_inv e2, h3 c hc]
theorem MapD.put {w : World} {b : Nat} {S : List (Int × Int)} (h : MapD w b S) {c : Int × Int} (hc : Dir64 c) (hn : S.length < maxLen) :
    ∃ w', (Instr.mapUpdate 72 (.map (some b)) (.agg #[.int .i64 c.1, .int .i64 c.2]) (.agg #[])).run Try.prog w = .ok () w' ∧ MapD w' b (S ++ [c]) ∧ w.grownBy w' (some b) := by
  obtain ⟨D, n, h1, h2, h3⟩ := h
  obtain ⟨w', e1, e2, e3⟩ := h1.update lawDir Try.underlying72 (Nat.lt_of_le_of_lt h2 hn) (keyD_of hc w) (val := .agg #[]) (d := .lit (.bool true)) (ps := []) rfl
  have hkl := lawDir.key (keyD_of hc w)
  refine ⟨w', e1, ⟨_, _, e2, by simp; omega, fun x hx => ?_⟩, e3⟩
  by_cases e : x = c
  · subst e
    rw [Maps.has_put_same h1.isMap hkl]
    simp
  · rw [Maps.has_put_other (fun q => e (keyD_inj hx hc w q)), h3 x hx]
    simp [e]
theorem MapD.isMap {w : World} {b : Nat} {S : List (Int × Int)} (h : MapD w b S) : ∃ es clock, w.heap[b]? = some (.map es clock) := by
  obtain ⟨D, n, ⟨es, clock, h1, _⟩, _⟩ := h
  exact ⟨es, clock, h1⟩

/-- What a list of directions has shown so far. -/
structure Good (S : List (Int × Int)) : Prop where
  ok : ∀ d, d ∈ S → okD d.1 d.2 = true
  once : S.Nodup
theorem good_len {S : List (Int × Int)} (h : Good S) : S.length ≤ 561 := by
  rw [← allDirs_len]
  exact nodup_le h.once fun d hd => mem_allDirs (h.ok d hd)
theorem good_nil : Good [] := ⟨fun d h => (by cases h), List.nodup_nil⟩
theorem good_snoc {S : List (Int × Int)} {d : Int × Int} (h : Good S) (hd : okD d.1 d.2 = true) (hn : ¬ d ∈ S) : Good (S ++ [d]) := by
  refine ⟨fun x hx => ?_, ?_⟩
  · rcases List.mem_append.1 hx with hx | hx
    · exact h.ok x hx
    · rw [List.mem_singleton.1 hx]
      exact hd
  · rw [List.nodup_append]
    refine ⟨h.once, by simp, fun a ha b hb => ?_⟩
    rw [List.mem_singleton.1 hb]
    exact fun e => hn (e ▸ ha)
theorem take_snoc {L : List (Int × Int)} {i : Nat} {d : Int × Int} (hd : L[i]? = some d) : L.take (i + 1) = L.take i ++ [d] := by
  have hi := (List.getElem?_eq_some_iff.1 hd).1
  rw [List.take_succ_eq_append_getElem hi, (List.getElem?_eq_some_iff.1 hd).2]
theorem twice_go {L : List (Int × Int)} {i : Nat} {d : Int × Int} (hd : L[i]? = some d) (h : okD d.1 d.2 = true) : twiceFrom (L.take i) (L.drop i) = if d ∈ L.take i then 3 else twiceFrom (L.take (i + 1)) (L.drop (i + 1)) := by
  have hi := (List.getElem?_eq_some_iff.1 hd).1
  have e := (List.getElem?_eq_some_iff.1 hd).2
  rw [take_snoc hd, List.drop_eq_getElem_cons hi, e]
  show (if okD d.1 d.2 then (if d ∈ L.take i then 3 else twiceFrom (L.take i ++ [d]) (L.drop (i + 1))) else 60) = _
  rw [if_pos h]

/-- What is known of the memory ahead of a round. -/
structure KatzR (w wr : World) (b : Nat) (L : List (Int × Int)) (i : Nat) : Prop where
  map : MapD wr b (L.take i)
  good : Good (L.take i)
  twice : twiceFrom (L.take i) (L.drop i) = twiceS L
  below : Below w.heap.size w wr

set_option maxHeartbeats 6400000 in
theorem dirKatz {n : Int} {L : List (Int × Int)} {a : Option Addr} {cap g o : Nat} (hN : L.length ≤ 9223372036854775807) (hA : All64 L) (w : World) (h : Dirs w a g o L) :
    Calls Try.prog 12 #[.int .i64 n, .slice a L.length cap] w fun e w' => e = .returned (.tuple #[.bool (katzS n L).1, .int .i64 (katzS n L).2]) ∧ Below w.heap.size w w' := by
  have ks := hide (fun w => sideAny (n := n) w)
  by_cases c1 : n < 1 ∨ 64 < n
  · have hS : Hid (katzS n L = (false, 1)) := by show _ = _; unfold katzS; rw [if_pos c1]
    rw [decide_eq_false (by omega : ¬ (1 ≤ n ∧ n ≤ 64))] at ks
    generalize katzS n L = r at hS ⊢
    clear c1 h hA
    generalize L.length = N at *
    go_enter Try.func12, Try.ntmps12
    go_wp2_with fail
    refine (unhide ks _).mono ?_
    rintro e w1 ⟨rfl, rfl⟩
    go_wp2_with fail
    go_ret2
    exact ⟨by rw [unhide hS]; rfl, Below.refl _ _⟩
  · rw [decide_eq_true (by omega : 1 ≤ n ∧ n ≤ 64)] at ks
    have hS : Hid (katzS n L = if twiceS L ≠ 0 then (false, twiceS L) else (decide (n ≤ sumP L ∨ n ≤ sumQ L), 0)) := by show _ = _; unfold katzS; rw [if_neg c1]
    have H := hide h
    have hA := hide hA
    have hen := hide (twice_end (L := L))
    have hbd := hide (fun i d => twice_bad (L := L) (i := i) (d := d))
    have hgo := hide (fun i d => twice_go (L := L) (i := i) (d := d))
    have hsn := hide (fun i d => take_snoc (L := L) (i := i) (d := d))
    have h0 : Hid (twiceFrom (L.take 0) (L.drop 0) = twiceS L) := rfl
    have hat := hide (fun i (hi : i < L.length) => pairs2_get (L := L) hi)
    have hall : Hid (L.take L.length = L) := List.take_length
    have r1 : 1 ≤ n := by omega
    have r2 : n ≤ 64 := by omega
    generalize katzS n L = r at hS ⊢
    generalize hNN : L.length = N at *
    clear h c1 hNN
    go_enter Try.func12, Try.ntmps12
    go_wp2_with fail
    refine (unhide ks _).mono ?_
    rintro e w1 ⟨rfl, hw1⟩
    obtain rfl := hw1.symm
    have hmk := @run_makeMap Try.prog
    go_wp2_with fail
    clear hmk
    have hM0 : Hid (KatzR w (w.alloc (.map #[] 0)) w.heap.size L 0) := ⟨mapD_made w, good_nil, unhide h0, (Below.refl _ _).alloc (Nat.le_refl _) _⟩
    go_loopw [7, 8, 20] (fun pv qv iv wr => ∃ i : Nat, i ≤ N ∧ iv = .int .i64 i ∧ pv = .int .i64 (sumP (L.take i)) ∧ qv = .int .i64 (sumQ (L.take i)) ∧ Hid (KatzR w wr w.heap.size L i)) (fun _ _ iv _ => N - (intOf iv).toNat)
    case atStart => exact ⟨0, Nat.zero_le _, rfl, rfl, rfl, hM0⟩
    case round =>
      clear hM0 ks h0
      obtain ⟨i, hi, rfl, rfl, rfl, hR⟩ := hrel
      by_cases hiN : i < N
      · have qi : ((i : Int) < (N : Int)) = True := by simp; omega
        obtain ⟨P, Q, hd⟩ := unhide hat i hiN
        obtain ⟨haa, hgl⟩ := (unhide H).at_ (by have := (List.getElem?_eq_some_iff.1 hd).1; omega)
        have x1 := ((unhide hR).below.cell (p := ⟨g, o + i * 2, none⟩) hgl).trans ((unhide H).cell i _ hd).1
        have x2 := ((unhide hR).below.cell (p := ⟨g, o + i * 2 + 1, none⟩) hgl).trans ((unhide H).cell i _ hd).2
        have hD := unhide hA i _ hd
        have k := hide (fun w => dirCheck hD.one hD.two w)
        have hlk := hide (fun (w' : World) (hm : MapD w' w.heap.size (L.take i)) => hm.look hD)
        have hpt := hide (fun (w' : World) (hm : MapD w' w.heap.size (L.take i)) hl => hm.put hD hl)
        unfold dirV at k
        dsimp only at k x1 x2 hlk hpt
        rw [haa]
        cases hok : okD P Q
        · have e1 := unhide hbd i (P, Q) hd hok
          rw [checkS_bad hok] at k
          rw [(unhide hR).twice] at e1
          have e1 := hide e1
          clear hbd hgo hen hok hD hd hlk hpt hat hsn hall
          go_wp2_with fail
          refine (unhide k _).mono ?_
          rintro e w1 ⟨rfl, hb1⟩
          have hB1 : Hid (Below w.heap.size w w1) := below_on ((unhide hR).below.alloc (unhide hR).below.size _) hb1
          clear hb1 k
          go_wp2_with fail
          go_ret2
          refine ⟨?_, unhide hB1⟩
          rw [unhide hS, if_pos (by rw [unhide e1]; decide), unhide e1]
          rfl
        · have e1 := unhide hgo i (P, Q) hd hok
          rw [checkS_ok hok] at k
          rw [(unhide hR).twice] at e1
          have e1 := hide e1
          have hlen := good_len (unhide hR).good
          have hsm := sum_small (unhide hR).good.ok
          have hbz := (unhide hR).map.lt
          obtain ⟨b1, b2, b3⟩ := okD_bounds hok
          have eT := unhide hsn i (P, Q) hd
          have eP := sumP_snoc (L.take i) (P, Q)
          have eQ := sumQ_snoc (L.take i) (P, Q)
          rw [← eT] at eP eQ
          have eP := hide eP
          have eQ := hide eQ
          have hok := hide hok
          dsimp only at b1 b2 b3 eP eQ
          have t1 : 0 ≤ sumP (L.take i) ∧ sumP (L.take i) ≤ 10000 := by omega
          have t2 : 0 ≤ sumQ (L.take i) ∧ sumQ (L.take i) ≤ 10000 := by omega
          have eT := hide eT
          have hlen := hide hlen
          generalize sumP (L.take i) = sp at *
          generalize sumQ (L.take i) = sq at *
          clear hbd hgo hen hD hd hat hsn hall hsm
          go_wp2_with fail
          refine (unhide k _).mono ?_
          rintro e w1 ⟨rfl, hb1⟩
          have hB1 : Hid (Below w.heap.size w w1) := below_on ((unhide hR).below.alloc (unhide hR).below.size _) hb1
          have hM1 : Hid (MapD w1 w.heap.size (L.take i)) := ((unhide hR).map.below ((Below.refl _ _).alloc (Nat.le_refl _) _)).below hb1
          have y1 : w1.cell? ⟨wr.heap.size, 0, none⟩ = some (.int .i64 P) := by rw [hb1.cell (by simp)]; simp [go_sem]
          have y2 : w1.cell? ⟨wr.heap.size, 1, none⟩ = some (.int .i64 Q) := by rw [hb1.cell (by simp)]; simp [go_sem]
          have hz1 : wr.heap.size < w1.heap.size := by
            have := hb1.size
            simp at this
            omega
          have hl := unhide hlk w1 (unhide hM1)
          clear hb1 k x1 x2 hlk
          by_cases c2 : (P, Q) ∈ L.take i
          · rw [decide_eq_true c2] at hl
            rw [if_pos c2] at e1
            clear c2 hpt
            go_wp2_with fail
            go_ret2
            refine ⟨?_, (unhide hB1).alloc (unhide hB1).size _⟩
            rw [unhide hS, if_pos (by rw [unhide e1]; decide), unhide e1]
            rfl
          · rw [decide_eq_false c2] at hl
            rw [if_neg c2] at e1
            have c2 := hide c2
            obtain ⟨w3, hput, hM3, hgr⟩ := unhide hpt (w1.alloc (.cells #[] 74)) ((unhide hM1).below ((Below.refl _ _).alloc (Nat.le_refl _) _)) (by have := unhide hlen; unfold maxLen; omega)
            have hM3 := hide hM3
            have hB3 : Hid (Below w.heap.size w w3) := ((unhide hB1).alloc (unhide hB1).size _).grown hgr (by simp; omega) (fun k hk => by cases hk; exact Nat.le_refl _)
            have hblk : w3.heap[wr.heap.size]? = w1.heap[wr.heap.size]? := (hgr.block wr.heap.size (by simp; omega) (fun e => by simp at e; omega)).trans (Below.heap_alloc _ _ _ hz1)
            have y3 := (World.cell?_of_block (a := ⟨wr.heap.size, 0, none⟩) hblk).trans y1
            have y4 := (World.cell?_of_block (a := ⟨wr.heap.size, 1, none⟩) hblk).trans y2
            have hN : Hid (KatzR w w3 w.heap.size L (i + 1)) := ⟨by rw [unhide eT]; exact unhide hM3, by rw [unhide eT]; exact good_snoc (unhide hR).good (unhide hok) (unhide c2), (unhide e1).symm, unhide hB3⟩
            clear hgr hblk hM3 hB3 hM1 hB1 hR hpt e1
            by_cases c3 : P < 0
            · have b4 : -16 ≤ P := by omega
              have q5 : (P < -P) = True := by simp; omega
              have q6 : (-P < P) = False := by simp; omega
              have e3 : ((P.natAbs : Nat) : Int) = -P := by omega
              rw [e3] at eP
              clear b1 e3
              go_wp2_with fail
              exact ⟨⟨i + 1, hiN, by go_num, by rw [unhide eP], by rw [unhide eQ], hN⟩, by simp [intOf]; omega⟩
            · have b4 : 0 ≤ P := by omega
              have b5 : P ≤ 16 := by omega
              have q5 : (P < -P) = False := by simp; omega
              have q6 : (-P ≤ P) = True := by simp; omega
              have e3 : ((P.natAbs : Nat) : Int) = P := by omega
              rw [e3] at eP
              clear b1 e3
              go_wp2_with fail
              exact ⟨⟨i + 1, hiN, by go_num, by rw [unhide eP], by rw [unhide eQ], hN⟩, by simp [intOf]; omega⟩
      · have qi : ((i : Int) < (N : Int)) = False := by simp; omega
        have e : i = N := by omega
        subst e
        have e1 := (unhide hR).twice
        rw [unhide hen] at e1
        have e1 := hide e1
        have hB := hide (unhide hR).below
        rw [unhide hall]
        generalize sumP L = sp at *
        generalize sumQ L = sq at *
        have hd : ((n ≤ sp) = True) ∨ ((n ≤ sp) = False ∧ (n ≤ sq) = True) ∨ ((n ≤ sp) = False ∧ (n ≤ sq) = False) := by
          by_cases d1 : n ≤ sp
          · exact Or.inl (by simp; omega)
          · by_cases d2 : n ≤ sq
            · exact Or.inr (Or.inl ⟨by simp; omega, by simp; omega⟩)
            · exact Or.inr (Or.inr ⟨by simp; omega, by simp; omega⟩)
        clear hbd hgo hen hat hsn hall hR
        rcases hd with d1 | ⟨d1, d2⟩ | ⟨d1, d2⟩
        all_goals
          go_wp2_with fail
          go_ret2
          refine ⟨?_, unhide hB⟩
          rw [unhide hS, if_neg (by rw [← unhide e1]; simp)]
          simp [*]
end Go.Proofs.Ytgbkfmjkemkajaa
