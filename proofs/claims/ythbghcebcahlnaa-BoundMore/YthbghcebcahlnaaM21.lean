/- The document's Certain. Which cells are certain, and how wide bounds are: the walk. The landed sweep: the sum over a line. The landed look at lists of levels. -/
import Derived.Test.YthbghcebcahlnaaM20
import Derived.Laws.AppendOwn
import Derived.Shelf.Abstract
namespace Go.Proofs.Ythbghcebcahlnaa
open Go.RowKit

structure BoolsAt (w : World) (a : Option Addr) (g o : Nat) (L : List Bool) : Prop where
  at_ : 0 < L.length → a = some ⟨g, o, none⟩ ∧ g < w.heap.size
  cell : ∀ i c, L[i]? = some c → w.cell? ⟨g, o + i, none⟩ = some (.bool c)
def Bools (w : World) (v : Value) (L : List Bool) : Prop := ∃ a cap g o, v = .slice a L.length cap ∧ BoolsAt w a g o L

theorem bools_below {w w' : World} {v : Value} {L : List Bool} (h : Bools w v L) (hb : Below w.heap.size w w') : Bools w' v L := by
  obtain ⟨a, cap, g, o, h1, h2⟩ := h
  refine ⟨a, cap, g, o, h1, ⟨fun hl => ⟨(h2.at_ hl).1, Nat.lt_of_lt_of_le (h2.at_ hl).2 hb.size⟩, fun i c hi => ?_⟩⟩
  have hl : 0 < L.length := by
    have := (List.getElem?_eq_some_iff.1 hi).1
    omega
  exact (hb.cell (p := ⟨g, o + i, none⟩) (h2.at_ hl).2).trans (h2.cell i c hi)

def certK (A B : List Int) (k : Nat) : List Bool := (List.range k).map fun i => A.getD i 0 == B.getD i 0
def certL (A B : List Int) : List Bool := certK A B (min A.length B.length)
def boolsV (L : List Bool) : List Value := L.map Value.bool

theorem certK_len (A B : List Int) (k : Nat) : (certK A B k).length = k := by simp [certK]
theorem certK_snoc (A B : List Int) (k : Nat) : certK A B (k + 1) = certK A B k ++ [A.getD k 0 == B.getD k 0] := by
  unfold certK
  rw [List.range_succ, List.map_append]
  rfl

theorem bools_own {w : World} {B : Nat} {v : Value} {L : List Bool} (h : w.ownsRow B 4 1 v L.length (boolsV L)) : Bools w v L := by
  rcases h.2 with ⟨h1, h2⟩ | ⟨g, cap, cur, h1, hb, hg, hnc, hcm, hcs, htake⟩
  · have : L = [] := List.eq_nil_of_length_eq_zero h2
    subst this
    exact ⟨none, 0, 0, 0, h1, ⟨fun h => absurd h (by simp), fun i c h => by simp at h⟩⟩
  · refine ⟨_, cap, g, 0, h1, ⟨fun _ => ⟨rfl, (Array.getElem?_eq_some_iff.1 hg).1⟩, fun i c hi => ?_⟩⟩
    have hlt := (List.getElem?_eq_some_iff.1 hi).1
    have e : (boolsV L)[i]? = some (.bool c) := by unfold boolsV; rw [List.getElem?_map, hi]; rfl
    rw [← htake, List.getElem?_take, if_pos (by omega)] at e
    rw [Nat.zero_add]
    simp [World.cell?, hg]
    simpa using e

/-- append to a list of the call's own, as one step of a region that draws. -/
theorem step_append_own {P : Program} {ops : Array Oper} {o : Oper} {a : Act} {w : World} {K : Act → World → Prop} {Q : Exit → Act → World → Prop} {E : Prop}
    (hgd : o.guard = none) (s x : Operand) (t : TypeId) (ho : o.op = Op.call { callee := Callee.builtin Builtin.append, args := #[s, x], argTypes := #[t, t] })
    (base : Nat) (e : TypeId) (i : TypeInfo) (z : Value) (size bytes : Nat) (ht : P.underlying t = some (.slice e)) (hi : P.info? e = some i) (hz : i.zero = some z)
    (hsize : i.size = size) (hby : i.bytes = bytes) (hzs : z.cells.size = size) (hsz : 0 < size)
    (v : Value) (n : Nat) (xs : List Value) (hs : a.eval s = v) (hown : w.ownsRow base e size v n xs)
    (ad : Addr) (m c : Nat) (news : List Value) (hx : a.eval x = .slice (some ad) m c) (hl : news.length = m * size) (hnews : ∀ j u, news[j]? = some u → w.cell? (ad.add j) = some u) (h1 : ∀ u ∈ news, u.oneCell' = true)
    (h63 : n + m ≤ maxLen) (hbytes : (n + m) * bytes ≤ 140737488355328) (hbase : base ≤ w.heap.size)
    (h : ∀ v' w', w'.ownsRow base e size v' (n + m) (xs ++ news) → w.grownBy w' v.ownBlock → K (a.put o.dst v') w') :
    if Region.wanted o (yielded ops a.tmps) = true then Oper.wp P o a w K Q else E := by
  have hw : Region.wanted o (yielded ops a.tmps) = true := by simp [Region.wanted, hgd]
  rw [if_pos hw]
  obtain ⟨v', w', hr, h2, h3, _⟩ := run_append_own (P := P) w base t o.type e i z size bytes ht hi hz hsize hby hzs hsz v n xs hown ad m c news hl hnews h1 h63 hbytes hbase
  unfold Oper.wp execOp
  simp only [ho, resolve, invoke, builtin, Sem.run_bind, Sem.run_pure, Result.andThen_ok, List.map_toArray, List.map_cons, List.map_nil, hs, hx, hr]
  exact h v' w' h2 h3

theorem one_new (w : World) (x : Value) (t : TypeId) : ∀ j u, [x][j]? = some u → (w.alloc (.cells #[x] t)).cell? ((⟨w.heap.size, 0, none⟩ : Addr).add j) = some u := by
  intro j u hj
  match j, hj with
  | 0, hj =>
    simp at hj
    subst hj
    simp [Addr.add]

def CertOk (f : Nat) : Prop := ∀ (A B : List Int) (u v : Value) (w : World), A.length ≤ 70368744177664 → B.length ≤ 70368744177664 → Ints w u A → Ints w v B →
  Calls (barP Try.prog) f #[u, v] w fun e w' => ∃ x, e = .returned x ∧ Bools w' x (certL A B) ∧ Below w.heap.size w w'

end Go.Proofs.Ythbghcebcahlnaa

namespace Go.Proofs.Ythbghcebcahlnaa
open Go.RowKit

theorem BoolsAt.get {w : World} {a : Option Addr} {g o : Nat} {L : List Bool} (h : BoolsAt w a g o L) {i : Nat} (hi : i < L.length) : w.cell? ⟨g, o + i, none⟩ = some (.bool (L.getD i false)) := by
  refine h.cell i _ ?_
  rw [List.getD_eq_getElem?_getD, List.getElem?_eq_getElem hi]
  rfl

def AliveOk : Prop := ∀ w : World, Calls (barP Try.prog) 5 #[] w fun e w' => e = .returned (.bool true) ∧ Below w.heap.size w w'

section
variable {w6 W W' : World} {b : Nat} {x y : Value}
theorem held_keep (hb : b < w6.heap.size) (h : W.cell? ⟨b, 0, none⟩ = some x ∧ W.cell? ⟨b, 1, none⟩ = some y ∧ Hid (Below w6.heap.size w6 W)) (k : Hid (Below W.heap.size W W')) :
    W'.cell? ⟨b, 0, none⟩ = some x ∧ W'.cell? ⟨b, 1, none⟩ = some y ∧ Hid (Below w6.heap.size w6 W') := by
  have hs := (unhide h.2.2).size
  have k := unhide k
  exact ⟨(k.cell (p := ⟨b, 0, none⟩) (by show b < _; omega)).trans h.1, (k.cell (p := ⟨b, 1, none⟩) (by show b < _; omega)).trans h.2.1, (unhide h.2.2).trans (k.mono hs)⟩
theorem held_drew (h : W.cell? ⟨b, 0, none⟩ = some x ∧ W.cell? ⟨b, 1, none⟩ = some y ∧ Hid (Below w6.heap.size w6 W)) : W.drew.cell? ⟨b, 0, none⟩ = some x ∧ W.drew.cell? ⟨b, 1, none⟩ = some y ∧ Hid (Below w6.heap.size w6 W.drew) :=
  ⟨h.1, h.2.1, (unhide h.2.2).drew⟩
theorem same_held {u v : Value} {L : List Int} (h : W.cell? ⟨b, 0, none⟩ = some x ∧ W.cell? ⟨b, 1, none⟩ = some y ∧ Hid (Below w6.heap.size w6 W)) (hL : L.length ≤ 9223372036854775807) (hu : Hid (Ints w6 u L)) (hv : Hid (Ints w6 v L)) :
    Calls (barP Try.prog) 12 #[u, v] W fun e w' => e = .returned (.bool true) ∧ Below W.heap.size W w' :=
  sameYes hL W (ints_below (unhide hu) (unhide h.2.2)) (ints_below (unhide hv) (unhide h.2.2))
theorem width_held {f : Nat} {u v : Value} {A B : List Int} (hW : Hid (WidthOk f)) (h : W.cell? ⟨b, 0, none⟩ = some x ∧ W.cell? ⟨b, 1, none⟩ = some y ∧ Hid (Below w6.heap.size w6 W)) (lA : A.length ≤ 9223372036854775807) (lB : B.length ≤ 9223372036854775807) (hu : Hid (Ints w6 u A)) (hv : Hid (Ints w6 v B)) :
    Calls (barP Try.prog) f #[u, v] W fun e w' => e = .returned (.int .i64 (widS A B)) ∧ Below W.heap.size W w' :=
  unhide hW A B u v W lA lB (ints_below (unhide hu) (unhide h.2.2)) (ints_below (unhide hv) (unhide h.2.2))
end

theorem wide_len (n : Int) : (wideLo n).length ≤ 9223372036854775807 ∧ (wideHi n).length ≤ 9223372036854775807 := by
  unfold wideLo wideHi
  by_cases h : n < 1 ∨ 16 < n
  · rw [if_pos h, if_pos h]
    exact ⟨Nat.zero_le _, Nat.zero_le _⟩
  · rw [if_neg h, if_neg h, List.length_replicate, List.length_replicate]
    have : n.toNat * n.toNat ≤ 16 * 16 := Nat.mul_le_mul (by omega) (by omega)
    omega

end Go.Proofs.Ythbghcebcahlnaa

namespace Go.Proofs.Ythbghcebcahlnaa
open Go.RowKit

/-- All but two blocks lie as they lay. -/
structure Off (gl gh : Nat) (w w' : World) : Prop where
  os : w'.os = w.os
  tape : w'.tape = w.tape
  output : w'.output = w.output
  size : w.heap.size ≤ w'.heap.size
  block : ∀ x, x < w.heap.size → x ≠ gl → x ≠ gh → w'.heap[x]? = w.heap[x]?
theorem Off.refl (gl gh : Nat) (w : World) : Off gl gh w w := ⟨rfl, rfl, rfl, Nat.le_refl _, fun _ _ _ _ => rfl⟩
theorem Off.trans {gl gh : Nat} {a b c : World} (h : Off gl gh a b) (k : Off gl gh b c) : Off gl gh a c :=
  ⟨k.os.trans h.os, k.tape.trans h.tape, k.output.trans h.output, Nat.le_trans h.size k.size, fun i hi h1 h2 => (k.block i (Nat.lt_of_lt_of_le hi h.size) h1 h2).trans (h.block i hi h1 h2)⟩
theorem Off.below {gl gh : Nat} {w w' : World} (h : Below w.heap.size w w') : Off gl gh w w' := ⟨h.os, h.tape, h.output, h.size, fun i hi _ _ => h.block i hi⟩
theorem Off.to {gl gh B : Nat} {w w' : World} (h : Off gl gh w w') (hB : B ≤ w.heap.size) (h1 : B ≤ gl) (h2 : B ≤ gh) : Below B w w' := ⟨h.os, h.tape, h.output, h.size, fun i hi => h.block i (by omega) (by omega) (by omega)⟩
theorem Off.set {gl gh : Nat} {w w' : World} (h : Off gl gh w w') {p : Addr} (hp : p.block = gl ∨ p.block = gh) (u : Value) : Off gl gh w (w'.setCell p u) :=
  h.trans ⟨rfl, rfl, rfl, by simp [World.setCell], fun k _ h1 h2 => Below.heap_setCell _ _ _ _ (by rcases hp with hp | hp <;> omega)⟩
theorem Off.drew {gl gh : Nat} {w w' : World} (h : Off gl gh w w') : Off gl gh w w'.drew := ⟨h.os, h.tape, h.output, h.size, h.block⟩
theorem Off.cell {gl gh : Nat} {w w' : World} (h : Off gl gh w w') {p : Addr} (hp : p.block < w.heap.size) (h1 : p.block ≠ gl) (h2 : p.block ≠ gh) : w'.cell? p = w.cell? p := World.cell?_of_block (w := w) (h.block p.block hp h1 h2)

def updI (x : Nat → Int) (p : Nat) (v : Int) : Nat → Int := fun i => if i = p then v else x i
def IRow (w : World) (g M : Nat) (x : Nat → Int) : Prop := VRow w 3 g M (fun i => .int .i64 (x i))
theorem irow_set {w : World} {g M : Nat} {x : Nat → Int} (h : IRow w g M x) (p : Nat) (v : Int) : IRow (w.setCell ⟨g, p, none⟩ (.int .i64 v)) g M (updI x p v) := by
  refine vrow_ext (vrow_set h p (.int .i64 v)) fun i hi => ?_
  unfold updI
  by_cases e : i = p
  · rw [if_pos e, if_pos e]
  · rw [if_neg e, if_neg e]

/-- The sum over the first k places. -/
def sumK (x : Nat → Int) (P : List Nat) : Nat → Int
  | 0 => 0
  | k + 1 => wrap64 (sumK x P k + x (P.getD k 0))

def placesV (gp cp : Nat) (P : List Nat) : Value := .slice (some ⟨gp, 0, none⟩) P.length cp
def PRow (w : World) (gp : Nat) (P : List Nat) : Prop := VRow w 3 gp P.length (fun i => .int .i64 ((P.getD i 0 : Nat) : Int))

set_option maxRecDepth 100000 in
set_option maxHeartbeats 1600000 in
theorem sumOk {gp cp gx M cx : Nat} {P : List Nat} {b : Int} {x : Nat → Int} (hin : ∀ k, k < P.length → P.getD k 0 < M) (hP : P.length ≤ 4096) (w : World) (hp : PRow w gp P) (hx : IRow w gx M x) :
    Calls (barP Try.prog) 88 #[.agg #[placesV gp cp P, .int .i64 b], .slice (some ⟨gx, 0, none⟩) M cx] w fun e w' => e = .returned (.int .i64 (sumK x P P.length)) ∧ Below w.heap.size w w' := by
  have hb : Hid (Below w.heap.size w (w.alloc (.cells #[placesV gp cp P, .int .i64 b] 94))) := (Below.refl _ _).alloc (Nat.le_refl _) _
  have t1 := hide (fun k (hk : k < P.length) => vrow_at (vrow_keep (w' := w.alloc (.cells #[placesV gp cp P, .int .i64 b] 94)) hp ((unhide hb).block _ (vrow_lt hp))) hk)
  have t2 := hide (fun k (hk : k < M) => vrow_at (vrow_keep (w' := w.alloc (.cells #[placesV gp cp P, .int .i64 b] 94)) hx ((unhide hb).block _ (vrow_lt hx))) hk)
  have hin := hide hin
  unfold placesV at hb t1 t2 ⊢
  clear hp hx
  generalize hm : P.length = m at *
  replace hm := hide hm
  go_enter Bar.func88, Bar.ntmps88
  go_wp2_with fail
  generalize w.alloc (.cells #[.slice (some ⟨gp, 0, none⟩) m cp, .int .i64 b] 94) = w1 at *
  go_loopw [5, 11] (fun sv kv wr => ∃ k : Nat, k ≤ m ∧ kv = .int .i64 k ∧ sv = .int .i64 (sumK x P k) ∧ w1 = wr) (fun _ kv _ => m - (intOf kv).toNat)
  case atStart => exact ⟨0, Nat.zero_le _, rfl, rfl, rfl⟩
  case round =>
    obtain ⟨k, hk, rfl, rfl, rfl⟩ := hrel
    by_cases c : k < m
    · have q1 : ((k : Int) < (m : Int)) = True := by simp; omega
      have k1 := unhide t1 k c
      have hl := unhide hin k c
      have k2 := unhide t2 _ hl
      have hst : Hid (sumK x P (k + 1) = wrap64 (sumK x P k + x (P.getD k 0))) := rfl
      generalize x (P.getD k 0) = xv at *
      generalize P.getD k 0 = p at *
      go_wp2_with fail
      exact ⟨⟨k + 1, by omega, by go_num, by rw [unhide hst], trivial⟩, by simp [intOf]; omega⟩
    · have q1 : ((k : Int) < (m : Int)) = False := by simp; omega
      obtain rfl : k = m := by omega
      go_wp2_with fail
      go_ret
      exact ⟨rfl, unhide hb⟩
end Go.Proofs.Ythbghcebcahlnaa

namespace Go.Proofs.Ythbghcebcahlnaa
open Go.RowKit Go.Shelf

def noLv (v : Int) : Bool := decide (v < 0) || decide (255 < v)
set_option maxHeartbeats 400000 in
theorem isNoLevelAny (v : Int) (w : World) : Calls (barP Try.prog) 65 #[.int .i64 v] w fun e w' => e = .returned (.bool (noLv v)) ∧ w' = w := by
  have hd : ((v < 0) = True ∧ noLv v = true) ∨ ((v < 0) = False ∧ (255 < v) = True ∧ noLv v = true) ∨ ((v < 0) = False ∧ (255 < v) = False ∧ noLv v = false) := by
    unfold noLv
    by_cases c1 : v < 0
    · exact Or.inl ⟨by simp [c1], by simp [c1]⟩
    · by_cases c2 : 255 < v
      · exact Or.inr (Or.inl ⟨by simp; omega, by simp [c2], by simp [c2]⟩)
      · exact Or.inr (Or.inr ⟨by simp; omega, by simp; omega, by simp; omega⟩)
  rcases hd with ⟨d1, d3⟩ | ⟨d1, d2, d3⟩ | ⟨d1, d2, d3⟩
  all_goals rw [d3]
  all_goals clear d3
  all_goals
    go_enter Bar.func65, Bar.ntmps65
    go_wp2_with fail
    go_ret
    exact ⟨rfl, rfl⟩

set_option maxRecDepth 100000 in
set_option maxHeartbeats 1600000 in
theorem idxInts {a : Option Addr} {cap g o : Nat} {L : List Int} (hL : L.length ≤ 4096) (w : World) (h : IntsAt w a g o L) :
    Calls (barP Try.prog) 84 #[.slice a L.length cap, .func (.func 65) #[] #[]] w fun e w' => ∃ r : Int, e = .returned (.int .i64 r) ∧ ((r = -1 ∧ ∀ k, k < L.length → noLv (L.getD k 0) = false) ∨ (0 ≤ r ∧ ∃ k, k < L.length ∧ noLv (L.getD k 0) = true)) ∧ w' = w := by
  have s1 := hide h.at_
  have t1 := hide (fun i (hi : i < L.length) => h.get hi)
  have kN := hide isNoLevelAny
  clear h
  generalize L.length = m at *
  go_enter Bar.func84, Bar.ntmps84
  go_wp2_with fail
  go_loopw [8] (fun kv wr => ∃ k : Nat, k ≤ m ∧ kv = .int .i64 k ∧ Hid (∀ i, i < k → noLv (L.getD i 0) = false) ∧ w = wr) (fun kv _ => m - (intOf kv).toNat)
  case atStart => exact ⟨0, Nat.zero_le _, rfl, fun i hi => by omega, rfl⟩
  case round =>
    obtain ⟨k, hk, rfl, hn, rfl⟩ := hrel
    by_cases c : k < m
    · have q1 : ((k : Int) < (m : Int)) = True := by simp; omega
      obtain ⟨rfl, l1⟩ := unhide s1 (by omega)
      have c1 := unhide t1 k c
      have k1 := hide (unhide kN (L.getD k 0) w)
      have hn2 : Hid (noLv (L.getD k 0) = false → ∀ i, i < k + 1 → noLv (L.getD i 0) = false) := fun h i hi => by
        by_cases e : i = k
        · subst e
          exact h
        · exact unhide hn i (by omega)
      have hy : Hid (noLv (L.getD k 0) = true → ∃ k, k < m ∧ noLv (L.getD k 0) = true) := fun h => ⟨k, c, h⟩
      clear hn
      generalize hbv : noLv (L.getD k 0) = bv at *
      replace hbv := hide hbv
      generalize L.getD k 0 = x at *
      go_wp2_with fail
      refine (unhide k1).mono ?_
      rintro e w1 ⟨rfl, rfl⟩
      clear k1
      rcases (by cases bv <;> simp : bv = true ∨ bv = false) with rfl | rfl
      · go_wp2_with fail
        go_ret
        exact ⟨_, rfl, Or.inr ⟨by omega, unhide hy (by simp)⟩, rfl⟩
      · have hn3 := hide (unhide hn2 (by simp))
        go_wp2_with fail
        exact ⟨⟨k + 1, by omega, by go_num, hn3, trivial⟩, by simp [intOf]; omega⟩
    · have q1 : ((k : Int) < (m : Int)) = False := by simp; omega
      obtain rfl : k = m := by omega
      go_wp2_with fail
      go_ret
      exact ⟨_, rfl, Or.inl ⟨rfl, unhide hn⟩, rfl⟩

/-- A list of so many levels. -/
def lvOk (L : List Int) : Bool := (List.range L.length).all fun k => !noLv (L.getD k 0)
set_option maxHeartbeats 800000 in
theorem containsInts {a : Option Addr} {cap g o : Nat} {L : List Int} (hL : L.length ≤ 4096) (w : World) (h : IntsAt w a g o L) :
    Calls (barP Try.prog) 64 #[.slice a L.length cap, .func (.func 65) #[] #[]] w fun e w' => e = .returned (.bool (!lvOk L)) ∧ w' = w := by
  have k1 := hide (idxInts (cap := cap) hL w h)
  clear h
  go_enter Bar.func64, Bar.ntmps64
  go_wp2_with fail
  refine (unhide k1).mono ?_
  rintro e w1 ⟨r, rfl, hr, rfl⟩
  have hd : ((0 ≤ r) = True ∧ lvOk L = false) ∨ ((0 ≤ r) = False ∧ lvOk L = true) := by
    unfold lvOk
    rcases hr with ⟨e, h⟩ | ⟨e, k, h1, h2⟩
    · right
      refine ⟨by simp; omega, List.all_eq_true.2 fun k hk => ?_⟩
      rw [h k (List.mem_range.1 hk)]
      rfl
    · left
      refine ⟨by simp; omega, List.all_eq_false.2 ⟨k, List.mem_range.2 h1, by rw [h2]; simp⟩⟩
  clear k1 hr
  rcases hd with ⟨d1, d2⟩ | ⟨d1, d2⟩
  all_goals
    replace d2 := hide d2
    go_wp2_with fail
    go_ret
    exact ⟨by rw [unhide d2]; rfl, rfl⟩

def levS (M : Nat) (L : List Int) : Bool := decide (L.length = M) && lvOk L

set_option maxRecDepth 100000 in
set_option maxHeartbeats 3200000 in
theorem areLevelsOk {q M : Nat} {u v : Value} {A B : List Int} (hM : M ≤ 4096) (w : World) (hu : Ints w u A) (hv : Ints w v B) (c0 : w.cell? ⟨q, 0, none⟩ = some u) (c1 : w.cell? ⟨q, 1, none⟩ = some v) :
    Calls (barP Try.prog) 33 #[.int .i64 M, .slice (some ⟨q, 0, none⟩) 2 2] w fun e w' => e = .returned (.bool (levS M A && levS M B)) ∧ w' = w := by
  obtain ⟨a1, cap1, g1, o1, rfl, h1⟩ := hu
  obtain ⟨a2, cap2, g2, o2, rfl, h2⟩ := hv
  have kA := hide (fun (e : A.length = M) => containsInts (cap := cap1) (by omega) w h1)
  have kB := hide (fun (e : B.length = M) => containsInts (cap := cap2) (by omega) w h2)
  have vA : Hid (levS M A = (decide (A.length = M) && lvOk A)) := rfl
  have vB : Hid (levS M B = (decide (B.length = M) && lvOk B)) := rfl
  clear h1 h2
  generalize lvOk A = bA at *
  generalize lvOk B = bB at *
  generalize A.length = m1 at *
  generalize B.length = m2 at *
  rw [unhide vA, unhide vB]
  clear vA vB
  go_enter Bar.func33, Bar.ntmps33
  go_wp2_with fail
  go_loopw [9] (fun kv wr => ∃ k : Nat, k ≤ 2 ∧ kv = .int .i64 k ∧ Hid (1 ≤ k → (decide (m1 = M) && bA) = true) ∧ Hid (2 ≤ k → (decide (m2 = M) && bB) = true) ∧ w = wr) (fun kv _ => 2 - (intOf kv).toNat)
  case atStart => exact ⟨0, Nat.zero_le _, rfl, fun h => by omega, fun h => by omega, rfl⟩
  case round =>
    obtain ⟨k, hk, rfl, hA, hB, rfl⟩ := hrel
    rcases (by omega : k = 0 ∨ k = 1 ∨ k = 2) with rfl | rfl | rfl
    · by_cases e : m1 = M
      · subst e
        have k1 := hide (unhide kA rfl)
        go_wp2_with fail
        refine (unhide k1).mono ?_
        rintro e w1 ⟨rfl, rfl⟩
        clear k1
        rcases (by cases bA <;> simp : bA = true ∨ bA = false) with rfl | rfl
        · go_wp2_with fail
          exact ⟨⟨1, by omega, rfl, fun _ => by simp, fun h => by omega, trivial⟩, by simp [intOf]⟩
        · go_wp2_with fail
          go_ret
          exact ⟨by first | rfl | simp, rfl⟩
      · have q1 : (m1 = M) = False := by simp [e]
        have hf : Hid ((decide (m1 = M) && bA && (decide (m2 = M) && bB)) = false) := by show _ = _; simp [e]
        go_wp2_with fail
        go_ret
        exact ⟨by rw [unhide hf]; rfl, rfl⟩
    · by_cases e : m2 = M
      · subst e
        have k1 := hide (unhide kB rfl)
        go_wp2_with fail
        refine (unhide k1).mono ?_
        rintro e w1 ⟨rfl, rfl⟩
        clear k1
        rcases (by cases bB <;> simp : bB = true ∨ bB = false) with rfl | rfl
        · go_wp2_with fail
          exact ⟨⟨2, by omega, rfl, fun _ => unhide hA (by omega), fun _ => by simp, trivial⟩, by simp [intOf]⟩
        · go_wp2_with fail
          go_ret
          exact ⟨by first | rfl | simp, rfl⟩
      · have q1 : (m2 = M) = False := by simp [e]
        have hf : Hid ((decide (m1 = M) && bA && (decide (m2 = M) && bB)) = false) := by show _ = _; simp [e]
        go_wp2_with fail
        go_ret
        exact ⟨by rw [unhide hf]; rfl, rfl⟩
    · have hA := hide (unhide hA (by omega))
      have hB := hide (unhide hB (by omega))
      go_wp2_with fail
      go_ret
      exact ⟨by rw [unhide hA, unhide hB]; rfl, rfl⟩

theorem not_nilI (a : Addr) (m c : Nat) (w : World) : (binOp .eql 35 (.slice (some a) m c) (.slice none 0 0)).run (barP Try.prog) w = .ok (.bool false) w := by kernel_rfl

/-- The values of a list. -/
def intsV (L : List Int) : List Value := L.map (.int .i64)
theorem intsV_get {L : List Int} {i : Nat} (hi : i < L.length) : (intsV L)[i]? = some (.int .i64 (L.getD i 0)) := by
  unfold intsV
  rw [List.getElem?_map, List.getD_eq_getElem?_getD, List.getElem?_eq_getElem hi]
  rfl
theorem intsV_news {w : World} {g o : Nat} {L : List Int} (h : IntsAt w (some ⟨g, o, none⟩) g o L) : ∀ j u, (intsV L)[j]? = some u → w.cell? ((⟨g, o, none⟩ : Addr).add j) = some u := fun j u hu => by
  have hj : j < L.length := by
    have := (List.getElem?_eq_some_iff.1 hu).1
    simpa [intsV] using this
  rw [intsV_get hj] at hu
  obtain rfl := Option.some.inj hu
  have e : (⟨g, o, none⟩ : Addr).add j = ⟨g, o + j, none⟩ := by unfold Addr.add; split <;> simp_all
  rw [e]
  exact h.get hj
theorem intsV_one (L : List Int) : ∀ u ∈ intsV L, u.oneCell' = true := fun u hu => by
  unfold intsV at hu
  obtain ⟨j, _, rfl⟩ := List.mem_map.1 hu
  rfl
theorem irow_own {w : World} {B g c : Nat} {L : List Int} (hl : 1 ≤ L.length) (h : w.ownsRow B 3 1 (.slice (some ⟨g, 0, none⟩) L.length c) L.length (intsV L)) : B ≤ g ∧ IRow w g L.length (fun i => L.getD i 0) := by
  rcases h.2 with ⟨_, h0⟩ | ⟨g', c', cur, h1, hg', hh, hn, hc, hs, ht⟩
  · omega
  · simp only [Value.slice.injEq, Option.some.injEq, Addr.mk.injEq, and_true, true_and] at h1
    obtain ⟨rfl, rfl⟩ := h1
    refine ⟨hg', cur, hh, by omega, fun i hi => ?_⟩
    have h3 := intsV_get hi
    rw [← ht, List.getElem?_take, if_pos (by omega)] at h3
    simpa using h3

set_option maxRecDepth 100000 in
set_option maxHeartbeats 1600000 in
theorem cloneInts {a : Option Addr} {cap g o : Nat} {L : List Int} (h1 : 1 ≤ L.length) (hm : L.length ≤ 4096) (w : World) (h : IntsAt w a g o L) :
    Calls (barP Try.prog) 19 #[.slice a L.length cap] w fun e w' => ∃ g' c', e = .returned (.slice (some ⟨g', 0, none⟩) L.length c') ∧ w.heap.size ≤ g' ∧ IRow w' g' L.length (fun i => L.getD i 0) ∧ w'.ownsRow w.heap.size 3 1 (.slice (some ⟨g', 0, none⟩) L.length c') L.length (intsV L) ∧ Below w.heap.size w w' := by
  obtain ⟨rfl, hlt⟩ := h.at_ (by omega)
  obtain ⟨i2, hi2, hx0, hx1, hx2⟩ := info_parts infoInt
  have y1 := (Below.refl w.heap.size w).alloc (Nat.le_refl _) (.cells #[] 3)
  have own0 : (w.alloc (.cells #[] 3)).ownsRow w.heap.size 3 1 (.slice (some ⟨w.heap.size, 0, none⟩) 0 0) 0 [] := ⟨rfl, Or.inr ⟨w.heap.size, 0, #[], rfl, Nat.le_refl _, heap_alloc_new w _, Nat.le_refl _, Nat.zero_le _, rfl, rfl⟩⟩
  have hnews := hide (intsV_news (h.below y1))
  have h1c := hide (intsV_one L)
  have hl : (intsV L).length = L.length * 1 := by simp [intsV]
  have hio := hide (fun (w' : World) (g c : Nat) => irow_own (w := w') (B := w.heap.size) (g := g) (c := c) h1)
  have y1 := hide y1
  have hnn := not_nilI ⟨g, o, none⟩ L.length cap
  clear h
  go_enter Bar.func19, Bar.ntmps19
  go_wp2_with (first
    | (at_builtin; refine wpList_append_own_at _ rfl (.tmp 5) (.tmp 6) 35 rfl w.heap.size 3 i2 (.int .i64 0) 1 8 Bar.underlying35 hi2 hx0 hx1 hx2 rfl (by decide) _ _ _ rfl own0 ⟨g, o, none⟩ L.length cap (intsV L) rfl hl (unhide hnews) (unhide h1c) ?c3 ?c4 ?c5 ?_))
  case c3 => unfold maxLen; omega
  case c4 => omega
  case c5 => simp
  intro v' w5 hown' hgrow _ hat
  replace hown' : w5.ownsRow w.heap.size 3 1 v' L.length (intsV L) := by simpa using hown'
  have hb5 : Below w.heap.size w w5 := (unhide y1).grown hgrow (by rw [World.size_alloc]; omega) (fun q hq => by
    have : q = w.heap.size := by simpa [Value.ownBlock] using hq.symm
    omega)
  have hown2 := hown'
  rcases hown2.2 with ⟨_, h0⟩ | ⟨g', c', cur, rfl, hg', hh, hn, hc, hs, ht⟩
  · omega
  obtain ⟨hge, hrow⟩ := unhide hio w5 g' c' hown'
  have R5 := hide hrow
  have O5 := hide hown'
  have B5 := hide hb5
  clear hown' hown2 hgrow hat hh hs ht hb5 hio
  go_wp2_with fail
  go_ret
  exact ⟨g', c', rfl, hg', unhide R5, unhide O5, unhide B5⟩
end Go.Proofs.Ythbghcebcahlnaa
