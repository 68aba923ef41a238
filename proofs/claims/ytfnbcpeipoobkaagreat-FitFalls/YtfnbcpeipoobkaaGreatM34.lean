/- The worker's counter. Lists of ints in memory; the document's SameInts and Width. The document's Wide and Certain. The document's Certain. -/
import Derived.Test.YtfnbcpeipoobkaaGreatM26
import Derived.Test.YtfnbcpeipoobkaaGreatM31
import Derived.Deep.RegionHeld3
import Derived.Deep.RegionLaw
import Derived.Deep.OwnRows
import Derived.Laws.AppendOwn
namespace Go.Proofs.YtfnbcpeipoobkaaGreat
open Go.RowKit

/-- The counter, one up. -/
theorem run_addInt64 (w : World) (g : Nat) (t d : Int) (hc : w.cell? ⟨g, 0, none⟩ = some (.int .i64 t)) (hf : w.frozen? ⟨g, 0, none⟩ = false) : (callFunc 39 #[.pointer (some ⟨g, 0, none⟩), .int .i64 d]).run (barP Tryz.prog) w = .ok (.value (.int .i64 (IntKind.i64.wrap (t + d)))) (w.setCell ⟨g, 0, none⟩ (.int .i64 (IntKind.i64.wrap (t + d)))) := by
  rw [run_callFunc_extern (e := Extern.Atomic.update (Op.intArith .add) .i64 true) Bar.func39 (by kernel_rfl) (by kernel_rfl) (by kernel_rfl) (by kernel_rfl)]
  have : (Extern.Atomic.update (Op.intArith .add) .i64 true #[.pointer (some ⟨g, 0, none⟩), .int .i64 d]).run (barP Tryz.prog) w = .ok (.int .i64 (IntKind.i64.wrap (t + d))) (w.setCell ⟨g, 0, none⟩ (.int .i64 (IntKind.i64.wrap (t + d)))) := by
    show (asAddr (.pointer (some ⟨g, 0, none⟩)) >>= fun a => Extern.Atomic.read (.int .i64) a >>= fun old => asInt old >>= fun x => asInt (.int .i64 d) >>= fun y => Op.intArith .add .i64 x y >>= fun new => store a new .atomic >>= fun _ => pure new).run (barP Tryz.prog) w = _
    simp [Extern.Atomic.read, asAddr, asInt, asIntOf, Op.intArith, go_sem, hc, hf]
  rw [this]
  rfl
theorem wrap_up (t : Nat) (ht : t ≤ 1000) : IntKind.i64.wrap ((t : Int) + 1) = (t : Int) + 1 := by rw [IntKind.wrap_i64]; omega
theorem wrap_dn (t : Nat) (ht : t ≤ 1000) : IntKind.i64.wrap ((t : Int) + 1 - 1) = (t : Int) := by rw [IntKind.wrap_i64]; omega
set_option maxRecDepth 100000 in
set_option maxHeartbeats 3200000 in
theorem intAdd (w : World) (g t : Nat) (ht : t ≤ 1000) (hc : w.cell? ⟨g, 0, none⟩ = some (.int .i64 (t : Int))) (hf : w.frozen? ⟨g, 0, none⟩ = false) : Calls (barP Tryz.prog) 21 #[.pointer (some ⟨g, 0, none⟩), .int .i64 1] w fun e w' => e = .returned (.int .i64 ((t : Int) + 1)) ∧ w' = w.setCell ⟨g, 0, none⟩ (.int .i64 ((t : Int) + 1)) := by
  have k := run_addInt64 w g t 1 hc hf
  rw [wrap_up t ht] at k
  go_enter Bar.func21, Bar.ntmps21
  go_wp2_with fail
  go_ret
  exact ⟨rfl, rfl⟩
set_option maxRecDepth 100000 in
set_option maxHeartbeats 3200000 in
/-- next(): the next direction that none has taken. -/
theorem nextOk (w : World) (g t : Nat) (ht : t ≤ 1000) (hc : w.cell? ⟨g, 0, none⟩ = some (.int .i64 (t : Int))) (hf : w.frozen? ⟨g, 0, none⟩ = false) : Calls (barP Tryz.prog) 20 #[.pointer (some ⟨g, 0, none⟩)] w fun e w' => e = .returned (.int .i64 (t : Int)) ∧ w' = w.setCell ⟨g, 0, none⟩ (.int .i64 ((t : Int) + 1)) := by
  have hd := wrap_dn t ht
  go_enter Bar.func20, Bar.ntmps20
  go_wp2_with fail
  refine (intAdd w g t ht hc hf).mono ?_
  rintro e w' ⟨rfl, rfl⟩
  go_wp2_with fail
  go_ret
  exact ⟨rfl, rfl⟩
end Go.Proofs.YtfnbcpeipoobkaaGreat

namespace Go.Proofs.YtfnbcpeipoobkaaGreat
open Go.RowKit

structure IntsAt (w : World) (a : Option Addr) (g o : Nat) (L : List Int) : Prop where
  at_ : 0 < L.length → a = some ⟨g, o, none⟩ ∧ g < w.heap.size
  cell : ∀ i c, L[i]? = some c → w.cell? ⟨g, o + i, none⟩ = some (.int .i64 c)

def Ints (w : World) (v : Value) (L : List Int) : Prop := ∃ a cap g o, v = .slice a L.length cap ∧ IntsAt w a g o L

theorem IntsAt.below {w w' : World} {a : Option Addr} {g o : Nat} {L : List Int} (h : IntsAt w a g o L) (hb : Below w.heap.size w w') : IntsAt w' a g o L := by
  refine ⟨fun hl => ⟨(h.at_ hl).1, Nat.lt_of_lt_of_le (h.at_ hl).2 hb.size⟩, fun i c hi => ?_⟩
  have hl : 0 < L.length := by
    have := (List.getElem?_eq_some_iff.1 hi).1
    omega
  exact (hb.cell (p := ⟨g, o + i, none⟩) (h.at_ hl).2).trans (h.cell i c hi)

theorem ints_below {w w' : World} {v : Value} {L : List Int} (h : Ints w v L) (hb : Below w.heap.size w w') : Ints w' v L := by
  obtain ⟨a, cap, g, o, h1, h2⟩ := h
  exact ⟨a, cap, g, o, h1, h2.below hb⟩
theorem ints_none (w : World) : Ints w (.slice none 0 0) [] := ⟨none, 0, 0, 0, rfl, ⟨fun h => absurd h (by simp), fun i c h => by simp at h⟩⟩

theorem IntsAt.get {w : World} {a : Option Addr} {g o : Nat} {L : List Int} (h : IntsAt w a g o L) {i : Nat} (hi : i < L.length) : w.cell? ⟨g, o + i, none⟩ = some (.int .i64 (L.getD i 0)) := by
  refine h.cell i _ ?_
  rw [List.getD_eq_getElem?_getD, List.getElem?_eq_getElem hi]
  rfl

theorem heapCell {w w' : World} (h : w'.heap = w.heap) (p : Addr) : w'.cell? p = w.cell? p := by unfold World.cell?; rw [h]

/-- How wide the first k bounds are together. -/
def widK (A B : List Int) : Nat → Int
  | 0 => 0
  | k + 1 => wrap64 (widK A B k + wrap64 (B.getD k 0 - A.getD k 0))
def widS (A B : List Int) : Int := widK A B (min A.length B.length)

def WidthOk (f : Nat) : Prop := ∀ (A B : List Int) (u v : Value) (w : World), A.length ≤ 9223372036854775807 → B.length ≤ 9223372036854775807 → Ints w u A → Ints w v B →
  Calls (barP Tryz.prog) f #[u, v] w fun e w' => e = .returned (.int .i64 (widS A B)) ∧ Below w.heap.size w w'

end Go.Proofs.YtfnbcpeipoobkaaGreat

namespace Go.Proofs.YtfnbcpeipoobkaaGreat
open Go.RowKit

def wideLo (n : Int) : List Int := if n < 1 ∨ 16 < n then [] else List.replicate (n.toNat * n.toNat) 0
def wideHi (n : Int) : List Int := if n < 1 ∨ 16 < n then [] else List.replicate (n.toNat * n.toNat) 255
def wideE (n : Int) : Int := if n < 1 ∨ 16 < n then 1 else 0

def WideOk (f : Nat) : Prop := ∀ (n : Int) (w : World), Calls (barP Tryz.prog) f #[.int .i64 n] w fun e w' =>
  ∃ u v, e = .returned (.tuple #[u, v, .int .i64 (wideE n)]) ∧ Ints w' u (wideLo n) ∧ Ints w' v (wideHi n) ∧ Below w.heap.size w w'

theorem infoInt : ((barP Tryz.prog).info? 3).map (fun i => (i.zero, i.size, i.bytes)) = some (some (.int .i64 0), 1, 8) := by kernel_rfl
theorem infoBool : ((barP Tryz.prog).info? 4).map (fun i => (i.zero, i.size, i.bytes)) = some (some (.bool false), 1, 1) := by kernel_rfl

/-- A row of cells. -/
def VRow (w : World) (t : TypeId) (g n : Nat) (f : Nat → Value) : Prop := ∃ cur : Array Value, w.heap[g]? = some (.cells cur t (0, 0)) ∧ n ≤ cur.size ∧ ∀ i, i < n → cur[i]? = some (f i)
theorem vrow_at {w : World} {t : TypeId} {g n : Nat} {f : Nat → Value} (h : VRow w t g n f) {i : Nat} (hi : i < n) : w.cell? ⟨g, i, none⟩ = some (f i) := by
  obtain ⟨cur, h1, h2, h3⟩ := h
  simp [World.cell?, h1, h3 i hi]
theorem vrow_lt {w : World} {t : TypeId} {g n : Nat} {f : Nat → Value} (h : VRow w t g n f) : g < w.heap.size := by
  obtain ⟨cur, h1, _⟩ := h
  exact (Array.getElem?_eq_some_iff.1 h1).1
theorem vrow_keep {w w' : World} {t : TypeId} {g n : Nat} {f : Nat → Value} (h : VRow w t g n f) (hb : w'.heap[g]? = w.heap[g]?) : VRow w' t g n f := by
  obtain ⟨cur, h1, h2, h3⟩ := h
  exact ⟨cur, by rw [hb]; exact h1, h2, h3⟩
theorem vrow_ext {w : World} {t : TypeId} {g n : Nat} {f f' : Nat → Value} (h : VRow w t g n f) (he : ∀ i, i < n → f' i = f i) : VRow w t g n f' := by
  obtain ⟨cur, h1, h2, h3⟩ := h
  exact ⟨cur, h1, h2, fun i hi => by rw [he i hi]; exact h3 i hi⟩
theorem vrow_frozen {w : World} {t : TypeId} {g n : Nat} {f : Nat → Value} (h : VRow w t g n f) (i : Nat) : w.frozen? ⟨g, i, none⟩ = false := by
  obtain ⟨cur, h1, _⟩ := h
  exact frozen_of_row w _ i cur _ h1
theorem vrow_set {w : World} {t : TypeId} {g n : Nat} {f : Nat → Value} (h : VRow w t g n f) (k : Nat) (v : Value) : VRow (w.setCell ⟨g, k, none⟩ v) t g n (fun i => if i = k then v else f i) := by
  obtain ⟨cur, h1, h2, h3⟩ := h
  refine ⟨cur.setIfInBounds k v, heap_setCell_same w g k cur _ _ h1, by simpa using h2, fun i hi => ?_⟩
  dsimp only
  by_cases c : i = k
  · subst c
    rw [if_pos rfl, Array.getElem?_setIfInBounds_self_of_lt (by omega)]
  · rw [if_neg c, Array.getElem?_setIfInBounds_ne (by omega)]
    exact h3 i hi
theorem vrow_new (w : World) (z : Value) (n : Nat) (t : TypeId) : VRow (w.alloc (.cells (madeCells #[z] n) t)) t w.heap.size n (fun _ => z) := by
  have e : (madeCells #[z] n).toList.length = n := by rw [toList_madeCells_one, List.length_replicate]
  refine ⟨_, heap_alloc_new w _, by rw [Array.length_toList] at e; omega, fun i hi => ?_⟩
  have : (madeCells #[z] n).toList[i]? = some z := by rw [toList_madeCells_one, List.getElem?_replicate, if_pos hi]
  simpa using this
theorem vrow_ints {w : World} {g n : Nat} {x : Int} (h : VRow w 3 g n (fun _ => .int .i64 x)) : Ints w (.slice (some ⟨g, 0, none⟩) n n) (List.replicate n x) := by
  refine ⟨some ⟨g, 0, none⟩, n, g, 0, by rw [List.length_replicate], ⟨fun _ => ⟨rfl, vrow_lt h⟩, fun i c hi => ?_⟩⟩
  rw [List.getElem?_replicate] at hi
  split at hi
  · next hlt =>
    rw [Nat.zero_add]
    obtain rfl := Option.some.inj hi
    exact vrow_at h hlt
  · cases hi

end Go.Proofs.YtfnbcpeipoobkaaGreat

namespace Go.Proofs.YtfnbcpeipoobkaaGreat
open Go.RowKit

structure BoolsAt (w : World) (a : Option Addr) (g o : Nat) (L : List Bool) : Prop where
  at_ : 0 < L.length → a = some ⟨g, o, none⟩ ∧ g < w.heap.size
  cell : ∀ i c, L[i]? = some c → w.cell? ⟨g, o + i, none⟩ = some (.bool c)
def Bools (w : World) (v : Value) (L : List Bool) : Prop := ∃ a cap g o, v = .slice a L.length cap ∧ BoolsAt w a g o L

theorem bools_below {w w' : World} {v : Value} {L : List Bool} (h : Bools w v L) (hb : Below w.heap.size w w') : Bools w' v L := by
  obtain ⟨a, cap, g, o, h1, h2⟩ := h
  refine ⟨a, cap, g, o, h1, ⟨fun hl => ⟨(h2.at_ hl).1, Nat.lt_of_lt_of_le (h2.at_ hl).2 hb.size⟩, fun i c hi => ?_⟩⟩
  have hl : 0 < L.length := by
    have := (List.getElem?_eq_some_iff.1 hi).1
    omega
  exact (hb.cell (p := ⟨g, o + i, none⟩) (h2.at_ hl).2).trans (h2.cell i c hi)

def certK (A B : List Int) (k : Nat) : List Bool := (List.range k).map fun i => A.getD i 0 == B.getD i 0
def certL (A B : List Int) : List Bool := certK A B (min A.length B.length)
def boolsV (L : List Bool) : List Value := L.map Value.bool

theorem certK_len (A B : List Int) (k : Nat) : (certK A B k).length = k := by simp [certK]
theorem certK_snoc (A B : List Int) (k : Nat) : certK A B (k + 1) = certK A B k ++ [A.getD k 0 == B.getD k 0] := by
  unfold certK
  rw [List.range_succ, List.map_append]
  rfl

theorem bools_own {w : World} {B : Nat} {v : Value} {L : List Bool} (h : w.ownsRow B 4 1 v L.length (boolsV L)) : Bools w v L := by
  rcases h.2 with ⟨h1, h2⟩ | ⟨g, cap, cur, h1, hb, hg, hnc, hcm, hcs, htake⟩
  · have : L = [] := List.eq_nil_of_length_eq_zero h2
    subst this
    exact ⟨none, 0, 0, 0, h1, ⟨fun h => absurd h (by simp), fun i c h => by simp at h⟩⟩
  · refine ⟨_, cap, g, 0, h1, ⟨fun _ => ⟨rfl, (Array.getElem?_eq_some_iff.1 hg).1⟩, fun i c hi => ?_⟩⟩
    have hlt := (List.getElem?_eq_some_iff.1 hi).1
    have e : (boolsV L)[i]? = some (.bool c) := by unfold boolsV; rw [List.getElem?_map, hi]; rfl
    rw [← htake, List.getElem?_take, if_pos (by omega)] at e
    rw [Nat.zero_add]
    simp [World.cell?, hg]
    simpa using e

/-- append to a list of the call's own, as one step of a region that draws. -/
theorem step_append_own {P : Program} {ops : Array Oper} {o : Oper} {a : Act} {w : World} {K : Act → World → Prop} {Q : Exit → Act → World → Prop} {E : Prop}
    (hgd : o.guard = none) (s x : Operand) (t : TypeId) (ho : o.op = Op.call { callee := Callee.builtin Builtin.append, args := #[s, x], argTypes := #[t, t] })
    (base : Nat) (e : TypeId) (i : TypeInfo) (z : Value) (size bytes : Nat) (ht : P.underlying t = some (.slice e)) (hi : P.info? e = some i) (hz : i.zero = some z)
    (hsize : i.size = size) (hby : i.bytes = bytes) (hzs : z.cells.size = size) (hsz : 0 < size)
    (v : Value) (n : Nat) (xs : List Value) (hs : a.eval s = v) (hown : w.ownsRow base e size v n xs)
    (ad : Addr) (m c : Nat) (news : List Value) (hx : a.eval x = .slice (some ad) m c) (hl : news.length = m * size) (hnews : ∀ j u, news[j]? = some u → w.cell? (ad.add j) = some u) (h1 : ∀ u ∈ news, u.oneCell' = true)
    (h63 : n + m ≤ maxLen) (hbytes : (n + m) * bytes ≤ 140737488355328) (hbase : base ≤ w.heap.size)
    (h : ∀ v' w', w'.ownsRow base e size v' (n + m) (xs ++ news) → w.grownBy w' v.ownBlock → K (a.put o.dst v') w') :
    if Region.wanted o (yielded ops a.tmps) = true then Oper.wp P o a w K Q else E := by
  have hw : Region.wanted o (yielded ops a.tmps) = true := by simp [Region.wanted, hgd]
  rw [if_pos hw]
  obtain ⟨v', w', hr, h2, h3, _⟩ := run_append_own (P := P) w base t o.type e i z size bytes ht hi hz hsize hby hzs hsz v n xs hown ad m c news hl hnews h1 h63 hbytes hbase
  unfold Oper.wp execOp
  simp only [ho, resolve, invoke, builtin, Sem.run_bind, Sem.run_pure, Result.andThen_ok, List.map_toArray, List.map_cons, List.map_nil, hs, hx, hr]
  exact h v' w' h2 h3

theorem one_new (w : World) (x : Value) (t : TypeId) : ∀ j u, [x][j]? = some u → (w.alloc (.cells #[x] t)).cell? ((⟨w.heap.size, 0, none⟩ : Addr).add j) = some u := by
  intro j u hj
  match j, hj with
  | 0, hj =>
    simp at hj
    subst hj
    simp [Addr.add]

def CertOk (f : Nat) : Prop := ∀ (A B : List Int) (u v : Value) (w : World), A.length ≤ 70368744177664 → B.length ≤ 70368744177664 → Ints w u A → Ints w v B →
  Calls (barP Tryz.prog) f #[u, v] w fun e w' => ∃ x, e = .returned x ∧ Bools w' x (certL A B) ∧ Below w.heap.size w w'

end Go.Proofs.YtfnbcpeipoobkaaGreat
