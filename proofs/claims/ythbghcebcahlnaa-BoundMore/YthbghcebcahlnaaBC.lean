/- The document's Certain. -/
import Derived.Test.YthbghcebcahlnaaBB
import Derived.Laws.AppendOwn
namespace Go.Proofs.Ythbghcebcahlnaa
open Go.RowKit

structure BoolsAt (w : World) (a : Option Addr) (g o : Nat) (L : List Bool) : Prop where
  at_ : 0 < L.length → a = some ⟨g, o, none⟩ ∧ g < w.heap.size
  cell : ∀ i c, L[i]? = some c → w.cell? ⟨g, o + i, none⟩ = some (.bool c)
def Bools (w : World) (v : Value) (L : List Bool) : Prop := ∃ a cap g o, v = .slice a L.length cap ∧ BoolsAt w a g o L

theorem bools_below {w w' : World} {v : Value} {L : List Bool} (h : Bools w v L) (hb : Below w.heap.size w w') : Bools w' v L := by
  obtain ⟨a, cap, g, o, h1, h2⟩ := h
  refine ⟨a, cap, g, o, h1, ⟨fun hl => ⟨(h2.at_ hl).1, Nat.lt_of_lt_of_le (h2.at_ hl).2 hb.size⟩, fun i c hi => ?_⟩⟩
  have hl : 0 < L.length := by
    have := (List.getElem?_eq_some_iff.1 hi).1
    omega
  exact (hb.cell (p := ⟨g, o + i, none⟩) (h2.at_ hl).2).trans (h2.cell i c hi)

def certK (A B : List Int) (k : Nat) : List Bool := (List.range k).map fun i => A.getD i 0 == B.getD i 0
def certL (A B : List Int) : List Bool := certK A B (min A.length B.length)
def boolsV (L : List Bool) : List Value := L.map Value.bool

theorem certK_len (A B : List Int) (k : Nat) : (certK A B k).length = k := by simp [certK]
theorem certK_snoc (A B : List Int) (k : Nat) : certK A B (k + 1) = certK A B k ++ [A.getD k 0 == B.getD k 0] := by
  unfold certK
  rw [List.range_succ, List.map_append]
  rfl

theorem bools_own {w : World} {B : Nat} {v : Value} {L : List Bool} (h : w.ownsRow B 4 1 v L.length (boolsV L)) : Bools w v L := by
  rcases h.2 with ⟨h1, h2⟩ | ⟨g, cap, cur, h1, hb, hg, hnc, hcm, hcs, htake⟩
  · have : L = [] := List.eq_nil_of_length_eq_zero h2
    subst this
    exact ⟨none, 0, 0, 0, h1, ⟨fun h => absurd h (by simp), fun i c h => by simp at h⟩⟩
  · refine ⟨_, cap, g, 0, h1, ⟨fun _ => ⟨rfl, (Array.getElem?_eq_some_iff.1 hg).1⟩, fun i c hi => ?_⟩⟩
    have hlt := (List.getElem?_eq_some_iff.1 hi).1
    have e : (boolsV L)[i]? = some (.bool c) := by unfold boolsV; rw [List.getElem?_map, hi]; rfl
    rw [← htake, List.getElem?_take, if_pos (by omega)] at e
    rw [Nat.zero_add]
    simp [World.cell?, hg]
    simpa using e

/-- append to a list of the call's own, as one step of a region that draws. -/
theorem step_append_own {P : Program} {ops : Array Oper} {o : Oper} {a : Act} {w : World} {K : Act → World → Prop} {Q : Exit → Act → World → Prop} {E : Prop}
    (hgd : o.guard = none) (s x : Operand) (t : TypeId) (ho : o.op = Op.call { callee := Callee.builtin Builtin.append, args := #[s, x], argTypes := #[t, t] })
    (base : Nat) (e : TypeId) (i : TypeInfo) (z : Value) (size bytes : Nat) (ht : P.underlying t = some (.slice e)) (hi : P.info? e = some i) (hz : i.zero = some z)
    (hsize : i.size = size) (hby : i.bytes = bytes) (hzs : z.cells.size = size) (hsz : 0 < size)
    (v : Value) (n : Nat) (xs : List Value) (hs : a.eval s = v) (hown : w.ownsRow base e size v n xs)
    (ad : Addr) (m c : Nat) (news : List Value) (hx : a.eval x = .slice (some ad) m c) (hl : news.length = m * size) (hnews : ∀ j u, news[j]? = some u → w.cell? (ad.add j) = some u) (h1 : ∀ u ∈ news, u.oneCell' = true)
    (h63 : n + m ≤ maxLen) (hbytes : (n + m) * bytes ≤ 140737488355328) (hbase : base ≤ w.heap.size)
    (h : ∀ v' w', w'.ownsRow base e size v' (n + m) (xs ++ news) → w.grownBy w' v.ownBlock → K (a.put o.dst v') w') :
    if Region.wanted o (yielded ops a.tmps) = true then Oper.wp P o a w K Q else E := by
  have hw : Region.wanted o (yielded ops a.tmps) = true := by simp [Region.wanted, hgd]
  rw [if_pos hw]
  obtain ⟨v', w', hr, h2, h3, _⟩ := run_append_own (P := P) w base t o.type e i z size bytes ht hi hz hsize hby hzs hsz v n xs hown ad m c news hl hnews h1 h63 hbytes hbase
  unfold Oper.wp execOp
  simp only [ho, resolve, invoke, builtin, Sem.run_bind, Sem.run_pure, Result.andThen_ok, List.map_toArray, List.map_cons, List.map_nil, hs, hx, hr]
  exact h v' w' h2 h3

theorem one_new (w : World) (x : Value) (t : TypeId) : ∀ j u, [x][j]? = some u → (w.alloc (.cells #[x] t)).cell? ((⟨w.heap.size, 0, none⟩ : Addr).add j) = some u := by
  intro j u hj
  match j, hj with
  | 0, hj =>
    simp at hj
    subst hj
    simp [Addr.add]

def CertOk (f : Nat) : Prop := ∀ (A B : List Int) (u v : Value) (w : World), A.length ≤ 70368744177664 → B.length ≤ 70368744177664 → Ints w u A → Ints w v B →
  Calls (barP Try.prog) f #[u, v] w fun e w' => ∃ x, e = .returned x ∧ Bools w' x (certL A B) ∧ Below w.heap.size w w'

end Go.Proofs.Ythbghcebcahlnaa
