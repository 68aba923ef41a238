/- The document's Certain. -/
import Derived.Test.YthdoophjcjlklaaBB
import Derived.Laws.AppendOwn
namespace Go.Proofs.Ythdoophjcjlklaa
open Go.RowKit

structure BoolsAt (w : World) (a : Option Addr) (g o : Nat) (L : List Bool) : Prop where
  at_ : 0 < L.length → a = some ⟨g, o, none⟩ ∧ g < w.heap.size
  cell : ∀ i c, L[i]? = some c → w.cell? ⟨g, o + i, none⟩ = some (.bool c)
def Bools (w : World) (v : Value) (L : List Bool) : Prop := ∃ a cap g o, v = .slice a L.length cap ∧ BoolsAt w a g o L

theorem bools_below {w w' : World} {v : Value} {L : List Bool} (h : Bools w v L) (hb : Below w.heap.size w w') : Bools w' v L := by
  obtain ⟨a, cap, g, o, h1, h2⟩ := h
  refine ⟨a, cap, g, o, h1, ⟨fun hl => ⟨(h2.at_ hl).1, Nat.lt_of_lt_of_le (h2.at_ hl).2 hb.size⟩, fun i c hi => ?_⟩⟩
  have hl : 0 < L.length := by
    have := (List.getElem?_eq_some_iff.1 hi).1
    omega
  exact (hb.cell (p := ⟨g, o + i, none⟩) (h2.at_ hl).2).trans (h2.cell i c hi)

def certK (A B : List Int) (k : Nat) : List Bool := (List.range k).map fun i => A.getD i 0 == B.getD i 0
def certL (A B : List Int) : List Bool := certK A B (min A.length B.length)
def boolsV (L : List Bool) : List Value := L.map Value.bool

theorem certK_len (A B : List Int) (k : Nat) : (certK A B k).length = k := by simp [certK]
theorem certK_snoc (A B : List Int) (k : Nat) : certK A B (k + 1) = certK A B k ++ [A.getD k 0 == B.getD k 0] := by
  unfold certK
  rw [List.range_succ, List.map_append]
  rfl

theorem bools_own {w : World} {B : Nat} {v : Value} {L : List Bool} (h : w.ownsRow B 4 1 v L.length (boolsV L)) : Bools w v L := by
  rcases h.2 with ⟨h1, h2⟩ | ⟨g, cap, cur, h1, hb, hg, hnc, hcm, hcs, htake⟩
  · have : L = [] := List.eq_nil_of_length_eq_zero h2
    subst this
    exact ⟨none, 0, 0, 0, h1, ⟨fun h => absurd h (by simp), fun i c h => by simp at h⟩⟩
  · refine ⟨_, cap, g, 0, h1, ⟨fun _ => ⟨rfl, (Array.getElem?_eq_some_iff.1 hg).1⟩, fun i c hi => ?_⟩⟩
    have hlt := (List.getElem?_eq_some_iff.1 hi).1
    have e : (boolsV L)[i]? = some (.bool c) := by unfold boolsV; rw [List.getElem?_map, hi]; rfl
    rw [← htake, List.getElem?_take, if_pos (by omega)] at e
    rw [Nat.zero_add]
    simp [World.cell?, hg]
    simpa using e

/-- append to a list of the call's own, as one step of a region that draws. -/
theorem step_append_own {P : Program} {ops : Array Oper} {o : Oper} {a : Act} {w : World} {K : Act → World → Prop} {Q : Exit → Act → World → Prop} {E : Prop}
    (hgd : o.guard = none) (s x : Operand) (t : TypeId) (ho : o.op = Op.call { callee := Callee.builtin Builtin.append, args := #[s, x], argTypes := #[t, t] })
    (base : Nat) (e : TypeId) (i : TypeInfo) (z : Value) (size bytes : Nat) (ht : P.underlying t = some (.slice e)) (hi : P.info? e = some i) (hz : i.zero = some z)
    (hsize : i.size = size) (hby : i.bytes = bytes) (hzs : z.cells.size = size) (hsz : 0 < size)
    (v : Value) (n : Nat) (xs : List Value) (hs : a.eval s = v) (hown : w.ownsRow base e size v n xs)
    (ad : Addr) (m c : Nat) (news : List Value) (hx : a.eval x = .slice (some ad) m c) (hl : news.length = m * size) (hnews : ∀ j u, news[j]? = some u → w.cell? (ad.add j) = some u) (h1 : ∀ u ∈ news, u.oneCell' = true)
    (h63 : n + m ≤ maxLen) (hbytes : (n + m) * bytes ≤ 140737488355328) (hbase : base ≤ w.heap.size)
    (h : ∀ v' w', w'.ownsRow base e size v' (n + m) (xs ++ news) → w.grownBy w' v.ownBlock → K (a.put o.dst v') w') :
    if Region.wanted o (yielded ops a.tmps) = true then Oper.wp P o a w K Q else E := by
  have hw : Region.wanted o (yielded ops a.tmps) = true := by simp [Region.wanted, hgd]
  rw [if_pos hw]
  obtain ⟨v', w', hr, h2, h3, _⟩ := run_append_own (P := P) w base t o.type e i z size bytes ht hi hz hsize hby hzs hsz v n xs hown ad m c news hl hnews h1 h63 hbytes hbase
  unfold Oper.wp execOp
  simp only [ho, resolve, invoke, builtin, Sem.run_bind, Sem.run_pure, Result.andThen_ok, List.map_toArray, List.map_cons, List.map_nil, hs, hx, hr]
  exact h v' w' h2 h3

theorem one_new (w : World) (x : Value) (t : TypeId) : ∀ j u, [x][j]? = some u → (w.alloc (.cells #[x] t)).cell? ((⟨w.heap.size, 0, none⟩ : Addr).add j) = some u := by
  intro j u hj
  match j, hj with
  | 0, hj =>
    simp at hj
    subst hj
    simp [Addr.add]

def CertOk (f : Nat) : Prop := ∀ (A B : List Int) (u v : Value) (w : World), A.length ≤ 70368744177664 → B.length ≤ 70368744177664 → Ints w u A → Ints w v B →
  Calls Try.prog f #[u, v] w fun e w' => ∃ x, e = .returned x ∧ Bools w' x (certL A B) ∧ Below w.heap.size w w'

set_option maxHeartbeats 3200000 in
theorem refCertain : CertOk 11 := by
  intro A B u v w lA lB hu hv
  obtain ⟨a1, cap1, g1, o1, rfl, h1⟩ := hu
  obtain ⟨a2, cap2, g2, o2, rfl, h2⟩ := hv
  obtain ⟨i0, hi0, hz0, hz1, hz2⟩ := info_parts infoBool
  have s1 := hide h1.at_
  have s2 := hide h2.at_
  have t1 := hide (fun i (hi : i < A.length) => h1.get hi)
  have t2 := hide (fun i (hi : i < B.length) => h2.get hi)
  have lk := hide (certK_len A B)
  have sk := hide (certK_snoc A B)
  have z0 : Hid (boolsV (certK A B 0) = []) := rfl
  have hw : certL A B = certK A B (min A.length B.length) := rfl
  rw [hw]
  clear h1 h2 hw
  generalize A.length = N at *
  generalize B.length = M at *
  generalize certK A B = CK at *
  go_enter Try.func11, Try.ntmps11
  go_wp2_with fail
  go_loopw [5, 6] (fun lv iv wr => ∃ i : Nat, i ≤ min N M ∧ iv = .int .i64 i ∧ Hid (wr.ownsRow w.heap.size 4 1 lv i (boolsV (CK i))) ∧ Hid (Below w.heap.size w wr)) (fun _ iv _ => min N M - (intOf iv).toNat)
  case atStart =>
    refine ⟨0, Nat.zero_le _, rfl, ?_, Below.refl _ _⟩
    rw [unhide z0]
    exact World.ownsRow_nil _ _ _ _
  case round =>
    obtain ⟨i, hi, rfl, hO, hB⟩ := hrel
    by_cases c1 : i < N
    · have q1 : ((i : Int) < (N : Int)) = True := by simp; omega
      by_cases c2 : i < M
      · have q2 : ((i : Int) < (M : Int)) = True := by simp; omega
        obtain ⟨e1, l1⟩ := unhide s1 (by omega)
        obtain ⟨e2, l2⟩ := unhide s2 (by omega)
        have k1 := ((unhide hB).cell (p := ⟨g1, o1 + i, none⟩) l1).trans (unhide t1 i c1)
        have k2 := ((unhide hB).cell (p := ⟨g2, o2 + i, none⟩) l2).trans (unhide t2 i c2)
        rw [e1, e2]
        have hsk := hide (unhide sk i)
        have hbs : w.heap.size ≤ wr.heap.size := (unhide hB).size
        clear e1 e2 l1 l2
        generalize A.getD i 0 = x at *
        generalize B.getD i 0 = y at *
        have hO1 := hide ((unhide hO).alloc (.cells #[.bool (x == y)] 4))
        have hO2 : Hid ((wr.drew.alloc (.cells #[.bool (x == y)] 4)).ownsRow w.heap.size 4 1 u5 i (boolsV (CK i))) := unhide hO1
        have hnw : Hid (∀ j u, [Value.bool (x == y)][j]? = some u → (wr.drew.alloc (.cells #[.bool (x == y)] 4)).cell? ((⟨wr.heap.size, 0, none⟩ : Addr).add j) = some u) := one_new wr.drew _ _
        have h1c : Hid (∀ u ∈ [Value.bool (x == y)], u.oneCell' = true) := fun u hu => by simp at hu; subst hu; rfl
        have hlt : Hid (∀ k, u5.ownBlock = some k → w.heap.size ≤ k) := fun k hk => ((unhide hO).lt k hk).1
        clear hO1
        go_wp2_with fail
        go_region_law (refine step_append_own rfl (.tmp 19) (.tmp 29) 29 rfl w.heap.size 4 i0 (.bool false) 1 1 Try.underlying29 hi0 hz0 hz1 hz2 rfl (by decide) u5 i (boolsV (CK i)) rfl (unhide hO2) ⟨wr.heap.size, 0, none⟩ 1 1 [.bool (x == y)] rfl rfl (unhide hnw) (unhide h1c) (by unfold maxLen; omega) (by omega) (by simp; omega) ?_
                       intro v' w2 hown' hgrow
                       have hB3 : Hid (Below w.heap.size w w2) := (((unhide hB).drew).alloc hbs _).grown hgrow (by simp; omega) (unhide hlt)
                       have hO3 : Hid (w2.ownsRow w.heap.size 4 1 v' (i + 1) (boolsV (CK (i + 1)))) := by
                         rw [unhide hsk]
                         unfold boolsV at hown' ⊢
                         rw [List.map_append]
                         exact hown'
                       clear hown' hgrow)
        all_goals go_wp2_with fail
        all_goals exact ⟨⟨i + 1, by omega, by go_num, hO3, hB3⟩, by simp [intOf]; omega⟩
      · have q2 : ((i : Int) < (M : Int)) = False := by simp; omega
        have e : i = min N M := by omega
        have hE : Hid (wr.ownsRow w.heap.size 4 1 u5 (CK (min N M)).length (boolsV (CK (min N M)))) := by
          rw [unhide lk, ← e]
          exact unhide hO
        have e' := hide e
        clear e hO
        go_wp2_with fail
        go_ret
        exact ⟨_, rfl, bools_own (unhide hE), unhide hB⟩
    · have q1 : ((i : Int) < (N : Int)) = False := by simp; omega
      have e : i = min N M := by omega
      have hE : Hid (wr.ownsRow w.heap.size 4 1 u5 (CK (min N M)).length (boolsV (CK (min N M)))) := by
        rw [unhide lk, ← e]
        exact unhide hO
      have e' := hide e
      clear e hO
      go_wp2_with fail
      go_ret
      exact ⟨_, rfl, bools_own (unhide hE), unhide hB⟩
end Go.Proofs.Ythdoophjcjlklaa
