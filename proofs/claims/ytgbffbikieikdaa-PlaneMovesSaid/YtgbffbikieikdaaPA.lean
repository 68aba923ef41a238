/- Fields in memory: a grid's value; the side that is right; cells by rows. -/
import Derived.Test.YtgbffbikieikdaaSB
import Derived.Laws.ResultCell
import Derived.Laws.CopyOwn
import Derived.BigRegion
namespace Go.Proofs.Ytgbffbikieikdaa
open Go.RowKit Fl
attribute [local go_sem] store_complex

/-- The value of a grid of side n whose m cells lie in block g. -/
def gridV (n g m cap : Nat) : Value := .agg #[.int .i64 n, .slice (some ⟨g, 0, none⟩) m cap]

/-- The cells in one list, row by row. -/
def flat (n : Nat) (f : Nat → Nat → Nat × Nat) (k : Nat) : Nat × Nat := f (k / n) (k % n)

theorem flat_at {n : Nat} (f : Nat → Nat → Nat × Nat) {j i : Nat} (hi : i < n) : flat n f (j * n + i) = f j i := by
  unfold flat
  have h1 : (j * n + i) / n = j := by
    rw [Nat.mul_comm, Nat.mul_add_div (by omega), Nat.div_eq_of_lt hi, Nat.add_zero]
  have h2 : (j * n + i) % n = i := by
    rw [Nat.mul_comm, Nat.mul_add_mod, Nat.mod_eq_of_lt hi]
  rw [h1, h2]

theorem place_lt {n j i : Nat} (hj : j < n) (hi : i < n) : j * n + i < n * n := by
  have h := Nat.mul_le_mul_right n (show j + 1 ≤ n from hj)
  rw [Nat.add_mul, Nat.one_mul] at h
  omega

theorem square_le {n B : Nat} (h : n ≤ B) : n * n ≤ B * B := Nat.mul_le_mul h h

theorem pow6 : ∀ L : Nat, L < 7 → bits .and .i64 ((2 ^ L : Nat) : Int) (((2 ^ L : Nat) : Int) - 1) = 0 := by decide +kernel

structure Side (L n : Nat) : Prop where
  len : L ≤ 6
  hn : n = 2 ^ L

theorem Side.le {L n : Nat} (h : Side L n) : 1 ≤ n ∧ n ≤ 64 := by
  obtain ⟨h1, h2⟩ := h
  rw [h2]
  exact ⟨Nat.one_le_two_pow, Nat.pow_le_pow_right (n := 2) (j := 6) (by decide) h1⟩

theorem wrap_small {x : Nat} (h : x ≤ 1000000) : IntKind.i64.wrap (x : Int) = (x : Int) := by
  rw [IntKind.wrap_i64]
  omega

theorem wrap_mul {a b : Nat} (h : a * b ≤ 1000000) : IntKind.i64.wrap ((a : Int) * (b : Int)) = ((a * b : Nat) : Int) := by
  rw [← Int.natCast_mul]
  exact wrap_small h

set_option maxHeartbeats 800000 in
theorem rightAny {L n g cap : Nat} (hS : Side L n) (w : World) :
    Calls Try.prog 17 #[gridV n g (n * n) cap] w fun e w' => e = .returned (.bool true) ∧ Below w.heap.size w w' := by
  obtain ⟨h1, h2⟩ := hS.le
  have hb : bits .and .i64 (n : Int) ((n : Int) - 1) = 0 := by rw [hS.hn]; exact pow6 L (by have := hS.len; omega)
  have hm := wrap_mul (a := n) (b := n) (Nat.le_trans (square_le h2) (by decide))
  have q1 : ((n : Int) < 1) = False := by simp; omega
  have q2 : ((64 : Int) < (n : Int)) = False := by simp; omega
  have hw : IntKind.i64.wrap ((n : Int) - 1) = (n : Int) - 1 := by rw [IntKind.wrap_i64]; omega
  unfold gridV
  generalize n * n = m at hm ⊢
  clear hS
  go_enter Try.func17, Try.ntmps17
  go_wp2
  go_ret
  exact ⟨rfl, (Below.refl _ _).alloc (Nat.le_refl _) _⟩
theorem addr_plus (g o j : Nat) : (⟨g, o, none⟩ : Addr).add j = ⟨g, o + j, none⟩ := by unfold Addr.add; split <;> simp_all

section
variable {P : Program}

/-- A struct of two cells, read where it lies. -/
theorem load_two (w : World) (g : Nat) (ty : TypeId) (a b : Value) (d : TypeDesc) (h0 : w.cell? ⟨g, 0, none⟩ = some a) (h1 : w.cell? ⟨g, 1, none⟩ = some b)
    (hu : P.underlying ty = some d) (hd : (match d with | .struct _ | .array _ _ => true | _ => false) = true) (hi : (P.info? ty).map (·.size) = some 2) :
    (loadVar ty ⟨g, 0, none⟩).run P w = .ok (.agg #[a, b]) w := by
  have hl : (loadCells ⟨g, 0, none⟩ 2).run P w = .ok #[a, b] w :=
    run_loadCells_list (P := P) w ⟨g, 0, none⟩ [a, b] (fun j v hv => by
      rw [addr_add]
      match j, hv with
      | 0, hv => simp at hv; subst hv; exact h0
      | 1, hv => simp at hv; subst hv; exact h1)
  cases hq : P.info? ty with
  | none => simp [hq] at hi
  | some i =>
    have hs : i.size = 2 := by simpa [hq] using hi
    have hagg : (isAgg ty).run P w = .ok true w := by
      unfold isAgg
      rw [Sem.run_bind, run_underlying hu w]
      cases d <;> simp_all
    simp [loadVar, Sem.run_bind, hagg, sizeOf, typeInfo, hq, hs, hl]

theorem results_two {fn : Func} {p : Tmp} {ty : TypeId} (h : fn.results = #[.cell p ty]) (tmps : Array Value) (w : World) (g : Nat) (a b : Value) (d : TypeDesc)
    (hp : tmps.getD p undef = .pointer (some ⟨g, 0, none⟩)) (h0 : w.cell? ⟨g, 0, none⟩ = some a) (h1 : w.cell? ⟨g, 1, none⟩ = some b)
    (hu : P.underlying ty = some d) (hd : (match d with | .struct _ | .array _ _ => true | _ => false) = true) (hi : (P.info? ty).map (·.size) = some 2) :
    (results fn tmps).run P w = .ok (.agg #[a, b]) w := by
  have hp' : tmps[p]?.getD undef = .pointer (some ⟨g, 0, none⟩) := by simpa using hp
  simp [results, h, hp', asAddr, load_two w g ty a b d h0 h1 hu hd hi]

theorem results_two_tmp {fn : Func} {p u : Tmp} {ty : TypeId} (h : fn.results = #[.cell p ty, .tmp u]) (tmps : Array Value) (w : World) (g : Nat) (a b c : Value) (d : TypeDesc)
    (hp : tmps.getD p undef = .pointer (some ⟨g, 0, none⟩)) (hc : tmps.getD u undef = c) (h0 : w.cell? ⟨g, 0, none⟩ = some a) (h1 : w.cell? ⟨g, 1, none⟩ = some b)
    (hu : P.underlying ty = some d) (hd : (match d with | .struct _ | .array _ _ => true | _ => false) = true) (hi : (P.info? ty).map (·.size) = some 2) :
    (results fn tmps).run P w = .ok (.tuple #[.agg #[a, b], c]) w := by
  have hp' : tmps[p]?.getD undef = .pointer (some ⟨g, 0, none⟩) := by simpa using hp
  have hc' : tmps[u]?.getD undef = c := by simpa using hc
  simp [results, h, hp', hc', asAddr, load_two w g ty a b d h0 h1 hu hd hi]

/-- What a row holds where n numbers h have been laid from place off on. -/
def over (F h : Nat → Nat × Nat) (off n : Nat) (i : Nat) : Nat × Nat := if off ≤ i ∧ i < off + n then h (i - off) else F i

/-- The builtin copy, into a row, of numbers that stand in a row. -/
theorem wpList_copy_rows {w : World} {ops : Array Oper} {rest : List Oper} {o : Oper} {a : Act} {Q : Exit → Act → World → Prop} (hgd : o.guard = none) (d s : Operand) (dT sT : TypeId)
    (ho : o.op = .call { callee := .builtin .copy, args := #[d, s], argTypes := #[dT, sT] }) (elem : TypeId) (hu : P.underlying dT = some (.slice elem)) (hsz : (P.info? elem).map (·.size) = some 1)
    (g off dLen dCap gs os sLen sCap n N : Nat) (hd : a.eval d = .slice (some ⟨g, off, none⟩) dLen dCap) (hs : a.eval s = .slice (some ⟨gs, os, none⟩) sLen sCap) (hn1 : sLen = n) (hn2 : dLen = n)
    (F h : Nat → Nat × Nat) (hR : Row w g N F) (hsrc : Span w gs os n h) (hfit : off + n ≤ N)
    (hK : ∀ w', Row w' g N (over F h off n) → w.grownBy w' (some g) → wpList P ops Q rest (a.put o.dst (.int .i64 n)) w') : wpList P ops Q (o :: rest) a w := by
  obtain ⟨cur, c1, c2, c3⟩ := hR
  have hl : (vals n h).length = n := vals_length n h
  refine wpList_copy_own hgd d s dT sT ho elem hu hsz g off dLen dCap ⟨gs, os, none⟩ sLen sCap hd hs cur 28 c1 (vals n h) (by rw [hl, hn1, hn2]; exact (Nat.min_self n).symm) (fun j v hv => ?_) (by rw [hl]; omega) (fun v hv => ?_) ?_
  · obtain ⟨hj, rfl⟩ := vals_lt hv
    rw [addr_plus]
    exact hsrc.at_ j hj
  · unfold vals at hv
    simp at hv
    obtain ⟨i, _, rfl⟩ := hv
    rfl
  · rw [hl]
    refine hK _ ⟨_, setRow_heap w g _ _ _ _ c1, ?_, fun i hi => ?_⟩ ⟨rfl, rfl, rfl, by simp, fun k _ hr => setRow_other w g k _ (fun e => hr (by rw [e]))⟩
    · simp [hl]
      omega
    · have hlen : (cur.toList.take off).length = off := by simp; omega
      show ((cur.toList.take off ++ (vals n h ++ cur.toList.drop (off + n))).toArray)[i]? = _
      rw [List.getElem?_toArray]
      unfold over
      by_cases e1 : i < off
      · rw [List.getElem?_append_left (by omega), List.getElem?_take, if_pos e1, if_neg (by omega)]
        simpa using c3 i hi
      · rw [List.getElem?_append_right (by omega), hlen]
        by_cases e2 : i < off + n
        · rw [List.getElem?_append_left (by omega), vals_get h (by omega), if_pos (by omega)]
        · rw [List.getElem?_append_right (by omega), hl, List.getElem?_drop, if_neg (by omega), show off + n + (i - off - n) = i by omega]
          simpa using c3 i hi
end
end Go.Proofs.Ytgbffbikieikdaa
