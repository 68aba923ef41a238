/- What is asked of filtered bins. -/
import Derived.Test.YthiipodgfbnpeaaDoorFP
import Derived.Test.YthiipodgfbnpeaaDoorFA
import Derived.Laws.CopyOwn
import Derived.BigRegion
namespace Go.Proofs.YthiipodgfbnpeaaDoor
open Go.RowKit Fl
attribute [local go_sem] store_complex

theorem row_cur {w : World} {g n : Nat} {f : Nat → Nat × Nat} (h : Row w g n f) : ∃ cur : Array Value, w.heap[g]? = some (.cells cur 33 (0, 0)) ∧ n ≤ cur.size ∧ ∀ i, i < n → cur[i]? = some (cv (f i)) := h

/-- The builtin copy of a list into a longer one of noughts. -/
theorem wpList_copy_pad {P : Program} {w : World} {ops : Array Oper} {rest : List Oper} {o : Oper} {a : Act} {Q : Exit → Act → World → Prop} (hgd : o.guard = none) (d s : Operand) (dT sT : TypeId)
    (ho : o.op = .call { callee := .builtin .copy, args := #[d, s], argTypes := #[dT, sT] }) (elem : TypeId) (hu : P.underlying dT = some (.slice elem)) (hsz : (P.info? elem).map (·.size) = some 1)
    (g N dCap gs m sCap : Nat) (hd : a.eval d = .slice (some ⟨g, 0, none⟩) N dCap) (hs : a.eval s = .slice (some ⟨gs, 0, none⟩) m sCap) (hm : m ≤ N)
    (xs : Nat → Nat × Nat) (hR : Row w g N (fun _ => (0, 0))) (hsrc : Row w gs m xs)
    (hK : ∀ w', Row w' g N (padX m xs) → w.grownBy w' (some g) → wpList P ops Q rest (a.put o.dst (.int .i64 m)) w') : wpList P ops Q (o :: rest) a w := by
  obtain ⟨cur, c1, c2, c3⟩ := row_cur hR
  have hl : (vals m xs).length = m := vals_length m xs
  refine wpList_copy_own hgd d s dT sT ho elem hu hsz g 0 N dCap ⟨gs, 0, none⟩ m sCap hd hs cur 33 c1 (vals m xs) (by rw [hl]; exact (Nat.min_eq_left hm).symm) (fun j v hv => ?_) (by rw [hl]; omega) (fun v hv => ?_) ?_
  · obtain ⟨hj, rfl⟩ := vals_lt hv
    rw [addr_add]
    exact row_at hsrc hj
  · unfold vals at hv
    simp at hv
    obtain ⟨i, _, rfl⟩ := hv
    rfl
  · rw [hl]
    refine hK _ ⟨_, setRow_heap w g _ _ _ _ c1, ?_, fun i hi => ?_⟩ ⟨rfl, rfl, rfl, by simp, fun k _ hr => setRow_other w g k _ (fun e => hr (by rw [e]))⟩
    · simp [hl]
      omega
    · show ((cur.toList.take 0 ++ (vals m xs ++ cur.toList.drop (0 + m))).toArray)[i]? = _
      rw [List.getElem?_toArray, List.take_zero, List.nil_append, Nat.zero_add]
      unfold padX
      by_cases e1 : i < m
      · rw [List.getElem?_append_left (by omega), if_pos e1]
        exact vals_get xs e1
      · rw [List.getElem?_append_right (by omega), hl, if_neg e1, List.getElem?_drop, show m + (i - m) = i by omega]
        simpa using c3 i hi

def prodTo (f g : Nat → Nat × Nat) (k : Nat) : Nat → Nat × Nat := fun i => if i < k then g i else f i

theorem ord_pow {l : Nat} (h : l ≤ 12) : Ord (2 ^ l) (2 ^ (12 - l)) := ⟨l, h, rfl, rfl⟩

theorem lenE_le (b : Nat) : lenE b ≤ 12 := by
  unfold lenE
  iterate 12 (split; · decide)
  decide
theorem lenE_big {b : Nat} (h : b ≤ 2048) : b ≤ 2 ^ lenE b := by
  by_cases c0 : 2 * b ≤ 1
  · have e : lenE b = 0 := by unfold lenE; rw [if_pos c0]
    rw [e]
    have : (2 : Nat) ^ 0 = 1 := by decide
    omega
  by_cases c1 : 2 * b ≤ 2
  · have e : lenE b = 1 := by unfold lenE; rw [if_neg c0, if_pos c1]
    rw [e]
    have : (2 : Nat) ^ 1 = 2 := by decide
    omega
  by_cases c2 : 2 * b ≤ 4
  · have e : lenE b = 2 := by unfold lenE; rw [if_neg c0, if_neg c1, if_pos c2]
    rw [e]
    have : (2 : Nat) ^ 2 = 4 := by decide
    omega
  by_cases c3 : 2 * b ≤ 8
  · have e : lenE b = 3 := by unfold lenE; rw [if_neg c0, if_neg c1, if_neg c2, if_pos c3]
    rw [e]
    have : (2 : Nat) ^ 3 = 8 := by decide
    omega
  by_cases c4 : 2 * b ≤ 16
  · have e : lenE b = 4 := by unfold lenE; rw [if_neg c0, if_neg c1, if_neg c2, if_neg c3, if_pos c4]
    rw [e]
    have : (2 : Nat) ^ 4 = 16 := by decide
    omega
  by_cases c5 : 2 * b ≤ 32
  · have e : lenE b = 5 := by unfold lenE; rw [if_neg c0, if_neg c1, if_neg c2, if_neg c3, if_neg c4, if_pos c5]
    rw [e]
    have : (2 : Nat) ^ 5 = 32 := by decide
    omega
  by_cases c6 : 2 * b ≤ 64
  · have e : lenE b = 6 := by unfold lenE; rw [if_neg c0, if_neg c1, if_neg c2, if_neg c3, if_neg c4, if_neg c5, if_pos c6]
    rw [e]
    have : (2 : Nat) ^ 6 = 64 := by decide
    omega
  by_cases c7 : 2 * b ≤ 128
  · have e : lenE b = 7 := by unfold lenE; rw [if_neg c0, if_neg c1, if_neg c2, if_neg c3, if_neg c4, if_neg c5, if_neg c6, if_pos c7]
    rw [e]
    have : (2 : Nat) ^ 7 = 128 := by decide
    omega
  by_cases c8 : 2 * b ≤ 256
  · have e : lenE b = 8 := by unfold lenE; rw [if_neg c0, if_neg c1, if_neg c2, if_neg c3, if_neg c4, if_neg c5, if_neg c6, if_neg c7, if_pos c8]
    rw [e]
    have : (2 : Nat) ^ 8 = 256 := by decide
    omega
  by_cases c9 : 2 * b ≤ 512
  · have e : lenE b = 9 := by unfold lenE; rw [if_neg c0, if_neg c1, if_neg c2, if_neg c3, if_neg c4, if_neg c5, if_neg c6, if_neg c7, if_neg c8, if_pos c9]
    rw [e]
    have : (2 : Nat) ^ 9 = 512 := by decide
    omega
  by_cases c10 : 2 * b ≤ 1024
  · have e : lenE b = 10 := by unfold lenE; rw [if_neg c0, if_neg c1, if_neg c2, if_neg c3, if_neg c4, if_neg c5, if_neg c6, if_neg c7, if_neg c8, if_neg c9, if_pos c10]
    rw [e]
    have : (2 : Nat) ^ 10 = 1024 := by decide
    omega
  by_cases c11 : 2 * b ≤ 2048
  · have e : lenE b = 11 := by unfold lenE; rw [if_neg c0, if_neg c1, if_neg c2, if_neg c3, if_neg c4, if_neg c5, if_neg c6, if_neg c7, if_neg c8, if_neg c9, if_neg c10, if_pos c11]
    rw [e]
    have : (2 : Nat) ^ 11 = 2048 := by decide
    omega
  have e : lenE b = 12 := by unfold lenE; rw [if_neg c0, if_neg c1, if_neg c2, if_neg c3, if_neg c4, if_neg c5, if_neg c6, if_neg c7, if_neg c8, if_neg c9, if_neg c10, if_neg c11]
  rw [e]
  have : (2 : Nat) ^ 12 = 4096 := by decide
  omega

/-- What is asked of filter.Apply where it answers. -/
def ApplyGen (f : Nat) : Prop := ∀ (m c g kind : Nat) (xs P sc : Nat → Nat × Nat) (b b' : Nat) (w : World), 1 ≤ m → m ≤ 2048 → m ≤ c → 1 ≤ kind → kind ≤ 3 → 60 ≤ b → b ≤ 1900 → 60 ≤ b' → b' ≤ 1900 → Nums b (2 ^ lenE m) (padX m xs) →
  (∀ k, k < 2 ^ lenE m → floatBits .mul .f64 (fft (lenE m) 4095 (padX m xs) k).1 (wT kind (k * 2 ^ (12 - lenE m))) = some (P k).1 ∧ floatBits .mul .f64 (fft (lenE m) 4095 (padX m xs) k).2 (wT kind (k * 2 ^ (12 - lenE m))) = some (P k).2) →
  Nums b' (2 ^ lenE m) P → (∀ k, k < 2 ^ lenE m → LdTo (lenE m) (fft (lenE m) 1 P k).1 (sc k).1 ∧ LdTo (lenE m) (fft (lenE m) 1 P k).2 (sc k).2) → Deb w → Row w g m xs →
  Calls Tryd.prog f #[.slice (some ⟨g, 0, none⟩) m c, .int .i64 kind] w fun r w' => ∃ g' c', r = .returned (.tuple #[.slice (some ⟨g', 0, none⟩) m c', .int .i64 0]) ∧ Row w' g' m sc ∧ Below w.heap.size w w'
end Go.Proofs.YthiipodgfbnpeaaDoor
