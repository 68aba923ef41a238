/- A range over a function: what the caller holds; what the bins have gathered; make within a fence; a struct of three cells as a result. -/
import Derived.Test.YthbghcebcahlnaaYI
import Derived.Test.YthbghcebcahlnaaY3
namespace Go.Proofs.Ythbghcebcahlnaa
open Go.RowKit Go.Shelf
attribute [local go_sem] Oper.semAt_some

/-- What bins hold when the cells of a list have come. -/
def accM (ix : Nat → Nat) (v : Nat → Int × Int) (l : List Nat) : Nat → Int × Int :=
  l.foldl (fun f k => fun j => if j = ix k then addZ (f j) (v k) else f j) (fun _ => (0, 0))

theorem accM_snoc (ix : Nat → Nat) (v : Nat → Int × Int) (l : List Nat) (k j : Nat) : accM ix v (l ++ [k]) j = if j = ix k then addZ (accM ix v l j) (v k) else accM ix v l j := by
  unfold accM
  rw [List.foldl_append]
  rfl

theorem accM_range (ix : Nat → Nat) (v : Nat → Int × Int) (k : Nat) : accM ix v (List.range k) = accZ ix v k := by
  induction k with
  | zero => rfl
  | succ k ih =>
    funext j
    rw [List.range_succ, accM_snoc, ih]
    rfl

theorem accM_le {ix : Nat → Nat} {v : Nat → Int × Int} {M : Nat} {l : List Nat} (h : ∀ k, k ∈ l → (v k).1.natAbs ≤ M ∧ (v k).2.natAbs ≤ M) (j : Nat) : (accM ix v l j).1.natAbs ≤ l.length * M ∧ (accM ix v l j).2.natAbs ≤ l.length * M := by
  generalize hr : l.reverse = r at *
  obtain rfl : l = r.reverse := by rw [← hr, List.reverse_reverse]
  clear hr
  induction r with
  | nil => exact ⟨Nat.zero_le _, Nat.zero_le _⟩
  | cons x r ih =>
    rw [List.reverse_cons] at h ⊢
    have i1 := ih fun k hk => h k (by simp at hk ⊢; exact Or.inl hk)
    have i2 := h x (by simp)
    rw [accM_snoc]
    simp only [List.length_append, List.length_cons, List.length_nil, Nat.zero_add, Nat.add_mul, Nat.one_mul]
    split
    · unfold addZ
      dsimp only
      omega
    · omega

theorem row_own {A B : World} {g n : Nat} {f : Nat → Nat × Nat} {row : Option Nat} (h : Row A g n f) (hg : A.grownBy B row) (hr : ∀ r, row = some r → ∃ o : Obj, A.heap[r]? = some o ∧ o.isCells = false) : Row B g n f := by
  refine row_grown h hg fun e => ?_
  obtain ⟨o, h1, h2⟩ := hr g e.symm
  obtain ⟨cur, h3, _⟩ := h
  rw [h3] at h1
  cases h1
  cases h2

theorem cells_own {A B : World} {g : Nat} {row : Option Nat} {cs : Array Value} {t : TypeId} {x : Nat × Nat} (h : A.heap[g]? = some (.cells cs t x)) (hg : A.grownBy B row) (hr : ∀ r, row = some r → ∃ o : Obj, A.heap[r]? = some o ∧ o.isCells = false) : B.heap[g]? = some (.cells cs t x) := by
  rw [hg.block g (Array.getElem?_eq_some_iff.1 h).1 fun e => ?_, h]
  obtain ⟨o, h1, h2⟩ := hr g e.symm
  rw [h] at h1
  cases h1
  cases h2

/-- make(T, n) within a fence. -/
theorem wpListIn_make_full {F : Fence} {m : Nat} {P : Program} (w : World) {ops : Array Oper} {rest : List Oper} {o : Oper} {a : Act} {Q : Exit → Act → World → Prop}
    (hg : o.guard = none) (l c : Operand) (t : TypeId) (hop : o.op = Op.makeSlice t l c)
    (base : Nat) (e : TypeId) (i : TypeInfo) (z : Value) (size : Nat) (h1 : P.underlying t = some (.slice e)) (h2 : P.info? e = some i) (h3 : i.zero = some z) (h4 : i.size = size)
    (kl kc : IntKind) (L C : Int) (n : Nat) (hl : a.eval l = .int kl L) (hc : a.eval c = .int kc C) (hL : L = (n : Int)) (hC : C = (n : Int)) (b2 : i.bytes * n ≤ 281474976710656) (b3 : n ≤ maxLen) (b4 : base ≤ w.heap.size)
    (hK : ∀ w', w'.ownsRow base e size (.slice (some ⟨w.heap.size, 0, none⟩) n n) n (madeCells z.cells (n * size)).toList → w.grownBy w' none → wpListIn F m P ops Q rest (a.put o.dst (.slice (some ⟨w.heap.size, 0, none⟩) n n)) w') :
    wpListIn F m P ops Q (o :: rest) a w := by
  refine wpListIn_plain hg fun K hK' => ?_
  obtain ⟨w', hrun, r1, r2⟩ := run_make_full (P := P) w base t e i z size h1 h2 h3 h4 kl kc n b2 b3 b4
  subst hL
  subst hC
  unfold Oper.wpIn
  refine ⟨?_, ?_⟩
  · simp [Oper.about, hop]
  · rw [Oper.semAt_plain F _ _ (by rw [hop]; intro c hc'; cases hc')]
    simp [execOp, hop, hl, hc, hrun, Result.andThen]
    exact hK' _ _ (hK w' r1 r2)

set_option maxHeartbeats 800000 in
/-- SCAFFOLD: the iterator is handed back, its side and its direction in boxes of their own. -/
theorem linesAny (n P Q : Int) (w : World) :
    Calls (barP Try.prog) 56 #[.int .i64 n, .agg #[.int .i64 P, .int .i64 Q]] w fun e w' =>
      e = .returned (.func (.func 81) #[] #[.pointer (some ⟨w.heap.size, 0, none⟩), .pointer (some ⟨w.heap.size + 1, 0, none⟩)]) ∧ w' = (w.alloc (.cells #[.int .i64 n] 3)).alloc (.cells #[.int .i64 P, .int .i64 Q] 47) := by
  go_enter Bar.func56, Bar.ntmps56
  go_wp2_with fail
  go_ret
  exact ⟨by simp, rfl⟩
end Go.Proofs.Ythbghcebcahlnaa
