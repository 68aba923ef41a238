/- A range over the landed steps, for any body. -/
import Derived.Test.YtgbkfmjkemkajaaM11
import Derived.Test.YtgbkfmjkemkajaaPM5
namespace Go.Proofs.Ytgbkfmjkemkajaa
open Go.RowKit Go.Shelf

/-- The two blocks that a range lays. -/
def rBlocks (w : World) (x : Nat) : Prop := x = w.heap.size ∨ x = w.heap.size + 1
/-- What a round keeps: all but the caller's own blocks and the loop's record. -/
def rkeep (O : Nat → Prop) (l gd : Nat) (W : World) (x : Nat) : Prop := x < W.heap.size ∧ x ≠ l ∧ (¬ O x ∨ x = gd)
/-- What is left alone while the range runs. -/
def rS (K : Nat) (V : PV) (v : Value) (w2 : World) (x : Nat) : Prop := asideS K V v w2 x ∨ rBlocks w2 x

set_option maxRecDepth 100000 in
set_option maxHeartbeats 3200000 in
theorem wpIn_rangeSteps {mm : Nat} {gO : Operand} {ps : Array Tmp} {assign body : Code} {Q : Exit → Act → World → Prop} {tm : Array Value} {w2 : World} {n : Nat} {L : List (Int × Int)} {a : Option Addr} {cap g o : Nat} {V : PV} {v : Value} {m : Nat} {f : Nat → Nat × Nat} {S0 O : Nat → Prop} (J : (Nat → Bool) → World → Prop)
    (hn : 1 ≤ n) (h64 : n ≤ 64) (hL : L.length ≤ 64) (ho : ∀ d, d ∈ L → okD d.1 d.2 = true) (hps : ps.size = 2)
    (hres : ∀ l W, (resolve ({ tmps := tm, defers := [] } : Act).eval (rangeCall gO l) 0).run Try.prog W = .ok { target := .fn (.func 16) #[], args := #[.pointer (some ⟨V.B, 0, none⟩), .func (.yield l) #[] #[]] } W)
    (hP : Peel S0 w2 n L a cap g o V (fun _ => true) (fun _ _ => true) v m f) (hQ : QOk n L (fun _ _ => true) f m (fun _ => False)) (hm : m ≤ 64 * 2017)
    (hOw : ∀ x, O x → x < w2.heap.size ∧ ¬ inPeel L.length V v x) (hJ : ∀ b W W', J b W → Aside O W W' → J b W') (hJ0 : J (fun _ => true) w2)
    (hround : ∀ (r : Loop) (b : Nat → Bool) (k j : Nat) (W : World), r.state = .ready → r.pending = none → W.heap[w2.heap.size + 1]? = some (.loop r) → (∃ v' m f, Peel (rS L.length V v w2) W n L a cap g o V b (fun _ => b) v' m f) → J b W → w2.heap.size + 2 ≤ W.heap.size → k < L.length → j < binN n (dk L k) → cntL n (dk L k) b (j : Int) = 1 →
      assign.wpIn (Fence.wide.inRound (w2.heap.size + 1)) (mm - 1 - 1) Try.prog (Exit.then (fun a₁ w₁ => ∃ w₂, (Instr.beginRound (w2.heap.size + 1)).run Try.prog w₁ = .ok () w₂ ∧ body.wpIn (Fence.wide.inRound (w2.heap.size + 1)) (mm - 1 - 1) Try.prog (roundPost Try.prog (w2.heap.size + 1) (fun e W' => e = .returned (.bool true) ∧ J (shutB b (sumL n (dk L k) b (j : Int))) W' ∧ W'.heap[w2.heap.size + 1]? = some (.loop r) ∧ Aside (rkeep O (w2.heap.size + 1) g W) W W')) a₁ w₂) (fun _ _ _ => False))
        { tmps := (ps.zip #[.agg #[.int .i64 k, .int .i64 j], .int .i64 (sumL n (dk L k) b (j : Int) : Nat)]).foldl (fun tmps (t, a) => tmps.setIfInBounds t a) tm, defers := [] } W)
    (hend : ∀ b W, Final n L b → (∃ v' m f, Peel (rS L.length V v w2) W n L a cap g o V b (fun _ => b) v' m f) → J b W → w2.heap.size + 2 ≤ W.heap.size → W.heap[w2.heap.size]? = some (.deferred (some [])) → Q .normal { tmps := tm, defers := [{ target := .collected w2.heap.size, args := #[] }] } W) :
    (Code.rangeFunc gO ps assign body).wpIn Fence.wide mm Try.prog Q { tmps := tm, defers := [] } w2 := by
  refine wpIn_rangeFunc ?_
  intro fn hfn
  obtain ⟨r, hr⟩ : ∃ r : Loop, r = { state := .ready, pending := none, fn, tmps := tm, params := ps, assign, body, defers := w2.heap.size } := ⟨_, rfl⟩
  obtain ⟨W1, hW1⟩ : ∃ W1, (w2.alloc (.deferred (some []))).alloc (.loop r) = W1 := ⟨_, rfl⟩
  have hb3 : Below w2.heap.size w2 W1 := by rw [← hW1]; exact ((Below.refl _ w2).alloc (Nat.le_refl _) _).alloc (by rw [World.size_alloc]; omega) _
  have hs3 : W1.heap.size = w2.heap.size + 2 := by rw [← hW1, World.size_alloc, World.size_alloc]
  have hL1 : W1.heap[w2.heap.size + 1]? = some (.loop r) := by
    rw [← hW1]; have := World.alloc_heap_new (w2.alloc (.deferred (some []))) (.loop r); rwa [World.size_alloc] at this
  have hK1 : W1.heap[w2.heap.size]? = some (.deferred (some [])) := by
    rw [← hW1]; exact (Below.heap_alloc _ _ _ (by simp)).trans (World.alloc_heap_new w2 _)
  have hgl : 0 < L.length → g < w2.heap.size := fun hl => (hP.dirs.at_ hl).2
  have P3 := hP.canon.plus (N := rBlocks w2) hb3 (fun x hx => by unfold rBlocks at hx; omega)
  have oS : ∀ x, O x → rS L.length V v w2 x := fun x hx => Or.inl (hOw x hx)
  have kS := stepsIn (S := rS L.length V v w2) (V := V) (cap := cap) (a := a) (g := g) (o := o)
    (fun b W => (W.heap[w2.heap.size + 1]? = some (.loop r) ∧ W.heap[w2.heap.size]? = some (.deferred (some []))) ∧ w2.heap.size + 2 ≤ W.heap.size ∧ J b W) (w2.heap.size + 1) (mm - 1) hn h64 hL ho
    (fun b W W' hj ha => ⟨⟨(ha.block _ (Or.inr (Or.inr rfl))).trans hj.1.1, (ha.block _ (Or.inr (Or.inl rfl))).trans hj.1.2⟩, Nat.le_trans hj.2.1 ha.size, hJ b W W' hj.2.2 (ha.mono oS)⟩)
    (fun b x W hp hj hx hc => by
      obtain ⟨⟨hj1, hj2⟩, hj3, hj4⟩ := hj
      have hy := run_yield (P := Try.prog) (args := #[.agg #[.int .i64 (x.1 : Nat), .int .i64 (x.2 : Nat)], .int .i64 (sumL n (dk L x.1) b (x.2 : Int) : Nat)]) hj1 (by rw [hr]; exact hps.symm)
      rw [hr] at hy
      refine ⟨fn, _, _, _, hy, roundIn_of_wpIn hfn ?_⟩
      have key := hround r b x.1 x.2 W (by rw [hr]) (by rw [hr]) hj1 hp hj4 hj3 hx.1 hx.2 hc
      refine Code.wpIn_mono ?_ key
      intro e a1 w1 h1
      cases e with
      | normal =>
        obtain ⟨w₂, h2, h3⟩ := h1
        refine ⟨w₂, h2, Code.wpIn_mono ?_ h3⟩
        intro e a2 w3 h4
        have imp : ∀ (e : Ending) (W' : World), (e = .returned (.bool true) ∧ J (shutB b (sumL n (dk L x.1) b (x.2 : Int))) W' ∧ W'.heap[w2.heap.size + 1]? = some (.loop r) ∧ Aside (rkeep O (w2.heap.size + 1) g W) W W') →
            (e = .returned (.bool true) ∧ ((W'.heap[w2.heap.size + 1]? = some (.loop r) ∧ W'.heap[w2.heap.size]? = some (.deferred (some []))) ∧ w2.heap.size + 2 ≤ W'.heap.size ∧ J (shutB b (sumL n (dk L x.1) b (x.2 : Int))) W') ∧ BodyKeeps (rS L.length V v w2) L.length g W W') := by
          rintro e W' ⟨he, h5, h6, h7⟩
          refine ⟨he, ⟨⟨h6, (h7.block _ ⟨by omega, by omega, Or.inl fun h => by have := (hOw _ h).1; omega⟩).trans hj2⟩, Nat.le_trans hj3 h7.size, h5⟩, ⟨h7.mono fun y hy => ⟨hy.1, fun e => hy.2 (Or.inr (Or.inr e)), Or.inl fun h => hy.2 (oS y h)⟩, fun hl => h7.block g ⟨by have := hgl hl; omega, by have := hgl hl; omega, Or.inr rfl⟩⟩⟩
        cases e with
        | normal => obtain ⟨u, W', h5, h6⟩ := h4; exact ⟨u, W', h5, imp _ _ h6⟩
        | ret => obtain ⟨u, W', h5, h6⟩ := h4; exact ⟨u, W', h5, imp _ _ h6⟩
        | exit id => obtain ⟨u, W', h5, h6⟩ := h4; exact ⟨u, W', h5, imp _ _ h6⟩
        | goto t => obtain ⟨u, W', h5, h6⟩ := h4; exact ⟨u, W', h5, imp _ _ h6⟩
        | panic c => exact h4
        | outgrown => exact h4
      | _ => exact h1)
    (fun _ => true) W1 ⟨v, m, f, P3, hQ, by have := cnt_le (fun _ => true) (n * n); have : n * n ≤ 4096 := Nat.mul_le_mul h64 h64; omega⟩ (holds_all n L) ⟨⟨hL1, hK1⟩, by omega, hJ _ _ _ hJ0 (Aside.of_below hb3 fun x hx => (hOw x hx).1)⟩
  refine ⟨w2.heap.size + 1, [{ target := .collected w2.heap.size, args := #[] }], W1, { target := .fn (.func 16) #[], args := #[.pointer (some ⟨V.B, 0, none⟩), .func (.yield (w2.heap.size + 1)) #[] #[]] }, W1, 16,
    #[.pointer (some ⟨V.B, 0, none⟩), .func (.yield (w2.heap.size + 1)) #[] #[]], W1, ?_, hres _ _, fun _ _ => trivial, ?_, fun h => (by cases h), ?_⟩
  · rw [← hW1, hr]; exact run_enterLoop_outer _ _ _ _ _
  · simp [invoke, go_sem, enters_of Try.func16 (by kernel_rfl) rfl _ _]
  · refine kS.mono ?_
    rintro e W2 ⟨⟨_, rfl⟩, b, hF, ⟨v4, m4, f4, hP4⟩, ⟨hl4, hk4⟩, hs4, hj4⟩
    have hend1 := run_endLoop (P := Try.prog) hl4 (by rw [hr]; simp)
    have hpn : r.pending = none := by rw [hr]
    obtain ⟨W3, hW3⟩ : ∃ W3, W2.putObj (w2.heap.size + 1) (.loop { r with state := .exhausted }) = W3 := ⟨_, rfl⟩
    rw [hW3, hpn] at hend1
    have ot : ∀ x, x ≠ w2.heap.size + 1 → W3.heap[x]? = W2.heap[x]? := fun x hx => by rw [← hW3]; exact World.putObj_heap_other hx
    have hsz : W3.heap.size = W2.heap.size := by rw [← hW3]; simp
    have aside : ∀ T : Nat → Prop, (∀ x, T x → x ≠ w2.heap.size + 1) → Aside T W2 W3 := fun T hT => ⟨by rw [← hW3]; rfl, by rw [← hW3]; rfl, by rw [← hW3]; rfl, by omega, fun x hx => ot x (hT x hx)⟩
    refine ⟨none, _, hend1, ?_⟩
    refine hend b _ hF ⟨v4, m4, f4, hP4.body ⟨aside _ fun x hx e => hx.2 (Or.inr (Or.inr e)), fun hl => ot g (by have := hgl hl; omega)⟩⟩ (hJ _ _ _ hj4 (aside _ fun x hx e => by have := (hOw x hx).1; omega)) (by omega) ((ot _ (by omega)).trans hk4)
end Go.Proofs.Ytgbkfmjkemkajaa
