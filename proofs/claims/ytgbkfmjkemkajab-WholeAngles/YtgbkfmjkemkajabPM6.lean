/- The landed peeling: how it is built. -/
import Derived.Test.YtgbkfmjkemkajabPM5
import Derived.Test.YtgbkfmjkemkajabPR1
import Derived.Test.YtgbkfmjkemkajabPYL
namespace Go.Proofs.Ytgbkfmjkemkajab
open Go.RowKit

def bsX1 (n : Nat) (L : List (Int × Int)) (k : Nat) : Value := .int .i64 (startS n (dk L k))
def bsX2 (n : Nat) (L : List (Int × Int)) (lk : Nat → Nat) (k : Nat) : Value := .slice (some ⟨lk k, 0, none⟩) (binN n (dk L k)) (binN n (dk L k))

/-- The blocks by their roles. -/
def bsR (B b0 : Nat) (vF vL : Value) (lk : Nat → Nat) (K : Nat) : Nat → Option Nat
  | 0 => some B
  | 1 => some (B + 1)
  | 2 => some b0
  | 3 => vF.ownBlock
  | 4 => vL.ownBlock
  | r + 5 => if r < K then some (lk r) else none

structure Bs (base : Nat) (w0 W : World) (n : Nat) (L : List (Int × Int)) (a : Option Addr) (cap B b0 c0 : Nat) (sF sL vF : Value) (kF : Nat) (vL : Value) (kL : Nat) (lk : Nat → Nat) (K : Nat) : Prop where
  st : W.heap[B]? = some (.cells #[.int .i64 n, .slice a L.length cap, sF, sL, .slice (some ⟨b0, 0, none⟩) (n * n : Nat) c0, .slice none 0 0] 71 (0, 0))
  pb : W.heap[B + 1]? = some (.cells #[.pointer (some ⟨B, 0, none⟩)] 50 (0, 0))
  op : VRow W 4 b0 (n * n) (fun _ => .bool true)
  oF : W.ownsRow 0 3 1 vF kF (xsF (bsX1 n L) kF)
  oL : W.ownsRow 0 86 1 vL kL (xsF (bsX2 n L lk) kL)
  ln : ∀ i, i < K → VRow W 96 (lk i) (binN n (dk L i) * 2) (fun _ => .int .i64 0)
  inj : ∀ r s q, bsR B b0 vF vL lk K r = some q → bsR B b0 vF vL lk K s = some q → r = s
  rng : ∀ r q, bsR B b0 vF vL lk K r = some q → base ≤ q ∧ q < W.heap.size
  bel : Below base w0 W

section
variable {base : Nat} {w0 W W' : World} {n : Nat} {L : List (Int × Int)} {a : Option Addr} {cap B b0 c0 : Nat} {sF sL vF : Value} {kF : Nat} {vL : Value} {kL : Nat} {lk : Nat → Nat} {K : Nat}

/-- What keeps all its blocks keeps it. -/
theorem Bs.keep (h : Bs base w0 W n L a cap B b0 c0 sF sL vF kF vL kL lk K) (hk : ∀ r q, bsR B b0 vF vL lk K r = some q → W'.heap[q]? = W.heap[q]?) (hs : W.heap.size ≤ W'.heap.size) (hb : Below base w0 W') : Bs base w0 W' n L a cap B b0 c0 sF sL vF kF vL kL lk K := by
  refine ⟨(hk 0 B rfl).trans h.st, (hk 1 (B + 1) rfl).trans h.pb, vrow_keep h.op (hk 2 b0 rfl), own_keep h.oF (hk 3), own_keep h.oL (hk 4), fun i hi => vrow_keep (h.ln i hi) (hk (i + 5) (lk i) (if_pos hi)), h.inj, fun r q hr => ⟨(h.rng r q hr).1, Nat.lt_of_lt_of_le (h.rng r q hr).2 hs⟩, hb⟩

theorem Bs.below (h : Bs base w0 W n L a cap B b0 c0 sF sL vF kF vL kL lk K) (hb : Below W.heap.size W W') : Bs base w0 W' n L a cap B b0 c0 sF sL vF kF vL kL lk K :=
  h.keep (fun r q hr => hb.block q (h.rng r q hr).2) hb.size (h.bel.trans (hb.mono (by have := h.rng 0 B rfl; omega)))

theorem Bs.base_le (h : Bs base w0 W n L a cap B b0 c0 sF sL vF kF vL kL lk K) : base ≤ W.heap.size := by have := h.rng 0 B rfl; omega

/-- A row of lines that is new. -/
theorem Bs.line (h : Bs base w0 W n L a cap B b0 c0 sF sL vF kF vL kL lk K) (hkL : kL ≤ K) (hb : Below W.heap.size W W') {q : Nat} (hq : W.heap.size ≤ q) (hrow : VRow W' 96 q (binN n (dk L K) * 2) (fun _ => .int .i64 0)) :
    Bs base w0 W' n L a cap B b0 c0 sF sL vF kF vL kL (updP lk K q) (K + 1) := by
  have h' := h.below hb
  have e : ∀ r q', bsR B b0 vF vL (updP lk K q) (K + 1) r = some q' → (r = K + 5 ∧ q' = q) ∨ bsR B b0 vF vL lk K r = some q' := fun r q' hr => by
    match r with
    | 0 => exact Or.inr hr
    | 1 => exact Or.inr hr
    | 2 => exact Or.inr hr
    | 3 => exact Or.inr hr
    | 4 => exact Or.inr hr
    | r + 5 =>
      have hr : (if r < K + 1 then some (updP lk K q r) else none) = some q' := hr
      by_cases c : r = K
      · subst c
        rw [if_pos (by omega), updP_at] at hr
        exact Or.inl ⟨rfl, (Option.some.inj hr).symm⟩
      · by_cases c2 : r < K
        · rw [if_pos (by omega), updP_ne _ _ c] at hr
          refine Or.inr ?_
          show (if r < K then some (lk r) else none) = some q'
          rw [if_pos c2]; exact hr
        · rw [if_neg (by omega)] at hr; cases hr
  refine ⟨h'.st, h'.pb, h'.op, h'.oF, ?_, fun i hi => ?_, fun r s x hr hs => ?_, fun r x hr => ?_, h'.bel⟩
  · have : xsF (bsX2 n L (updP lk K q)) kL = xsF (bsX2 n L lk) kL := by
      unfold xsF
      refine List.map_congr_left fun i hi => ?_
      have := List.mem_range.1 hi
      unfold bsX2
      rw [updP_ne _ _ (by omega)]
    rw [this]
    exact h'.oL
  · by_cases c : i = K
    · subst c
      rw [updP_at]
      exact hrow
    · rw [updP_ne _ _ c]
      exact h'.ln i (by omega)
  · rcases e r x hr with ⟨e1, e2⟩ | e1
    · rcases e s x hs with ⟨e3, _⟩ | e3
      · rw [e1, e3]
      · have := (h.rng s x e3).2
        omega
    · rcases e s x hs with ⟨_, e3⟩ | e3
      · have := (h.rng r x e1).2
        omega
      · exact h.inj r s x e1 e3
  · rcases e r x hr with ⟨_, e1⟩ | e1
    · rw [e1]
      exact ⟨Nat.le_trans h.base_le hq, vrow_lt hrow⟩
    · exact ⟨(h.rng r x e1).1, Nat.lt_of_lt_of_le (h.rng r x e1).2 hb.size⟩

/-- The blocks where one list's has changed. -/
theorem Bs.roles {vF' vL' : Value} (h : Bs base w0 W n L a cap B b0 c0 sF sL vF kF vL kL lk K) (t : Nat) (hR : ∀ r, r ≠ t → bsR B b0 vF' vL' lk K r = bsR B b0 vF vL lk K r)
    (hn : ∀ q, bsR B b0 vF' vL' lk K t = some q → (bsR B b0 vF vL lk K t = some q ∨ W.heap.size = q) ∧ q < W'.heap.size) (hs : W.heap.size ≤ W'.heap.size) :
    (∀ r s q, bsR B b0 vF' vL' lk K r = some q → bsR B b0 vF' vL' lk K s = some q → r = s) ∧ ∀ r q, bsR B b0 vF' vL' lk K r = some q → base ≤ q ∧ q < W'.heap.size := by
  have key : ∀ r q, bsR B b0 vF' vL' lk K r = some q → bsR B b0 vF vL lk K r = some q ∨ (r = t ∧ W.heap.size = q) := fun r q hr => by
    by_cases c : r = t
    · subst c
      rcases (hn q hr).1 with e | e
      · exact Or.inl e
      · exact Or.inr ⟨rfl, e⟩
    · rw [hR r c] at hr
      exact Or.inl hr
  refine ⟨fun r s q hr hs' => ?_, fun r q hr => ?_⟩
  · rcases key r q hr with e | ⟨e, e'⟩
    · rcases key s q hs' with f | ⟨f, f'⟩
      · exact h.inj r s q e f
      · have := (h.rng r q e).2; omega
    · rcases key s q hs' with f | ⟨f, f'⟩
      · have := (h.rng s q f).2; omega
      · rw [e, f]
  · rcases key r q hr with e | ⟨e, e'⟩
    · exact ⟨(h.rng r q e).1, Nat.lt_of_lt_of_le (h.rng r q e).2 hs⟩
    · subst e
      exact ⟨e' ▸ h.base_le, (hn q hr).2⟩

theorem own_ltB {w : World} {e : TypeId} {v : Value} {m : Nat} {xs : List Value} (h : w.ownsRow 0 e 1 v m xs) {q : Nat} (hq : v.ownBlock = some q) : q < w.heap.size := (h.lt q hq).2

theorem Bs.appF (h : Bs base w0 W n L a cap B b0 c0 sF sL vF kF vL kL lk K) {vF' : Value} (hown : W'.ownsRow 0 3 1 vF' (kF + 1) (xsF (bsX1 n L) kF ++ [bsX1 n L kF])) (hg : W.grownBy W' vF.ownBlock) (hat : vF'.ownBlock = vF.ownBlock ∨ vF'.ownBlock = some W.heap.size) :
    Bs base w0 W' n L a cap B b0 c0 sF sL vF' (kF + 1) vL kL lk K := by
  have kp : ∀ r q, r ≠ 3 → bsR B b0 vF vL lk K r = some q → W'.heap[q]? = W.heap[q]? := fun r q hne hr => hg.block q (h.rng r q hr).2 fun c => hne (h.inj r 3 q hr c.symm)
  obtain ⟨h1, h2⟩ := h.roles (W' := W') (vF' := vF') (vL' := vL) 3 (fun r hr => by
    match r with
    | 0 => rfl
    | 1 => rfl
    | 2 => rfl
    | 3 => exact absurd rfl hr
    | 4 => rfl
    | r + 5 => rfl) (fun q hq => ⟨by
      have hq : vF'.ownBlock = some q := hq
      rcases hat with e | e
      · exact Or.inl (e.symm.trans hq)
      · rw [e] at hq; exact Or.inr (Option.some.inj hq), own_ltB hown hq⟩) hg.size
  refine ⟨(kp 0 B (by omega) rfl).trans h.st, (kp 1 (B + 1) (by omega) rfl).trans h.pb, vrow_keep h.op (kp 2 b0 (by omega) rfl), ?_, own_keep h.oL (fun q hq => kp 4 q (by omega) hq), fun i hi => vrow_keep (h.ln i hi) (kp (i + 5) _ (by omega) (if_pos hi)), h1, h2, h.bel.grown hg h.base_le fun q hq => (h.rng 3 q hq).1⟩
  rw [xsF_snoc (f := bsX1 n L) (fun i _ => rfl)]
  exact hown

theorem Bs.appL (h : Bs base w0 W n L a cap B b0 c0 sF sL vF kF vL kL lk K) {vL' : Value} (hown : W'.ownsRow 0 86 1 vL' (kL + 1) (xsF (bsX2 n L lk) kL ++ [bsX2 n L lk kL])) (hg : W.grownBy W' vL.ownBlock) (hat : vL'.ownBlock = vL.ownBlock ∨ vL'.ownBlock = some W.heap.size) :
    Bs base w0 W' n L a cap B b0 c0 sF sL vF kF vL' (kL + 1) lk K := by
  have kp : ∀ r q, r ≠ 4 → bsR B b0 vF vL lk K r = some q → W'.heap[q]? = W.heap[q]? := fun r q hne hr => hg.block q (h.rng r q hr).2 fun c => hne (h.inj r 4 q hr c.symm)
  obtain ⟨h1, h2⟩ := h.roles (W' := W') (vF' := vF) (vL' := vL') 4 (fun r hr => by
    match r with
    | 0 => rfl
    | 1 => rfl
    | 2 => rfl
    | 3 => rfl
    | 4 => exact absurd rfl hr
    | r + 5 => rfl) (fun q hq => ⟨by
      have hq : vL'.ownBlock = some q := hq
      rcases hat with e | e
      · exact Or.inl (e.symm.trans hq)
      · rw [e] at hq; exact Or.inr (Option.some.inj hq), own_ltB hown hq⟩) hg.size
  refine ⟨(kp 0 B (by omega) rfl).trans h.st, (kp 1 (B + 1) (by omega) rfl).trans h.pb, vrow_keep h.op (kp 2 b0 (by omega) rfl), own_keep h.oF (fun q hq => kp 3 q (by omega) hq), ?_, fun i hi => vrow_keep (h.ln i hi) (kp (i + 5) _ (by omega) (if_pos hi)), h1, h2, h.bel.grown hg h.base_le fun q hq => (h.rng 4 q hq).1⟩
  rw [xsF_snoc (f := bsX2 n L lk) (fun i _ => rfl)]
  exact hown

theorem Bs.other (h : Bs base w0 W n L a cap B b0 c0 sF sL vF kF vL kL lk K) {r q : Nat} (hr : bsR B b0 vF vL lk K r = some q) (hne : r ≠ 0) (i : Nat) (u : Value) : (W.setCell ⟨B, i, none⟩ u).heap[q]? = W.heap[q]? :=
  Below.heap_setCell _ _ _ _ fun e => hne (h.inj r 0 q hr (by rw [e]; rfl))

theorem Bs.set2 (h : Bs base w0 W n L a cap B b0 c0 sF sL vF kF vL kL lk K) (u : Value) : Bs base w0 (W.setCell ⟨B, 2, none⟩ u) n L a cap B b0 c0 u sL vF kF vL kL lk K :=
  ⟨heap_setCell_same W B 2 _ _ u h.st, (h.other (r := 1) rfl (by omega) 2 u).trans h.pb, vrow_keep h.op (h.other (r := 2) rfl (by omega) 2 u), own_keep h.oF (fun q hq => h.other (r := 3) hq (by omega) 2 u), own_keep h.oL (fun q hq => h.other (r := 4) hq (by omega) 2 u),
    fun i hi => vrow_keep (h.ln i hi) (h.other (r := i + 5) (if_pos hi) (by omega) 2 u), h.inj, fun r q hr => by rw [World.size_setCell]; exact h.rng r q hr, h.bel.setCell (p := ⟨B, 2, none⟩) (h.rng 0 B rfl).1 u⟩
theorem Bs.set3 (h : Bs base w0 W n L a cap B b0 c0 sF sL vF kF vL kL lk K) (u : Value) : Bs base w0 (W.setCell ⟨B, 3, none⟩ u) n L a cap B b0 c0 sF u vF kF vL kL lk K :=
  ⟨heap_setCell_same W B 3 _ _ u h.st, (h.other (r := 1) rfl (by omega) 3 u).trans h.pb, vrow_keep h.op (h.other (r := 2) rfl (by omega) 3 u), own_keep h.oF (fun q hq => h.other (r := 3) hq (by omega) 3 u), own_keep h.oL (fun q hq => h.other (r := 4) hq (by omega) 3 u),
    fun i hi => vrow_keep (h.ln i hi) (h.other (r := i + 5) (if_pos hi) (by omega) 3 u), h.inj, fun r q hr => by rw [World.size_setCell]; exact h.rng r q hr, h.bel.setCell (p := ⟨B, 3, none⟩) (h.rng 0 B rfl).1 u⟩

theorem Bs.c2 (h : Bs base w0 W n L a cap B b0 c0 sF sL vF kF vL kL lk K) : W.cell? ⟨B, 2, none⟩ = some sF ∧ W.frozen? ⟨B, 2, none⟩ = false := ⟨cell_of_row W B 2 _ _ (0, 0) h.st, frozen_of_row W B 2 _ _ h.st⟩
theorem Bs.c3 (h : Bs base w0 W n L a cap B b0 c0 sF sL vF kF vL kL lk K) : W.cell? ⟨B, 3, none⟩ = some sL ∧ W.frozen? ⟨B, 3, none⟩ = false := ⟨cell_of_row W B 3 _ _ (0, 0) h.st, frozen_of_row W B 3 _ _ h.st⟩
theorem Bs.cp (h : Bs base w0 W n L a cap B b0 c0 sF sL vF kF vL kL lk K) : W.cell? ⟨B + 1, 0, none⟩ = some (.pointer (some ⟨B, 0, none⟩)) := cell_of_row W (B + 1) 0 _ _ (0, 0) h.pb

def bsV (B b0 c0 : Nat) (vF vL : Value) (lk : Nat → Nat) : PV where
  B := B
  blk := fun r => match r with
    | 0 => b0
    | 1 => vF.ownBlock.getD 0
    | 2 => vL.ownBlock.getD 0
    | r + 3 => lk r
  aF := match vF with | .slice ad _ _ => ad | _ => none
  aL := match vL with | .slice ad _ _ => ad | _ => none
  cF := match vF with | .slice _ _ c => c | _ => 0
  cL := match vL with | .slice _ _ c => c | _ => 0
  cO := c0

theorem own_form {w : World} {e : TypeId} {v : Value} {m : Nat} {xs : List Value} (h : w.ownsRow 0 e 1 v m xs) : (∃ ad c, v = .slice ad m c) ∧ (0 < m → ∃ q c, v = .slice (some ⟨q, 0, none⟩) m c) := by
  rcases h.2 with ⟨rfl, rfl⟩ | ⟨q, c, cur, rfl, _⟩
  · exact ⟨⟨none, 0, rfl⟩, fun h => by omega⟩
  · exact ⟨⟨_, c, rfl⟩, fun _ => ⟨q, c, rfl⟩⟩
theorem own_vrow {w : World} {e : TypeId} {v : Value} {m q : Nat} {f : Nat → Value} (h : w.ownsRow 0 e 1 v m (xsF f m)) (hq : v.ownBlock = some q) : VRow w e q m f := by
  rcases h.2 with ⟨rfl, _⟩ | ⟨g, cap, cur, rfl, _, hg, hn, hc, hs, ht⟩
  · cases hq
  · have : g = q := by simpa [Value.ownBlock] using hq
    subst this
    refine ⟨cur, hg, by omega, fun i hi => ?_⟩
    have h3 := xsF_at f hi
    rw [← ht, List.getElem?_take, if_pos (by omega)] at h3
    simpa using h3

theorem Bs.role (h : Bs base w0 W n L a cap B b0 c0 vF vL vF L.length vL L.length lk L.length) (r : Nat) (hr : PLive L.length r) : bsR B b0 vF vL lk L.length (r + 2) = some ((bsV B b0 c0 vF vL lk).blk r) := by
  obtain ⟨_, pF⟩ := own_form h.oF
  obtain ⟨_, pL⟩ := own_form h.oL
  match r with
  | 0 => rfl
  | 1 =>
    obtain ⟨q, c, e⟩ := pF (by rcases hr with e | ⟨_, e⟩ <;> omega)
    show vF.ownBlock = some (vF.ownBlock.getD 0)
    rw [e]; rfl
  | 2 =>
    obtain ⟨q, c, e⟩ := pL (by rcases hr with e | ⟨_, e⟩ <;> omega)
    show vL.ownBlock = some (vL.ownBlock.getD 0)
    rw [e]; rfl
  | r + 3 => exact if_pos (by rcases hr with e | ⟨e, _⟩ <;> omega)
theorem Bs.notBox (h : Bs base w0 W n L a cap B b0 c0 vF vL vF L.length vL L.length lk L.length) (r : Nat) (hr : PLive L.length r) : (bsV B b0 c0 vF vL lk).blk r ≠ B + 1 := fun e => by
  have := h.inj (r + 2) 1 _ (h.role r hr) (by rw [e]; rfl)
  omega

/-- Built: all cells are open, no line is counted yet. -/
theorem Bs.peel {g o : Nat} {f : Nat → Nat × Nat} (h : Bs base w0 W n L a cap B b0 c0 vF vL vF L.length vL L.length lk L.length) (hd : Dirs W a g o L) (hg : 0 < L.length → g < base) :
    Peel (fun x => x < base) W n L a cap g o (bsV B b0 c0 vF vL lk) (fun _ => true) (fun _ => ltB 0) (.slice none 0 0) 0 f := by
  obtain ⟨⟨aF, cF, eF⟩, pF⟩ := own_form h.oF
  obtain ⟨⟨aL, cL, eL⟩, pL⟩ := own_form h.oL
  have role := fun r hr => h.role (c0 := c0) r hr
  refine ⟨⟨?_, Or.inl ⟨rfl, rfl⟩, fun e => (by cases e)⟩, ⟨fun r hr => ?_, fun _ _ => Nat.zero_le _, fun r s hr hs e => ?_⟩, fun r hr e => ?_, fun r _ e => (by cases e), ?_, fun r hr e => ?_, fun q hq => (by cases hq), fun x hx => Nat.lt_of_lt_of_le hx h.base_le, fun hl => ?_, fun hl => ?_, hd, hg⟩
  · have := h.st
    subst eF eL
    exact this
  · match r with
    | 0 => exact h.op
    | 1 => exact own_vrow h.oF (role 1 hr)
    | 2 =>
      refine vrow_ext (own_vrow h.oL (role 2 hr)) fun i hi => ?_
      show Value.slice (some ⟨(bsV B b0 c0 vF vL lk).blk (3 + i), 0, none⟩) _ _ = bsX2 n L lk i
      rw [Nat.add_comm 3 i]
      rfl
    | r + 3 =>
      refine vrow_ext (h.ln r (by rcases hr with e | ⟨e, _⟩ <;> omega)) fun j hj => ?_
      show (if j % 2 = 0 then Value.int .i64 (cntL n (dk L r) (ltB 0) ((j / 2 : Nat) : Int) : Nat) else Value.int .i64 (sumL n (dk L r) (ltB 0) ((j / 2 : Nat) : Int) : Nat)) = _
      rw [cntL_zero, sumL_zero]
      split <;> rfl
  · have := h.inj (r + 2) (s + 2) _ (role r hr) (by rw [e]; exact role s hs)
    omega
  · have := h.inj (r + 2) 0 _ (role r hr) (by rw [e]; rfl)
    omega
  · intro hx
    have := (h.rng 0 B rfl).1
    have hx : B < base := hx
    omega
  · have := (h.rng _ _ (role r hr)).1
    have e : (bsV B b0 c0 vF vL lk).blk r < base := e
    omega
  · obtain ⟨q, c, e⟩ := pF hl
    subst e
    rfl
  · obtain ⟨q, c, e⟩ := pL hl
    subst e
    rfl
end
end Go.Proofs.Ytgbkfmjkemkajab
