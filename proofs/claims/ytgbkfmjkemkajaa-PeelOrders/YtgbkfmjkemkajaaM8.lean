/- The document's start: lists that grow, apart from each other. Lists that grow; append as a step of a region that draws. -/
import Derived.Test.YtgbkfmjkemkajaaPB2b
import Derived.Maps.AppendAt
import Derived.Deep.RegionLaw
namespace Go.Proofs.Ytgbkfmjkemkajaa
open Go.RowKit

def updP {α : Type} (f : Nat → α) (r : Nat) (v : α) : Nat → α := fun s => if s = r then v else f s
theorem updP_at {α : Type} (f : Nat → α) (r : Nat) (v : α) : updP f r v r = v := if_pos rfl
theorem updP_ne {α : Type} (f : Nat → α) {r s : Nat} (v : α) (h : s ≠ r) : updP f r v s = f s := if_neg h

section
variable {w : World} {base : Nat} {live : Nat → Prop} {blk : Nat → Nat} {ty : Nat → TypeId} {len : Nat → Nat} {F : Nat → Nat → Value}

theorem mem_sub (h : Mem w base live blk ty len F) {live' : Nat → Prop} {blk' : Nat → Nat} {len' : Nat → Nat} {F' : Nat → Nat → Value}
    (hl : ∀ r, live' r → live r ∧ blk' r = blk r ∧ len' r ≤ len r ∧ ∀ i, i < len' r → F' r i = F r i) : Mem w base live' blk' ty len' F' := by
  refine ⟨fun r hr => ?_, fun r hr => ?_, fun r s hr hs e => ?_⟩
  · obtain ⟨h1, h2, h3, h4⟩ := hl r hr
    obtain ⟨cur, c1, c2, c3⟩ := h.row r h1
    exact ⟨cur, by rw [h2]; exact c1, by omega, fun i hi => by rw [h4 i hi]; exact c3 i (by omega)⟩
  · obtain ⟨h1, h2, _⟩ := hl r hr
    rw [h2]
    exact h.above r h1
  · obtain ⟨h1, h2, _⟩ := hl r hr
    obtain ⟨k1, k2, _⟩ := hl s hs
    rw [h2, k2] at e
    exact h.apart r s h1 k1 e

theorem mem_put (h : Mem w base live blk ty len F) {w' : World} {r b m : Nat} {f : Nat → Value} (hk : ∀ s, live s → s ≠ r → w'.heap[blk s]? = w.heap[blk s]?) (hrow : VRow w' (ty r) b m f) (ha : base ≤ b) (hn : ∀ s, live s → s ≠ r → blk s ≠ b) :
    Mem w' base (fun s => s = r ∨ live s) (updP blk r b) ty (updP len r m) (updP F r f) := by
  have hl : ∀ s, s ≠ r → (s = r ∨ live s) → live s := fun s e h => h.resolve_left e
  refine ⟨fun s hs => ?_, fun s hs => ?_, fun s t hs ht e => ?_⟩
  · by_cases c : s = r
    · subst c
      rw [updP_at, updP_at, updP_at]
      exact hrow
    · rw [updP_ne _ _ c, updP_ne _ _ c, updP_ne _ _ c]
      exact vrow_keep (h.row s (hl s c hs)) (hk s (hl s c hs) c)
  · by_cases c : s = r
    · subst c
      rw [updP_at]
      exact ha
    · rw [updP_ne _ _ c]
      exact h.above s (hl s c hs)
  · by_cases c : s = r
    · by_cases d : t = r
      · rw [c, d]
      · exfalso
        rw [c, updP_at, updP_ne _ _ d] at e
        exact hn t (hl t d ht) d e.symm
    · by_cases d : t = r
      · exfalso
        rw [d, updP_at, updP_ne _ _ c] at e
        exact hn s (hl s c hs) c e
      · rw [updP_ne _ _ c, updP_ne _ _ d] at e
        exact h.apart s t (hl s c hs) (hl t d ht) e

/-- A row in a block that is new. -/
theorem mem_new (h : Mem w base live blk ty len F) {w' : World} {r b m : Nat} {f : Nat → Value} (hB : Below w.heap.size w w') (hrow : VRow w' (ty r) b m f) (ha : base ≤ w.heap.size) (hb : w.heap.size ≤ b) :
    Mem w' base (fun s => s = r ∨ live s) (updP blk r b) ty (updP len r m) (updP F r f) :=
  mem_put h (fun s hs _ => hB.block _ (vrow_lt (h.row s hs))) hrow (by omega) (fun s hs _ => by have := vrow_lt (h.row s hs); omega)

/-- Where a list lies: in its own row. -/
def Home (v : Value) (live : Nat → Prop) (blk : Nat → Nat) (r : Nat) : Prop := ∀ b, v.ownBlock = some b → live r ∧ b = blk r

theorem home_put {v : Value} {r s b : Nat} (h : Home v live blk s) (e : s ≠ r) : Home v (fun s => s = r ∨ live s) (updP blk r b) s := fun c hc => by
  obtain ⟨h1, h2⟩ := h c hc
  exact ⟨Or.inr h1, by rw [updP_ne _ _ e]; exact h2⟩

theorem own_keep {w' : World} {e : TypeId} {v : Value} {n : Nat} {xs : List Value} (h : w.ownsRow base e 1 v n xs) (hk : ∀ b, v.ownBlock = some b → w'.heap[b]? = w.heap[b]?) : w'.ownsRow base e 1 v n xs := by
  refine ⟨h.1, ?_⟩
  rcases h.2 with hn | ⟨g, cap, cur, rfl, hb, hg, rest⟩
  · exact .inl hn
  · exact .inr ⟨g, cap, cur, rfl, hb, (hk g rfl).trans hg, rest⟩

theorem own_below {w' : World} {e : TypeId} {v : Value} {n : Nat} {xs : List Value} (h : w.ownsRow base e 1 v n xs) (hb : Below w.heap.size w w') : w'.ownsRow base e 1 v n xs :=
  own_keep h fun b hv => hb.block b (h.lt b hv).2

/-- A list that grew, and its head stored in the struct. -/
theorem mem_append (h : Mem w base live blk ty len F) (h0 : live 0) {w' : World} {r m : Nat} {v v' : Value} {xs : List Value} {f : Nat → Value} (hr : r ≠ 0) (hr6 : r < len 0) (hv : Home v live blk r) (hown : w'.ownsRow base (ty r) 1 v' m xs) (hm : 1 ≤ m)
    (hx : ∀ i, i < m → xs[i]? = some (f i)) (hg : w.grownBy w' v.ownBlock) (hat : v'.ownBlock = v.ownBlock ∨ v'.ownBlock = some w.heap.size) :
    w'.frozen? ⟨blk 0, r, none⟩ = false ∧ w'.cell? ⟨blk 0, r, none⟩ = some (F 0 r) ∧ ∃ b c, v' = .slice (some ⟨b, 0, none⟩) m c ∧ base ≤ b ∧
      Mem (w'.setCell ⟨blk 0, r, none⟩ v') base (fun s => s = r ∨ live s) (updP blk r b) ty (updP len r m) (fun s i => if s = 0 ∧ i = r then v' else updP F r f s i) ∧
      (w'.setCell ⟨blk 0, r, none⟩ v').ownsRow base (ty r) 1 v' m xs ∧
      (∀ s u e n ys, s ≠ r → s ≠ 0 → Home u live blk s → w.ownsRow base e 1 u n ys → (w'.setCell ⟨blk 0, r, none⟩ v').ownsRow base e 1 u n ys) ∧ Below base w (w'.setCell ⟨blk 0, r, none⟩ v') := by
  have kp : ∀ s, live s → s ≠ r → w'.heap[blk s]? = w.heap[blk s]? := fun s hs e => hg.block _ (vrow_lt (h.row s hs)) fun c => by
    obtain ⟨l1, l2⟩ := hv _ c.symm
    exact e (h.apart s r hs l1 l2)
  have e0 := kp 0 h0 (Ne.symm hr)
  have hrow0 := vrow_keep (h.row 0 h0) e0
  obtain ⟨cur0, z1, z2, z3⟩ := hrow0
  have hf : w'.frozen? ⟨blk 0, r, none⟩ = false := frozen_of_row w' _ r cur0 _ z1
  have hc : w'.cell? ⟨blk 0, r, none⟩ = some (F 0 r) := by
    simp [World.cell?, z1, z3 r hr6]
  have hl : ∀ b, v.ownBlock = some b → base ≤ b := fun b hb => by
    obtain ⟨l1, l2⟩ := hv b hb
    rw [l2]
    exact h.above r l1
  refine ⟨hf, hc, ?_⟩
  rcases hown.2 with ⟨_, hm0⟩ | ⟨b, c, cur, rfl, hbb, hgg, hnc, hcm, hcs, htake⟩
  · omega
  have hnb : ∀ s, live s → s ≠ r → blk s ≠ b := fun s hs e c => by
    rcases hat with ha | ha
    · obtain ⟨l1, l2⟩ := hv b ha.symm
      exact e (h.apart s r hs l1 (c.trans l2))
    · have hb : b = w.heap.size := by simpa [Value.ownBlock] using ha
      have := vrow_lt (h.row s hs)
      omega
  have hrow : VRow w' (ty r) b m f := ⟨cur, hgg, by omega, fun i hi => by
    have h3 := hx i hi
    rw [← htake, List.getElem?_take, if_pos (by omega)] at h3
    simpa using h3⟩
  have hm1 := mem_put h kp hrow hbb hnb
  have e1 : updP blk r b 0 = blk 0 := updP_ne _ _ (Ne.symm hr)
  have hm2 := mem_set hm1 (r := 0) (Or.inr h0) r (.slice (some ⟨b, 0, none⟩) m c)
  rw [e1] at hm2
  have hb0 : b ≠ blk 0 := fun c => hnb 0 h0 (Ne.symm hr) c.symm
  have hsz : base ≤ w.heap.size := Nat.le_trans (h.above 0 h0) (Nat.le_of_lt (vrow_lt (h.row 0 h0)))
  have hBB : Below base w (w'.setCell ⟨blk 0, r, none⟩ (.slice (some ⟨b, 0, none⟩) m c)) := ((Below.refl base w).grown hg hsz hl).setCell (p := ⟨blk 0, r, none⟩) (h.above 0 h0) _
  refine ⟨b, c, rfl, hbb, hm2, own_keep hown fun x hx => ?_, fun s u e n ys hsr hs0 hu ho => own_keep ho fun x hx => ?_, hBB⟩
  · have : x = b := by simpa [Value.ownBlock] using hx.symm
    subst this
    exact Below.heap_setCell _ _ _ _ hb0
  · obtain ⟨l1, l2⟩ := hu x hx
    have hx0 : x ≠ blk 0 := fun c => hs0 (h.apart s 0 l1 h0 (by rw [← l2]; exact c))
    rw [Below.heap_setCell _ _ _ _ hx0, l2]
    exact kp s l1 hsr
end
end Go.Proofs.Ytgbkfmjkemkajaa

namespace Go.Proofs.Ytgbkfmjkemkajaa
open Go.RowKit

def xsF (f : Nat → Value) (k : Nat) : List Value := (List.range k).map f
theorem xsF_len (f : Nat → Value) (k : Nat) : (xsF f k).length = k := by simp [xsF]
theorem xsF_snoc {f f' : Nat → Value} {k : Nat} (h : ∀ i, i < k → f' i = f i) : xsF f' (k + 1) = xsF f k ++ [f' k] := by
  unfold xsF
  rw [List.range_succ, List.map_append]
  congr 1
  exact List.map_congr_left fun i hi => h i (List.mem_range.1 hi)
theorem xsF_at (f : Nat → Value) {k i : Nat} (h : i < k) : (xsF f k)[i]? = some (f i) := by simp [xsF, h]

theorem infoBool : (Try.prog.info? 4).map (fun i => (i.zero, i.size, i.bytes)) = some (some (.bool false), 1, 1) := by kernel_rfl
theorem infoInt : (Try.prog.info? 3).map (fun i => (i.zero, i.size, i.bytes)) = some (some (.int .i64 0), 1, 8) := by kernel_rfl
theorem infoCx : (Try.prog.info? 38).map (fun i => (i.zero, i.size, i.bytes)) = some (some (.complex .f64 0 0), 1, 16) := by kernel_rfl
theorem infoLI : (Try.prog.info? 53).map (fun i => (i.zero, i.size, i.bytes)) = some (some (.slice none 0 0), 1, 24) := by kernel_rfl
theorem infoLC : (Try.prog.info? 39).map (fun i => (i.zero, i.size, i.bytes)) = some (some (.slice none 0 0), 1, 24) := by kernel_rfl

theorem made_get {z : Value} {n i : Nat} (hi : i < n) : (madeCells #[z] n).toList[i]? = some z := by
  rw [toList_madeCells_one, List.getElem?_replicate, if_pos (by omega)]

theorem vrow_made {w' : World} {B g n : Nat} {z : Value} {t : TypeId} {xs : List Value} (h : w'.ownsRow B t 1 (.slice (some ⟨g, 0, none⟩) n n) n xs) (hx : ∀ i, i < n → xs[i]? = some z) : VRow w' t g n (fun _ => z) := by
  rcases h.2 with ⟨h', _⟩ | ⟨g', cap, cur, h', _, hg, _, _, hcs, htake⟩
  · simp at h'
  · simp only [Value.slice.injEq, Option.some.injEq, Addr.mk.injEq, and_true, true_and] at h'
    obtain ⟨rfl, rfl⟩ := h'
    refine ⟨cur, hg, by omega, fun i hi => ?_⟩
    have h3 := hx i hi
    rw [← htake, List.getElem?_take, if_pos (by omega)] at h3
    simpa using h3

theorem vrow_ext {w : World} {t : TypeId} {g n : Nat} {f f' : Nat → Value} (h : VRow w t g n f) (he : ∀ i, i < n → f' i = f i) : VRow w t g n f' := by
  obtain ⟨cur, h1, h2, h3⟩ := h
  exact ⟨cur, h1, h2, fun i hi => by rw [he i hi]; exact h3 i hi⟩

theorem vrow_frozen {w : World} {t : TypeId} {g n : Nat} {f : Nat → Value} (h : VRow w t g n f) (i : Nat) : w.frozen? ⟨g, i, none⟩ = false := by
  obtain ⟨cur, h1, _⟩ := h
  exact frozen_of_row w _ i cur _ h1

theorem below_grown0 {w w' : World} (h : w.grownBy w' none) : Below w.heap.size w w' := (Below.refl _ _).grown h (Nat.le_refl _) (fun k hk => by cases hk)

/-- append to a list of the call's own, as one step of a region that draws; where it lies. -/
theorem step_append_at {P : Program} {ops : Array Oper} {o : Oper} {a : Act} {w : World} {K : Act → World → Prop} {Q : Exit → Act → World → Prop} {E : Prop}
    (hgd : o.guard = none) (s x : Operand) (t : TypeId) (ho : o.op = Op.call { callee := Callee.builtin Builtin.append, args := #[s, x], argTypes := #[t, t] })
    (base : Nat) (e : TypeId) (i : TypeInfo) (z : Value) (size bytes : Nat) (ht : P.underlying t = some (.slice e)) (hi : P.info? e = some i) (hz : i.zero = some z)
    (hsize : i.size = size) (hby : i.bytes = bytes) (hzs : z.cells.size = size) (hsz : 0 < size)
    (v : Value) (n : Nat) (xs : List Value) (hs : a.eval s = v) (hown : w.ownsRow base e size v n xs)
    (ad : Addr) (m c : Nat) (news : List Value) (hx : a.eval x = .slice (some ad) m c) (hl : news.length = m * size) (hnews : ∀ j u, news[j]? = some u → w.cell? (ad.add j) = some u) (h1 : ∀ u ∈ news, u.oneCell' = true)
    (h63 : n + m ≤ maxLen) (hbytes : (n + m) * bytes ≤ 140737488355328) (hbase : base ≤ w.heap.size)
    (h : ∀ v' w', w'.ownsRow base e size v' (n + m) (xs ++ news) → w.grownBy w' v.ownBlock → (v'.ownBlock = v.ownBlock ∨ v'.ownBlock = some w.heap.size) → K (a.put o.dst v') w') :
    if Region.wanted o (yielded ops a.tmps) = true then Oper.wp P o a w K Q else E := by
  have hw : Region.wanted o (yielded ops a.tmps) = true := by simp [Region.wanted, hgd]
  rw [if_pos hw]
  obtain ⟨v', w', hr, h2, h3, _, h5⟩ := run_append_own_at (P := P) w base t o.type e i z size bytes ht hi hz hsize hby hzs hsz v n xs hown ad m c news hl hnews h1 h63 hbytes hbase
  unfold Oper.wp execOp
  simp only [ho, resolve, invoke, builtin, Sem.run_bind, Sem.run_pure, Result.andThen_ok, List.map_toArray, List.map_cons, List.map_nil, hs, hx, hr]
  exact h v' w' h2 h3 h5

end Go.Proofs.Ytgbkfmjkemkajaa
