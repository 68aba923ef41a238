/- The document's start: what holds while directions are added. -/
import Derived.Test.YtgbkfmjkemkajaaM8
namespace Go.Proofs.Ytgbkfmjkemkajaa
open Go.RowKit

/-- The struct's cells while k directions are in. -/
def F0K (n k K : Nat) (a : Option Addr) (cap : Nat) (V : BV) : Nat → Value
  | 0 => .int .i64 n
  | 1 => .slice (some ⟨V.blk 1, 0, none⟩) (n * n) V.cO
  | 2 => .slice V.aR k V.cR
  | 3 => .slice V.aC k V.cC
  | 4 => .slice V.aY k V.cY
  | _ => .slice a K cap

def allB : Nat → Bool := fun _ => true
def allK : Nat → Nat → Bool := fun _ _ => true

def FK (n : Nat) (L : List (Int × Int)) (k : Nat) (a : Option Addr) (cap : Nat) (V : BV) (r i : Nat) : Value :=
  if r = 0 then F0K n k L.length a cap V i else FB n L a cap V allB allK r i

def NK (n : Nat) (L : List (Int × Int)) (k r : Nat) : Nat := if r = 2 ∨ r = 3 ∨ r = 4 then k else FN n L r

def LK (k r : Nat) : Prop := r < 2 ∨ (0 < k ∧ r < 5 + 2 * k)

/-- Rows, and the three lists among them that grow. -/
structure Gs (w0 w : World) (live : Nat → Prop) (blk : Nat → Nat) (len : Nat → Nat) (F : Nat → Nat → Value) (vR vC vY : Value) (kR kC kY : Nat) (xR xC xY : List Value) : Prop where
  mem : Mem w w0.heap.size live blk FT len F
  l0 : live 0
  len0 : len 0 = 6
  hR : Home vR live blk 2
  hC : Home vC live blk 3
  hY : Home vY live blk 4
  fR : F 0 2 = vR
  fC : F 0 3 = vC
  fY : F 0 4 = vY
  oR : w.ownsRow w0.heap.size 39 1 vR kR xR
  oC : w.ownsRow w0.heap.size 53 1 vC kC xC
  oY : w.ownsRow w0.heap.size 3 1 vY kY xY
  bel : Below w0.heap.size w0 w

section
variable {w0 w : World} {live : Nat → Prop} {blk len : Nat → Nat} {F : Nat → Nat → Value} {vR vC vY : Value} {kR kC kY : Nat} {xR xC xY : List Value}

theorem Gs.lt (G : Gs w0 w live blk len F vR vC vY kR kC kY xR xC xY) : blk 0 < w.heap.size := vrow_lt (G.mem.row 0 G.l0)
theorem Gs.cell (G : Gs w0 w live blk len F vR vC vY kR kC kY xR xC xY) {i : Nat} (hi : i < 6) : w.cell? ⟨blk 0, i, none⟩ = some (F 0 i) := vrow_at (G.mem.row 0 G.l0) (by rw [G.len0]; exact hi)
theorem Gs.frozen (G : Gs w0 w live blk len F vR vC vY kR kC kY xR xC xY) (i : Nat) : w.frozen? ⟨blk 0, i, none⟩ = false := by
  obtain ⟨cur, h1, _⟩ := G.mem.row 0 G.l0
  exact frozen_of_row w _ i cur _ h1

theorem Gs.below {w' : World} (G : Gs w0 w live blk len F vR vC vY kR kC kY xR xC xY) (h : Below w.heap.size w w') : Gs w0 w' live blk len F vR vC vY kR kC kY xR xC xY :=
  ⟨mem_below G.mem h, G.l0, G.len0, G.hR, G.hC, G.hY, G.fR, G.fC, G.fY, own_below G.oR h, own_below G.oC h, own_below G.oY h, G.bel.trans (h.mono G.bel.size)⟩

/-- A row that is new. -/
theorem Gs.add {w' : World} (G : Gs w0 w live blk len F vR vC vY kR kC kY xR xC xY) {r b m : Nat} {f : Nat → Value} (hr : 5 ≤ r) (h : Below w.heap.size w w') (hrow : VRow w' (FT r) b m f) (hb : w.heap.size ≤ b) :
    Gs w0 w' (fun s => s = r ∨ live s) (updP blk r b) (updP len r m) (updP F r f) vR vC vY kR kC kY xR xC xY :=
  ⟨mem_new G.mem h hrow G.bel.size hb, Or.inr G.l0, by rw [updP_ne _ _ (by omega)]; exact G.len0, home_put G.hR (by omega), home_put G.hC (by omega), home_put G.hY (by omega),
    by rw [updP_ne _ _ (by omega)]; exact G.fR, by rw [updP_ne _ _ (by omega)]; exact G.fC, by rw [updP_ne _ _ (by omega)]; exact G.fY, own_below G.oR h, own_below G.oC h, own_below G.oY h, G.bel.trans (h.mono G.bel.size)⟩

theorem home_new {v' : Value} {b m c r : Nat} (e : v' = .slice (some ⟨b, 0, none⟩) m c) : Home v' (fun s => s = r ∨ live s) (updP blk r b) r := by
  subst e
  intro x hx
  have : x = b := by simpa [Value.ownBlock] using hx.symm
  exact ⟨Or.inl rfl, by rw [updP_at]; exact this⟩

theorem Gs.appC (G : Gs w0 w live blk len F vR vC vY kR kC kY xR xC xY) {w' : World} {v' : Value} {xs : List Value} {m : Nat} {f : Nat → Value} (hown : w'.ownsRow w0.heap.size 53 1 v' m xs) (hm : 1 ≤ m) (hx : ∀ i, i < m → xs[i]? = some (f i)) (hg : w.grownBy w' vC.ownBlock) (hat : v'.ownBlock = vC.ownBlock ∨ v'.ownBlock = some w.heap.size) :
    w'.frozen? ⟨blk 0, 3, none⟩ = false ∧ w'.cell? ⟨blk 0, 3, none⟩ = some vC ∧ ∃ b c, v' = .slice (some ⟨b, 0, none⟩) m c ∧
      Gs w0 (w'.setCell ⟨blk 0, 3, none⟩ v') (fun s => s = 3 ∨ live s) (updP blk 3 b) (updP len 3 m) (fun s i => if s = 0 ∧ i = 3 then v' else updP F 3 f s i) vR v' vY kR m kY xR xs xY := by
  obtain ⟨h1, h2, b, c, h3, h4, h5, h6, h7, h8⟩ := mem_append (r := 3) G.mem G.l0 (by omega) (by rw [G.len0]; omega) G.hC hown hm hx hg hat
  rw [G.fC] at h2
  refine ⟨h1, h2, b, c, h3, h5, Or.inr G.l0, by rw [updP_ne _ _ (by omega)]; exact G.len0, home_put G.hR (by omega), home_new h3, home_put G.hY (by omega), ?_, if_pos ⟨rfl, rfl⟩, ?_, h7 2 _ _ _ _ (by omega) (by omega) G.hR G.oR, h6, h7 4 _ _ _ _ (by omega) (by omega) G.hY G.oY, G.bel.trans h8⟩
  · rw [if_neg (by omega), updP_ne _ _ (by omega)]
    exact G.fR
  · rw [if_neg (by omega), updP_ne _ _ (by omega)]
    exact G.fY

theorem Gs.appY (G : Gs w0 w live blk len F vR vC vY kR kC kY xR xC xY) {w' : World} {v' : Value} {xs : List Value} {m : Nat} {f : Nat → Value} (hown : w'.ownsRow w0.heap.size 3 1 v' m xs) (hm : 1 ≤ m) (hx : ∀ i, i < m → xs[i]? = some (f i)) (hg : w.grownBy w' vY.ownBlock) (hat : v'.ownBlock = vY.ownBlock ∨ v'.ownBlock = some w.heap.size) :
    w'.frozen? ⟨blk 0, 4, none⟩ = false ∧ w'.cell? ⟨blk 0, 4, none⟩ = some vY ∧ ∃ b c, v' = .slice (some ⟨b, 0, none⟩) m c ∧
      Gs w0 (w'.setCell ⟨blk 0, 4, none⟩ v') (fun s => s = 4 ∨ live s) (updP blk 4 b) (updP len 4 m) (fun s i => if s = 0 ∧ i = 4 then v' else updP F 4 f s i) vR vC v' kR kC m xR xC xs := by
  obtain ⟨h1, h2, b, c, h3, h4, h5, h6, h7, h8⟩ := mem_append (r := 4) G.mem G.l0 (by omega) (by rw [G.len0]; omega) G.hY hown hm hx hg hat
  rw [G.fY] at h2
  refine ⟨h1, h2, b, c, h3, h5, Or.inr G.l0, by rw [updP_ne _ _ (by omega)]; exact G.len0, home_put G.hR (by omega), home_put G.hC (by omega), home_new h3, ?_, ?_, if_pos ⟨rfl, rfl⟩, h7 2 _ _ _ _ (by omega) (by omega) G.hR G.oR, h7 3 _ _ _ _ (by omega) (by omega) G.hC G.oC, h6, G.bel.trans h8⟩
  · rw [if_neg (by omega), updP_ne _ _ (by omega)]
    exact G.fR
  · rw [if_neg (by omega), updP_ne _ _ (by omega)]
    exact G.fC

theorem Gs.appR (G : Gs w0 w live blk len F vR vC vY kR kC kY xR xC xY) {w' : World} {v' : Value} {xs : List Value} {m : Nat} {f : Nat → Value} (hown : w'.ownsRow w0.heap.size 39 1 v' m xs) (hm : 1 ≤ m) (hx : ∀ i, i < m → xs[i]? = some (f i)) (hg : w.grownBy w' vR.ownBlock) (hat : v'.ownBlock = vR.ownBlock ∨ v'.ownBlock = some w.heap.size) :
    w'.frozen? ⟨blk 0, 2, none⟩ = false ∧ w'.cell? ⟨blk 0, 2, none⟩ = some vR ∧ ∃ b c, v' = .slice (some ⟨b, 0, none⟩) m c ∧
      Gs w0 (w'.setCell ⟨blk 0, 2, none⟩ v') (fun s => s = 2 ∨ live s) (updP blk 2 b) (updP len 2 m) (fun s i => if s = 0 ∧ i = 2 then v' else updP F 2 f s i) v' vC vY m kC kY xs xC xY := by
  obtain ⟨h1, h2, b, c, h3, h4, h5, h6, h7, h8⟩ := mem_append (r := 2) G.mem G.l0 (by omega) (by rw [G.len0]; omega) G.hR hown hm hx hg hat
  rw [G.fR] at h2
  refine ⟨h1, h2, b, c, h3, h5, Or.inr G.l0, by rw [updP_ne _ _ (by omega)]; exact G.len0, home_new h3, home_put G.hC (by omega), home_put G.hY (by omega), if_pos ⟨rfl, rfl⟩, ?_, ?_, h6, h7 3 _ _ _ _ (by omega) (by omega) G.hC G.oC, h7 4 _ _ _ _ (by omega) (by omega) G.hY G.oY, G.bel.trans h8⟩
  · rw [if_neg (by omega), updP_ne _ _ (by omega)]
    exact G.fC
  · rw [if_neg (by omega), updP_ne _ _ (by omega)]
    exact G.fY
end

/-- Where k directions are in. -/
structure Gr (w0 w : World) (n : Nat) (L : List (Int × Int)) (a : Option Addr) (cap : Nat) (V : BV) (k : Nat) : Prop where
  gs : Gs w0 w (LK k) V.blk (NK n L k) (FK n L k a cap V) (.slice V.aR k V.cR) (.slice V.aC k V.cC) (.slice V.aY k V.cY) k k k (xsF (FB n L a cap V allB allK 2) k) (xsF (FB n L a cap V allB allK 3) k) (xsF (FB n L a cap V allB allK 4) k)
  atR : 0 < k → V.aR = some ⟨V.blk 2, 0, none⟩
  atC : 0 < k → V.aC = some ⟨V.blk 3, 0, none⟩
  atY : 0 < k → V.aY = some ⟨V.blk 4, 0, none⟩

theorem Gr.board {w0 w : World} {n : Nat} {L : List (Int × Int)} {a : Option Addr} {cap g o : Nat} {V : BV} (h : Gr w0 w n L a cap V L.length) (hD : Dirs w0 a g o L) : Board w w0.heap.size n L a cap g o V (fun _ => true) (fun _ _ => true) := by
  refine ⟨mem_sub h.gs.mem fun r hr => ⟨hr, rfl, ?_, fun i hi => ?_⟩, h.atR, h.atC, h.atY, dirs_below hD h.gs.bel⟩
  · show FN n L r ≤ NK n L L.length r
    unfold NK
    split
    · next e => rcases e with rfl | rfl | rfl <;> exact Nat.le_refl _
    · exact Nat.le_refl _
  · show FB n L a cap V allB allK r i = FK n L L.length a cap V r i
    unfold FK
    split
    · next e =>
      subst e
      match i with
      | 0 => rfl
      | 1 => rfl
      | 2 => rfl
      | 3 => rfl
      | 4 => rfl
      | i + 5 => rfl
    · rfl

def nextV (V : BV) (k bC bY b5 b6 bR cC cY cR : Nat) : BV :=
  { blk := updP (updP (updP (updP (updP V.blk (5 + 2 * k) b5) 3 bC) 4 bY) (6 + 2 * k) b6) 2 bR, cO := V.cO, aR := some ⟨bR, 0, none⟩, aC := some ⟨bC, 0, none⟩, aY := some ⟨bY, 0, none⟩, cR := cR, cC := cC, cY := cY }

def pick (f : Nat → Value) (k : Nat) (v : Value) : Nat → Value := fun i => if i < k then f i else v
theorem pick_get (f : Nat → Value) (k : Nat) (v : Value) : ∀ i, i < k + 1 → (xsF f k ++ [v])[i]? = some (pick f k v i) := fun i hi => by
  unfold pick
  by_cases h : i < k
  · rw [List.getElem?_append_left (by rw [xsF_len]; exact h), xsF_at f h, if_pos h]
  · have e : i = k := by omega
    subst e
    rw [List.getElem?_append_right (by rw [xsF_len]; exact Nat.le_refl _), xsF_len, if_neg h]
    simp

theorem fb_next {n : Nat} {L : List (Int × Int)} {a : Option Addr} {cap : Nat} {V : BV} {k bC bY b5 b6 bR cC cY cR r i : Nat} (hr : 1 ≤ r) (hi : r < 5 → i < k) :
    FB n L a cap (nextV V k bC bY b5 b6 bR cC cY cR) allB allK r i = FB n L a cap V allB allK r i := by
  match r with
  | 0 => omega
  | 1 => rfl
  | 2 =>
    have := hi (by omega)
    show Value.slice (some ⟨updP (updP (updP (updP (updP V.blk (5 + 2 * k) b5) 3 bC) 4 bY) (6 + 2 * k) b6) 2 bR (6 + 2 * i), 0, none⟩) _ _ = _
    rw [updP_ne _ _ (by omega), updP_ne _ _ (by omega), updP_ne _ _ (by omega), updP_ne _ _ (by omega), updP_ne _ _ (by omega)]
    rfl
  | 3 =>
    have := hi (by omega)
    show Value.slice (some ⟨updP (updP (updP (updP (updP V.blk (5 + 2 * k) b5) 3 bC) 4 bY) (6 + 2 * k) b6) 2 bR (5 + 2 * i), 0, none⟩) _ _ = _
    rw [updP_ne _ _ (by omega), updP_ne _ _ (by omega), updP_ne _ _ (by omega), updP_ne _ _ (by omega), updP_ne _ _ (by omega)]
    rfl
  | 4 => rfl
  | r + 5 => rfl

theorem Gr.next {w0 w : World} {n : Nat} {L : List (Int × Int)} {a : Option Addr} {cap : Nat} {V : BV} {k bC bY b5 b6 bR cC cY cR : Nat} {v2 v3 v4 : Value} {f5 f6 : Nat → Value}
    (e2 : v2 = .slice (some ⟨b6, 0, none⟩) (binN n (dk L k)) (binN n (dk L k))) (e3 : v3 = .slice (some ⟨b5, 0, none⟩) (binN n (dk L k)) (binN n (dk L k))) (e4 : v4 = .int .i64 (rdy n (dk L k) allB (binN n (dk L k)) : Nat))
    (e5 : ∀ i, i < binN n (dk L k) → f5 i = .int .i64 (cntL n (dk L k) allB (i : Int) : Nat)) (e6 : ∀ i, i < binN n (dk L k) → f6 i = .complex .f64 0 0)
    (G : Gs w0 w (fun s => s = 2 ∨ (s = 6 + 2 * k ∨ (s = 4 ∨ (s = 3 ∨ (s = 5 + 2 * k ∨ LK k s))))) (updP (updP (updP (updP (updP V.blk (5 + 2 * k) b5) 3 bC) 4 bY) (6 + 2 * k) b6) 2 bR)
      (updP (updP (updP (updP (updP (NK n L k) (5 + 2 * k) (binN n (dk L k))) 3 (k + 1)) 4 (k + 1)) (6 + 2 * k) (binN n (dk L k))) 2 (k + 1))
      (fun s i => if s = 0 ∧ i = 2 then .slice (some ⟨bR, 0, none⟩) (k + 1) cR else updP (updP (fun s i => if s = 0 ∧ i = 4 then .slice (some ⟨bY, 0, none⟩) (k + 1) cY else updP (fun s i => if s = 0 ∧ i = 3 then .slice (some ⟨bC, 0, none⟩) (k + 1) cC else updP (updP (FK n L k a cap V) (5 + 2 * k) f5) 3 (pick (FB n L a cap V allB allK 3) k v3) s i) 4 (pick (FB n L a cap V allB allK 4) k v4) s i) (6 + 2 * k) f6) 2 (pick (FB n L a cap V allB allK 2) k v2) s i)
      (.slice (some ⟨bR, 0, none⟩) (k + 1) cR) (.slice (some ⟨bC, 0, none⟩) (k + 1) cC) (.slice (some ⟨bY, 0, none⟩) (k + 1) cY) (k + 1) (k + 1) (k + 1) (xsF (FB n L a cap V allB allK 2) k ++ [v2]) (xsF (FB n L a cap V allB allK 3) k ++ [v3]) (xsF (FB n L a cap V allB allK 4) k ++ [v4])) :
    Gr w0 w n L a cap (nextV V k bC bY b5 b6 bR cC cY cR) (k + 1) := by
  have x2 : FB n L a cap (nextV V k bC bY b5 b6 bR cC cY cR) allB allK 2 k = v2 := by
    rw [e2]
    show Value.slice (some ⟨updP (updP (updP (updP (updP V.blk (5 + 2 * k) b5) 3 bC) 4 bY) (6 + 2 * k) b6) 2 bR (6 + 2 * k), 0, none⟩) _ _ = _
    rw [updP_ne _ _ (by omega), updP_at]
  have x3 : FB n L a cap (nextV V k bC bY b5 b6 bR cC cY cR) allB allK 3 k = v3 := by
    rw [e3]
    show Value.slice (some ⟨updP (updP (updP (updP (updP V.blk (5 + 2 * k) b5) 3 bC) 4 bY) (6 + 2 * k) b6) 2 bR (5 + 2 * k), 0, none⟩) _ _ = _
    rw [updP_ne _ _ (by omega), updP_ne _ _ (by omega), updP_ne _ _ (by omega), updP_ne _ _ (by omega), updP_at]
  have x4 : FB n L a cap (nextV V k bC bY b5 b6 bR cC cY cR) allB allK 4 k = v4 := by
    rw [e4]
    rfl
  have p2 : ∀ i, i < k + 1 → FB n L a cap (nextV V k bC bY b5 b6 bR cC cY cR) allB allK 2 i = pick (FB n L a cap V allB allK 2) k v2 i := fun i hi => by
    unfold pick
    by_cases h : i < k
    · rw [if_pos h, fb_next (by omega) (fun _ => h)]
    · have e : i = k := by omega
      subst e
      rw [if_neg h, x2]
  have p3 : ∀ i, i < k + 1 → FB n L a cap (nextV V k bC bY b5 b6 bR cC cY cR) allB allK 3 i = pick (FB n L a cap V allB allK 3) k v3 i := fun i hi => by
    unfold pick
    by_cases h : i < k
    · rw [if_pos h, fb_next (by omega) (fun _ => h)]
    · have e : i = k := by omega
      subst e
      rw [if_neg h, x3]
  have p4 : ∀ i, i < k + 1 → FB n L a cap (nextV V k bC bY b5 b6 bR cC cY cR) allB allK 4 i = pick (FB n L a cap V allB allK 4) k v4 i := fun i hi => by
    unfold pick
    by_cases h : i < k
    · rw [if_pos h, fb_next (by omega) (fun _ => h)]
    · have e : i = k := by omega
      subst e
      rw [if_neg h, x4]
  have s2 : xsF (FB n L a cap (nextV V k bC bY b5 b6 bR cC cY cR) allB allK 2) (k + 1) = xsF (FB n L a cap V allB allK 2) k ++ [v2] := by
    rw [xsF_snoc (f := FB n L a cap V allB allK 2) (fun i hi => fb_next (by omega) (fun _ => hi)), x2]
  have s3 : xsF (FB n L a cap (nextV V k bC bY b5 b6 bR cC cY cR) allB allK 3) (k + 1) = xsF (FB n L a cap V allB allK 3) k ++ [v3] := by
    rw [xsF_snoc (f := FB n L a cap V allB allK 3) (fun i hi => fb_next (by omega) (fun _ => hi)), x3]
  have s4 : xsF (FB n L a cap (nextV V k bC bY b5 b6 bR cC cY cR) allB allK 4) (k + 1) = xsF (FB n L a cap V allB allK 4) k ++ [v4] := by
    rw [xsF_snoc (f := FB n L a cap V allB allK 4) (fun i hi => fb_next (by omega) (fun _ => hi)), x4]
  have lv : ∀ r, LK (k + 1) r → (r = 2 ∨ (r = 6 + 2 * k ∨ (r = 4 ∨ (r = 3 ∨ (r = 5 + 2 * k ∨ LK k r))))) := fun r hr => by
    unfold LK at hr ⊢
    omega
  have vl : ∀ r, (r = 2 ∨ (r = 6 + 2 * k ∨ (r = 4 ∨ (r = 3 ∨ (r = 5 + 2 * k ∨ LK k r))))) → LK (k + 1) r := fun r hr => by
    unfold LK at hr ⊢
    omega
  have hm : ∀ (v : Value) (r : Nat), Home v (fun s => s = 2 ∨ (s = 6 + 2 * k ∨ (s = 4 ∨ (s = 3 ∨ (s = 5 + 2 * k ∨ LK k s))))) (updP (updP (updP (updP (updP V.blk (5 + 2 * k) b5) 3 bC) 4 bY) (6 + 2 * k) b6) 2 bR) r → Home v (LK (k + 1)) (nextV V k bC bY b5 b6 bR cC cY cR).blk r := fun v r h b hb => by
    obtain ⟨h1, h2⟩ := h b hb
    exact ⟨vl r h1, h2⟩
  have m1 : Mem w w0.heap.size (LK (k + 1)) (nextV V k bC bY b5 b6 bR cC cY cR).blk FT (NK n L (k + 1)) (FK n L (k + 1) a cap (nextV V k bC bY b5 b6 bR cC cY cR)) := by
    refine mem_sub G.mem fun r hr => ⟨lv r hr, rfl, ?_, fun i hi => ?_⟩
    · match r with
      | 0 => rw [updP_ne _ _ (by omega), updP_ne _ _ (by omega), updP_ne _ _ (by omega), updP_ne _ _ (by omega), updP_ne _ _ (by omega)]; exact Nat.le_refl _
      | 1 => rw [updP_ne _ _ (by omega), updP_ne _ _ (by omega), updP_ne _ _ (by omega), updP_ne _ _ (by omega), updP_ne _ _ (by omega)]; exact Nat.le_refl _
      | 2 => rw [updP_at]; exact Nat.le_refl _
      | 3 => rw [updP_ne _ _ (by omega), updP_ne _ _ (by omega), updP_ne _ _ (by omega), updP_at]; exact Nat.le_refl _
      | 4 => rw [updP_ne _ _ (by omega), updP_ne _ _ (by omega), updP_at]; exact Nat.le_refl _
      | r + 5 =>
        show binN n (dk L (r / 2)) ≤ _
        by_cases c1 : r = 2 * k + 1
        · subst c1
          rw [updP_ne _ _ (by omega), show 2 * k + 1 + 5 = 6 + 2 * k by omega, updP_at, show (2 * k + 1) / 2 = k by omega]
          exact Nat.le_refl _
        · rw [updP_ne _ _ (by omega), updP_ne _ _ (by omega), updP_ne _ _ (by omega), updP_ne _ _ (by omega)]
          by_cases c2 : r = 2 * k
          · subst c2
            rw [show 2 * k + 5 = 5 + 2 * k by omega, updP_at, show (2 * k) / 2 = k by omega]
            exact Nat.le_refl _
          · rw [updP_ne _ _ (by omega)]
            exact Nat.le_refl _
    · match r with
      | 0 =>
        match i with
        | 0 => rw [if_neg (by omega), updP_ne _ _ (by omega), updP_ne _ _ (by omega)]; rw [if_neg (by omega), updP_ne _ _ (by omega)]; rw [if_neg (by omega), updP_ne _ _ (by omega), updP_ne _ _ (by omega)]; rfl
        | 1 =>
          rw [if_neg (by omega), updP_ne _ _ (by omega), updP_ne _ _ (by omega)]; rw [if_neg (by omega), updP_ne _ _ (by omega)]; rw [if_neg (by omega), updP_ne _ _ (by omega), updP_ne _ _ (by omega)]
          show Value.slice (some ⟨updP (updP (updP (updP (updP V.blk (5 + 2 * k) b5) 3 bC) 4 bY) (6 + 2 * k) b6) 2 bR 1, 0, none⟩) _ _ = _
          rw [updP_ne _ _ (by omega), updP_ne _ _ (by omega), updP_ne _ _ (by omega), updP_ne _ _ (by omega), updP_ne _ _ (by omega)]
          rfl
        | 2 => rw [if_pos ⟨rfl, rfl⟩]; rfl
        | 3 => rw [if_neg (by omega), updP_ne _ _ (by omega), updP_ne _ _ (by omega)]; rw [if_neg (by omega), updP_ne _ _ (by omega)]; rw [if_pos ⟨rfl, rfl⟩]; rfl
        | 4 => rw [if_neg (by omega), updP_ne _ _ (by omega), updP_ne _ _ (by omega)]; rw [if_pos ⟨rfl, rfl⟩]; rfl
        | i + 5 => rw [if_neg (by omega), updP_ne _ _ (by omega), updP_ne _ _ (by omega)]; rw [if_neg (by omega), updP_ne _ _ (by omega)]; rw [if_neg (by omega), updP_ne _ _ (by omega), updP_ne _ _ (by omega)]; rfl
      | 1 => rw [if_neg (by omega), updP_ne _ _ (by omega), updP_ne _ _ (by omega)]; rw [if_neg (by omega), updP_ne _ _ (by omega)]; rw [if_neg (by omega), updP_ne _ _ (by omega), updP_ne _ _ (by omega)]; rfl
      | 2 => rw [if_neg (by omega), updP_at]; exact p2 i hi
      | 3 => rw [if_neg (by omega), updP_ne _ _ (by omega), updP_ne _ _ (by omega)]; rw [if_neg (by omega), updP_ne _ _ (by omega)]; rw [if_neg (by omega), updP_at]; exact p3 i hi
      | 4 => rw [if_neg (by omega), updP_ne _ _ (by omega), updP_ne _ _ (by omega)]; rw [if_neg (by omega), updP_at]; exact p4 i hi
      | r + 5 =>
        have hi' : i < binN n (dk L (r / 2)) := hi
        have ex : FK n L (k + 1) a cap (nextV V k bC bY b5 b6 bR cC cY cR) (r + 5) i = FB n L a cap V allB allK (r + 5) i := by
          unfold FK
          rw [if_neg (by omega), fb_next (by omega) (fun h => by omega)]
        rw [ex, if_neg (by omega)]
        by_cases c1 : r = 2 * k + 1
        · subst c1
          rw [show (2 * k + 1) / 2 = k by omega] at hi'
          rw [updP_ne _ _ (by omega), show 2 * k + 1 + 5 = 6 + 2 * k by omega, updP_at, e6 i hi', show 6 + 2 * k = 2 * k + 1 + 5 by omega]
          show (if (2 * k + 1) % 2 = 0 then _ else Value.complex .f64 0 0) = _
          rw [if_neg (by omega)]
        · rw [updP_ne _ _ (by omega), updP_ne _ _ (by omega)]
          rw [if_neg (by omega), updP_ne _ _ (by omega)]
          rw [if_neg (by omega), updP_ne _ _ (by omega)]
          by_cases c2 : r = 2 * k
          · subst c2
            rw [show 2 * k / 2 = k by omega] at hi'
            rw [show 2 * k + 5 = 5 + 2 * k by omega, updP_at, e5 i hi', show 5 + 2 * k = 2 * k + 5 by omega]
            show (if 2 * k % 2 = 0 then Value.int .i64 (cntL n (dk L (2 * k / 2)) allB (i : Int) : Nat) else Value.complex .f64 0 0) = _
            rw [if_pos (by omega), show 2 * k / 2 = k by omega]
          · rw [updP_ne _ _ (by omega)]
            unfold FK
            rw [if_neg (by omega)]
  have e2b : (nextV V k bC bY b5 b6 bR cC cY cR).blk 2 = bR := by
    show updP (updP (updP (updP (updP V.blk (5 + 2 * k) b5) 3 bC) 4 bY) (6 + 2 * k) b6) 2 bR 2 = bR
    rw [updP_at]
  have e3b : (nextV V k bC bY b5 b6 bR cC cY cR).blk 3 = bC := by
    show updP (updP (updP (updP (updP V.blk (5 + 2 * k) b5) 3 bC) 4 bY) (6 + 2 * k) b6) 2 bR 3 = bC
    rw [updP_ne _ _ (by omega), updP_ne _ _ (by omega), updP_ne _ _ (by omega), updP_at]
  have e4b : (nextV V k bC bY b5 b6 bR cC cY cR).blk 4 = bY := by
    show updP (updP (updP (updP (updP V.blk (5 + 2 * k) b5) 3 bC) 4 bY) (6 + 2 * k) b6) 2 bR 4 = bY
    rw [updP_ne _ _ (by omega), updP_ne _ _ (by omega), updP_at]
  refine ⟨⟨m1, Or.inl (by omega), rfl, hm _ _ G.hR, hm _ _ G.hC, hm _ _ G.hY, rfl, rfl, rfl, ?_, ?_, ?_, G.bel⟩, fun _ => ?_, fun _ => ?_, fun _ => ?_⟩
  · rw [s2]; exact G.oR
  · rw [s3]; exact G.oC
  · rw [s4]; exact G.oY
  · rw [e2b]; rfl
  · rw [e3b]; rfl
  · rw [e4b]; rfl
end Go.Proofs.Ytgbkfmjkemkajaa
