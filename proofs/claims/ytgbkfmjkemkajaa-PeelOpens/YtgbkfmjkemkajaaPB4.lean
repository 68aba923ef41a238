/- A cell of the board closed: what its rows hold then. -/
import Derived.Test.YtgbkfmjkemkajaaPB3
namespace Go.Proofs.Ytgbkfmjkemkajaa
open Go.RowKit

theorem fb_step {n : Nat} {L : List (Int × Int)} {a : Option Addr} {cap : Nat} {V : BV} {bo : Nat → Bool} {bk : Nat → Nat → Bool} {c k q : Nat} (hc : c < n * n) (hb : bk k c = true) (hq : lnI n (dk L k) c = (q : Int)) (r i : Nat) :
    (if r = 6 + 2 * k ∧ i = q then Value.complex .f64 0 0 else if r = 5 + 2 * k ∧ i = q then .int .i64 (cntL n (dk L k) (shutB (bk k) c) (q : Int) : Nat) else if r = 4 ∧ i = k then .int .i64 (rdy n (dk L k) (shutB (bk k) c) (binN n (dk L k)) : Nat) else FB n L a cap V bo bk r i) = FB n L a cap V bo (fun k' => if k' = k then shutB (bk k) c else bk k') r i := by
  match r with
  | 0 => rw [if_neg (by omega), if_neg (by omega), if_neg (by omega)]; rfl
  | 1 => rw [if_neg (by omega), if_neg (by omega), if_neg (by omega)]; rfl
  | 2 => rw [if_neg (by omega), if_neg (by omega), if_neg (by omega)]; rfl
  | 3 => rw [if_neg (by omega), if_neg (by omega), if_neg (by omega)]; rfl
  | 4 =>
    rw [if_neg (by omega), if_neg (by omega)]
    by_cases e : i = k
    · subst e
      rw [if_pos ⟨rfl, rfl⟩]
      show _ = Value.int .i64 (rdy n (dk L i) (if i = i then shutB (bk i) c else bk i) (binN n (dk L i)) : Nat)
      rw [if_pos rfl]
    · rw [if_neg (fun x => e x.2)]
      show _ = Value.int .i64 (rdy n (dk L i) (if i = k then shutB (bk k) c else bk i) (binN n (dk L i)) : Nat)
      rw [if_neg e]
      rfl
  | r + 5 =>
    show _ = if r % 2 = 0 then Value.int .i64 (cntL n (dk L (r / 2)) (if r / 2 = k then shutB (bk k) c else bk (r / 2)) (i : Int) : Nat) else .complex .f64 0 0
    have e0 : FB n L a cap V bo bk (r + 5) i = if r % 2 = 0 then Value.int .i64 (cntL n (dk L (r / 2)) (bk (r / 2)) (i : Int) : Nat) else .complex .f64 0 0 := rfl
    rw [e0]
    by_cases h2 : r % 2 = 0
    · rw [if_pos h2, if_pos h2, if_neg (by omega)]
      by_cases e : r / 2 = k
      · subst e
        rw [if_pos rfl]
        by_cases ei : i = q
        · rw [if_pos ⟨by omega, ei⟩, ei]
        · rw [if_neg (fun x => ei x.2), if_neg (by omega)]
          have := cntL_shut (d := dk L (r / 2)) hc hb (i : Int)
          rw [if_neg (by omega), Nat.add_zero] at this
          rw [this]
      · rw [if_neg e, if_neg (by omega), if_neg (by omega)]
    · rw [if_neg h2, if_neg h2]
      split
      · rfl
      · rw [if_neg (by omega), if_neg (by omega)]

section
variable {w : World} {base n : Nat} {L : List (Int × Int)} {a : Option Addr} {cap g o : Nat} {V : BV} {bo : Nat → Bool} {bk : Nat → Nat → Bool}

/-- The dirs' row lies below the board's. -/
theorem dirs_set (h : Dirs w a g o L) {p : Addr} (hg : 0 < L.length → g ≠ p.block) (u : Value) : Dirs (w.setCell p u) a g o L := by
  refine ⟨fun hl => ⟨(h.at_ hl).1, by rw [World.size_setCell]; exact (h.at_ hl).2⟩, fun i c hc => ?_⟩
  have hl : 0 < L.length := by
    have := (List.getElem?_eq_some_iff.1 hc).1
    omega
  have hb := Below.heap_setCell w p u g (hg hl)
  exact ⟨(World.cell?_of_block hb).trans (h.cell i c hc).1, (World.cell?_of_block hb).trans (h.cell i c hc).2⟩

theorem Board.shutOpen (h : Board w base n L a cap g o V bo bk) (hg : 0 < L.length → g < base) (c : Nat) : Board (w.setCell ⟨V.blk 1, c, none⟩ (.bool false)) base n L a cap g o V (shutB bo c) bk := by
  refine ⟨mem_ext (mem_set h.mem (r := 1) (Or.inl (by omega)) c (.bool false)) fun r hr i hi => ?_, h.atR, h.atC, h.atY, dirs_set h.dirs (fun hl => ?_) _⟩
  · match r with
    | 0 => rw [if_neg (by omega)]; rfl
    | 1 =>
      by_cases e : i = c
      · rw [if_pos ⟨rfl, e⟩]
        show _ = Value.bool (if i = c then false else bo i)
        rw [if_pos e]
      · rw [if_neg (fun x => e x.2)]
        show _ = Value.bool (if i = c then false else bo i)
        rw [if_neg e]
        rfl
    | 2 => rw [if_neg (by omega)]; rfl
    | 3 => rw [if_neg (by omega)]; rfl
    | 4 => rw [if_neg (by omega)]; rfl
    | r + 5 => rw [if_neg (by omega)]; rfl
  · have h1 := h.mem.above 1 (Or.inl (by omega))
    have h2 := hg hl
    show g ≠ V.blk 1
    omega

/-- The k-th direction's rows behind the closing: with a store to ready, and without. -/
theorem Board.step (h : Board w base n L a cap g o V bo bk) (hg : 0 < L.length → g < base) {c k q : Nat} (hk : k < L.length) (hc : c < n * n) (hb : bk k c = true) (hq : lnI n (dk L k) c = (q : Int)) :
    Board (((w.setCell ⟨V.blk 4, k, none⟩ (.int .i64 (rdy n (dk L k) (shutB (bk k) c) (binN n (dk L k)) : Nat))).setCell ⟨V.blk (5 + 2 * k), q, none⟩ (.int .i64 (cntL n (dk L k) (shutB (bk k) c) (q : Int) : Nat))).setCell ⟨V.blk (6 + 2 * k), q, none⟩ (.complex .f64 0 0)) base n L a cap g o V bo (fun k' => if k' = k then shutB (bk k) c else bk k') := by
  have l4 : Live L 4 := Or.inr (by omega)
  have l5 : Live L (5 + 2 * k) := Or.inr (by omega)
  have l6 : Live L (6 + 2 * k) := Or.inr (by omega)
  have hn : ∀ r, Live L r → (0 < L.length → g ≠ V.blk r) := fun r hr hl => by
    have := h.mem.above r hr
    have := hg hl
    omega
  exact ⟨mem_ext (mem_set (mem_set (mem_set h.mem l4 k _) l5 q _) l6 q _) fun r _ i _ => fb_step hc hb hq r i, h.atR, h.atC, h.atY, dirs_set (dirs_set (dirs_set h.dirs (hn 4 l4) _) (hn _ l5) _) (hn _ l6) _⟩

theorem Board.step' (h : Board w base n L a cap g o V bo bk) (hg : 0 < L.length → g < base) {c k q : Nat} (hk : k < L.length) (hc : c < n * n) (hb : bk k c = true) (hq : lnI n (dk L k) c = (q : Int))
    (hy : rdy n (dk L k) (shutB (bk k) c) (binN n (dk L k)) = rdy n (dk L k) (bk k) (binN n (dk L k))) :
    Board ((w.setCell ⟨V.blk (5 + 2 * k), q, none⟩ (.int .i64 (cntL n (dk L k) (shutB (bk k) c) (q : Int) : Nat))).setCell ⟨V.blk (6 + 2 * k), q, none⟩ (.complex .f64 0 0)) base n L a cap g o V bo (fun k' => if k' = k then shutB (bk k) c else bk k') := by
  have l5 : Live L (5 + 2 * k) := Or.inr (by omega)
  have l6 : Live L (6 + 2 * k) := Or.inr (by omega)
  have hn : ∀ r, Live L r → (0 < L.length → g ≠ V.blk r) := fun r hr hl => by
    have := h.mem.above r hr
    have := hg hl
    omega
  refine ⟨mem_ext (mem_set (mem_set h.mem l5 q _) l6 q _) fun r _ i _ => ?_, h.atR, h.atC, h.atY, dirs_set (dirs_set h.dirs (hn _ l5) _) (hn _ l6) _⟩
  rw [← fb_step (a := a) (cap := cap) (V := V) (bo := bo) hc hb hq r i]
  by_cases e : r = 4 ∧ i = k
  · obtain ⟨rfl, rfl⟩ := e
    rw [if_neg (by omega), if_neg (by omega), if_neg (by omega), if_neg (by omega), if_pos ⟨rfl, rfl⟩, hy]
    rfl
  · rw [if_neg e]
end
end Go.Proofs.Ytgbkfmjkemkajaa
