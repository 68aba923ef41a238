/- The board; its first line with just one open cell. -/
import Derived.Test.YtgbkfmjkemkajabM6
import Derived.OwnWalk
namespace Go.Proofs.Ytgbkfmjkemkajab
open Go.RowKit

structure BV where
  blk : Nat → Nat
  cO : Nat
  aR : Option Addr
  aC : Option Addr
  aY : Option Addr
  cR : Nat
  cC : Nat
  cY : Nat

def dk (L : List (Int × Int)) (k : Nat) : Int × Int := L.getD k (0, 0)
theorem dk_at {L : List (Int × Int)} {k : Nat} (hk : k < L.length) : L[k]? = some (dk L k) := by
  unfold dk
  rw [List.getD_eq_getElem?_getD, List.getElem?_eq_getElem hk]
  rfl
theorem dk_mem {L : List (Int × Int)} {k : Nat} (hk : k < L.length) : dk L k ∈ L := List.mem_of_getElem? (dk_at hk)

def F0 (n : Nat) (K : Nat) (a : Option Addr) (cap : Nat) (V : BV) : Nat → Value
  | 0 => .int .i64 n
  | 1 => .slice (some ⟨V.blk 1, 0, none⟩) (n * n) V.cO
  | 2 => .slice V.aR K V.cR
  | 3 => .slice V.aC K V.cC
  | 4 => .slice V.aY K V.cY
  | _ => .slice a K cap

def FB (n : Nat) (L : List (Int × Int)) (a : Option Addr) (cap : Nat) (V : BV) (bo : Nat → Bool) (bk : Nat → Nat → Bool) : Nat → Nat → Value
  | 0, i => F0 n L.length a cap V i
  | 1, i => .bool (bo i)
  | 2, k => .slice (some ⟨V.blk (6 + 2 * k), 0, none⟩) (binN n (dk L k)) (binN n (dk L k))
  | 3, k => .slice (some ⟨V.blk (5 + 2 * k), 0, none⟩) (binN n (dk L k)) (binN n (dk L k))
  | 4, k => .int .i64 (rdy n (dk L k) (bk k) (binN n (dk L k)) : Nat)
  | r + 5, j => if r % 2 = 0 then .int .i64 (cntL n (dk L (r / 2)) (bk (r / 2)) (j : Int) : Nat) else .complex .f64 0 0

def FN (n : Nat) (L : List (Int × Int)) : Nat → Nat
  | 0 => 6
  | 1 => n * n
  | 2 => L.length
  | 3 => L.length
  | 4 => L.length
  | r + 5 => binN n (dk L (r / 2))

def Live (L : List (Int × Int)) (r : Nat) : Prop := r < 2 ∨ (0 < L.length ∧ r < 5 + 2 * L.length)

theorem rdy_none {n : Nat} {d : Int × Int} {b : Nat → Bool} {B : Nat} (h : rdy n d b B = 0) {j : Nat} (hj : j < B) : cntL n d b (j : Int) ≠ 1 := by
  intro e
  have := cnt_some (p := fun j : Nat => decide (cntL n d b (j : Int) = 1)) hj (by simp [e])
  unfold rdy at h
  omega

end Go.Proofs.Ytgbkfmjkemkajab
