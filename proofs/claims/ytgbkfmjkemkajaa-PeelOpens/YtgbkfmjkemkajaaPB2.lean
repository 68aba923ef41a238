/- The board; its first line with just one open cell. -/
import Derived.Test.YtgbkfmjkemkajaaM6
import Derived.OwnWalk
namespace Go.Proofs.Ytgbkfmjkemkajaa
open Go.RowKit

structure BV where
  blk : Nat → Nat
  cO : Nat
  aR : Option Addr
  aC : Option Addr
  aY : Option Addr
  cR : Nat
  cC : Nat
  cY : Nat

def dk (L : List (Int × Int)) (k : Nat) : Int × Int := L.getD k (0, 0)
theorem dk_at {L : List (Int × Int)} {k : Nat} (hk : k < L.length) : L[k]? = some (dk L k) := by
  unfold dk
  rw [List.getD_eq_getElem?_getD, List.getElem?_eq_getElem hk]
  rfl
theorem dk_mem {L : List (Int × Int)} {k : Nat} (hk : k < L.length) : dk L k ∈ L := List.mem_of_getElem? (dk_at hk)

def F0 (n : Nat) (K : Nat) (a : Option Addr) (cap : Nat) (V : BV) : Nat → Value
  | 0 => .int .i64 n
  | 1 => .slice (some ⟨V.blk 1, 0, none⟩) (n * n) V.cO
  | 2 => .slice V.aR K V.cR
  | 3 => .slice V.aC K V.cC
  | 4 => .slice V.aY K V.cY
  | _ => .slice a K cap

def FB (n : Nat) (L : List (Int × Int)) (a : Option Addr) (cap : Nat) (V : BV) (bo : Nat → Bool) (bk : Nat → Nat → Bool) : Nat → Nat → Value
  | 0, i => F0 n L.length a cap V i
  | 1, i => .bool (bo i)
  | 2, k => .slice (some ⟨V.blk (6 + 2 * k), 0, none⟩) (binN n (dk L k)) (binN n (dk L k))
  | 3, k => .slice (some ⟨V.blk (5 + 2 * k), 0, none⟩) (binN n (dk L k)) (binN n (dk L k))
  | 4, k => .int .i64 (rdy n (dk L k) (bk k) (binN n (dk L k)) : Nat)
  | r + 5, j => if r % 2 = 0 then .int .i64 (cntL n (dk L (r / 2)) (bk (r / 2)) (j : Int) : Nat) else .complex .f64 0 0

def FT : Nat → TypeId
  | 0 => 68
  | 1 => 4
  | 2 => 39
  | 3 => 53
  | 4 => 3
  | r + 5 => if r % 2 = 0 then 3 else 38

def FN (n : Nat) (L : List (Int × Int)) : Nat → Nat
  | 0 => 6
  | 1 => n * n
  | 2 => L.length
  | 3 => L.length
  | 4 => L.length
  | r + 5 => binN n (dk L (r / 2))

def Live (L : List (Int × Int)) (r : Nat) : Prop := r < 2 ∨ (0 < L.length ∧ r < 5 + 2 * L.length)

structure Board (w : World) (base n : Nat) (L : List (Int × Int)) (a : Option Addr) (cap g o : Nat) (V : BV) (bo : Nat → Bool) (bk : Nat → Nat → Bool) : Prop where
  mem : Mem w base (Live L) V.blk FT (FN n L) (FB n L a cap V bo bk)
  atR : 0 < L.length → V.aR = some ⟨V.blk 2, 0, none⟩
  atC : 0 < L.length → V.aC = some ⟨V.blk 3, 0, none⟩
  atY : 0 < L.length → V.aY = some ⟨V.blk 4, 0, none⟩
  dirs : Dirs w a g o L

section
variable {w : World} {base n : Nat} {L : List (Int × Int)} {a : Option Addr} {cap g o : Nat} {V : BV} {bo : Nat → Bool} {bk : Nat → Nat → Bool}

theorem Board.field (h : Board w base n L a cap g o V bo bk) {i : Nat} (hi : i < 6) : w.cell? ⟨V.blk 0, i, none⟩ = some (F0 n L.length a cap V i) := vrow_at (h.mem.row 0 (Or.inl (by omega))) hi
theorem Board.open_ (h : Board w base n L a cap g o V bo bk) {i : Nat} (hi : i < n * n) : w.cell? ⟨V.blk 1, i, none⟩ = some (.bool (bo i)) := vrow_at (h.mem.row 1 (Or.inl (by omega))) hi
theorem Board.cnts (h : Board w base n L a cap g o V bo bk) {k : Nat} (hk : k < L.length) : w.cell? ⟨V.blk 3, k, none⟩ = some (.slice (some ⟨V.blk (5 + 2 * k), 0, none⟩) (binN n (dk L k)) (binN n (dk L k))) := vrow_at (h.mem.row 3 (Or.inr (by omega))) hk
theorem Board.rsts (h : Board w base n L a cap g o V bo bk) {k : Nat} (hk : k < L.length) : w.cell? ⟨V.blk 2, k, none⟩ = some (.slice (some ⟨V.blk (6 + 2 * k), 0, none⟩) (binN n (dk L k)) (binN n (dk L k))) := vrow_at (h.mem.row 2 (Or.inr (by omega))) hk
theorem Board.rdys (h : Board w base n L a cap g o V bo bk) {k : Nat} (hk : k < L.length) : w.cell? ⟨V.blk 4, k, none⟩ = some (.int .i64 (rdy n (dk L k) (bk k) (binN n (dk L k)) : Nat)) := vrow_at (h.mem.row 4 (Or.inr (by omega))) hk
theorem Board.cnt (h : Board w base n L a cap g o V bo bk) {k j : Nat} (hk : k < L.length) (hj : j < binN n (dk L k)) : w.cell? ⟨V.blk (5 + 2 * k), j, none⟩ = some (.int .i64 (cntL n (dk L k) (bk k) (j : Int) : Nat)) := by
  have hr := h.mem.row (2 * k + 5) (Or.inr (by omega))
  have e : 2 * k / 2 = k := by omega
  have := vrow_at (i := j) hr (by show j < binN n (dk L (2 * k / 2)); rw [e]; exact hj)
  rw [Nat.add_comm 5, this]
  show some (if 2 * k % 2 = 0 then Value.int .i64 (cntL n (dk L (2 * k / 2)) (bk (2 * k / 2)) (j : Int) : Nat) else .complex .f64 0 0) = _
  rw [if_pos (by omega), e]
theorem Board.below {w' : World} (h : Board w base n L a cap g o V bo bk) (hb : Below w.heap.size w w') : Board w' base n L a cap g o V bo bk := ⟨mem_below h.mem hb, h.atR, h.atC, h.atY, dirs_below h.dirs hb⟩
theorem Board.lt (h : Board w base n L a cap g o V bo bk) {r : Nat} (hr : Live L r) : V.blk r < w.heap.size := vrow_lt (h.mem.row r hr)
end

theorem rdy_none {n : Nat} {d : Int × Int} {b : Nat → Bool} {B : Nat} (h : rdy n d b B = 0) {j : Nat} (hj : j < B) : cntL n d b (j : Int) ≠ 1 := by
  intro e
  have := cnt_some (p := fun j : Nat => decide (cntL n d b (j : Int) = 1)) hj (by simp [e])
  unfold rdy at h
  omega

set_option maxRecDepth 100000 in
set_option maxHeartbeats 6400000 in
theorem boardFirst {base n : Nat} {L : List (Int × Int)} {a : Option Addr} {cap g o : Nat} {V : BV} {bo : Nat → Bool} {bk : Nat → Nat → Bool} (hL : L.length ≤ 64) (hB : ∀ k, k < L.length → binN n (dk L k) ≤ 2017) (hn : n * n ≤ 4096) (w : World) (h : Board w base n L a cap g o V bo bk) :
    Calls Try.prog 20 #[.pointer (some ⟨V.blk 0, 0, none⟩)] w fun e w' =>
      ((∃ k j, k < L.length ∧ j < binN n (dk L k) ∧ cntL n (dk L k) (bk k) (j : Int) = 1 ∧ e = .returned (.tuple #[.int .i64 k, .int .i64 j, .bool true])) ∨
        ((∀ k, k < L.length → ∀ j, j < binN n (dk L k) → cntL n (dk L k) (bk k) (j : Int) ≠ 1) ∧ e = .returned (.tuple #[.int .i64 0, .int .i64 0, .bool false]))) ∧ Below w.heap.size w w' := by
  have H := hide h
  have c3 : w.cell? ⟨V.blk 0, 3, none⟩ = some (.slice V.aC L.length V.cC) := h.field (by omega)
  have c4 : w.cell? ⟨V.blk 0, 4, none⟩ = some (.slice V.aY L.length V.cY) := h.field (by omega)
  clear h
  go_enter Try.func20, Try.ntmps20
  go_wp2_with fail
  go_loopw [5] (fun kv wr => ∃ k : Nat, k ≤ L.length ∧ kv = .int .i64 k ∧ Hid (∀ k', k' < k → ∀ j, j < binN n (dk L k') → cntL n (dk L k') (bk k') (j : Int) ≠ 1) ∧ w = wr) (fun kv _ => L.length - (intOf kv).toNat)
  case atStart => exact ⟨0, Nat.zero_le _, rfl, fun k' hk' => absurd hk' (Nat.not_lt_zero _), rfl⟩
  case round =>
    obtain ⟨k, hk, rfl, hN, rfl⟩ := hrel
    by_cases hkL : k < L.length
    · have q1 : ((k : Int) < (L.length : Int)) = True := by simp; omega
      have eC := (unhide H).atC (by omega)
      have eY := (unhide H).atY (by omega)
      rw [eC] at c3
      rw [eY] at c4
      have x1 := (unhide H).cnts hkL
      have x2 := (unhide H).rdys hkL
      have x3 := hide (fun j (hj : j < binN n (dk L k)) => (unhide H).cnt hkL hj)
      have hBk := hB k hkL
      have hr0 := hide (fun (hz : rdy n (dk L k) (bk k) (binN n (dk L k)) = 0) j (hj : j < binN n (dk L k)) => rdy_none hz hj)
      have hle : ∀ j, Hid (cntL n (dk L k) (bk k) (j : Int) ≤ 4096) := fun j => Nat.le_trans (cntL_le _ _ _ _) hn
      have hnext := hide (fun (hall : ∀ j, j < binN n (dk L k) → cntL n (dk L k) (bk k) (j : Int) ≠ 1) k' (hk' : k' < k + 1) => show ∀ j, j < binN n (dk L k') → cntL n (dk L k') (bk k') (j : Int) ≠ 1 by
        by_cases e : k' = k
        · subst e; exact hall
        · exact unhide hN k' (by omega))
      have hyes := hide (fun j (hj : j < binN n (dk L k)) (e : cntL n (dk L k) (bk k) (j : Int) = 1) => (⟨k, j, hkL, hj, e⟩ : ∃ k j, k < L.length ∧ j < binN n (dk L k) ∧ cntL n (dk L k) (bk k) (j : Int) = 1))
      clear hN eC eY
      go_wp2_with fail
      go_loopw [6] (fun jv wr => ∃ j : Nat, j ≤ binN n (dk L k) ∧ jv = .int .i64 j ∧ Hid (∀ j', j' < j → cntL n (dk L k) (bk k) (j' : Int) ≠ 1) ∧ w = wr) (fun jv _ => binN n (dk L k) - (intOf jv).toNat)
      case atStart => exact ⟨0, Nat.zero_le _, rfl, fun j' hj' => absurd hj' (Nat.not_lt_zero _), rfl⟩
      case round =>
        obtain ⟨j, hj, rfl, hM, rfl⟩ := hrel
        by_cases hjB : j < binN n (dk L k)
        · have q2 : ((j : Int) < ((binN n (dk L k) : Nat) : Int)) = True := by simp; omega
          by_cases hR : rdy n (dk L k) (bk k) (binN n (dk L k)) = 0
          · have hall := unhide hr0 hR
            have hnx := hide (unhide hnext hall)
            rw [hR] at x2
            clear hall hnext hyes hM x3 hr0
            go_wp2_with fail
            exact ⟨⟨k + 1, by omega, by go_num, hnx, trivial⟩, by simp [intOf]; omega⟩
          · have q3 : (0 < ((rdy n (dk L k) (bk k) (binN n (dk L k)) : Nat) : Int)) = True := by simp; omega
            have x4 := unhide x3 j hjB
            by_cases hc : cntL n (dk L k) (bk k) (j : Int) = 1
            · rw [hc] at x4
              go_wp2_with fail
              go_ret3
              exact ⟨Or.inl ⟨k, j, hkL, hjB, hc, rfl⟩, Below.refl _ _⟩
            · have q4 : (((cntL n (dk L k) (bk k) (j : Int) : Nat) : Int) == 1) = false := by simp; omega
              have hM' : Hid (∀ j', j' < j + 1 → cntL n (dk L k) (bk k) (j' : Int) ≠ 1) := fun j' hj' => by
                by_cases e : j' = j
                · subst e; exact hc
                · exact unhide hM j' (by omega)
              have hc' := hide hc
              clear hc hM
              go_wp2_with fail
              exact ⟨⟨j + 1, by omega, by go_num, hM', trivial⟩, by simp [intOf]; omega⟩
        · have e : j = binN n (dk L k) := by omega
          have q2 : ((j : Int) < ((binN n (dk L k) : Nat) : Int)) = False := by simp; omega
          have hall := unhide hM
          rw [e] at hall
          have hnx := hide (unhide hnext hall)
          have e' := hide e
          clear hall hnext hyes hM x3 hr0 e
          go_wp2_with fail
          exact ⟨⟨k + 1, by omega, by go_num, hnx, trivial⟩, by simp [intOf]; omega⟩
    · have e : k = L.length := by omega
      have q1 : ((k : Int) < (L.length : Int)) = False := by simp; omega
      have hall := unhide hN
      rw [e] at hall
      have hall := hide hall
      clear e hN
      go_wp2_with fail
      go_ret3
      exact ⟨Or.inr ⟨unhide hall, rfl⟩, Below.refl _ _⟩
end Go.Proofs.Ytgbkfmjkemkajaa
