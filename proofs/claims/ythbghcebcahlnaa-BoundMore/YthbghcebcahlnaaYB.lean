/- Bytes as small whole numbers: the statement's own list. -/
import Derived.Test.YthbghcebcahlnaaYG
import Derived.BigRegion
namespace Go.Proofs.Ythbghcebcahlnaa
open Go.RowKit Fl

attribute [local go_sem] store_complex

/-- A slice of bytes in memory. -/
structure Bytes (w : World) (a : Option Addr) (g o : Nat) (L : List Int) : Prop where
  at_ : 0 < L.length → a = some ⟨g, o, none⟩ ∧ g < w.heap.size
  cell : ∀ i c, L[i]? = some c → w.cell? ⟨g, o + i, none⟩ = some (.int .u8 c)

theorem bytes_below {w w' : World} {a : Option Addr} {g o : Nat} {L : List Int} (h : Bytes w a g o L) (hb : Below w.heap.size w w') : Bytes w' a g o L := by
  refine ⟨fun hl => ⟨(h.at_ hl).1, Nat.lt_of_lt_of_le (h.at_ hl).2 hb.size⟩, fun i c hi => ?_⟩
  have hl : 0 < L.length := by
    have := (List.getElem?_eq_some_iff.1 hi).1
    omega
  exact (hb.cell (h.at_ hl).2).trans (h.cell i c hi)

/-- The numbers that a list of bytes makes, and their bits. -/
def smallZ (L : List Int) (i : Nat) : Int × Int := if 2 * i + 1 < L.length then (IntKind.i8.wrap (L.getD (2 * i) 0), IntKind.i8.wrap (L.getD (2 * i + 1) 0)) else (0, 0)
def smallB (L : List Int) (i : Nat) : Nat × Nat := (floatOfInt .f64 (smallZ L i).1, floatOfInt .f64 (smallZ L i).2)
/-- So far. -/
def smallTo (L : List Int) (k i : Nat) : Nat × Nat := if i < k then smallB L i else (0, 0)

theorem wrap8_le (x : Int) : (IntKind.i8.wrap x).natAbs ≤ 128 := by
  have e : IntKind.i8.wrap x = if x % 256 ≥ 128 then x % 256 - 256 else x % 256 := by simp [IntKind.wrap, IntKind.bits, IntKind.signed]
  rw [e]
  split <;> omega

theorem float8_all : ((List.range 257).all fun k => decide (floatOfInt .f64 ((k : Int) - 128) < 18446744073709551616)) = true := by decide +kernel
theorem float8_lt {z : Int} (h : z.natAbs ≤ 128) : floatOfInt .f64 z < 18446744073709551616 := by
  have h1 := List.all_eq_true.1 float8_all (z + 128).toNat (List.mem_range.2 (by omega))
  have h2 := of_decide_eq_true h1
  rw [show (((z + 128).toNat : Nat) : Int) - 128 = z by omega] at h2
  exact h2

theorem smallZ_le (L : List Int) (i : Nat) : (smallZ L i).1.natAbs ≤ 128 ∧ (smallZ L i).2.natAbs ≤ 128 := by
  unfold smallZ
  split
  · exact ⟨wrap8_le _, wrap8_le _⟩
  · exact ⟨by decide, by decide⟩

theorem float_zero {z : Int} (h : z = 0) : floatOfInt .f64 z = 0 := by subst h; rfl

theorem small_cell (L : List Int) (i : Nat) : Cell (smallB L i) (smallZ L i) 128 := by
  obtain ⟨h1, h2⟩ := smallZ_le L i
  exact ⟨⟨iv_ofInt _ (by omega), iv_ofInt _ (by omega)⟩, float8_lt h1, float8_lt h2, float_zero, float_zero, h1, h2⟩

theorem smallB_out {L : List Int} {i : Nat} (h : ¬ 2 * i + 1 < L.length) : smallB L i = (0, 0) := by
  unfold smallB smallZ
  rw [if_neg h]
  rfl

theorem smallTo_step (L : List Int) (k i : Nat) : upd (smallTo L k) k (smallB L k) i = smallTo L (k + 1) i := by
  unfold upd smallTo
  by_cases c : i = k
  · subst c
    rw [if_pos rfl, if_pos (by omega)]
  · rw [if_neg c]
    by_cases d : i < k
    · rw [if_pos d, if_pos (by omega)]
    · rw [if_neg d, if_neg (by omega)]

theorem smallTo_out {L : List Int} {k : Nat} (h : ¬ 2 * k + 1 < L.length) (i : Nat) : smallTo L k i = smallB L i := by
  unfold smallTo
  split
  · rfl
  · rw [smallB_out (by omega)]

end Go.Proofs.Ythbghcebcahlnaa
