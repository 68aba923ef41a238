/- Small things that no program stands in: hidden facts, products, plain parts, the halving of a step, as bits. -/
import Derived.Test.YthiipodgfbnpeaaDoorT
import Derived.WalkKit
import Derived.WalkSpells
import Derived.WalkLawsBesides
namespace Go.Proofs.YthiipodgfbnpeaaDoor
open Go.RowKit

theorem hide {p : Prop} (h : p) : Hid p := h
theorem unhide {p : Prop} (h : Hid p) : p := h

def negB (b : Nat) : Nat := (bits .xor .u64 (b : Int) 9223372036854775808).toNat
def turnP (a : Nat × Nat) : Nat × Nat := (plainB (negB a.2), plainB a.1)

/-- What a product of two complex numbers comes to, part by part. -/
structure MulTo (a b c d r s : Nat) : Prop where
  ex : ∃ ac bd ad bc, floatBits .mul .f64 a c = some ac ∧ floatBits .mul .f64 b d = some bd ∧ floatBits .mul .f64 a d = some ad ∧ floatBits .mul .f64 b c = some bc ∧ floatBits .sub .f64 ac bd = some r ∧ floatBits .add .f64 ad bc = some s

theorem mulTo_of_mulP {a b c : Nat × Nat} (h : mulP a b = some c) : ∃ r s, MulTo a.1 a.2 b.1 b.2 r s ∧ c = (plainB r, plainB s) := by
  unfold mulP at h
  split at h
  · rename_i ac bd ad bc h1 h2 h3 h4
    split at h
    · rename_i r s h5 h6
      exact ⟨r, s, ⟨ac, bd, ad, bc, h1, h2, h3, h4, h5, h6⟩, (Option.some.inj h).symm⟩
    · cases h
  · cases h

/-- The halving of a step, as the chapter says it. -/
structure HalfTo (c s c' s' : Nat) : Prop where
  ex : ∃ t h d, floatBits .add .f64 4607182418800017408 c = some t ∧ floatBits .mul .f64 4602678819172646912 t = some h ∧ FloatKind.f64.format.sqrt h = some c' ∧
    floatBits .mul .f64 4611686018427387904 c' = some d ∧ floatBits .quo .f64 s d = some s'

def halfB (c s c' s' : Nat) : Bool :=
  match floatBits .add .f64 4607182418800017408 c with
  | some t => match floatBits .mul .f64 4602678819172646912 t with
    | some h => FloatKind.f64.format.sqrt h == some c' && (match floatBits .mul .f64 4611686018427387904 c' with
      | some d => floatBits .quo .f64 s d == some s'
      | none => false)
    | none => false
  | none => false

theorem halfTo_of {c s c' s' : Nat} (h : halfB c s c' s' = true) : HalfTo c s c' s' := by
  unfold halfB at h
  split at h
  · rename_i t h1
    split at h
    · rename_i x h2
      rw [Bool.and_eq_true] at h
      obtain ⟨h3, h4⟩ := h
      split at h4
      · rename_i d h5
        exact ⟨t, x, d, h1, h2, eq_of_beq h3, h5, eq_of_beq h4⟩
      · cases h4
    · cases h
  · cases h

theorem halfB_ok : ∀ j < 10, halfB (st j).1 (st j).2 (st (j + 1)).1 (st (j + 1)).2 = true := by decide +kernel
theorem half_ok (j : Nat) (h : j < 10) : HalfTo (st j).1 (st j).2 (st (j + 1)).1 (st (j + 1)).2 := halfTo_of (halfB_ok j h)
theorem sqrt_half : FloatKind.f64.format.sqrt 4602678819172646912 = some 4604544271217802189 := by decide +kernel
end Go.Proofs.YthiipodgfbnpeaaDoor
