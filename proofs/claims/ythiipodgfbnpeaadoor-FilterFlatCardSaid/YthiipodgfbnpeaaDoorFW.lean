/- The weights of a filter, as bits: reckoned. -/
import Derived.Test.YthiipodgfbnpeaaDoorS
namespace Go.Proofs.YthiipodgfbnpeaaDoor
open Go.RowKit

def oneB : Nat := 4607182418800017408
def halfOne : Nat := 4602678819172646912
/-- j of 4096 parts. -/
def rT (j : Nat) : Nat := (floatBits .quo .f64 (floatOfInt .f64 (j : Int)) (floatOfInt .f64 4096)).getD 0
def lessT (K : Nat) : Nat := min K (4096 - K)
def softO (K : Nat) : Option Nat := (floatBits .add .f64 oneB (full K).1).bind fun a => (floatBits .mul .f64 halfOne a).bind fun b => floatBits .mul .f64 (rT (lessT K)) b
def wT (kind K : Nat) : Nat := if kind = 1 then oneB else if kind = 2 then rT (lessT K) else (softO K).getD 0

def goodW (c : Nat) : Bool := (FloatKind.f64.format.order c c == some .eq) && !(FloatKind.f64.format.order c 0 == some .lt) && !(FloatKind.f64.format.order c oneB == some .gt)

def okRamp (e m : Nat) : Bool := floatBits .quo .f64 (floatOfInt .f64 (m : Int)) (floatOfInt .f64 ((2 ^ e : Nat) : Int)) == some (rT (m * 2 ^ (12 - e)))
theorem ramps_low : ∀ e < 12, ∀ m < 1025, m ≤ 2 ^ e / 2 → okRamp e m = true := by decide +kernel
end Go.Proofs.YthiipodgfbnpeaaDoor
