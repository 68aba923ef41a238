/- The flat filter gives whole bins back once rounded, and bins that are 0 stay 0: the walk. -/
import Derived.Test.YthiipodgfbnpeaaDoorR9
import Derived.Test.YthiipodgfbnpeaaDoorSB
import Derived.Test.YthiipodgfbnpeaaDoorN3
import Derived.Test.YthiipodgfbnpeaaDoorFU
import Derived.BigRegion
import Derived.Deep.RegionLaw
import Derived.Deep.RegionHeld3
namespace Go.Proofs.YthiipodgfbnpeaaDoor
open Go.RowKit Fl
attribute [local go_sem] store_complex

/-- What comes back rounds to what went out. -/
theorem back_same {m : Nat} {xs ys : Nat → Nat × Nat} {v : Nat → Int × Int} (h : Ints m xs v) {k : Nat} (hk : k < m) {q t : Nat} (hq : q = 1074) (ht : t = 1063) {R : Int × Int} (hR : CV (ys k) R)
    (h1 : ((v k).1 * 2 ^ q - R.1).natAbs ≤ 5 * 2 ^ t) (h2 : ((v k).2 * 2 ^ q - R.2).natAbs ≤ 5 * 2 ^ t) :
    FloatKind.f64.format.order (plainB (roundB (ys k).1)) (xs k).1 = some .eq ∧ FloatKind.f64.format.order (plainB (roundB (ys k).2)) (xs k).2 = some .eq := by
  have hle := h.le k hk
  have hp : 2 ^ q = 2048 * 2 ^ t := by rw [show q = 11 + t by omega, Nat.pow_add]
  refine ⟨?_, ?_⟩
  · refine iv_same (plain_iv (round_iv hR.one q hq (v := (v k).1) ?_ (by omega))) (h.ic k hk).one
    rw [hp]
    omega
  · refine iv_same (plain_iv (round_iv hR.two q hq (v := (v k).2) ?_ (by omega))) (h.ic k hk).two
    rw [hp]
    omega

def ApplyNone (f : Nat) : Prop := ∀ (kind : Int) (a : Option Addr) (c : Nat) (w : World), Calls Tryd.prog f #[.slice a 0 c, .int .i64 kind] w fun r w' => ∃ a' c', r = .returned (.tuple #[.slice a' 0 c', .int .i64 30]) ∧ Below w.heap.size w w'
def ApplyKind (f : Nat) : Prop := ∀ (kind : Int) (m c g : Nat) (xs : Nat → Nat × Nat) (w : World), 1 ≤ m → m ≤ 2048 → (kind < 1 ∨ 3 < kind) → Row w g m xs →
  Calls Tryd.prog f #[.slice (some ⟨g, 0, none⟩) m c, .int .i64 kind] w fun r w' => ∃ a' c', r = .returned (.tuple #[.slice a' 0 c', .int .i64 160]) ∧ Below w.heap.size w w'
def ApplyFlat (f : Nat) : Prop := ∀ (m c g : Nat) (xs : Nat → Nat × Nat) (v : Nat → Int × Int) (w : World), 1 ≤ m → m ≤ 2048 → m ≤ c → Deb w → Ints m xs v → Row w g m xs →
  Calls Tryd.prog f #[.slice (some ⟨g, 0, none⟩) m c, .int .i64 1] w fun r w' => ∃ g' c' ys, r = .returned (.tuple #[.slice (some ⟨g', 0, none⟩) m c', .int .i64 0]) ∧ Row w' g' m ys ∧
    (∀ q t, q = 1074 → t = 1063 → ∀ i, i < m → ∃ R : Int × Int, CV (ys i) R ∧ ((v i).1 * 2 ^ q - R.1).natAbs ≤ 5 * 2 ^ t ∧ ((v i).2 * 2 ^ q - R.2).natAbs ≤ 5 * 2 ^ t) ∧ Below w.heap.size w w'
def ApplyZero (f : Nat) : Prop := ∀ (m c g kind : Nat) (w : World), 1 ≤ m → m ≤ 2048 → m ≤ c → 1 ≤ kind → kind ≤ 3 → Deb w → Row w g m (fun _ => (0, 0)) →
  Calls Tryd.prog f #[.slice (some ⟨g, 0, none⟩) m c, .int .i64 kind] w fun r w' => ∃ g' c' zs, r = .returned (.tuple #[.slice (some ⟨g', 0, none⟩) m c', .int .i64 0]) ∧ Row w' g' m zs ∧
    (∀ i, i < m → FloatKind.f64.format.order (zs i).1 0 = some .eq ∧ FloatKind.f64.format.order (zs i).2 0 = some .eq) ∧ Below w.heap.size w w'
end Go.Proofs.YthiipodgfbnpeaaDoor
