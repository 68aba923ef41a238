/- The power of two that a length is. -/
import Derived.Test.YthiipodgfbnpeaaDoorM3
namespace Go.Proofs.YthiipodgfbnpeaaDoor
open Go.RowKit
attribute [local go_sem] store_complex

/-- The table of the library, where it is asked. -/
def debAt (p : Nat) : Nat := 2 ^ p * 285870213051353865 % 18446744073709551616 / 288230376151711744
def Deb (w : World) : Prop := ∀ p, p ≤ 12 → w.cell? ⟨2, debAt p, none⟩ = some (.int .u8 p)

set_option maxHeartbeats 800000 in
theorem tz64 (x y i p : Nat) (hx : ((x : Int) == 0) = false) (h1 : bits .and .u64 (x : Int) (IntKind.u64.wrap (-(x : Int))) = x) (h2 : IntKind.u64.wrap ((x : Int) * 285870213051353865) = y) (h3 : (y : Int) / 288230376151711744 = i) (hi : i < 64) (w : World) (hc : w.cell? ⟨2, i, none⟩ = some (.int .u8 p)) (hp : p ≤ 12) :
    Calls Tryd.prog 55 #[.int .u64 x] w fun e w' => e = .returned (.int .i64 p) ∧ w' = w := by
  have hI : (i : Int) < 64 := by omega
  go_enter Tryd.func55, Tryd.ntmps55
  go_wp2
  go_ret
  exact ⟨rfl, rfl⟩
theorem deb_ok : ∀ p : Nat, p < 13 → (((2 ^ p : Nat) : Int) == 0) = false ∧ bits .and .u64 ((2 ^ p : Nat) : Int) (IntKind.u64.wrap (-((2 ^ p : Nat) : Int))) = ((2 ^ p : Nat) : Int) ∧
    IntKind.u64.wrap (((2 ^ p : Nat) : Int) * 285870213051353865) = ((2 ^ p * 285870213051353865 % 18446744073709551616 : Nat) : Int) ∧ debAt p < 64 := by decide +kernel

set_option maxHeartbeats 800000 in
theorem tzAny {p n : Nat} (hp : p ≤ 12) (hn : n = 2 ^ p) (w : World) (hD : Deb w) :
    Calls Tryd.prog 45 #[.int .u64 n] w fun e w' => e = .returned (.int .i64 p) ∧ w' = w := by
  obtain ⟨h1, h2, h3, h4⟩ := deb_ok p (by omega)
  have hc := hide (tz64 (2 ^ p) _ (debAt p) p h1 h2 h3 (by unfold debAt; omega) h4 w (hD p hp) hp)
  rw [← hn] at hc
  clear h1 h2 h3 h4 hD hn
  go_enter Tryd.func45, Tryd.ntmps45
  go_wp2_with (first | (go_at_call 55; refine (unhide hc).mono ?_; rintro e w' ⟨rfl, rfl⟩))
  go_ret
  exact ⟨rfl, rfl⟩

theorem deb_below {B : Nat} {w w' : World} (h : Deb w) (hb : Below B w w') (hB : 2 < B) : Deb w' := fun p hp => (hb.cell (p := ⟨2, debAt p, none⟩) hB).trans (h p hp)
theorem deb_lt {w : World} (h : Deb w) : 2 < w.heap.size := World.block_lt_of_cell? w ⟨2, debAt 0, none⟩ (h 0 (by decide))

/-- What a float64 scaled down by 2^p comes to. -/
def LdTo (p b r : Nat) : Prop := ∀ w : World, Calls Tryd.prog 57 #[.float .f64 b, .int .i64 (-(p : Int))] w fun e w' => e = .returned (.float .f64 r) ∧ w' = w

set_option maxHeartbeats 800000 in
theorem cloAny {p a r g : Nat} (h : LdTo p a r) (w : World) (hc : w.cell? ⟨g, 0, none⟩ = some (.int .i64 (-(p : Int)))) :
    Calls Tryd.prog 56 #[.float .f64 a, .pointer (some ⟨g, 0, none⟩)] w fun e w' => e = .returned (.float .f64 r) ∧ w' = w := by
  have k := hide h
  clear h
  go_enter Tryd.func56, Tryd.ntmps56
  go_wp2_with (first | (go_at_call 57; refine (unhide k _).mono ?_; rintro e w' ⟨rfl, rfl⟩))
  go_ret
  exact ⟨rfl, rfl⟩

set_option maxHeartbeats 1600000 in
theorem eachAny {p : Nat} {a1 a2 r1 r2 g : Nat} (h1 : LdTo p a1 r1) (h2 : LdTo p a2 r2) (w : World) (hc : w.cell? ⟨g, 0, none⟩ = some (.int .i64 (-(p : Int)))) :
    Calls Tryd.prog 33 #[.complex .f64 a1 a2, .func (.func 56) #[] #[.pointer (some ⟨g, 0, none⟩)]] w fun e w' => e = .returned (.complex .f64 r1 r2) ∧ w' = w := by
  have k1 := hide (cloAny h1 w hc)
  have k2 := hide (cloAny h2 w hc)
  clear h1 h2
  go_enter Tryd.func33, Tryd.ntmps33
  go_wp2_with fail
  refine (unhide k1).mono ?_
  rintro e w' ⟨rfl, rfl⟩
  go_wp2_with fail
  refine (unhide k2).mono ?_
  rintro e w'' ⟨rfl, rfl⟩
  go_wp2_with fail
  go_ret
  exact ⟨rfl, rfl⟩

set_option maxHeartbeats 1600000 in
theorem scaleAny {p : Nat} (hp : p ≤ 12) {a r : Nat × Nat} (h1 : LdTo p a.1 r.1) (h2 : LdTo p a.2 r.2) (w : World) :
    Calls Tryd.prog 46 #[.complex .f64 a.1 a.2, .int .i64 (-(p : Int))] w fun e w' => e = .returned (.complex .f64 r.1 r.2) ∧ Below w.heap.size w w' := by
  have k := hide (fun w hc => eachAny (g := w.heap.size - 1) h1 h2 w hc)
  have kk : Hid (∀ o, o = Obj.cells #[.int .i64 (-(p : Int))] 3 → Calls Tryd.prog 33 #[.complex .f64 a.1 a.2, .func (.func 56) #[] #[.pointer (some ⟨w.heap.size, 0, none⟩)]] (w.alloc o) fun e w' => e = .returned (.complex .f64 r.1 r.2) ∧ w' = w.alloc o) :=
    fun o ho => eachAny h1 h2 (w.alloc o) (by subst ho; simp [go_sem])
  clear h1 h2 k
  obtain ⟨a1, a2⟩ := a
  obtain ⟨r1, r2⟩ := r
  have hm1 : (-(p : Int) < -2200) = False := by simp; omega
  have hm2 : ((2200 : Int) < -(p : Int)) = False := by simp
  go_enter Tryd.func46, Tryd.ntmps46
  go_wp2_with fail
  refine (unhide kk _ rfl).mono ?_
  rintro e w' ⟨rfl, rfl⟩
  go_wp2_with fail
  go_ret
  exact ⟨rfl, (Below.refl _ _).alloc (Nat.le_refl _) _⟩

/-- The row's first k numbers scaled. -/
def scaling (f s : Nat → Nat × Nat) (k : Nat) : Nat → Nat × Nat := fun i => if i < k then s i else f i

set_option maxHeartbeats 1600000 in
theorem backSpan {b L n gx ax cx : Nat} {xs sc : Nat → Nat × Nat} (hb : 60 ≤ b) (hb2 : b ≤ 1900) (hL : L ≤ 12) (hn : n = 2 ^ L) (hX : Nums b n xs) (hcx : n ≤ cx) (hS : ∀ k, k < n → LdTo L (fft L 1 xs k).1 (sc k).1 ∧ LdTo L (fft L 1 xs k).2 (sc k).2) (w : World) (hD : Deb w) (hx : Span w gx ax n xs) :
    Calls Tryd.prog 32 #[.slice (some ⟨gx, ax, none⟩) n cx] w fun e w' =>
      ∃ g, e = .returned (.tuple #[.slice (some ⟨g, 0, none⟩) n n, .int .i64 0]) ∧ w.heap.size ≤ g ∧ Row w' g n sc ∧ Below w.heap.size w w' := by
  have hT := hide (table_row hL hn)
  have hH := hide (fun gw => byHalvesAny (c := 1) (gx := gx) (ax := ax) (gw := gw) (by decide) hb hb2 hL hn hX hcx)
  have hZ := hide (fun w => tzAny hL hn w)
  have hx := hide hx
  have hS := hide hS
  have hD := hide hD
  have hn4 : n ≤ 4096 := by rw [hn]; exact Nat.pow_le_pow_right (n := 2) (by decide) hL
  clear hX hn
  go_enter Tryd.func32, Tryd.ntmps32
  go_wp2_with fail
  refine (unhide hT _).mono ?_
  rintro e w1 ⟨gw, rfl, hg, hR, hB⟩
  have hC := hide (unhide hH gw w1 (span_below (unhide hx) hB (unhide hx).lt) hR)
  have hB := hide hB
  clear hR hg hH hT
  go_wp2_with fail
  refine (unhide hC).mono ?_
  rintro e w2 ⟨g2, rfl, hg2, hR2, hB2⟩
  have hB3 : Hid (Below w.heap.size w w2) := (unhide hB).trans (hB2.mono (unhide hB).size)
  have hg3 : Hid (w.heap.size ≤ g2) := Nat.le_trans (unhide hB).size hg2
  have hz := hide (unhide hZ w2 (deb_below (unhide hD) (unhide hB3) (deb_lt (unhide hD))))
  have hR2 := hide hR2
  clear hg2 hB2 hB hC hZ
  go_wp2_with fail
  refine (unhide hz).mono ?_
  rintro e w3 ⟨rfl, rfl⟩
  go_wp2_with fail
  have hR0 : Hid (Row w3 g2 n (scaling (fft L 1 xs) sc 0)) := row_ext (unhide hR2) fun i _ => by unfold scaling; rw [if_neg (by omega)]
  go_loopw [28] (fun ix wr => ∃ k : Nat, k ≤ n ∧ ix = .int .i64 k ∧ Hid (Row wr g2 n (scaling (fft L 1 xs) sc k)) ∧ Hid (Below w.heap.size w wr)) (fun ix _ => n - (intOf ix).toNat)
  case atStart => exact ⟨0, Nat.zero_le _, rfl, hR0, hB3⟩
  case round =>
    obtain ⟨k, hk, rfl, hRr, hBr⟩ := hrel
    by_cases hkn : k < n
    · have hI : (k : Int) < (n : Int) := by omega
      have c1 := row_at (unhide hRr) hkn
      have hv : scaling (fft L 1 xs) sc k k = fft L 1 xs k := by
        unfold scaling
        rw [if_neg (by omega)]
      rw [hv] at c1
      unfold cv at c1
      have hs := hide (scaleAny hL (unhide hS k hkn).1 (unhide hS k hkn).2 wr)
      generalize (fft L 1 xs k).1 = x at c1 hs
      generalize (fft L 1 xs k).2 = y at c1 hs
      clear hv hR0 hB3 hR2 hz
      go_wp2_with fail
      refine (unhide hs).mono ?_
      rintro e w5 ⟨rfl, hb5⟩
      have hR5 := row_below (unhide hRr) hb5 (row_lt (unhide hRr))
      have c5 := row_at hR5 hkn
      have f5 := row_frozen hR5 k
      unfold cv at c5
      have hRn : Hid (Row (w5.setCell ⟨g2, k, none⟩ (.complex .f64 (sc k).1 (sc k).2)) g2 n (scaling (fft L 1 xs) sc (k + 1))) := by
        refine row_ext (row_set hR5 k (sc k)) fun i _ => ?_
        unfold upd scaling
        by_cases e : i = k
        · subst e
          rw [if_pos rfl, if_pos (by omega)]
        · rw [if_neg e]
          by_cases e2 : i < k
          · rw [if_pos e2, if_pos (by omega)]
          · rw [if_neg e2, if_neg (by omega)]
      have hBn := hide (((unhide hBr).trans (hb5.mono (unhide hBr).size)).setCell (p := ⟨g2, k, none⟩) (unhide hg3) (.complex .f64 (sc k).1 (sc k).2))
      clear hR5 hb5 hRr hBr hs
      go_wp2_with fail
      go_roundw
      case rel => exact ⟨k + 1, hkn, by go_num, hRn, hBn⟩
      case measure => simp [intOf]; omega
    · have hkn' : k = n := by omega
      subst hkn'
      go_wp2_with fail
      go_ret2
      exact ⟨_, rfl, unhide hg3, row_ext (unhide hRr) fun i hi => by unfold scaling; rw [if_pos hi], unhide hBr⟩

theorem backAny {b L n gx cx : Nat} {xs sc : Nat → Nat × Nat} (hb : 60 ≤ b) (hb2 : b ≤ 1900) (hL : L ≤ 12) (hn : n = 2 ^ L) (hX : Nums b n xs) (hcx : n ≤ cx) (hS : ∀ k, k < n → LdTo L (fft L 1 xs k).1 (sc k).1 ∧ LdTo L (fft L 1 xs k).2 (sc k).2) (w : World) (hD : Deb w) (hx : Row w gx n xs) :
    Calls Tryd.prog 32 #[.slice (some ⟨gx, 0, none⟩) n cx] w fun e w' =>
      ∃ g, e = .returned (.tuple #[.slice (some ⟨g, 0, none⟩) n n, .int .i64 0]) ∧ w.heap.size ≤ g ∧ Row w' g n sc ∧ Below w.heap.size w w' := backSpan hb hb2 hL hn hX hcx hS w hD (span_row hx)
end Go.Proofs.YthiipodgfbnpeaaDoor
