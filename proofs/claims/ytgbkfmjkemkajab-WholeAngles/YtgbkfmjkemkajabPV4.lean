/- Small whole numbers as package cx has them; the rests looked at. -/
import Derived.Test.YtgbkfmjkemkajabPV3
namespace Go.Proofs.Ytgbkfmjkemkajab
open Go.RowKit Go.Shelf

def nb (v : Nat) : Nat × Nat := (floatOfInt .f64 (v : Int), 0)
set_option maxRecDepth 100000 in
theorem nb_sub_tab : ∀ a b : Fin 17, b.1 ≤ a.1 → floatBits .sub .f64 (floatOfInt .f64 (a.1 : Int)) (floatOfInt .f64 (b.1 : Int)) = some (floatOfInt .f64 ((a.1 - b.1 : Nat) : Int)) := by decide +kernel
set_option maxRecDepth 100000 in
theorem nb_plain_tab : ∀ a : Fin 17, plainB (floatOfInt .f64 (a.1 : Int)) = floatOfInt .f64 (a.1 : Int) := by decide +kernel
set_option maxRecDepth 100000 in
theorem nb_lt_tab : ∀ a : Fin 17, floatOfInt .f64 (a.1 : Int) < 18446744073709551616 := by decide +kernel
theorem nb_none : floatBits .sub .f64 0 0 = some 0 := by decide +kernel
theorem nb_zero : nb 0 = (0, 0) := by
  unfold nb
  rw [show floatOfInt .f64 ((0 : Nat) : Int) = 0 by decide +kernel]

set_option maxHeartbeats 400000 in
theorem cxSub {a b : Nat} (hb : b ≤ a) (ha : a ≤ 16) (w : World) :
    Calls Try.prog 22 #[.complex .f64 (nb a).1 (nb a).2, .complex .f64 (nb b).1 (nb b).2] w fun e w' => e = .returned (.complex .f64 (nb (a - b)).1 (nb (a - b)).2) ∧ w' = w := by
  have h1 := nb_sub_tab ⟨a, by omega⟩ ⟨b, by omega⟩ hb
  dsimp only at h1
  unfold nb
  dsimp only
  generalize floatOfInt .f64 (a : Int) = x at *
  generalize floatOfInt .f64 (b : Int) = y at *
  generalize floatOfInt .f64 ((a - b : Nat) : Int) = r at *
  have k1 := fun (w : World) t => run_float_arith (P := Try.prog) w .sub t .f64 x y r h1
  have k2 := fun (w : World) t => run_float_arith (P := Try.prog) w .sub t .f64 0 0 0 nb_none
  clear h1
  go_enter Try.func22, Try.ntmps22
  go_wp2
  go_ret
  exact ⟨rfl, rfl⟩
theorem cxPlain {a : Nat} (ha : a ≤ 16) (w : World) : Calls Try.prog 21 #[.complex .f64 (nb a).1 (nb a).2] w fun e w' => e = .returned (.complex .f64 (nb a).1 (nb a).2) ∧ w' = w := by
  have := plainAny (nb a).1 (nb a).2 w
  have e1 : plainB (nb a).1 = (nb a).1 := nb_plain_tab ⟨a, by omega⟩
  have e2 : plainB (nb a).2 = (nb a).2 := show plainB 0 = 0 by decide +kernel
  rw [e1, e2] at this
  exact this
theorem cxWhole {a : Nat} (ha : a ≤ 16) {most : Int} (hm : 16 ≤ most) (hm2 : most ≤ 9007199254740991) (w : World) : Calls Try.prog 18 #[.complex .f64 (nb a).1 (nb a).2, .int .i64 most] w fun e w' => e = .returned (.bool true) ∧ w' = w := by
  refine whole_any (nb a).1 (nb a).2 a 0 most w (nb_lt_tab ⟨a, by omega⟩) (Fl.iv_ofInt a (by omega)) (fun e => ?_) (by omega) (show (0 : Nat) < 18446744073709551616 by decide) Fl.iv_zero (fun _ => rfl) (by omega) hm2
  have : a = 0 := by omega
  subst this
  exact congrArg Prod.fst nb_zero

set_option maxHeartbeats 400000 in
theorem areBin1 {a : Nat} (ha : a ≤ 16) (w : World) : Calls Try.prog 67 #[.complex .f64 (nb a).1 (nb a).2] w fun e w' => e = .returned (.bool false) ∧ Below w.heap.size w w' := by
  have k1 := hide (cxWhole ha (most := 4294967296) (by omega) (by omega) w)
  generalize nb a = x at *
  obtain ⟨x1, x2⟩ := x
  dsimp only at *
  go_enter Try.func67, Try.ntmps67
  go_wp2_with fail
  refine (unhide k1).mono ?_
  rintro e w1 ⟨rfl, rfl⟩
  go_wp2_with fail
  go_ret
  exact ⟨rfl, Below.refl _ _⟩
set_option maxHeartbeats 400000 in
theorem areBinsOk {gs m c : Nat} {v : Nat → Nat} (hm : m ≤ 2017) (hv : ∀ j, j < m → v j ≤ 16) (w : World) (h : VRow w 32 gs m (fun j => .complex .f64 (nb (v j)).1 (nb (v j)).2)) :
    Calls Try.prog 31 #[.slice (some ⟨gs, 0, none⟩) m c] w fun e w' => e = .returned (.bool true) ∧ Below w.heap.size w w' := by
  have k1 := hide (containsNone (c := c) (f := fun j => nb (v j)) hm (enters_of Try.func67 (by kernel_rfl) rfl) (fun j hj W => areBin1 (hv j hj) W) w h)
  clear h hv
  go_enter Try.func31, Try.ntmps31
  go_wp2_with fail
  refine (unhide k1).mono ?_
  rintro e w1 ⟨rfl, hb1⟩
  have B1 := hide hb1
  clear hb1
  go_wp2_with fail
  go_ret
  exact ⟨rfl, unhide B1⟩

set_option maxHeartbeats 400000 in
theorem hasRest1 (w : World) : Calls Try.prog 51 #[.complex .f64 0 0] w fun e w' => e = .returned (.bool false) ∧ Below w.heap.size w w' := by
  go_enter Try.func51, Try.ntmps51
  go_wp2_with fail
  go_ret
  exact ⟨rfl, Below.refl _ _⟩
set_option maxHeartbeats 400000 in
theorem hasRestNo {gs m c : Nat} (hm : m ≤ 2017) (w : World) (h : VRow w 32 gs m (fun _ => .complex .f64 0 0)) :
    Calls Try.prog 25 #[.slice (some ⟨gs, 0, none⟩) m c] w fun e w' => e = .returned (.bool false) ∧ Below w.heap.size w w' := by
  have k1 := hide (containsNone (c := c) (f := fun _ => (0, 0)) hm (enters_of Try.func51 (by kernel_rfl) rfl) (fun _ _ W => hasRest1 W) w h)
  clear h
  go_enter Try.func25, Try.ntmps25
  go_wp2_with fail
  refine (unhide k1).mono ?_
  rintro e w1 ⟨rfl, hb1⟩
  have B1 := hide hb1
  clear hb1
  go_wp2_with fail
  go_ret
  exact ⟨rfl, unhide B1⟩

set_option maxRecDepth 100000 in
set_option maxHeartbeats 1600000 in
theorem restsNone {gv K c : Nat} {gr cr bn : Nat → Nat} (hK : K ≤ 64) (hb : ∀ i, i < K → bn i ≤ 2017) (w : World) (h : VRow w 33 gv K (fun i => .slice (some ⟨gr i, 0, none⟩) (bn i) (cr i))) (hr : ∀ i, i < K → VRow w 32 (gr i) (bn i) (fun _ => .complex .f64 0 0)) :
    Calls Try.prog 24 #[.slice (some ⟨gv, 0, none⟩) K c, .func (.func 25) #[] #[]] w fun e w' => e = .returned (.bool false) ∧ Below w.heap.size w w' := by
  have H := hide h
  have Hr := hide hr
  clear h hr
  have k1 : Hid (Calls Try.prog 49 #[.slice (some ⟨gv, 0, none⟩) K c, .func (.func 25) #[] #[]] w fun e w' => e = .returned (.int .i64 (-1)) ∧ Below w.heap.size w w') := by
    show Calls _ _ _ _ _
    go_enter Try.func49, Try.ntmps49
    go_wp2_with fail
    go_loopw [8] (fun kv wr => ∃ k : Nat, k ≤ K ∧ kv = .int .i64 k ∧ Hid (Below w.heap.size w wr)) (fun kv _ => K - (intOf kv).toNat)
    case atStart => exact ⟨0, Nat.zero_le _, rfl, Below.refl _ _⟩
    case round =>
      obtain ⟨k, hk, rfl, hB⟩ := hrel
      by_cases hkm : k < K
      · have q1 : ((k : Int) < (K : Int)) = True := by simp; omega
        have c1 := vrow_at (vrow_keep (unhide H) ((unhide hB).block _ (vrow_lt (unhide H)))) hkm
        have k1 := hide (hasRestNo (c := cr k) (hb k hkm) wr (vrow_keep (unhide Hr k hkm) ((unhide hB).block _ (vrow_lt (unhide Hr k hkm)))))
        have hs := (unhide hB).size
        go_wp2_with fail
        refine (unhide k1).mono ?_
        rintro e w1 ⟨rfl, hb1⟩
        have B1 := hide ((unhide hB).trans (hb1.mono hs))
        clear hb1 k1 hB c1
        go_wp2_with fail
        exact ⟨⟨k + 1, by omega, by go_num, B1⟩, by simp [intOf]; omega⟩
      · have e : k = K := by omega
        subst e
        have q1 : ((k : Int) < (k : Int)) = False := by simp
        go_wp2_with fail
        go_ret
        exact ⟨rfl, unhide hB⟩
  go_enter Try.func24, Try.ntmps24
  go_wp2_with fail
  refine (unhide k1).mono ?_
  rintro e w1 ⟨rfl, hb1⟩
  have B1 := hide hb1
  clear hb1
  go_wp2_with fail
  go_ret
  exact ⟨rfl, unhide B1⟩

set_option maxRecDepth 100000 in
set_option maxHeartbeats 1600000 in
theorem openNone {go M c : Nat} (hM : M ≤ 4096) (w : World) (h : VRow w 4 go M (fun _ => .bool false)) :
    Calls Try.prog 23 #[.slice (some ⟨go, 0, none⟩) M c, .bool true] w fun e w' => e = .returned (.bool false) ∧ Below w.heap.size w w' := by
  have H := hide h
  clear h
  have k1 : Hid (Calls Try.prog 48 #[.slice (some ⟨go, 0, none⟩) M c, .bool true] w fun e w' => e = .returned (.int .i64 (-1)) ∧ Below w.heap.size w w') := by
    show Calls _ _ _ _ _
    go_enter Try.func48, Try.ntmps48
    go_wp2_with fail
    go_loopw [8] (fun kv wr => ∃ k : Nat, k ≤ M ∧ kv = .int .i64 k ∧ w = wr) (fun kv _ => M - (intOf kv).toNat)
    case atStart => exact ⟨0, Nat.zero_le _, rfl, rfl⟩
    case round =>
      obtain ⟨k, hk, rfl, rfl⟩ := hrel
      by_cases hkm : k < M
      · have q1 : ((k : Int) < (M : Int)) = True := by simp; omega
        have c1 := vrow_at (unhide H) hkm
        go_wp2_with fail
        exact ⟨⟨k + 1, by omega, by go_num, trivial⟩, by simp [intOf]; omega⟩
      · have e : k = M := by omega
        subst e
        have q1 : ((k : Int) < (k : Int)) = False := by simp
        go_wp2_with fail
        go_ret
        exact ⟨rfl, Below.refl _ _⟩
  go_enter Try.func23, Try.ntmps23
  go_wp2_with fail
  refine (unhide k1).mono ?_
  rintro e w1 ⟨rfl, hb1⟩
  have B1 := hide hb1
  clear hb1
  go_wp2_with fail
  go_ret
  exact ⟨rfl, unhide B1⟩
end Go.Proofs.Ytgbkfmjkemkajab
