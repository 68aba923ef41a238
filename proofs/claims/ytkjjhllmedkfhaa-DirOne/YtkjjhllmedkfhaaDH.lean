/- The fifth statement's walk: one form, across twice, the order. -/
import Derived.Test.YtkjjhllmedkfhaaDF
import Derived.Test.YtkjjhllmedkfhaaDG
namespace Go.Proofs.Ytkjjhllmedkfhaa
open Go.RowKit

theorem mul_small {k P : Int} (h1 : -20 ≤ k) (h2 : k ≤ 20) (h3 : P.natAbs ≤ 16) : (k * P).natAbs ≤ 320 := by
  rw [Int.natAbs_mul]
  exact Nat.mul_le_mul (by omega : k.natAbs ≤ 20) h3

theorem i64_small {x : Int} (h : x.natAbs ≤ 1000) : I64 x := by unfold I64; omega
theorem wrap_id {x : Int} (h : x.natAbs ≤ 1000) : IntKind.i64.wrap x = x := by rw [IntKind.wrap_i64]; omega

/-- The order of three, as the law asks it. -/
def Ordered (P Q R S ab ba bc ac : Int) : Prop :=
  (ab = 1 ∧ ba = -1 ∧ ¬ (P = R ∧ Q = S)) ∨
  (ab = 0 ∧ ba = 0 ∧ P = R ∧ Q = S ∧ 0 < bc) ∨
  (ab = -1 ∧ ba = 1 ∧ ¬ (P = R ∧ Q = S) ∧ 0 < bc) ∨
  (ab = 0 ∧ ba = 0 ∧ P = R ∧ Q = S ∧ ¬ 0 < bc ∧ ac < 0) ∨
  (ab = -1 ∧ ba = 1 ∧ ¬ (P = R ∧ Q = S) ∧ ¬ 0 < bc ∧ ac < 0) ∨
  (ab = 0 ∧ ba = 0 ∧ P = R ∧ Q = S ∧ bc = 0 ∧ ac = 0)
theorem Ordered.gt {P Q R S ab ba bc ac : Int} (h1 : ab = 1) (h2 : ba = -1) (h3 : ¬ (P = R ∧ Q = S)) : Ordered P Q R S ab ba bc ac := Or.inl ⟨h1, h2, h3⟩
theorem Ordered.eqGt {P Q R S ab ba bc ac : Int} (h1 : ab = 0) (h2 : ba = 0) (h3 : P = R) (h4 : Q = S) (h5 : 0 < bc) : Ordered P Q R S ab ba bc ac := Or.inr (Or.inl ⟨h1, h2, h3, h4, h5⟩)
theorem Ordered.ltGt {P Q R S ab ba bc ac : Int} (h1 : ab = -1) (h2 : ba = 1) (h3 : ¬ (P = R ∧ Q = S)) (h5 : 0 < bc) : Ordered P Q R S ab ba bc ac := Or.inr (Or.inr (Or.inl ⟨h1, h2, h3, h5⟩))
theorem Ordered.eqLt {P Q R S ab ba bc ac : Int} (h1 : ab = 0) (h2 : ba = 0) (h3 : P = R) (h4 : Q = S) (h5 : ¬ 0 < bc) (h6 : ac < 0) : Ordered P Q R S ab ba bc ac := Or.inr (Or.inr (Or.inr (Or.inl ⟨h1, h2, h3, h4, h5, h6⟩)))
theorem Ordered.ltLt {P Q R S ab ba bc ac : Int} (h1 : ab = -1) (h2 : ba = 1) (h3 : ¬ (P = R ∧ Q = S)) (h5 : ¬ 0 < bc) (h6 : ac < 0) : Ordered P Q R S ab ba bc ac := Or.inr (Or.inr (Or.inr (Or.inr (Or.inl ⟨h1, h2, h3, h5, h6⟩))))
theorem Ordered.same {P Q R S ab ba bc ac : Int} (h1 : ab = 0) (h2 : ba = 0) (h3 : P = R) (h4 : Q = S) (h5 : bc = 0) (h6 : ac = 0) : Ordered P Q R S ab ba bc ac := Or.inr (Or.inr (Or.inr (Or.inr (Or.inr ⟨h1, h2, h3, h4, h5, h6⟩))))

theorem order_facts {P Q R S T U : Int} (ha : okD P Q = true) (hb : okD R S = true) (hc : okD T U = true) : Ordered P Q R S (cmpS (P, Q) (R, S)) (cmpS (R, S) (P, Q)) (cmpS (R, S) (T, U)) (cmpS (P, Q) (T, U)) := by
  rw [cmpS_ok (a := (P, Q)) (b := (R, S)) ha hb, cmpS_ok (a := (R, S)) (b := (P, Q)) hb ha, cmpS_ok (a := (R, S)) (b := (T, U)) hb hc, cmpS_ok (a := (P, Q)) (b := (T, U)) ha hc, cross_swap (P, Q) (R, S)]
  have hz : crossS (P, Q) (R, S) = 0 ↔ (P = R ∧ Q = S) := by
    constructor
    · intro h
      have := cross_zero (a := (P, Q)) (b := (R, S)) ha hb h
      exact Prod.mk.inj this
    · rintro ⟨rfl, rfl⟩
      unfold crossS
      dsimp only
      rw [Int.mul_comm Q P]
      omega
  have hon := fun h1 h2 => cross_on (a := (P, Q)) (b := (R, S)) (c := (T, U)) ha hb hc h1 h2
  generalize crossS (P, Q) (R, S) = x at *
  generalize crossS (R, S) (T, U) = y at *
  generalize crossS (P, Q) (T, U) = z at *
  by_cases c1 : x < 0
  · exact .gt (by rw [if_neg (by omega), if_pos c1]) (by rw [if_pos (by omega)]) (fun h => by have := hz.2 h; omega)
  · by_cases c2 : x = 0
    · have hPQ := hz.1 c2
      by_cases c3 : y < 0
      · exact .eqGt (by rw [if_neg (by omega), if_neg (by omega)]) (by rw [if_neg (by omega), if_neg (by omega)]) hPQ.1 hPQ.2 (by rw [if_neg (by omega), if_pos c3]; decide)
      · obtain ⟨o1, o2⟩ := hon (by omega) (by omega)
        by_cases c4 : 0 < z
        · refine .eqLt (by rw [if_neg (by omega), if_neg (by omega)]) (by rw [if_neg (by omega), if_neg (by omega)]) hPQ.1 hPQ.2 ?_ (by rw [if_pos c4]; decide)
          by_cases c5 : 0 < y
          · rw [if_pos c5]; decide
          · rw [if_neg c5, if_neg c3]; decide
        · have hy : y = 0 := by omega
          have hzz : z = 0 := by omega
          exact .same (by rw [if_neg (by omega), if_neg (by omega)]) (by rw [if_neg (by omega), if_neg (by omega)]) hPQ.1 hPQ.2 (by rw [if_neg (by omega), if_neg (by omega)]) (by rw [if_neg (by omega), if_neg (by omega)])
    · have hne : ¬ (P = R ∧ Q = S) := fun h => c2 (hz.2 h)
      by_cases c3 : y < 0
      · exact .ltGt (by rw [if_pos (by omega)]) (by rw [if_neg (by omega), if_pos (by omega)]) hne (by rw [if_neg (by omega), if_pos c3]; decide)
      · obtain ⟨o1, o2⟩ := hon (by omega) (by omega)
        have c4 : 0 < z := by omega
        refine .ltLt (by rw [if_pos (by omega)]) (by rw [if_neg (by omega), if_pos (by omega)]) hne ?_ (by rw [if_pos c4]; decide)
        by_cases c5 : 0 < y
        · rw [if_pos c5]; decide
        · rw [if_neg c5, if_neg c3]; decide

set_option maxHeartbeats 12800000 in
set_option maxRecDepth 100000 in
theorem oneWalk {a b c : Int × Int} (ha : Dir64 a) (hb : Dir64 b) (hc : Dir64 c) (w : World) :
    Calls Try.prog 7 #[dirV a, dirV b, dirV c] w fun e w' => e = .returned (.bool true) ∧ Below w.heap.size w w' := by
  have kC := hide (fun w => dirCheck ha.one ha.two w)
  have kCb := hide (fun w => dirCheck hb.one hb.two w)
  have kCc := hide (fun w => dirCheck hc.one hc.two w)
  have kab := hide (fun w => dirCmp ha hb w)
  have kba := hide (fun w => dirCmp hb ha w)
  have kbc := hide (fun w => dirCmp hb hc w)
  have kac := hide (fun w => dirCmp ha hc w)
  have kA := hide (fun w => dirAcross ha w)
  obtain ⟨P, Q⟩ := a
  obtain ⟨R, S⟩ := b
  obtain ⟨T, U⟩ := c
  dsimp only at kC kCb kCc
  clear ha hb hc
  cases hok : okD P Q
  · obtain ⟨e1, e2⟩ := cmpS_bad (a := (P, Q)) (b := (R, S)) hok
    rw [checkS_bad hok] at kC
    rw [e1] at kab
    rw [e2] at kba
    clear kCb kCc kbc kac kA hok e1 e2
    unfold dirV at *
    dsimp only at *
    go_enter Try.func7, Try.ntmps7
    go_wp2_with fail
    refine (aliveAny _).mono ?_
    rintro e w1 ⟨rfl, hb1⟩
    have hB1 : Hid (Below w.heap.size w w1) := below_on (below_on (below_on (below_alloc w _) (below_alloc _ _)) (below_alloc _ _)) hb1
    have A1 : BoxD w1 w.heap.size P Q := boxD_below (boxD_below (boxD_below (boxD_new w P Q) (below_alloc _ _)) (below_alloc _ _)) hb1
    have C1 : BoxD w1 (w.heap.size + 1) R S := by
      have h := boxD_below (boxD_below (boxD_new (w.alloc (.cells #[.int .i64 P, .int .i64 Q] 23)) R S) (below_alloc _ _)) hb1
      simpa using h
    generalize w.heap.size + 1 + 1 = bC
    generalize w.heap.size + 1 = bB at C1 ⊢
    generalize w.heap.size = bA at A1 ⊢
    have q1 := A1.one
    have q2 := A1.two
    have A1 := hide A1
    have C1 := hide C1
    clear hb1
    go_wp2_with fail
    refine (unhide kC _).mono ?_
    rintro e w2 ⟨rfl, hb2⟩
    have hB2 := hide (below_on (unhide hB1) hb2)
    have A2 := boxD_below (unhide A1) hb2
    have C2 := boxD_below (unhide C1) hb2
    obtain ⟨q1, q2, q3⟩ := A2
    obtain ⟨r1, r2, r3⟩ := C2
    have A2 : Hid (BoxD w2 bA P Q) := ⟨q1, q2, q3⟩
    have C2 : Hid (BoxD w2 bB R S) := ⟨r1, r2, r3⟩
    clear hb2 hB1 A1 C1 kC q3 r3
    go_wp2_with fail
    refine (unhide kab _).mono ?_
    rintro e w3 ⟨rfl, hb3⟩
    have hB3 := hide (below_on (unhide hB2) hb3)
    obtain ⟨q1, q2, _⟩ := boxD_below (unhide A2) hb3
    obtain ⟨r1, r2, _⟩ := boxD_below (unhide C2) hb3
    clear hb3 hB2 A2 C2 kab
    go_wp2_with fail
    refine (unhide kba _).mono ?_
    rintro e w4 ⟨rfl, hb4⟩
    have hB4 := hide (below_on (unhide hB3) hb4)
    clear hb4 hB3 kba
    go_wp2_with fail
    go_ret
    exact ⟨rfl, unhide hB4⟩
  · rw [checkS_ok hok] at kC
    obtain ⟨b1, b2, b3⟩ := okD_bounds hok
    have kM := hide (fun (k : Int) (h1 : -20 ≤ k) (h2 : k ≤ 20) (w : World) => dirNormal (i64_small (Nat.le_trans (mul_small h1 h2 b1) (by decide))) (i64_small (Nat.le_trans (mul_small (P := Q) h1 h2 (by omega)) (by decide))) w)
    have hnz := hide (fun (k : Int) (hk : k ≠ 0) (h1 : -20 ≤ k) (h2 : k ≤ 20) => mul_normal hok hk h1 h2)
    obtain ⟨x0, x1, x2, x3, x4⟩ := across_two hok
    have kX := hide (fun w => dirAcross (a := (acrossS (P, Q)).1) ⟨i64_small (by omega), i64_small (by omega)⟩ w)
    rw [x1] at kX
    rw [x0] at kA
    generalize acrossS (P, Q) = xx at *
    obtain ⟨⟨u1, u2⟩, u3⟩ := xx
    dsimp only at kA kX x2 x3 x4
    have px := prod_small (x := u1) (y := P) x3 b1
    have py := prod_small (x := u2) (y := Q) x4 (by omega)
    have wx := wrap_id (x := u1 * P) (by omega)
    have wy := wrap_id (x := u2 * Q) (by omega)
    have hcab := hide (cmpS_ok (a := (P, Q)) (b := (R, S)) hok)
    have Hok := hide hok
    clear x0 x1 x3 x4
    generalize hX : u1 * P = X at *
    generalize hY : u2 * Q = Y at *
    unfold dirV at *
    dsimp only at *
    clear hok
    go_enter Try.func7, Try.ntmps7
    go_wp2_with fail
    refine (aliveAny _).mono ?_
    rintro e w1 ⟨rfl, hb1⟩
    have hB1 : Hid (Below w.heap.size w w1) := below_on (below_on (below_on (below_alloc w _) (below_alloc _ _)) (below_alloc _ _)) hb1
    have A1 : BoxD w1 w.heap.size P Q := boxD_below (boxD_below (boxD_below (boxD_new w P Q) (below_alloc _ _)) (below_alloc _ _)) hb1
    have C1 : BoxD w1 (w.heap.size + 1) R S := by
      have h := boxD_below (boxD_below (boxD_new (w.alloc (.cells #[.int .i64 P, .int .i64 Q] 23)) R S) (below_alloc _ _)) hb1
      simpa using h
    have E1 : BoxD w1 (w.heap.size + 1 + 1) T U := by
      have h := boxD_below (boxD_new ((w.alloc (.cells #[.int .i64 P, .int .i64 Q] 23)).alloc (.cells #[.int .i64 R, .int .i64 S] 23)) T U) hb1
      simpa using h
    generalize w.heap.size + 1 + 1 = bC at E1 ⊢
    generalize w.heap.size + 1 = bB at C1 ⊢
    generalize w.heap.size = bA at A1 ⊢
    have q1 := A1.one
    have q2 := A1.two
    have A1 := hide A1
    have C1 := hide C1
    have E1 := hide E1
    clear hb1
    go_wp2_with fail
    refine (unhide kC _).mono ?_
    rintro e w2 ⟨rfl, hb2⟩
    have hB2 := hide (below_on (unhide hB1) hb2)
    have A2 := hide (boxD_below (unhide A1) hb2)
    have C2 := hide (boxD_below (unhide C1) hb2)
    have E2 := hide (boxD_below (unhide E1) hb2)
    clear hb2 hB1 A1 C1 E1 kC q1 q2
    go_wp2_with fail
    go_loopw [7] (fun ix wr => ∃ k : Int, -20 ≤ k ∧ k ≤ 21 ∧ ix = .int .i64 k ∧ Hid (Below w2.heap.size w2 wr)) (fun ix _ => (21 - intOf ix).toNat)
    case atStart => exact ⟨-20, by decide, by decide, rfl, Below.refl _ _⟩
    case round =>
      obtain ⟨k, h1, h2, rfl, hBr⟩ := hrel
      by_cases h3 : k ≤ 20
      · have q0 : (k ≤ 20) = True := by simp; omega
        have A3 := boxD_below (unhide A2) (unhide hBr)
        obtain ⟨q1, q2, q3⟩ := A3
        have m1 := wrap_id (x := k * P) (Nat.le_trans (mul_small h1 h3 b1) (by decide))
        have m2 := wrap_id (x := k * Q) (Nat.le_trans (mul_small (P := Q) h1 h3 (by omega)) (by decide))
        have hM := hide (unhide kM k h1 h3)
        have A3 : Hid (BoxD wr bA P Q) := ⟨q1, q2, q3⟩
        by_cases hk : k = 0
        · subst hk
          have e1 : (0 : Int) * P = 0 := Int.zero_mul _
          have e2 : (0 : Int) * Q = 0 := Int.zero_mul _
          rw [e1, e2, normalS_zero] at hM
          clear hnz kCb kCc kab kba kbc kac kA kX kM hcab Hok m1 m2 e1 e2
          go_wp2_with fail
          refine (unhide hM _).mono ?_
          rintro e w3 ⟨rfl, hb3⟩
          have hB3 := hide (below_on (unhide hBr) hb3)
          clear hb3 hM
          go_wp2_with fail
          exact ⟨⟨0 + 1, by decide, by decide, by go_num, below_on (unhide hB3) (below_alloc _ _)⟩, by simp [intOf]⟩
        · rw [unhide hnz k hk h1 h3] at hM
          have q4 : (k != 0) = true := by simp; exact hk
          have q5 : (k == 0) = false := by simp; exact hk
          clear hnz kCb kCc kab kba kbc kac kA kX kM hcab Hok
          generalize hkP : k * P = kP at *
          generalize hkQ : k * Q = kQ at *
          go_wp2_with fail
          refine (unhide hM _).mono ?_
          rintro e w3 ⟨rfl, hb3⟩
          have hB3 := hide (below_on (unhide hBr) hb3)
          have A4 := boxD_below (unhide A3) hb3
          have q1 : ∀ o, (w3.alloc o).cell? ⟨bA, 0, none⟩ = some (.int .i64 P) := fun o => (boxD_below A4 (below_alloc _ o)).one
          have q2 : ∀ o, (w3.alloc o).cell? ⟨bA, 1, none⟩ = some (.int .i64 Q) := fun o => (boxD_below A4 (below_alloc _ o)).two
          clear hb3 hM A4 q3
          go_wp2_with fail
          exact ⟨⟨k + 1, by omega, by omega, by go_num, below_on (unhide hB3) (below_alloc _ _)⟩, by simp [intOf]; omega⟩
      · have q0 : (k ≤ 20) = False := by simp; omega
        have A3 := boxD_below (unhide A2) (unhide hBr)
        have C3 := hide (boxD_below (unhide C2) (unhide hBr))
        have E3 := hide (boxD_below (unhide E2) (unhide hBr))
        have hB3 := hide (below_on (unhide hB2) (unhide hBr))
        obtain ⟨q1, q2, q3⟩ := A3
        have A3 : Hid (BoxD wr bA P Q) := ⟨q1, q2, q3⟩
        clear hBr A2 C2 E2 hB2 kM hnz q3
        go_wp2_with fail
        refine (unhide kA _).mono ?_
        rintro e w3 ⟨rfl, hb3⟩
        have hB4 := hide (below_on (unhide hB3) hb3)
        have A4 := hide (boxD_below (unhide A3) hb3)
        have C4 := hide (boxD_below (unhide C3) hb3)
        have E4 := hide (boxD_below (unhide E3) hb3)
        clear hb3 hB3 A3 C3 E3 q1 q2 kA
        go_wp2_with fail
        generalize hE : World.alloc _ _ = e3
        have hb : Below w3.heap.size w3 e3 := by rw [← hE]; exact below_alloc _ _
        have X5 : BoxD e3 w3.heap.size u1 u2 := by rw [← hE]; exact boxD_new _ _ _
        have hB5 := hide (below_on (unhide hB4) hb)
        have A5 := hide (boxD_below (unhide A4) hb)
        have C5 := hide (boxD_below (unhide C4) hb)
        have E5 := hide (boxD_below (unhide E4) hb)
        generalize w3.heap.size = bX at X5 ⊢
        have X5 := hide X5
        clear hE hb hB4 A4 C4 E4
        refine (unhide kX _).mono ?_
        rintro e w4 ⟨rfl, hb4⟩
        have hB6 := hide (below_on (unhide hB5) hb4)
        have A6 := hide (boxD_below (unhide A5) hb4)
        have C6 := hide (boxD_below (unhide C5) hb4)
        have E6 := hide (boxD_below (unhide E5) hb4)
        have X6 := hide (boxD_below (unhide X5) hb4)
        have q1 : ∀ o, (w4.alloc o).cell? ⟨bA, 0, none⟩ = some (.int .i64 P) := fun o => (boxD_below (unhide A6) (below_alloc _ o)).one
        have q2 : ∀ o, (w4.alloc o).cell? ⟨bA, 1, none⟩ = some (.int .i64 Q) := fun o => (boxD_below (unhide A6) (below_alloc _ o)).two
        have q3 : ∀ o, (w4.alloc o).cell? ⟨bX, 0, none⟩ = some (.int .i64 u1) := fun o => (boxD_below (unhide X6) (below_alloc _ o)).one
        have q4 : ∀ o, (w4.alloc o).cell? ⟨bX, 1, none⟩ = some (.int .i64 u2) := fun o => (boxD_below (unhide X6) (below_alloc _ o)).two
        have q5 : ∀ o, (w4.alloc o).cell? ⟨bB, 0, none⟩ = some (.int .i64 R) := fun o => (boxD_below (unhide C6) (below_alloc _ o)).one
        have q6 : ∀ o, (w4.alloc o).cell? ⟨bB, 1, none⟩ = some (.int .i64 S) := fun o => (boxD_below (unhide C6) (below_alloc _ o)).two
        have wz : IntKind.i64.wrap (X + Y) = 0 := by rw [x2]; rfl
        clear hb4 hB5 A5 C5 E5 X5 kX
        go_wp2_with fail
        generalize hE : World.alloc _ _ = e4
        have hb : Below w4.heap.size w4 e4 := by rw [← hE]; exact below_alloc _ _
        have hB7 := hide (below_on (unhide hB6) hb)
        have A7 := hide (boxD_below (unhide A6) hb)
        have C7 := hide (boxD_below (unhide C6) hb)
        have E7 := hide (boxD_below (unhide E6) hb)
        generalize w4.heap.size = bY
        clear hE hb hB6 A6 C6 E6 X6 q1 q2 q3 q4 q5 q6
        cases hokb : okD R S
        · rw [checkS_bad hokb] at kCb
          refine (unhide kCb _).mono ?_
          rintro e w5 ⟨rfl, hb5⟩
          have hB8 := hide (below_on (unhide hB7) hb5)
          clear hb5 kCb kCc kab kba kbc kac
          go_wp2_with fail
          go_ret
          exact ⟨rfl, unhide hB8⟩
        · rw [checkS_ok hokb] at kCb
          refine (unhide kCb _).mono ?_
          rintro e w5 ⟨rfl, hb5⟩
          have hB8 := hide (below_on (unhide hB7) hb5)
          have A8 := hide (boxD_below (unhide A7) hb5)
          have C8 := hide (boxD_below (unhide C7) hb5)
          have E8 := hide (boxD_below (unhide E7) hb5)
          have q1 := (unhide E8).one
          have q2 := (unhide E8).two
          clear hb5 hB7 A7 C7 E7 kCb
          go_wp2_with fail
          cases hokc : okD T U
          · rw [checkS_bad hokc] at kCc
            refine (unhide kCc _).mono ?_
            rintro e w6 ⟨rfl, hb6⟩
            have hB9 := hide (below_on (unhide hB8) hb6)
            clear hb6 kCc kab kba kbc kac
            go_wp2_with fail
            go_ret
            exact ⟨rfl, unhide hB9⟩
          · rw [checkS_ok hokc] at kCc
            refine (unhide kCc _).mono ?_
            rintro e w6 ⟨rfl, hb6⟩
            have hB9 := hide (below_on (unhide hB8) hb6)
            have A9 := boxD_below (unhide A8) hb6
            have C9 := boxD_below (unhide C8) hb6
            have E9 := boxD_below (unhide E8) hb6
            have hO := order_facts (unhide Hok) hokb hokc
            generalize cmpS (P, Q) (R, S) = ab at hO kab
            generalize cmpS (R, S) (P, Q) = ba at hO kba
            generalize cmpS (R, S) (T, U) = bc at hO kbc
            generalize cmpS (P, Q) (T, U) = ac at hO kac
            have fct : Hid (∀ w8 : World, Below w6.heap.size w6 w8 → w8.cell? ⟨bA, 0, none⟩ = some (.int .i64 P) ∧ w8.cell? ⟨bA, 1, none⟩ = some (.int .i64 Q) ∧ w8.cell? ⟨bB, 0, none⟩ = some (.int .i64 R) ∧ w8.cell? ⟨bB, 1, none⟩ = some (.int .i64 S) ∧ w8.cell? ⟨bC, 0, none⟩ = some (.int .i64 T) ∧ w8.cell? ⟨bC, 1, none⟩ = some (.int .i64 U)) := by
              intro w8 h
              have A := boxD_below A9 h
              have C := boxD_below C9 h
              have E := boxD_below E9 h
              exact ⟨A.one, A.two, C.one, C.two, E.one, E.two⟩
            have hO := hide hO
            obtain ⟨z1, z2, z3, z4, z5, z6⟩ := unhide fct w6 (Below.refl _ _)
            clear hb6 hB8 A8 C8 E8 A9 C9 E9 kCc hokb hokc q1 q2 hcab
            go_wp2_with fail
            go_region_held3 (fun w8 => w8.cell? ⟨bA, 0, none⟩ = some (.int .i64 P) ∧ w8.cell? ⟨bA, 1, none⟩ = some (.int .i64 Q) ∧ w8.cell? ⟨bB, 0, none⟩ = some (.int .i64 R) ∧ w8.cell? ⟨bB, 1, none⟩ = some (.int .i64 S) ∧ w8.cell? ⟨bC, 0, none⟩ = some (.int .i64 T) ∧ w8.cell? ⟨bC, 1, none⟩ = some (.int .i64 U))
              (first | exact unhide fct _ (unhide hv3) | exact unhide fct _ (unhide hv2) | exact unhide fct _ (unhide hv1) | go_keep)
              (first
              | (go_at_call 16; with_reducible refine (unhide kab _).mono ?_; rintro e v1 ⟨rfl, hx1⟩
                 have hv1 : Hid (Below w6.heap.size w6 v1) := ⟨hx1.os, hx1.tape, hx1.output, hx1.size, hx1.block⟩
                 clear hx1)
              | (go_at_call 16; with_reducible refine (unhide kbc _).mono ?_; rintro e v2 ⟨rfl, hx2⟩
                 have hv2 : Hid (Below w6.heap.size w6 v2) := below_on (unhide hv1) hx2
                 clear hx2)
              | (go_at_call 16; with_reducible refine (unhide kac _).mono ?_; rintro e v3 ⟨rfl, hx3⟩
                 have hv3 : Hid (Below w6.heap.size w6 v3) := below_on (unhide hv2) hx3
                 clear hx3))
            obtain ⟨z1, z2, z3, z4, _, _⟩ := unhide fct v3 (unhide hv3)
            go_wp2_with fail
            refine (unhide kba _).mono ?_
            rintro e v4 ⟨rfl, hx4⟩
            have hv4 := hide (below_on (unhide hv3) hx4)
            obtain ⟨z1, z2, z3, z4, _, _⟩ := unhide fct v4 (unhide hv4)
            have hB10 := hide (below_on (unhide hB9) (unhide hv4))
            clear hx4 hv3 hv4 fct kab kba kbc kac hB9
            rcases unhide hO with ⟨rfl, rfl, h3⟩ | ⟨rfl, rfl, rfl, rfl, h5⟩ | ⟨rfl, rfl, h3, h5⟩ | ⟨rfl, rfl, rfl, rfl, h5, h6⟩ | ⟨rfl, rfl, h3, h5, h6⟩ | ⟨rfl, rfl, rfl, rfl, rfl, rfl⟩
            · clear hO
              go_wp2_with fail
              all_goals go_ret
              all_goals exact ⟨rfl, unhide hB10⟩
            · have q5 : (0 < bc) = True := by simp; omega
              clear hO
              go_wp2_with fail
              go_ret
              exact ⟨rfl, unhide hB10⟩
            · have q5 : (0 < bc) = True := by simp; omega
              clear hO
              go_wp2_with fail
              all_goals go_ret
              all_goals exact ⟨rfl, unhide hB10⟩
            · have q5 : (0 < bc) = False := by simp; omega
              have q6 : (ac ≤ 0) = True := by simp; omega
              have q7 : (ac < 0) = True := by simp; omega
              clear hO
              go_wp2_with fail
              go_ret
              exact ⟨rfl, unhide hB10⟩
            · have q5 : (0 < bc) = False := by simp; omega
              have q6 : (ac ≤ 0) = True := by simp; omega
              have q7 : (ac < 0) = True := by simp; omega
              clear hO
              go_wp2_with fail
              all_goals go_ret
              all_goals exact ⟨rfl, unhide hB10⟩
            · clear hO
              go_wp2_with fail
              go_ret
              exact ⟨rfl, unhide hB10⟩
end Go.Proofs.Ytkjjhllmedkfhaa
