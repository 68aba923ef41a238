/- The document's own Open, out of the board's start. -/
import Derived.Test.YtgbkfmjkemkajaaPB5
import Derived.Test.YtgbkfmjkemkajaaPQ
namespace Go.Proofs.Ytgbkfmjkemkajaa
open Go.RowKit

def StartOk : Prop := ∀ (n : Nat) (L : List (Int × Int)) (a : Option Addr) (cap g o : Nat) (w : World), 1 ≤ n → n ≤ 64 → L.length ≤ 64 → (∀ d, d ∈ L → okD d.1 d.2 = true) → Dirs w a g o L →
  Calls Try.prog 19 #[.int .i64 n, .slice a L.length cap] w fun e w' => ∃ V, e = .returned (.pointer (some ⟨V.blk 0, 0, none⟩)) ∧ Board w' w.heap.size n L a cap g o V (fun _ => true) (fun _ _ => true) ∧ Below w.heap.size w w'

theorem openN_eq {w : World} {base n : Nat} {L : List (Int × Int)} {a : Option Addr} {cap g o : Nat} {V : BV} {bo : Nat → Bool} {bk : Nat → Nat → Bool} (h : Board w base n L a cap g o V bo bk) : openN (V.blk 1) (n * n) w = cntB bo (n * n) := by
  refine cnt_same fun i hi => ?_
  rw [h.open_ hi]
  cases bo i <;> rfl

theorem bins_one {n : Int} (h1 : 1 ≤ n) (h2 : n ≤ 64) : (binsS n (1, 0)).2 = 0 := by
  unfold binsS
  rw [if_neg (by omega), if_pos (show okD 1 0 = true by decide)]
theorem bins_out {n : Int} (h : n < 1 ∨ 64 < n) : binsS n (1, 0) = (0, 1) := by
  unfold binsS
  rw [if_pos h]

set_option maxHeartbeats 3200000 in
theorem refOpenBad : OpenBad 8 := by
  intro n L a cap g o w hN hA h hE
  have kb := hide (fun (W : World) => binsAny (n := n) (a := (1, 0)) ⟨by unfold I64; omega, by unfold I64; omega⟩ W)
  unfold dirV at kb
  dsimp only at kb
  by_cases h1 : n < 1 ∨ 64 < n
  · have e : openErr n L = 1 := by unfold openErr; rw [if_pos h1]
    rw [e]
    rw [bins_out h1] at kb
    clear e hE h1
    go_enter Try.func8, Try.ntmps8
    go_wp2_with fail
    refine (unhide kb _).mono ?_
    rintro e w1 ⟨rfl, hb1⟩
    have B1 := hide hb1
    clear hb1
    go_wp2_with fail
    go_ret2
    exact ⟨rfl, unhide B1⟩
  · have e0 := bins_one (n := n) (by omega) (by omega)
    generalize binsS n (1, 0) = bb at *
    obtain ⟨bn, be⟩ := bb
    dsimp only at e0 kb
    subst e0
    by_cases h2 : 64 < L.length
    · have e : openErr n L = 2 := by unfold openErr; rw [if_neg h1, if_pos h2]
      rw [e]
      have q1 : ((64 : Int) < (L.length : Int)) = True := by simp; omega
      clear e hE h1 h2
      go_enter Try.func8, Try.ntmps8
      go_wp2_with fail
      refine (unhide kb _).mono ?_
      rintro e w1 ⟨rfl, hb1⟩
      have B1 := hide hb1
      clear hb1
      go_wp2_with fail
      go_ret2
      exact ⟨rfl, unhide B1⟩
    · have e : openErr n L = twiceS L := by unfold openErr; rw [if_neg h1, if_neg h2]
      rw [e] at hE ⊢
      have q1 : ((64 : Int) < (L.length : Int)) = False := by simp; omega
      have q2 : (twiceS L != 0) = true := by simp; exact hE
      have kt := hide (fun (W : World) (hw : Dirs W a g o L) => twiceAny (cap := cap) hN hA W hw.at_ hw.cell)
      have H := hide h
      generalize twiceS L = er at *
      clear e hE h1 h2 h
      go_enter Try.func8, Try.ntmps8
      go_wp2_with fail
      refine (unhide kb _).mono ?_
      rintro e w1 ⟨rfl, hb1⟩
      have B1 := hide hb1
      clear hb1
      go_wp2_with fail
      refine (unhide kt _ (dirs_below (unhide H) (unhide B1))).mono ?_
      rintro e w2 ⟨rfl, hb2⟩
      have B2 := hide (on (unhide B1) hb2)
      clear hb2
      go_wp2_with fail
      go_ret2
      exact ⟨rfl, unhide B2⟩
end Go.Proofs.Ytgbkfmjkemkajaa
