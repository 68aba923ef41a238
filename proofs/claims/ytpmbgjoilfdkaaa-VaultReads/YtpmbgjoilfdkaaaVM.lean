/- Two that read files alike. -/
import Derived.Test.YtpmbgjoilfdkaaaVL
namespace Go.Proofs.Ytpmbgjoilfdkaaa
open Go.RowKit Fl Ieee

def SlA (L : List Nat) (w : World) (a : Option Addr) (c : Nat) (e : Int) : Prop := ∃ (k : Nat) (S : Nat → Sli) (P : Nat → Nat), CutEnd L k S P ∧ ((P k = L.length ∧ c = k ∧ e = 0 ∧ ∃ g o G, GAt w a g o c S G) ∨ (P k ≠ L.length ∧ c = 0 ∧ e = 220))
theorem sl_ans {fn : Nat} (h : SlicesOk fn) {a : Option Addr} {g o cap : Nat} {L : List Nat} (w : World) (hB : BAt w a g o L) (hn : a = none → cap = 0) (hc : L.length ≤ cap) (hb : L.length ≤ 140737488355328) :
    Calls Try.prog fn #[.slice a L.length cap] w fun r w' => ∃ (a' : Option Addr) (c' cap' : Nat) (e : Int), r = .returned (.tuple #[.slice a' c' cap', .int .i64 e]) ∧ SlA L w' a' c' e ∧ Below w.heap.size w w' := by
  refine (h a g o cap L w hB hn hc hb).mono ?_
  rintro r w' ⟨k, S, P, hE, ⟨hp, a', g', o', cap', G, rfl, hG⟩ | ⟨hp, a', cap', rfl⟩, hb⟩
  · exact ⟨a', k, cap', 0, rfl, ⟨k, S, P, hE, .inl ⟨hp, rfl, rfl, g', o', G, hG⟩⟩, hb⟩
  · exact ⟨a', 0, cap', 220, rfl, ⟨k, S, P, hE, .inr ⟨hp, rfl, rfl⟩⟩, hb⟩
theorem gat_zero (w : World) (a : Option Addr) : GAt w a 0 0 0 (fun _ => (0, fun _ => (0, 0))) (fun _ => (0, 0)) :=
  ⟨fun h => absurd h (Nat.not_lt_zero 0), fun i h => absurd h (Nat.not_lt_zero i), fun i h => absurd h (Nat.not_lt_zero i), fun i h => absurd h (Nat.not_lt_zero i)⟩
theorem sl_same {L : List Nat} {w1 w2 W : World} {a1 a2 : Option Addr} {c1 c2 : Nat} {e1 e2 : Int} (h1 : SlA L w1 a1 c1 e1) (h2 : SlA L w2 a2 c2 e2) (hb1 : Below w1.heap.size w1 W) (hb2 : Below w2.heap.size w2 W) :
    e1 = e2 ∧ c1 = c2 ∧ c1 ≤ 64 ∧ ∀ cap1 cap2 : Nat, Calls Try.prog 11 #[.slice a1 c1 cap1, .slice a2 c2 cap2] W fun r w' => r = .returned (.bool true) ∧ Below W.heap.size W w' := by
  obtain ⟨k1, S1, P1, hE1, hor1⟩ := h1
  obtain ⟨k2, S2, P2, hE2, hor2⟩ := h2
  obtain ⟨rfl, hp, hS⟩ := cut_one hE1 hE2
  rcases hor1 with ⟨hp1, rfl, rfl, g1, o1, G1, hG1⟩ | ⟨hp1, rfl, rfl⟩
  · rcases hor2 with ⟨hp2, rfl, rfl, g2, o2, G2, hG2⟩ | ⟨hp2, rfl, rfl⟩
    · exact ⟨rfl, rfl, hE1.le, fun cap1 cap2 => sameGrids hE1.le hS W (gat_keep hG1 hb1) (gat_keep hG2 hb2)⟩
    · exact absurd (hp.trans hp1) hp2
  · rcases hor2 with ⟨hp2, rfl, rfl, g2, o2, G2, hG2⟩ | ⟨hp2, rfl, rfl⟩
    · exact absurd (hp.symm.trans hp2) hp1
    · exact ⟨rfl, rfl, by decide, fun cap1 cap2 => sameGrids (by decide) (fun j hj => absurd hj (Nat.not_lt_zero j)) W (gat_zero W a1) (gat_zero W a2)⟩

def GtA (L : List Nat) (i : Int) (w : World) (r : Value) (e : Int) : Prop := ∃ (c : Nat) (S : Nat → Sli) (P : Nat → Nat), CutEnd L c S P ∧
  ((P c = L.length ∧ 0 ≤ i ∧ i < (c : Int) ∧ e = 0 ∧ ∃ gz cz, r = fieldV (S i.toNat).1 gz ((S i.toNat).1 * (S i.toNat).1) cz ∧ Row w gz ((S i.toNat).1 * (S i.toNat).1) (S i.toNat).2 ∧ (S i.toNat).1 ≤ 64) ∨
   (P c = L.length ∧ ¬ (0 ≤ i ∧ i < (c : Int)) ∧ e = 1 ∧ r = noneV) ∨ (P c ≠ L.length ∧ e = 220 ∧ r = noneV))
theorem gt_ans {fn : Nat} (h : GetOk fn) {a : Option Addr} {g o cap : Nat} {L : List Nat} (i : Int) (w : World) (hB : BAt w a g o L) (hn : a = none → cap = 0) (hc : L.length ≤ cap) (hb : L.length ≤ 140737488355328) :
    Calls Try.prog fn #[.slice a L.length cap, .int .i64 i] w fun r w' => ∃ (n : Int) (b : Option Addr) (l k : Nat) (e : Int), r = .returned (.tuple #[.agg #[.int .i64 n, .slice b l k], .int .i64 e]) ∧ GtA L i w' (.agg #[.int .i64 n, .slice b l k]) e ∧ Below w.heap.size w w' := by
  refine (h a g o cap L i w hB hn hc hb).mono ?_
  rintro r w' ⟨c, S, P, hE, ⟨hp, i1, i2, gz, cz, rfl, hR, h64⟩ | ⟨hp, hi, rfl⟩ | ⟨hp, rfl⟩, hb⟩
  · exact ⟨_, _, _, _, 0, rfl, ⟨c, S, P, hE, .inl ⟨hp, i1, i2, rfl, gz, cz, rfl, hR, h64⟩⟩, hb⟩
  · exact ⟨_, _, _, _, 1, rfl, ⟨c, S, P, hE, .inr (.inl ⟨hp, hi, rfl, rfl⟩)⟩, hb⟩
  · exact ⟨_, _, _, _, 220, rfl, ⟨c, S, P, hE, .inr (.inr ⟨hp, rfl, rfl⟩)⟩, hb⟩
theorem gt_same {L : List Nat} {i : Int} {w1 w2 W : World} {r1 r2 : Value} {e1 e2 : Int} (h1 : GtA L i w1 r1 e1) (h2 : GtA L i w2 r2 e2) (hb1 : Below w1.heap.size w1 W) (hb2 : Below w2.heap.size w2 W) :
    e1 = e2 ∧ Calls Try.prog 12 #[r1, r2] W fun r w' => r = .returned (.bool true) ∧ Below W.heap.size W w' := by
  obtain ⟨c, S1, P1, hE1, hor1⟩ := h1
  obtain ⟨c', S2, P2, hE2, hor2⟩ := h2
  obtain ⟨rfl, hp, hS⟩ := cut_one hE1 hE2
  rcases hor1 with ⟨hp1, i1, i2, rfl, g1, k1, rfl, hR1, h64⟩ | ⟨hp1, hi, rfl, rfl⟩ | ⟨hp1, rfl, rfl⟩
  · rcases hor2 with ⟨hp2, _, _, rfl, g2, k2, rfl, hR2, _⟩ | ⟨_, hi2, _, _⟩ | ⟨hp2, _, _⟩
    · obtain ⟨d1, d2⟩ := hS i.toNat (by omega)
      rw [d1] at hR2 ⊢
      have hm : (S1 i.toNat).1 * (S1 i.toNat).1 ≤ 4096 := Nat.mul_le_mul h64 h64
      exact ⟨rfl, sameRows hm d2 W (row_below hR1 hb1 (row_lt hR1)) (row_below hR2 hb2 (row_lt hR2))⟩
    · exact absurd ⟨i1, i2⟩ hi2
    · exact absurd (hp.trans hp1) hp2
  · rcases hor2 with ⟨_, i1, i2, _⟩ | ⟨_, _, rfl, rfl⟩ | ⟨hp2, _, _⟩
    · exact absurd ⟨i1, i2⟩ hi
    · exact ⟨rfl, sameNone W⟩
    · exact absurd (hp.trans hp1) hp2
  · rcases hor2 with ⟨hp2, _⟩ | ⟨hp2, _⟩ | ⟨_, rfl, rfl⟩
    · exact absurd (hp.symm.trans hp2) hp1
    · exact absurd (hp.symm.trans hp2) hp1
    · exact ⟨rfl, sameNone W⟩
theorem ct_ans {fn : Nat} (h : CutOk fn) {a : Option Addr} {g o cap : Nat} {L : List Nat} (w : World) (hB : BAt w a g o L) (hn : a = none → cap = 0) (hc : L.length ≤ cap) (hb : L.length ≤ 140737488355328) :
    Calls Try.prog fn #[.slice a L.length cap] w fun r w' => ∃ (c p : Nat), r = .returned (.tuple #[.int .i64 (c : Nat), .int .i64 (p : Nat)]) ∧ (∃ S P, CutEnd L c S P ∧ p = P c) ∧ Below w.heap.size w w' := by
  refine (h a g o cap L w hB hn hc hb).mono ?_
  rintro r w' ⟨c, S, P, hE, rfl, hb⟩
  exact ⟨c, P c, rfl, ⟨S, P, hE, rfl⟩, hb⟩
theorem ct_same {L : List Nat} {c c' p p' : Nat} (h1 : ∃ S P, CutEnd L c S P ∧ p = P c) (h2 : ∃ S P, CutEnd L c' S P ∧ p' = P c') : c = c' ∧ p = p' := by
  obtain ⟨S, P, hE, rfl⟩ := h1
  obtain ⟨S', P', hE', rfl⟩ := h2
  obtain ⟨e1, e2, _⟩ := cut_one hE hE'
  exact ⟨e1.symm, e2.symm⟩
/-- Bytes that a call has made. -/
theorem bat_own2 {w : World} {B : Nat} {v : Value} {L : List Nat} (h : w.ownsRow B 5 1 v L.length (bL L)) (hl : ∀ i, L.getD i 0 < 256) : ∃ a c g, v = .slice a L.length c ∧ BAt w a g 0 L ∧ (a = none → c = 0) ∧ L.length ≤ c := by
  rcases h.2 with ⟨h1, h2⟩ | ⟨g, cap, cur, h1, h2, h3, h4⟩
  · refine ⟨none, 0, 0, ?_, ⟨hl, fun c => by omega, fun i hi => by omega⟩, fun _ => rfl, by omega⟩
    rw [h1, h2]
  · subst h1
    exact ⟨_, cap, g, rfl, ⟨hl, fun _ => ⟨rfl, (Array.getElem?_eq_some_iff.1 h3).1⟩, fun i hi => own_cellsB h i hi⟩, (fun e => by cases e), h4.1⟩
end Go.Proofs.Ytpmbgjoilfdkaaa
