/- The landed sweep and settle. -/
import Derived.Test.YthbghcebcahlnaaBN
namespace Go.Proofs.Ythbghcebcahlnaa
open Go.RowKit

structure LineD where
  gp : Nat
  cp : Nat
  P : List Nat
  b : Int
structure SS where
  ch : Bool
  lo : Nat → Int
  hi : Nat → Int
def l0 : LineD := ⟨0, 0, [], 0⟩
def swStep (l : LineD) (s : SS) : Option SS := (drawS l.P l.b s.lo s.hi).map fun d => ⟨s.ch || d.ch, d.lo, d.hi⟩
def swK (ls : List LineD) (s : SS) : Nat → Option SS
  | 0 => some s
  | k + 1 => (swK ls s k).bind (swStep (ls.getD k l0))
def runK (ls : List LineD) (lo hi : Nat → Int) : Nat → Option SS
  | 0 => some ⟨true, lo, hi⟩
  | t + 1 => (runK ls lo hi t).bind fun s => swK ls ⟨false, s.lo, s.hi⟩ ls.length

theorem swK_less {ls : List LineD} {s : SS} : ∀ {n : Nat} {d : SS}, swK ls s n = some d → ∀ k, k ≤ n → ∃ e, swK ls s k = some e
  | 0, d, h, k, hk => by
    have : k = 0 := by omega
    subst this
    exact ⟨d, h⟩
  | n + 1, d, h, k, hk => by
    by_cases e : k = n + 1
    · subst e
      exact ⟨d, h⟩
    · unfold swK at h
      cases hx : swK ls s n with
      | none => rw [hx] at h; cases h
      | some y => exact swK_less hx k (by omega)

def lineV (ls : List LineD) (i : Nat) : Value := if i % 2 = 0 then placesV (ls.getD (i / 2) l0).gp (ls.getD (i / 2) l0).cp (ls.getD (i / 2) l0).P else .int .i64 (ls.getD (i / 2) l0).b
structure LinesAt (w : World) (gs gl gh M : Nat) (ls : List LineD) : Prop where
  row : VRow w 94 gs (2 * ls.length) (lineV ls)
  nl : gs ≠ gl
  nh : gs ≠ gh
  places : ∀ i, i < ls.length → PRow w (ls.getD i l0).gp (ls.getD i l0).P
  apart : ∀ i, i < ls.length → (ls.getD i l0).gp ≠ gl ∧ (ls.getD i l0).gp ≠ gh
  fits : ∀ i, i < ls.length → (∀ k, k < (ls.getD i l0).P.length → (ls.getD i l0).P.getD k 0 < M) ∧ (ls.getD i l0).P.length ≤ 4096 ∧ ((ls.getD i l0).P.length = 0 → (ls.getD i l0).b = 0)
theorem LinesAt.off {w w' : World} {gs gl gh M : Nat} {ls : List LineD} (h : LinesAt w gs gl gh M ls) (hO : Off gl gh w w') : LinesAt w' gs gl gh M ls :=
  ⟨vrow_keep h.row (hO.block _ (vrow_lt h.row) h.nl h.nh), h.nl, h.nh, fun i hi => vrow_keep (h.places i hi) (hO.block _ (vrow_lt (h.places i hi)) (h.apart i hi).1 (h.apart i hi).2), h.apart, h.fits⟩

theorem lineV_even (ls : List LineD) (k : Nat) : lineV ls (k * 2) = placesV (ls.getD k l0).gp (ls.getD k l0).cp (ls.getD k l0).P := by
  unfold lineV
  rw [if_pos (by omega), show k * 2 / 2 = k by omega]
theorem lineV_odd (ls : List LineD) (k : Nat) : lineV ls (k * 2 + 1) = .int .i64 (ls.getD k l0).b := by
  unfold lineV
  rw [if_neg (by omega), show (k * 2 + 1) / 2 = k by omega]

set_option maxRecDepth 100000 in
set_option maxHeartbeats 3200000 in
theorem sweepOk {gs cs gl cl gh ch M : Nat} {ls : List LineD} {lo hi : Nat → Int} {s : SS} (hs : swK ls ⟨false, lo, hi⟩ ls.length = some s) (hn : ls.length ≤ 100000) (hne : gl ≠ gh) (w : World) (hA : LinesAt w gs gl gh M ls) (hl : IRow w gl M lo) (hh : IRow w gh M hi) :
    Calls (barP Try.prog) 36 #[.slice (some ⟨gs, 0, none⟩) ls.length cs, .slice (some ⟨gl, 0, none⟩) M cl, .slice (some ⟨gh, 0, none⟩) M ch] w fun e w' => e = .returned (.tuple #[.bool s.ch, .int .i64 0]) ∧ IRow w' gl M s.lo ∧ IRow w' gh M s.hi ∧ Off gl gh w w' := by
  have HA := hide hA
  have hless := hide (fun k (hk' : k ≤ ls.length) => swK_less hs k hk')
  have hstep : Hid (∀ k s', swK ls ⟨false, lo, hi⟩ k = some s' → swK ls ⟨false, lo, hi⟩ (k + 1) = swStep (ls.getD k l0) s') := fun k s' h => by
    show (swK ls _ k).bind _ = _
    rw [h]
    rfl
  have hstart : Hid (swK ls ⟨false, lo, hi⟩ 0 = some ⟨false, lo, hi⟩) := rfl
  have hk := hide hs
  have hl := hide hl
  have hh := hide hh
  clear hs hA
  generalize swK ls ⟨false, lo, hi⟩ = SK at *
  generalize hm : ls.length = m at *
  replace hm := hide hm
  go_enter Bar.func36, Bar.ntmps36
  go_wp2_with fail
  go_loopw [8, 15] (fun cv kv wr => ∃ (k : Nat) (s' : SS), k ≤ m ∧ kv = .int .i64 k ∧ Hid (SK k = some s') ∧ cv = .bool s'.ch ∧ Hid (IRow wr gl M s'.lo) ∧ Hid (IRow wr gh M s'.hi) ∧ Hid (Off gl gh w wr)) (fun _ kv _ => m - (intOf kv).toNat)
  case atStart => exact ⟨0, _, Nat.zero_le _, rfl, hstart, rfl, hl, hh, Off.refl _ _ _⟩
  case round =>
    clear hl hh
    obtain ⟨k, s', hkm, rfl, hSK, rfl, hL, hH, hO⟩ := hrel
    by_cases c : k < m
    · have q1 : ((k : Int) < (m : Int)) = True := by simp; omega
      have A2 := (unhide HA).off (unhide hO)
      have kl : k < ls.length := by rw [unhide hm]; exact c
      have c1 := vrow_at A2.row (i := k * 2) (by omega)
      have c2 := vrow_at A2.row (i := k * 2 + 1) (by omega)
      rw [lineV_even] at c1
      rw [lineV_odd] at c2
      obtain ⟨f1, f2, f3⟩ := A2.fits k kl
      obtain ⟨a1, a2⟩ := A2.apart k kl
      have p1 := A2.places k kl
      obtain ⟨s2, hs2⟩ := unhide hless (k + 1) (by omega)
      have D2 := hide hs2
      rw [unhide hstep k s' (unhide hSK)] at hs2
      unfold swStep at hs2
      obtain ⟨d, hd, hs3⟩ := Option.map_eq_some_iff.1 hs2
      generalize ls.getD k l0 = ln at *
      obtain ⟨gp, cp, P, b⟩ := ln
      dsimp only at *
      have y1 := (Below.refl wr.heap.size wr).alloc (Nat.le_refl _) (.cells #[placesV gp cp P, .int .i64 b] 94)
      have kD := hide (drawAny (cp := cp) (cl := cl) (ch := ch) hd f1 f2 f3 hne a1 a2 _ (vrow_keep p1 (y1.block _ (vrow_lt p1))) (vrow_keep (unhide hL) (y1.block _ (vrow_lt (unhide hL)))) (vrow_keep (unhide hH) (y1.block _ (vrow_lt (unhide hH)))))
      have O1 := hide ((unhide hO).trans (Off.below y1))
      have D2' : Hid (SK (k + 1) = some ⟨s'.ch || d.ch, d.lo, d.hi⟩) := by rw [hs3]; exact unhide D2
      have hcc : s'.ch = true ∨ s'.ch = false := by cases s'.ch <;> simp
      unfold placesV at c1 kD O1
      clear A2 f1 f2 f3 a1 a2 p1 hs2 hs3 hd D2 y1 hL hH hO hSK
      go_wp2_with fail
      refine (unhide kD).mono ?_
      rintro e w2 ⟨rfl, r1, r2, o2⟩
      have R1 := hide r1
      have R2 := hide r2
      have O2 := hide ((unhide O1).trans o2)
      clear kD O1 r1 r2 o2
      rcases hcc with hcc | hcc
      all_goals rw [hcc] at D2' ⊢
      all_goals go_wp2_with fail
      all_goals exact ⟨⟨k + 1, _, by omega, by go_num, D2', by simp, R1, R2, O2⟩, by simp [intOf]; omega⟩
    · have q1 : ((k : Int) < (m : Int)) = False := by simp; omega
      obtain rfl : k = m := by omega
      obtain rfl : s' = s := by
        have h1 := unhide hSK
        rw [unhide hk] at h1
        exact (Option.some.inj h1).symm
      go_wp2_with fail
      go_ret2
      exact ⟨rfl, unhide hL, unhide hH, unhide hO⟩
end Go.Proofs.Ythbghcebcahlnaa
