/- BoundSound: directions that are none. -/
import Derived.Test.YthbghcebcahlnaaLSF
namespace Go.Proofs.Ythbghcebcahlnaa
open Go Go.RowKit Go.Shelf

set_option maxRecDepth 100000 in
set_option maxHeartbeats 4000000 in
theorem badCalls {n gl ol lc gd od dc : Nat} {la da : Option Addr} {L : List Int} {D : List (Int × Int)} {sv : Value} (w : World) (hn : n = sideB L.length) (h1 : 1 ≤ n) (h2 : n ≤ 8) (hLl : L.length ≤ 9223372036854775807) (hL : Byte8 L) (hB : Bytes w la gl ol L) (hD : Dirs w da gd od D) (hl : D.length ≤ 9223372036854775807) (hI : ∀ i, i < D.length → I64 (D.getD i (0, 0)).1 ∧ I64 (D.getD i (0, 0)).2) (hcap : D.length ≤ dc) (hG : ¬ GoodDirs D) :
    Calls (barP Try.prog) 3 #[.slice la L.length lc, .slice da D.length dc, sv] w fun e w' => e = .returned (.bool true) ∧ Below w.heap.size w w' := by
  have kG := fun w1 (b : Below w.heap.size w w1) => gridAny (cap := lc) hLl w1 (bytes_below hB b)
  rw [← hn] at kG
  have kA := fun w1 gg (b : Below w.heap.size w w1) (hR : Row w1 gg (n * n) (lvlB L)) => allBad (c := n * n) (f := lvlB L) (z := zL L) (mz := 255) w1 h1 (by omega) hR (fun j _ => cellB hL j) (by decide) (dirs_below hD b) hl hI hcap hG
  unfold gridV at kA
  clear hB hn hD hI hG hl hcap
  generalize la = la0 at *
  obtain ⟨lv, hlv⟩ : ∃ lv : Value, .slice la0 L.length lc = lv := ⟨_, rfl⟩
  obtain ⟨dv, hdv⟩ : ∃ dv : Value, .slice da D.length dc = dv := ⟨_, rfl⟩
  rw [hlv] at kG ⊢
  rw [hdv] at kA ⊢
  have kG := hide kG
  have kA := hide kA
  clear hlv hdv
  go_enter Bar.func3, Bar.ntmps3
  go_wp2_with fail
  refine (aliveOk _).mono ?_
  rintro e w1 ⟨rfl, hb⟩
  have B1 := hide hb
  clear hb
  go_wp2_with fail
  refine (unhide kG _ (unhide B1)).mono ?_
  rintro e w2 ⟨gg, rfl, hg', hrow, hb2⟩
  have s2 : w.heap.size ≤ w2.heap.size := Nat.le_trans (unhide B1).size hb2.size
  have bb := (Below.refl _ w2).alloc (Nat.le_refl _) (.cells #[.int .i64 n, .slice (some ⟨gg, 0, none⟩) (n * n : Nat) (n * n : Nat)] 27)
  have B2 := hide (((unhide B1).trans (hb2.mono (unhide B1).size)).trans (bb.mono s2))
  have hR := row_below hrow bb (row_lt hrow)
  have kA2 := hide (unhide kA _ gg (unhide B2) hR)
  clear hb2 hrow hg' bb hR kA kG
  go_wp2_with fail
  refine (unhide kA2).mono ?_
  rintro e w3 ⟨r, hr, rfl, hb3⟩
  have B3 := hide ((unhide B2).trans (hb3.mono (unhide B2).size))
  have q : (r = 0) = False := by simpa using hr
  have B4 := hide ((unhide B3).alloc (unhide B3).size (.cells #[.int .i64 0, .slice none 0 0] 31))
  clear hb3 kA2
  go_wp2_with fail
  go_ret
  exact ⟨rfl, unhide B4⟩
theorem bad_goes {w0 : World} {n gl ol lc gd od dc : Nat} {la da : Option Addr} {L : List Int} {D : List (Int × Int)} {sv : Value} (hn : n = sideB L.length) (h1 : 1 ≤ n) (h2 : n ≤ 8) (hLl : L.length ≤ 9223372036854775807) (hL : Byte8 L) (hB : Bytes w0 la gl ol L) (hD : Dirs w0 da gd od D) (hl : D.length ≤ 9223372036854775807) (hI : ∀ i, i < D.length → I64 (D.getD i (0, 0)).1 ∧ I64 (D.getD i (0, 0)).2) (hcap : D.length ≤ dc) (hG : ¬ GoodDirs D)
    (hfit : FitB (barP Try.prog) (Frame.enter (barP Try.prog) 3 #[.slice la L.length lc, .slice da D.length dc, sv] .normal) [] w0) :
    GoesW (bar Try.prog (barF Try.prog)) (barF Try.prog).size (Pieces 3 (Post3 w0) (Post3g w0)) (Frame.enter (barP Try.prog) 3 #[.slice la L.length lc, .slice da D.length dc, sv] .normal) [] w0 := by
  letI : Inhabited Junk := noJunk
  have hr : (barF Try.prog)[(barF Try.prog).size]? = none := by rw [Array.getElem?_eq_none_iff]; exact Nat.le_refl _
  refine goesW_mono ?_ (goesW_of_calls (P := (barP Try.prog)) Bar.again fenceB bodiesB (R := fun e w' => e = .returned (.bool true) ∧ ∀ k, k < w0.heap.size → w'.heap[k]? = w0.heap[k]?) (fun e w τ d => Iff.rfl) (fun w h => by cases h.1) hfit hr fun τ d => ?_)
  · rintro fr up w ⟨rfl, hk, he, hf, e, ⟨rfl, hlow⟩, m1, m2, m3, fn, hfn, hrun⟩
    refine .inl ⟨⟨rfl, m1, m2, m3, hf⟩, ?_, hlow⟩
    rw [hf, Bar.func3] at hfn
    obtain rfl := Option.some.inj hfn
    unfold results at hrun
    simp only [Try.f3] at hrun
    simpa [go_sem] using hrun
  · refine (badCalls (gl := gl) (ol := ol) (gd := gd) (od := od) (re w0 τ d) hn h1 h2 hLl hL ⟨hB.at_, hB.cell⟩ ⟨hD.at_, hD.cell⟩ hl hI hcap hG).mono ?_
    rintro e w' ⟨rfl, hb⟩
    exact ⟨rfl, fun k hk => hb.block k hk⟩
end Go.Proofs.Ythbghcebcahlnaa
