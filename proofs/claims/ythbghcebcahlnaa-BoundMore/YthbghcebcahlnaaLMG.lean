/- BoundMore: its run in company, of any arguments. -/
import Derived.Test.YthbghcebcahlnaaLSI
import Derived.Test.YthbghcebcahlnaaLMF
namespace Go.Proofs.Ythbghcebcahlnaa
open Go Go.Conc Go.RowKit Go.Shelf

theorem enter4 (args : Array Value) : Frame.enter (barP Try.prog) 4 args .normal = Frame.enter Try.prog 4 args .normal := by
  unfold Frame.enter
  rw [Bar.func4, Try.func4]
theorem okBody4 : okCode Try.prog (Try.f4.body.getD (.refuse "unsupported: a function without a Go body is entered")) = true := by kernel_rfl
theorem ok4 (args : Array Value) : okFrame Try.prog (Frame.enter Try.prog 4 args .normal) := by
  unfold Frame.enter
  rw [Try.func4]
  refine ⟨fun i hi => ?_, fun d hd => ?_⟩
  · have hi : i = .code (Try.f4.body.getD (.refuse "unsupported: a function without a Go body is entered")) := by simpa using hi
    rw [hi]
    exact okBody4
  · cases hd
theorem ok4B (args : Array Value) : okFrame (barP Try.prog) (Frame.enter (barP Try.prog) 4 args .normal) := by
  letI : Inhabited Junk := noJunk
  rw [enter4]
  refine ⟨fun i hi => ?_, fun d hd => (ok4 args).2 d hd⟩
  have h := (ok4 args).1 i hi
  have hi : i = .code (Try.f4.body.getD (.refuse "unsupported: a function without a Go body is entered")) := by
    unfold Frame.enter at hi
    rw [Try.func4] at hi
    simpa using hi
  rw [hi]
  show okCode (barP Try.prog) _ = true
  rw [show ∀ c, okCode (barP Try.prog) c = okCode (bar Try.prog (barF Try.prog)) c from fun _ => rfl, okCode_bar]
  exact okBody4
set_option maxRecDepth 100000 in
theorem more_runT (t : TypeId) {W : World} {gl ol lc gd od dc : Nat} {la da : Option Addr} {k : Int} {L : List Int} {D : List (Int × Int)} (hLl : L.length ≤ 9223372036854775807) (hL : Byte8 L) (hDl : D.length ≤ 9223372036854775807)
    (hB : Bytes W la gl ol L) (hD : Dirs W da gd od D) (hI : ∀ i, i < D.length → I64 (D.getD i (0, 0)).1 ∧ I64 (D.getD i (0, 0)).2) (hcap : D.length ≤ dc) :
    ∃ M last o w' t', runNT Try.prog (M + 1) (solo (G (Frame.enter Try.prog 4 #[.slice la L.length lc, .slice da D.length dc, .int .i64 k] .normal) []) W) #[] = (.ended o w', t') ∧ runN Try.prog M (solo (G (Frame.enter Try.prog 4 #[.slice la L.length lc, .slice da D.length dc, .int .i64 k] .normal) []) W) = .next last ∧
      step Try.prog last = .ended o w' ∧ Go.Conc.Good Try.prog (PostT t W) last o w' t' := by
  obtain ⟨s1, s8⟩ := sideB_le L.length
  have hfit : FitB (barP Try.prog) (Frame.enter (barP Try.prog) 4 #[.slice la L.length lc, .slice da D.length dc, .int .i64 k] .normal) [] (clean t W) := ⟨ok4B _, fun f hf => (by cases hf), fun r o h => clean_kind _ t W r o h, rfl⟩
  have hg : ∃ r, GoesW (bar Try.prog (barF Try.prog)) r (Pieces 4 (Post3 (clean t W)) (Post3g (clean t W))) (Frame.enter Try.prog 4 #[.slice la L.length lc, .slice da D.length dc, .int .i64 k] .normal) [] (clean t W) := by
    refine ⟨(barF Try.prog).size, ?_⟩
    rw [← enter4]
    by_cases hG : GoodDirs D
    · exact good_goes4 rfl s1 s8 hLl hL (clean_bytes hB) (clean_dirs hD) hI hcap hG hfit
    · exact bad_goes4 rfl s1 s8 hLl hL (clean_bytes hB) (clean_dirs hD) hDl hI hcap hG hfit
  letI : Inhabited Junk := keepJunk W
  refine law_run (i := 6) (fn := Try.f4) Try.func4 rfl (by kernel_rfl) (clean_sib t W) (ok4 _) hg ?_ ?_
  · rintro fr w v ⟨h6, hlow⟩ hs h1 h2 h3
    exact ⟨h6, h1, h2, h3, fun k hk => kept_of hs id (hlow k (by rw [clean_size]; exact hk))⟩
  · rintro g fr w v ⟨hgs, h6, hlow⟩ hs h1 h2 h3
    rw [clean_size] at hgs
    exact ⟨h6, h1, h2, h3, fun k hk => kept_of hs (fun e : k = g => by omega) (hlow k (by rw [clean_size]; exact hk))⟩
/-- ████ BoundMore, ON EVERY SCHEDULE. ████ -/
theorem more_run {W : World} {gl ol lc gd od dc : Nat} {la da : Option Addr} {k : Int} {L : List Int} {D : List (Int × Int)} (hLl : L.length ≤ 9223372036854775807) (hL : Byte8 L) (hDl : D.length ≤ 9223372036854775807)
    (hB : Bytes W la gl ol L) (hD : Dirs W da gd od D) (hI : ∀ i, i < D.length → I64 (D.getD i (0, 0)).1 ∧ I64 (D.getD i (0, 0)).2) (hcap : D.length ≤ dc) :
    ∃ M last o w' t', runNT Try.prog (M + 1) (solo (G (Frame.enter Try.prog 4 #[.slice la L.length lc, .slice da D.length dc, .int .i64 k] .normal) []) W) #[] = (.ended o w', t') ∧ runN Try.prog M (solo (G (Frame.enter Try.prog 4 #[.slice la L.length lc, .slice da D.length dc, .int .i64 k] .normal) []) W) = .next last ∧
      step Try.prog last = .ended o w' ∧ Go.Conc.Good Try.prog (fun v w' => v = .bool true ∧ Below W.heap.size W w') last o w' t' := by
  obtain ⟨M, last, o, w', t', h1, h2, h3, v, e, ⟨a, b⟩, c⟩ := run_both (more_runT 0 (lc := lc) (k := k) hLl hL hDl hB hD hI hcap) (more_runT 1 (lc := lc) (k := k) hLl hL hDl hB hD hI hcap)
  exact ⟨M, last, o, w', t', h1, h2, h3, v, e, both_kept a b, c⟩
end Go.Proofs.Ythbghcebcahlnaa
