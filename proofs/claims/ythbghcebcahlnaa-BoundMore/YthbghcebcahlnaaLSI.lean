/- BoundSound: its run in company, of any arguments. -/
import Derived.Test.YthbghcebcahlnaaLSH
namespace Go.Proofs.Ythbghcebcahlnaa
open Go Go.Conc Go.RowKit Go.Shelf

theorem enter3 (args : Array Value) : Frame.enter (barP Try.prog) 3 args .normal = Frame.enter Try.prog 3 args .normal := by
  unfold Frame.enter
  rw [Bar.func3, Try.func3]
theorem okBody3 : okCode Try.prog (Try.f3.body.getD (.refuse "unsupported: a function without a Go body is entered")) = true := by kernel_rfl
theorem ok3 (args : Array Value) : okFrame Try.prog (Frame.enter Try.prog 3 args .normal) := by
  unfold Frame.enter
  rw [Try.func3]
  refine ⟨fun i hi => ?_, fun d hd => ?_⟩
  · have hi : i = .code (Try.f3.body.getD (.refuse "unsupported: a function without a Go body is entered")) := by simpa using hi
    rw [hi]
    exact okBody3
  · cases hd
theorem ok3B (args : Array Value) : okFrame (barP Try.prog) (Frame.enter (barP Try.prog) 3 args .normal) := by
  letI : Inhabited Junk := noJunk
  rw [enter3]
  refine ⟨fun i hi => ?_, fun d hd => (ok3 args).2 d hd⟩
  have h := (ok3 args).1 i hi
  have hi : i = .code (Try.f3.body.getD (.refuse "unsupported: a function without a Go body is entered")) := by
    unfold Frame.enter at hi
    rw [Try.func3] at hi
    simpa using hi
  rw [hi]
  show okCode (barP Try.prog) _ = true
  rw [show ∀ c, okCode (barP Try.prog) c = okCode (bar Try.prog (barF Try.prog)) c from fun _ => rfl, okCode_bar]
  exact okBody3
set_option maxRecDepth 100000 in
theorem sound_runT (t : TypeId) {W : World} {gl ol lc gd od dc gs os sc : Nat} {la da sa : Option Addr} {L S : List Int} {D : List (Int × Int)} (hLl : L.length ≤ 9223372036854775807) (hL : Byte8 L) (hS : Byte8 S) (hSl : S.length ≤ 9223372036854775807) (hDl : D.length ≤ 9223372036854775807)
    (hB : Bytes W la gl ol L) (hBS : Bytes W sa gs os S) (hD : Dirs W da gd od D) (hI : ∀ i, i < D.length → I64 (D.getD i (0, 0)).1 ∧ I64 (D.getD i (0, 0)).2) (hcap : D.length ≤ dc) :
    ∃ M last o w' t', runNT Try.prog (M + 1) (solo (G (Frame.enter Try.prog 3 #[.slice la L.length lc, .slice da D.length dc, .slice sa S.length sc] .normal) []) W) #[] = (.ended o w', t') ∧ runN Try.prog M (solo (G (Frame.enter Try.prog 3 #[.slice la L.length lc, .slice da D.length dc, .slice sa S.length sc] .normal) []) W) = .next last ∧
      step Try.prog last = .ended o w' ∧ Go.Conc.Good Try.prog (PostT t W) last o w' t' := by
  obtain ⟨s1, s8⟩ := sideB_le L.length
  have hfit : FitB (barP Try.prog) (Frame.enter (barP Try.prog) 3 #[.slice la L.length lc, .slice da D.length dc, .slice sa S.length sc] .normal) [] (clean t W) := ⟨ok3B _, fun f hf => (by cases hf), fun r o h => clean_kind _ t W r o h, rfl⟩
  have hg : ∃ r, GoesW (bar Try.prog (barF Try.prog)) r (Pieces 3 (Post3 (clean t W)) (Post3g (clean t W))) (Frame.enter Try.prog 3 #[.slice la L.length lc, .slice da D.length dc, .slice sa S.length sc] .normal) [] (clean t W) := by
    refine ⟨(barF Try.prog).size, ?_⟩
    rw [← enter3]
    by_cases hG : GoodDirs D
    · exact good_goes rfl s1 s8 hLl hL hS hSl (clean_bytes hB) (clean_bytes hBS) (clean_dirs hD) hI hcap hG hfit
    · exact bad_goes rfl s1 s8 hLl hL (clean_bytes hB) (clean_dirs hD) hDl hI hcap hG hfit
  letI : Inhabited Junk := keepJunk W
  refine law_run (i := 6) (fn := Try.f3) Try.func3 rfl (by kernel_rfl) (clean_sib t W) (ok3 _) hg ?_ ?_
  · rintro fr w v ⟨h6, hlow⟩ hs h1 h2 h3
    exact ⟨h6, h1, h2, h3, fun k hk => kept_of hs id (hlow k (by rw [clean_size]; exact hk))⟩
  · rintro g fr w v ⟨hgs, h6, hlow⟩ hs h1 h2 h3
    rw [clean_size] at hgs
    exact ⟨h6, h1, h2, h3, fun k hk => kept_of hs (fun e : k = g => by omega) (hlow k (by rw [clean_size]; exact hk))⟩
/-- ████ BoundSound, ON EVERY SCHEDULE. ████ -/
theorem sound_run {W : World} {gl ol lc gd od dc gs os sc : Nat} {la da sa : Option Addr} {L S : List Int} {D : List (Int × Int)} (hLl : L.length ≤ 9223372036854775807) (hL : Byte8 L) (hS : Byte8 S) (hSl : S.length ≤ 9223372036854775807) (hDl : D.length ≤ 9223372036854775807)
    (hB : Bytes W la gl ol L) (hBS : Bytes W sa gs os S) (hD : Dirs W da gd od D) (hI : ∀ i, i < D.length → I64 (D.getD i (0, 0)).1 ∧ I64 (D.getD i (0, 0)).2) (hcap : D.length ≤ dc) :
    ∃ M last o w' t', runNT Try.prog (M + 1) (solo (G (Frame.enter Try.prog 3 #[.slice la L.length lc, .slice da D.length dc, .slice sa S.length sc] .normal) []) W) #[] = (.ended o w', t') ∧ runN Try.prog M (solo (G (Frame.enter Try.prog 3 #[.slice la L.length lc, .slice da D.length dc, .slice sa S.length sc] .normal) []) W) = .next last ∧
      step Try.prog last = .ended o w' ∧ Go.Conc.Good Try.prog (fun v w' => v = .bool true ∧ Below W.heap.size W w') last o w' t' := by
  obtain ⟨M, last, o, w', t', h1, h2, h3, v, e, ⟨a, b⟩, c⟩ := run_both (sound_runT 0 (lc := lc) (sc := sc) hLl hL hS hSl hDl hB hBS hD hI hcap) (sound_runT 1 (lc := lc) (sc := sc) hLl hL hS hSl hDl hB hBS hD hI hcap)
  exact ⟨M, last, o, w', t', h1, h2, h3, v, e, both_kept a b, c⟩
end Go.Proofs.Ythbghcebcahlnaa
