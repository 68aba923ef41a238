/- From the kit's walks to the scripts of the caller and the child. -/
import Derived.Test.YthbghcebcahlnaaRY
import Derived.Conc.WgGenWait
import Derived.Conc.WgGenDone
set_option linter.unusedSectionVars false
namespace Go.Proofs.Ythbghcebcahlnaa
open Go Go.Conc
variable {P : Program} {F : Array Func} [Inhabited Junk]

theorem Cal.more {ty : TypeId} {Wg : Nat} {End : Goroutine → Prop} : ∀ {n : Nat} {s : CS} {g : Goroutine}, Cal P ty Wg End n s g → Cal P ty Wg End (n + 1) s g
  | 0, s, g, h => .inl h
  | n + 1, s, g, h => by
    rcases h with h | ⟨hr, h⟩
    · exact .inl h
    · refine .inr ⟨hr, ?_⟩
      rcases h with h0 | ⟨hp, g', h1, h2⟩ | ⟨hp, g1, g2, h1, h2, h3⟩ | ⟨hp, g1, g2, h1, h2, h3⟩ | ⟨hp, g', h1, h2⟩ | ⟨hp, g', h0, h1, h2, h3⟩ | ⟨hp, g', h1, h2⟩ | ⟨hp, g', h1, h2⟩ | ⟨hp, hd, g', h1, h2⟩
      · exact .inl fun w st sm hw => let ⟨g', h1, h2⟩ := h0 w st sm hw; ⟨g', h1, h2.more⟩
      · exact .inr (.inl ⟨hp, g', h1, h2.more⟩)
      · exact .inr (.inr (.inl ⟨hp, g1, g2, h1, h2.more, fun hk => ⟨(h3 hk).1, (h3 hk).2.more⟩⟩))
      · exact .inr (.inr (.inr (.inl ⟨hp, g1, g2, h1, h2.more, fun hk => ⟨(h3 hk).1, (h3 hk).2.more⟩⟩)))
      · exact .inr (.inr (.inr (.inr (.inl ⟨hp, g', h1, h2.more⟩))))
      · exact .inr (.inr (.inr (.inr (.inr (.inl ⟨hp, g', h0, h1, h2, h3.more⟩)))))
      · exact .inr (.inr (.inr (.inr (.inr (.inr (.inl ⟨hp, g', h1, h2.more⟩))))))
      · exact .inr (.inr (.inr (.inr (.inr (.inr (.inr (.inl ⟨hp, g', h1, h2.more⟩)))))))
      · exact .inr (.inr (.inr (.inr (.inr (.inr (.inr (.inr ⟨hp, hd, g', h1, h2.more⟩)))))))
theorem Cal.mono {ty : TypeId} {Wg : Nat} {End : Goroutine → Prop} {n m : Nat} {s : CS} {g : Goroutine} (h : Cal P ty Wg End n s g) (hnm : n ≤ m) : Cal P ty Wg End m s g := by
  induction hnm with
  | refl => exact h
  | step _ ih => exact ih.more
theorem Chi.more {ty : TypeId} {Wg : Nat} : ∀ {n : Nat} {s : KS} {g : Goroutine}, Chi P ty Wg n s g → Chi P ty Wg (n + 1) s g
  | 0, s, g, h => h.elim
  | n + 1, s, g, h => by
    obtain ⟨hr, h⟩ := h
    refine ⟨hr, ?_⟩
    rcases h with h0 | ⟨hp, hd, g', h1, h2⟩ | ⟨hp, g', h1, h2⟩ | ⟨hp, hd, g1, g2, h1, h2, h3, h4⟩ | ⟨hp, hd, g', h1, h2⟩ | ⟨hp, hd, g', h1, h2⟩ | ⟨hp, hd, hmw, g', h1, h2, h3⟩
    · exact .inl fun w st sm hw => let ⟨g', h1, h2⟩ := h0 w st sm hw; ⟨g', h1, h2.more⟩
    · exact .inr (.inl ⟨hp, hd, g', h1, h2.more⟩)
    · exact .inr (.inr (.inl ⟨hp, g', h1, h2.more⟩))
    · exact .inr (.inr (.inr (.inl ⟨hp, hd, g1, g2, h1, h2, h3, h4.more⟩)))
    · exact .inr (.inr (.inr (.inr (.inl ⟨hp, hd, g', h1, h2.more⟩))))
    · exact .inr (.inr (.inr (.inr (.inr (.inl ⟨hp, hd, g', h1, h2.more⟩)))))
    · exact .inr (.inr (.inr (.inr (.inr (.inr ⟨hp, hd, hmw, g', h1, h2, h3⟩)))))
theorem Chi.mono {ty : TypeId} {Wg : Nat} {n m : Nat} {s : KS} {g : Goroutine} (h : Chi P ty Wg n s g) (hnm : n ≤ m) : Chi P ty Wg m s g := by
  induction hnm with
  | refl => exact h
  | step _ ih => exact ih.more

/-- What is known of the world between two idle steps: the group is there. -/
def RG (ty : TypeId) (Wg : Nat) (_ w : World) : Prop := ∃ st sm, GrpAt ty Wg w st sm
theorem rg_some (ty : TypeId) (Wg : Nat) (w : World) : ∃ w1, RG ty Wg w w1 := by
  refine ⟨{ w with heap := Array.replicate (Wg + 1) (.cells #[.int .u64 0, .int .u32 0] ty) }, 0, 0, ?_⟩
  simp [GrpAt]
theorem rg_rely {ty : TypeId} {Wg : Nat} {w w1 : World} (_ : True) (h : RG ty Wg w w1) : ∃ st sm, GrpAt ty Wg w1 st sm := h
theorem goes_cal {ty : TypeId} {Wg : Nat} {End : Goroutine → Prop} {N : Nat} {s : CS} : ∀ {m : Nat} {T : Nat} {g : Goroutine} {w : World}, m + N ≤ T → Goes P true (RG ty Wg) Go.ConcR.DC0 (fun g _ => Cal P ty Wg End N s g) m g w → Cal P ty Wg End T s g
  | 0, T, g, w, hT, h => by
    obtain ⟨w1, h1⟩ := rg_some ty Wg w
    exact (h w1 h1).mono (by omega)
  | m + 1, T, g, w, hT, h => by
    rcases h with h | ⟨hr, h⟩
    · obtain ⟨w1, h1⟩ := rg_some ty Wg w
      exact (h w1 h1).mono (by omega)
    · obtain ⟨T', rfl⟩ : ∃ T', T = T' + 1 := ⟨T - 1, by omega⟩
      refine .inr ⟨hr, .inl fun w1 st sm hw => ?_⟩
      have := h w1 ⟨st, sm, hw⟩
      generalize hS : stepG P true g w1 = S at this ⊢
      cases S with
      | go g' w' es =>
        obtain ⟨⟨rfl, rfl⟩, h2⟩ := this
        exact ⟨g', rfl, goes_cal (by omega) h2⟩
      | _ => exact this.elim
theorem goes_chi {ty : TypeId} {Wg : Nat} {N : Nat} {s : KS} : ∀ {m : Nat} {T : Nat} {g : Goroutine} {w : World}, m + N ≤ T → Goes P false (RG ty Wg) Go.ConcR.DC0 (fun g _ => Chi P ty Wg N s g) m g w → Chi P ty Wg T s g
  | 0, T, g, w, hT, h => by
    obtain ⟨w1, h1⟩ := rg_some ty Wg w
    exact (h w1 h1).mono (by omega)
  | m + 1, T, g, w, hT, h => by
    rcases h with h | ⟨hr, h⟩
    · obtain ⟨w1, h1⟩ := rg_some ty Wg w
      exact (h w1 h1).mono (by omega)
    · obtain ⟨T', rfl⟩ : ∃ T', T = T' + 1 := ⟨T - 1, by omega⟩
      refine ⟨hr, .inl fun w1 st sm hw => ?_⟩
      have := h w1 ⟨st, sm, hw⟩
      generalize hS : stepG P false g w1 = S at this ⊢
      cases S with
      | go g' w' es =>
        obtain ⟨⟨rfl, rfl⟩, h2⟩ := this
        exact ⟨g', rfl, goes_chi (by omega) h2⟩
      | _ => exact this.elim
theorem rg_c0 {ty : TypeId} {Wg : Nat} {w w1 : World} (h : RG ty Wg w w1) : ∃ v, w1.cell? ⟨Wg, 0, none⟩ = some v := by
  obtain ⟨st, sm, h⟩ := h
  exact ⟨.int .u64 st, by unfold GrpAt at h; simp [World.cell?, h]⟩
theorem rg_c1 {ty : TypeId} {Wg : Nat} {w w1 : World} (h : RG ty Wg w w1) : ∃ v, w1.cell? ⟨Wg, 1, none⟩ = some v := by
  obtain ⟨st, sm, h⟩ := h
  exact ⟨.int .u32 sm, by unfold GrpAt at h; simp [World.cell?, h]⟩
/-- The operation at hand is a call. -/
theorem at_call {R : World → World → Prop} {D : World → World → Array Event → Prop} {Stop : Goroutine → World → Prop} {n : Nat} {main : Bool} {b : Frame} {a : Act} {ops : Array Oper} {i : Nat} {rest : List Nat} {k : List Item} {cs : List Frame} {w : World} {o : Oper} {f : FuncId} {xs : Array Operand} {ats : Array TypeId} (_ : ops[i]? = some o) (_ : o.op = .call { callee := .value (.func f), args := xs, argTypes := ats })
    (h : Goes P main R D Stop n (G (b.at a (.inRegion ops (i :: rest) :: k)) cs) w) : Goes P main R D Stop n (G (b.at a (.inRegion ops (i :: rest) :: k)) cs) w := h
section
variable {ty : TypeId} {Wg : Nat} {End : Goroutine → Prop} {n : Nat} {s : CS} {g g' g1 g2 : Goroutine}
theorem Cal.fin (hp : s.p = 3) (h : End g) : Cal P ty Wg End n s g := by
  cases n with
  | zero => exact ⟨hp, h⟩
  | succ n => exact .inl ⟨hp, h⟩
theorem Cal.disable (hr : g.status = .running) (hp : s.p = 0) (h : ∀ w, stepG P true g w = .go g' w #[mkE .disable]) (hC : Cal P ty Wg End n ⟨0, s.k, s.d + 1⟩ g') : Cal P ty Wg End (n + 1) s g := .inr ⟨hr, .inr (.inl ⟨hp, g', h, hC⟩)⟩
theorem Cal.load (hr : g.status = .running) (hp : s.p = 0) (h : ∀ w, GrpAt ty Wg w 0 0 → stepG P true g w = .go g2 w #[rdE (sA Wg)]) (hC : Cal P ty Wg End n ⟨2, true, s.d⟩ g2) (h' : s.k = false → (∀ w, GrpAt ty Wg w 4294967296 0 → stepG P true g w = .go g1 w #[rdE (sA Wg)]) ∧ Cal P ty Wg End n ⟨0, false, s.d⟩ g1) : Cal P ty Wg End (n + 1) s g := .inr ⟨hr, .inr (.inr (.inl ⟨hp, g1, g2, h, hC, h'⟩))⟩
theorem Cal.cas (hr : g.status = .running) (hp : s.p = 0) (h : ∀ w, GrpAt ty Wg w 0 0 → stepG P true g w = .go g2 w #[rdE (sA Wg)]) (hC : Cal P ty Wg End n ⟨0, true, s.d⟩ g2) (h' : s.k = false → (∀ w, GrpAt ty Wg w 4294967296 0 → stepG P true g w = .go g1 (w.setCell (sA Wg) (.int .u64 4294967297)) #[rdE (sA Wg), wrE (sA Wg)]) ∧ Cal P ty Wg End n ⟨1, true, s.d⟩ g1) : Cal P ty Wg End (n + 1) s g := .inr ⟨hr, .inr (.inr (.inr (.inl ⟨hp, g1, g2, h, hC, h'⟩)))⟩
theorem Cal.word (hr : g.status = .running) (hp : s.p = 1) (h : ∀ w, stepG P true g w = .go g' w #[mkE (.write (mA Wg))]) (hC : Cal P ty Wg End n s g') : Cal P ty Wg End (n + 1) s g := .inr ⟨hr, .inr (.inr (.inr (.inr (.inl ⟨hp, g', h, hC⟩))))⟩
theorem Cal.sem (hr : g.status = .running) (hp : s.p = 1) (ho : g.offers = none) (h0 : ∀ w st, GrpAt ty Wg w st 0 → stepG P true g w = .go { g with status := .blocked } w #[]) (h : ∀ w, GrpAt ty Wg w 0 1 → stepG P true g w = .go g' (w.setCell (mA Wg) (.int .u32 0)) (semEvents (mA Wg))) (hC : Cal P ty Wg End n ⟨2, true, s.d⟩ g') : Cal P ty Wg End (n + 1) s g := .inr ⟨hr, .inr (.inr (.inr (.inr (.inr (.inl ⟨hp, g', ho, h0, h, hC⟩)))))⟩
theorem Cal.again (hr : g.status = .running) (hp : s.p = 2) (h : ∀ w, GrpAt ty Wg w 0 0 → stepG P true g w = .go g' w #[rdE (sA Wg)]) (hC : Cal P ty Wg End n s g') : Cal P ty Wg End (n + 1) s g := .inr ⟨hr, .inr (.inr (.inr (.inr (.inr (.inr (.inl ⟨hp, g', h, hC⟩))))))⟩
theorem Cal.enable (hr : g.status = .running) (hp : s.p = 2) (h : ∀ w, stepG P true g w = .go g' w #[mkE .enable]) (hC : Cal P ty Wg End n ⟨2, true, s.d - 1⟩ g') : Cal P ty Wg End (n + 1) s g := .inr ⟨hr, .inr (.inr (.inr (.inr (.inr (.inr (.inr (.inl ⟨hp, g', h, hC⟩)))))))⟩
theorem Cal.acquire (hr : g.status = .running) (hp : s.p = 2) (hd : s.d = 0) (h : ∀ w, stepG P true g w = .go g' w #[mkE (.acquire (sA Wg))]) (hC : Cal P ty Wg End n ⟨3, true, 0⟩ g') : Cal P ty Wg End (n + 1) s g := .inr ⟨hr, .inr (.inr (.inr (.inr (.inr (.inr (.inr (.inr ⟨hp, hd, g', h, hC⟩)))))))⟩
end
section
variable {ty : TypeId} {Wg : Nat} {n : Nat} {s : KS} {g g' g1 g2 : Goroutine}
theorem Chi.rel (hr : g.status = .running) (hp : s.p = 0) (hd : s.d = 0) (h : ∀ w, stepG P false g w = .go g' w #[mkE (.releaseMerge (sA Wg))]) (hC : Chi P ty Wg n ⟨1, 0⟩ g') : Chi P ty Wg (n + 1) s g := ⟨hr, .inr (.inl ⟨hp, hd, g', h, hC⟩)⟩
theorem Chi.disable (hr : g.status = .running) (hp : s.p = 1) (h : ∀ w, stepG P false g w = .go g' w #[mkE .disable]) (hC : Chi P ty Wg n ⟨1, s.d + 1⟩ g') : Chi P ty Wg (n + 1) s g := ⟨hr, .inr (.inr (.inl ⟨hp, g', h, hC⟩))⟩
theorem Chi.add {q : Nat} (hr : g.status = .running) (hp : s.p = 1) (hd : 0 < s.d) (h1 : ∀ w, GrpAt ty Wg w 4294967296 0 → stepG P false g w = .go g1 (w.setCell (sA Wg) (.int .u64 0)) #[rdE (sA Wg), wrE (sA Wg)]) (h2 : ∀ w, GrpAt ty Wg w 4294967297 0 → stepG P false g w = .go g2 (w.setCell (sA Wg) (.int .u64 1)) #[rdE (sA Wg), wrE (sA Wg)]) (hq : QuitsD P q s.d g1) (hC : Chi P ty Wg n ⟨2, s.d⟩ g2) : Chi P ty Wg (n + 1) s g := ⟨hr, .inr (.inr (.inr (.inl ⟨hp, hd, g1, g2, h1, ⟨q, hq⟩, h2, hC⟩)))⟩
theorem Chi.load (hr : g.status = .running) (hp : s.p = 2) (hd : 0 < s.d) (h : ∀ w, GrpAt ty Wg w 1 0 → stepG P false g w = .go g' w #[rdE (sA Wg)]) (hC : Chi P ty Wg n s g') : Chi P ty Wg (n + 1) s g := ⟨hr, .inr (.inr (.inr (.inr (.inl ⟨hp, hd, g', h, hC⟩))))⟩
theorem Chi.store (hr : g.status = .running) (hp : s.p = 2) (hd : 0 < s.d) (h : ∀ w, GrpAt ty Wg w 1 0 → stepG P false g w = .go g' (w.setCell (sA Wg) (.int .u64 0)) #[wrE (sA Wg)]) (hC : Chi P ty Wg n ⟨3, s.d⟩ g') : Chi P ty Wg (n + 1) s g := ⟨hr, .inr (.inr (.inr (.inr (.inr (.inl ⟨hp, hd, g', h, hC⟩)))))⟩
theorem Chi.sem {q : Nat} (hr : g.status = .running) (hp : s.p = 3) (hd : 0 < s.d) (hm : mayWake P g = true) (h : ∀ w, GrpAt ty Wg w 0 0 → stepG P false g w = .go g' (w.setCell (mA Wg) (.int .u32 1)) (semEvents (mA Wg))) (hr' : g'.status = .running) (hq : QuitsD P q s.d g') : Chi P ty Wg (n + 1) s g := ⟨hr, .inr (.inr (.inr (.inr (.inr (.inr ⟨hp, hd, hm, g', h, hr', q, hq⟩)))))⟩
end
end Go.Proofs.Ythbghcebcahlnaa
