/- The landed peeling: its lines counted, its heap filled. -/
import Derived.Test.YtgbkfmjkemkajabPM6
namespace Go.Proofs.Ytgbkfmjkemkajab
open Go.RowKit Go.Shelf

def bkUp (c k : Nat) : Nat → Nat → Bool := fun i => if i < k then ltB (c + 1) else ltB c
theorem bkUp_old (c k : Nat) : bkUp c k k = ltB c := if_neg (by omega)
theorem bkUp_next (c k : Nat) : (fun i => if i = k then ltB (c + 1) else bkUp c k i) = bkUp c (k + 1) := by
  funext i
  unfold bkUp
  by_cases e : i = k
  · subst e
    rw [if_pos rfl, if_pos (by omega)]
  · rw [if_neg e]
    by_cases h : i < k
    · rw [if_pos h, if_pos (by omega)]
    · rw [if_neg h, if_neg (by omega)]

def UpSt (S : Nat → Prop) (w0 : World) (n : Nat) (L : List (Int × Int)) (a : Option Addr) (cap g o : Nat) (V : PV) (c : Nat) (f : Nat → Nat × Nat) (k : Nat) (W : World) : Prop :=
  Peel S W n L a cap g o V (fun _ => true) (bkUp c k) (.slice none 0 0) 0 f ∧ Aside S w0 W
theorem UpSt.below {S : Nat → Prop} {w0 : World} {n : Nat} {L : List (Int × Int)} {a : Option Addr} {cap g o : Nat} {V : PV} {c : Nat} {f : Nat → Nat × Nat} {k : Nat} {W W' : World} (h : UpSt S w0 n L a cap g o V c f k W) (hb : Below W.heap.size W W') : UpSt S w0 n L a cap g o V c f k W' :=
  ⟨h.1.below hb, h.2.trans (Aside.of_below hb h.1.sS)⟩

set_option maxRecDepth 100000 in
set_option maxHeartbeats 3200000 in
theorem upDo {S : Nat → Prop} {w0 : World} {n : Nat} {L : List (Int × Int)} {a : Option Addr} {cap g o : Nat} {V : PV} {c : Nat} {f : Nat → Nat × Nat} {k j b1 b2 : Nat} (h64 : n ≤ 64) (hc : c < n * n)
    (s1 : S b1) (s2 : S b2) (x1 : w0.cell? ⟨b1, 0, none⟩ = some (.pointer (some ⟨V.B, 0, none⟩))) (x2 : w0.cell? ⟨b2, 0, none⟩ = some (.int .i64 c))
    (hk : k < L.length) (hj : j < binN n (dk L k)) (hl : lnI n (dk L k) c = (j : Int)) (W : World) (h : UpSt S w0 n L a cap g o V c f k W) :
    Calls Try.prog 34 #[.agg #[.int .i64 k, .int .i64 j], .pointer (some ⟨b1, 0, none⟩), .pointer (some ⟨b2, 0, none⟩)] W fun e W' => (∃ u, e = .returned u) ∧ UpSt S w0 n L a cap g o V c f (k + 1) W' := by
  obtain ⟨hP, hA⟩ := h
  have hlt1 : b1 < W.heap.size := hP.sS b1 s1
  have hlt2 : b2 < W.heap.size := hP.sS b2 s2
  have y1 := hide (heap_alloc_new W (.cells #[.int .i64 k, .int .i64 j] 58))
  have y2 := hide ((Below.refl W.heap.size W).alloc (Nat.le_refl _) (.cells #[.int .i64 k, .int .i64 j] 58))
  have H1 := hide (hP.below (unhide y2))
  have A1 := hide (hA.trans (Aside.of_below (unhide y2) hP.sS))
  have d1 := (World.cell?_of_block (a := ⟨b1, 0, none⟩) ((unhide A1).block b1 s1)).trans x1
  have d2 := (World.cell?_of_block (a := ⟨b2, 0, none⟩) ((unhide A1).block b2 s2)).trans x2
  have x3 : (W.alloc (.cells #[.int .i64 k, .int .i64 j] 58)).cell? ⟨W.heap.size, 0, none⟩ = some (.int .i64 k) := cell_of_row _ W.heap.size 0 _ _ (0, 0) (unhide y1)
  have x4 : (W.alloc (.cells #[.int .i64 k, .int .i64 j] 58)).cell? ⟨W.heap.size, 1, none⟩ = some (.int .i64 j) := cell_of_row _ W.heap.size 1 _ _ (0, 0) (unhide y1)
  have hsq : n * n ≤ 4096 := Nat.mul_le_mul h64 h64
  have o1 := cntL_up (d := dk L k) hc (j : Int)
  have o2 := sumL_up (d := dk L k) hc (j : Int)
  rw [if_pos hl] at o1 o2
  have o3 := cntL_le n (dk L k) (ltB (c + 1)) (j : Int)
  have o4 := sumL_le h64 (dk L k) (ltB (c + 1)) (j : Int)
  have kC := hide (fun (W' : World) (hW : Peel S W' n L a cap g o V (fun _ => true) (bkUp c k) (.slice none 0 0) 0 f) => peelCount (many := 1) (sum := (c : Int)) (b' := ltB (c + 1)) hk hj
    (fun i hi => by
      rw [bkUp_old]
      have g1 := cntL_up (d := dk L k) hc (i : Int)
      have g2 := sumL_up (d := dk L k) hc (i : Int)
      rw [if_neg (by omega)] at g1 g2
      exact ⟨g1, g2⟩)
    (by rw [bkUp_old]; omega) (by rw [bkUp_old]; omega) (by omega) (by omega) W' hW)
  rw [bkUp_next] at kC
  clear hP hA x1 x2 o1 o2 o3 o4
  go_enter Try.func34, Try.ntmps34
  go_wp2_with fail
  refine (unhide kC _ (unhide H1)).mono ?_
  rintro e w2 ⟨⟨_, rfl⟩, hP2, hA2⟩
  have R2 : Hid (UpSt S w0 n L a cap g o V c f (k + 1) w2) := ⟨hP2, (unhide A1).trans hA2⟩
  clear hP2 hA2 H1 A1 kC y1 y2 d1 d2 x3 x4
  go_wp2_with fail
  go_end0
  exact ⟨⟨_, rfl⟩, unhide R2⟩

theorem Peel.allExt {S : Nat → Prop} {w : World} {n : Nat} {L : List (Int × Int)} {a : Option Addr} {cap g o : Nat} {V : PV} {bo : Nat → Bool} {v : Value} {m : Nat} {f : Nat → Nat × Nat} (h : Peel S w n L a cap g o V bo (fun _ => ltB (n * n)) v m f) : Peel S w n L a cap g o V bo (fun _ _ => true) v m f :=
  ⟨h.heap, mem_ext h.mem (fun r hr i _ => by
    match r with
    | 0 => rfl
    | 1 => rfl
    | 2 => rfl
    | r + 3 =>
      show (if i % 2 = 0 then Value.int .i64 (cntL n (dk L r) (ltB (n * n)) ((i / 2 : Nat) : Int) : Nat) else Value.int .i64 (sumL n (dk L r) (ltB (n * n)) ((i / 2 : Nat) : Int) : Nat)) = (if i % 2 = 0 then Value.int .i64 (cntL n (dk L r) (fun _ => true) ((i / 2 : Nat) : Int) : Nat) else Value.int .i64 (sumL n (dk L r) (fun _ => true) ((i / 2 : Nat) : Int) : Nat))
      rw [cntL_all, sumL_all]), h.apB, h.apQ, h.sB, h.sR, h.sQ, h.sS, h.atF, h.atL, h.dirs, h.dS⟩

/-- Not looked at yet. -/
def later (k j : Nat) (x : Nat × Nat) : Prop := ¬ (x.1 < k ∨ (x.1 = k ∧ x.2 < j))
section
variable {n : Nat} {L : List (Int × Int)} {bk : Nat → Nat → Bool} {k j : Nat} {f f' : Nat → Nat × Nat} {m m' : Nat}
theorem QOk.look (h : QOk n L bk f m (later k j)) (hk : k < L.length) (hj : j < binN n (dk L k)) (hr : (cntL n (dk L k) (bk k) (j : Int) = 1 ∧ m' = m + 1 ∧ ∀ y, InQ f' (m + 1) y ↔ y = (k, j) ∨ InQ f m y) ∨ (cntL n (dk L k) (bk k) (j : Int) ≠ 1 ∧ m' = m ∧ f' = f)) : QOk n L bk f' m' (later k (j + 1)) := by
  rcases hr with ⟨h1, rfl, h2⟩ | ⟨h1, rfl, rfl⟩
  · refine ⟨fun x hx => ?_, fun x hx hx1 => ?_⟩
    · rcases (h2 x).1 hx with rfl | hx
      · exact ⟨⟨hk, hj⟩, by dsimp only; omega⟩
      · exact h.ok x hx
    · by_cases e : x = (k, j)
      · exact Or.inl ((h2 x).2 (Or.inl e))
      · rcases h.all x hx hx1 with hq | hq
        · exact Or.inl ((h2 x).2 (Or.inr hq))
        · refine Or.inr fun hh => hq ?_
          rcases hh with hh | ⟨e1, e2⟩
          · exact Or.inl hh
          · refine Or.inr ⟨e1, ?_⟩
            have : x.2 ≠ j := fun e2 => e (Prod.ext e1 e2)
            omega
  · refine ⟨h.ok, fun x hx hx1 => ?_⟩
    rcases h.all x hx hx1 with hq | hq
    · exact Or.inl hq
    · refine Or.inr fun hh => hq ?_
      rcases hh with hh | ⟨e1, e2⟩
      · exact Or.inl hh
      · refine Or.inr ⟨e1, ?_⟩
        have : x.2 ≠ j := fun e2 => h1 (by rw [← e1, ← e2]; exact hx1)
        omega
theorem QOk.row (h : QOk n L bk f m (later k (binN n (dk L k)))) : QOk n L bk f m (later (k + 1) 0) := by
  refine ⟨h.ok, fun x hx hx1 => ?_⟩
  rcases h.all x hx hx1 with hq | hq
  · exact Or.inl hq
  · refine Or.inr fun hh => hq ?_
    rcases hh with hh | ⟨_, e2⟩
    · by_cases e : x.1 = k
      · exact Or.inr ⟨e, by have := hx.2; rw [e] at this; exact this⟩
      · exact Or.inl (by omega)
    · omega
theorem QOk.full (h : QOk n L bk f m (later L.length 0)) : QOk n L bk f m (fun _ => False) := by
  refine ⟨h.ok, fun x hx hx1 => ?_⟩
  rcases h.all x hx hx1 with hq | hq
  · exact Or.inl hq
  · exact (hq (Or.inl hx.1)).elim
theorem QOk.none : QOk n L bk f 0 (later 0 0) := ⟨fun x hx => by obtain ⟨i, hi, _⟩ := hx; omega, fun x _ _ => Or.inr fun hh => by rcases hh with hh | ⟨_, hh⟩ <;> omega⟩
end
end Go.Proofs.Ytgbkfmjkemkajab
