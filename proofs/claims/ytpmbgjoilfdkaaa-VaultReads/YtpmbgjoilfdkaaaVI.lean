/- A list of slices in memory. -/
import Derived.Test.YtpmbgjoilfdkaaaVH
namespace Go.Proofs.Ytpmbgjoilfdkaaa
open Go.RowKit Fl Ieee

def gL (S : Nat → Sli) (G : Nat → Nat × Nat) : Nat → List Value
  | 0 => []
  | c + 1 => gL S G c ++ [.int .i64 ((S c).1 : Nat), .slice (some ⟨(G c).1, 0, none⟩) ((S c).1 * (S c).1) (G c).2]
theorem gL_len (S : Nat → Sli) (G : Nat → Nat × Nat) : ∀ c, (gL S G c).length = c * 2
  | 0 => rfl
  | c + 1 => by rw [gL, List.length_append, gL_len S G c]; simp; omega
theorem gL_at (S : Nat → Sli) (G : Nat → Nat × Nat) {i : Nat} : ∀ {c}, i < c → (gL S G c)[i * 2]? = some (.int .i64 ((S i).1 : Nat)) ∧ (gL S G c)[i * 2 + 1]? = some (.slice (some ⟨(G i).1, 0, none⟩) ((S i).1 * (S i).1) (G i).2)
  | 0, h => absurd h (Nat.not_lt_zero i)
  | c + 1, h => by
    have hl := gL_len S G c
    rw [gL]
    by_cases e : i = c
    · subst e
      rw [List.getElem?_append_right (by omega), List.getElem?_append_right (by omega), hl, Nat.sub_self, Nat.add_sub_cancel_left]
      exact ⟨rfl, rfl⟩
    · rw [List.getElem?_append_left (by omega), List.getElem?_append_left (by omega)]
      exact gL_at S G (by omega)
theorem gL_congr {S S' : Nat → Sli} {G G' : Nat → Nat × Nat} : ∀ {c}, (∀ i, i < c → S' i = S i ∧ G' i = G i) → gL S' G' c = gL S G c
  | 0, _ => rfl
  | c + 1, h => by
    obtain ⟨h1, h2⟩ := h c (Nat.lt_succ_self c)
    rw [gL, gL, gL_congr (fun i hi => h i (by omega)), h1, h2]

structure Grids (w : World) (base : Nat) (v : Value) (c : Nat) (S : Nat → Sli) (G : Nat → Nat × Nat) : Prop where
  own : w.ownsRow base 30 2 v c (gL S G c)
  row : ∀ i, i < c → Row w (G i).1 ((S i).1 * (S i).1) (S i).2
  ge : ∀ i, i < c → base ≤ (G i).1
  sz : ∀ i, i < c → 1 ≤ (S i).1 ∧ (S i).1 ≤ 64 ∧ Bits (S i).1 (S i).2

theorem own_keep {w w' : World} {B n size : Nat} {e : TypeId} {v : Value} {xs : List Value} (h : w.ownsRow B e size v n xs) (hb : Below w.heap.size w w') : w'.ownsRow B e size v n xs := by
  have hl := h.lt
  refine ⟨h.1, ?_⟩
  rcases h.2 with h1 | ⟨g, cap, cur, h1, h2, h3, h4⟩
  · exact .inl h1
  · refine .inr ⟨g, cap, cur, h1, h2, ?_, h4⟩
    rw [hb.block g (hl g (by rw [h1]; rfl)).2]
    exact h3
theorem grids_keep {w w' : World} {B c : Nat} {v : Value} {S : Nat → Sli} {G : Nat → Nat × Nat} (h : Grids w B v c S G) (hb : Below w.heap.size w w') : Grids w' B v c S G :=
  ⟨own_keep h.own hb, fun i hi => row_below (h.row i hi) hb (row_lt (h.row i hi)), h.ge, h.sz⟩
theorem grids_nil (w : World) (B : Nat) (S : Nat → Sli) (G : Nat → Nat × Nat) : Grids w B (.slice none 0 0) 0 S G :=
  ⟨World.ownsRow_nil _ _ _ _, fun i hi => absurd hi (Nat.not_lt_zero i), fun i hi => absurd hi (Nat.not_lt_zero i), fun i hi => absurd hi (Nat.not_lt_zero i)⟩
theorem grids_cell {w : World} {B c cap : Nat} {a : Option Addr} {S : Nat → Sli} {G : Nat → Nat × Nat} (h : Grids w B (.slice a c cap) c S G) {i : Nat} (hi : i < c) :
    ∃ g, a = some ⟨g, 0, none⟩ ∧ B ≤ g ∧ g < w.heap.size ∧ w.cell? ⟨g, i * 2, none⟩ = some (.int .i64 ((S i).1 : Nat)) ∧ w.cell? ⟨g, i * 2 + 1, none⟩ = some (.slice (some ⟨(G i).1, 0, none⟩) ((S i).1 * (S i).1) (G i).2) := by
  have hown := h.own
  rcases h.own.2 with ⟨h1, h2⟩ | ⟨g, cap', cur, h1, h2, h3, h4⟩
  · omega
  · simp only [Value.slice.injEq, true_and] at h1
    obtain ⟨rfl, rfl⟩ := h1
    obtain ⟨e1, e2⟩ := gL_at S G hi
    refine ⟨g, rfl, h2, (Array.getElem?_eq_some_iff.1 h3).1, ?_, ?_⟩
    · rw [hown.cellAt _ (by omega)]
      exact e1
    · rw [hown.cellAt _ (by omega)]
      exact e2
theorem grids_last {w : World} {B c cap : Nat} {a : Option Addr} {S : Nat → Sli} {G : Nat → Nat × Nat} (h : Grids w B (.slice a c cap) c S G) (hc : c ≤ 64) : LastAt w a c (prevOf S c) := by
  cases c with
  | zero => exact .inl ⟨rfl, rfl⟩
  | succ k =>
    obtain ⟨g, e, _, h2, h3, h4⟩ := grids_cell h (Nat.lt_succ_self k)
    obtain ⟨s1, s2, s3⟩ := h.sz k (Nat.lt_succ_self k)
    exact .inr ⟨g, k, (S k).1, (S k).2, (G k).1, (G k).2, e, rfl, by omega, rfl, h3, h4, h2, h.row k (Nat.lt_succ_self k), s1, s2, s3⟩

def setS {α : Type} (S : Nat → α) (c : Nat) (s : α) : Nat → α := fun i => if i = c then s else S i
theorem setS_ne {α : Type} {S : Nat → α} {c i : Nat} {s : α} (h : i ≠ c) : setS S c s i = S i := by unfold setS; rw [if_neg h]
theorem setS_eq {α : Type} {S : Nat → α} {c : Nat} {s : α} : setS S c s c = s := by unfold setS; rw [if_pos rfl]
theorem gL_set (S : Nat → Sli) (G : Nat → Nat × Nat) (c : Nat) (s : Sli) (g : Nat × Nat) : gL (setS S c s) (setS G c g) (c + 1) = gL S G c ++ [.int .i64 (s.1 : Nat), .slice (some ⟨g.1, 0, none⟩) (s.1 * s.1) g.2] := by
  rw [gL, gL_congr (S := S) (G := G) fun i hi => ⟨setS_ne (by omega), setS_ne (by omega)⟩, setS_eq, setS_eq]
theorem grids_push {w w2 : World} {B c : Nat} {v v' : Value} {S : Nat → Sli} {G : Nat → Nat × Nat} {n gz cz : Nat} {f : Nat → Nat × Nat} (h : Grids w B v c S G) (hR : Row w gz (n * n) f) (hz : B ≤ gz) (hs : 1 ≤ n ∧ n ≤ 64 ∧ Bits n f)
    (hown : w2.ownsRow B 30 2 v' (c + 1) (gL S G c ++ [.int .i64 (n : Nat), .slice (some ⟨gz, 0, none⟩) (n * n) cz])) (hg : w.grownBy w2 v.ownBlock) :
    Grids w2 B v' (c + 1) (setS S c (n, f)) (setS G c (gz, cz)) := by
  have ne : ∀ {g m : Nat} {q : Nat → Nat × Nat}, Row w g m q → some g ≠ v.ownBlock := by
    intro g m q hr e
    rcases h.own.2 with ⟨h1, _⟩ | ⟨g', cap', cur, h1, h2, h3, _⟩
    · rw [h1] at e
      cases e
    · rw [h1] at e
      cases e
      obtain ⟨cur', h4, _⟩ := hr
      rw [h3] at h4
      cases h4
  refine ⟨?_, fun i hi => ?_, fun i hi => ?_, fun i hi => ?_⟩
  · rw [gL_set]
    exact hown
  · by_cases e : i = c
    · subst e
      rw [setS_eq, setS_eq]
      exact row_grown hR hg (ne hR)
    · rw [setS_ne e, setS_ne e]
      have hr := h.row i (by omega)
      exact row_grown hr hg (ne hr)
  · by_cases e : i = c
    · subst e
      rw [setS_eq]
      exact hz
    · rw [setS_ne e]
      exact h.ge i (by omega)
  · by_cases e : i = c
    · subst e
      rw [setS_eq]
      exact hs
    · rw [setS_ne e]
      exact h.sz i (by omega)
theorem two_news {W : World} (x y : Value) (t : TypeId) : ∀ j u, [x, y][j]? = some u → (W.alloc (.cells #[x, y] t)).cell? ((⟨W.heap.size, 0, none⟩ : Addr).add j) = some u := by
  intro j u h
  obtain ⟨e1, e2, _, _⟩ := cells_two (W := W.alloc (.cells #[x, y] t)) (heap_alloc_new W _)
  rw [addr_addo, Nat.zero_add]
  match j, h with
  | 0, h => cases h; exact e1
  | 1, h => cases h; exact e2
theorem infoG3 : (Try.prog.info? 30).map (fun i => (i.zero, i.size, i.bytes)) = some (some (.agg #[.int .i64 0, .slice none 0 0]), 2, 32) := by kernel_rfl
end Go.Proofs.Ytpmbgjoilfdkaaa
