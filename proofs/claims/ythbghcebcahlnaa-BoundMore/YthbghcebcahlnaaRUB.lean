/- bound.Run of a grid's own projections: all that may come. -/
import Derived.Test.YthbghcebcahlnaaRUA
namespace Go.Proofs.Ythbghcebcahlnaa
open Go.RowKit Go.Shelf

theorem lk_all (n : Int) (ps : List PD) : lk n ps ps.length 0 = ps.flatMap (allS' n) := by
  unfold lk
  rw [List.take_length]
  simp
theorem allS_len (n : Int) (p : PD) : (allS' n p).length = p.nb := by simp [allS']
theorem flat_len (n : Int) : ∀ ps : List PD, (∀ p, p ∈ ps → p.nb ≤ 512) → (ps.flatMap (allS' n)).length ≤ ps.length * 512
  | [], _ => by simp
  | p :: r, h => by
    have ih := flat_len n r fun q hq => h q (by simp [hq])
    have := h p (by simp)
    rw [List.flatMap_cons, List.length_append, allS_len, List.length_cons]
    omega
theorem pd_mem {ps : List PD} {p : PD} (h : p ∈ ps) : ∃ i, i < ps.length ∧ ps.getD i p0 = p := by
  obtain ⟨i, hi, rfl⟩ := List.getElem_of_mem h
  exact ⟨i, hi, by rw [List.getD_eq_getElem?_getD, List.getElem?_eq_getElem hi]; rfl⟩
theorem Own.fit {M : Nat} {g : Nat → Int} {x : List Nat × Int} (h : Own M g x) : Fit M x :=
  ⟨fun k hk => h.ins _ (getD_mem hk), by have := h.len; omega, fun h0 => by
    have := h.sum
    rw [List.length_eq_zero_iff.1 h0] at this
    exact this.symm⟩
/-- What Run leaves. -/
def RunPost (n : Nat) (ps : List PD) (A B : List Int) (g : Nat → Int) (w : World) (e : Ending) (w' : World) : Prop :=
  (e = .returned (.tuple #[.slice none 0 0, .slice none 0 0, .int .i64 112]) ∨ ∃ gl cl gh ch lo hi, e = .returned (.tuple #[.slice (some ⟨gl, 0, none⟩) A.length cl, .slice (some ⟨gh, 0, none⟩) A.length ch, .int .i64 0]) ∧
    IRow w' gl A.length lo ∧ IRow w' gh A.length hi ∧ Great A.length (lk n ps ps.length 0) (fun i => A.getD i 0) (fun i => B.getD i 0) lo hi ∧ Abt A.length g lo hi) ∧ Below w.heap.size w w'
theorem runOwn {n gq cq : Nat} {ps : List PD} {u v : Value} {A B : List Int} {g : Nat → Int} (h1 : 1 ≤ n) (h2 : n ≤ 16) (hl : levs n A B = true) (hd : ∀ i, i < ps.length → Dir64 (ps.getD i p0).d ∧ binsS n (ps.getD i p0).d = (((ps.getD i p0).nb : Int), 0) ∧ 1 ≤ (ps.getD i p0).nb)
    (hz : ∀ i j, i < ps.length → j < (ps.getD i p0).nb → ∀ W : World, Calls (barP Try.prog) 69 #[.complex .f64 ((ps.getD i p0).z j).1 ((ps.getD i p0).z j).2] W fun e W' => e = .returned (.bool false) ∧ Below W.heap.size W W')
    (hSo : Sound n ps) (hO : Owns A.length g (lk n ps ps.length 0)) (hA : Abt A.length g (fun i => A.getD i 0) (fun i => B.getD i 0))
    (w : World) (hu : Ints w u A) (hv : Ints w v B) (hp : ProjsAt w gq ps) :
    Calls (barP Try.prog) 9 #[.int .i64 n, .slice (some ⟨gq, 0, none⟩) ps.length cq, u, v] w (RunPost n ps A B g w) := by
  by_cases e0 : ps.length = 0
  · obtain rfl := List.length_eq_zero_iff.1 e0
    refine (runZero (cq := cq) h1 h2 hl (fun i hi => by have := hA i hi; dsimp only at this; omega) w hu hv hp.lt).mono ?_
    rintro e w' ⟨gl, cl, gh, ch, rfl, r1, r2, hb⟩
    refine ⟨.inr ⟨gl, cl, gh, ch, _, _, rfl, r1, r2, ⟨fun L hL => ?_, fun i _ => ⟨Int.le_refl _, Int.le_refl _⟩, fun l h _ hw => hw⟩, hA⟩, hb⟩
    rw [lk_all] at hL
    simp at hL
  · have hx1 : 1 ≤ (lk n ps ps.length 0).length := by
      have hm := (hd 0 (by omega)).2.2
      rw [lk_all]
      match ps, e0, hm with
      | p :: r, _, hm =>
        rw [List.flatMap_cons, List.length_append, allS_len]
        have : 1 ≤ p.nb := hm
        omega
    have hx2 : (lk n ps ps.length 0).length ≤ 100000 := by
      rw [lk_all]
      have := flat_len n ps fun p hp => by
        obtain ⟨i, hi, rfl⟩ := pd_mem hp
        exact (hSo.bins i hi).1
      have := hSo.few
      omega
    have hd' : ∀ i, i < ps.length → Dir64 (ps.getD i p0).d ∧ binsS n (ps.getD i p0).d = (((ps.getD i p0).nb : Int), 0) ∧ (ps.getD i p0).nb ≤ 2017 := fun i hi => ⟨(hd i hi).1, (hd i hi).2.1, by have := (hSo.bins i hi).1; omega⟩
    have hc : ∀ i, i < A.length → (stK (lk n ps ps.length 0) (fun i => A.getD i 0) (fun i => B.getD i 0) 0).lo i ≤ (stK (lk n ps ps.length 0) (fun i => A.getD i 0) (fun i => B.getD i 0) 0).hi i := fun i hi => by
      have := hA i hi
      show A.getD i 0 ≤ B.getD i 0
      dsimp only at this
      omega
    rcases sweeps_own hO hA with ⟨T, hT, hS, hG, hA2⟩ | hS
    · refine (runOk (cq := cq) h1 h2 hl hSo.few hd' hz hSo hx1 hx2 (fun x hx => (hO x hx).fit) hT hS rfl rfl hc w hu hv hp).mono ?_
      rintro e w' ⟨gl, cl, gh, ch, rfl, r1, r2, hb⟩
      exact ⟨.inr ⟨gl, cl, gh, ch, _, _, rfl, r1, r2, hG, hA2⟩, hb⟩
    · refine (runFew (cq := cq) h1 h2 hl hSo.few hd' hz hSo hx1 hx2 (fun x hx => (hO x hx).fit) hS rfl rfl hc w hu hv hp).mono ?_
      rintro e w' ⟨rfl, hb⟩
      exact ⟨.inl rfl, hb⟩
end Go.Proofs.Ythbghcebcahlnaa
