/- Any bytes are read, or refused, as the document says: the walk. -/
import Derived.Test.YtpmbgjoilfdkaaaKH
import Derived.Laws.AppendOwnNone
namespace Go.Proofs.Ytpmbgjoilfdkaaa
open Go.RowKit Fl Ieee

theorem run_strAny {w : World} {a : Option Addr} {g o cap : Nat} {L : List Nat} (h : BAt w a g o L) : (convert 22 9 (.slice a L.length cap)).run Try.prog w = .ok (.string (strB L)) w := by
  by_cases c : 0 < L.length
  · obtain ⟨rfl, _⟩ := h.at_ c
    exact run_str h.cell
  · have e : L = [] := List.eq_nil_of_length_eq_zero (by omega)
    subst e
    rw [run_convert_bytes_string w _ _ 5 _ _ _ Try.underlying22 Try.underlying5 Try.underlying9]
    cases a with
    | none => rfl
    | some ad => rfl

theorem bat_own {w : World} {B : Nat} {v : Value} {L : List Nat} (h : w.ownsRow B 5 1 v L.length (bL L)) (hl : ∀ i, L.getD i 0 < 256) : ∃ a c g, v = .slice a L.length c ∧ L.length ≤ c ∧ BAt w a g 0 L ∧ (0 < L.length → B ≤ g) := by
  rcases h.2 with ⟨h1, h2⟩ | ⟨g, cap, cur, h1, h2, h3, h4, h5⟩
  · refine ⟨none, 0, 0, ?_, by omega, ⟨hl, fun c => by omega, fun i hi => by omega⟩, fun c => by omega⟩
    rw [h1, h2]
  · subst h1
    refine ⟨_, cap, g, rfl, by omega, ⟨hl, fun _ => ⟨rfl, (Array.getElem?_eq_some_iff.1 h3).1⟩, fun i hi => own_cellsB h i hi⟩, fun _ => h2⟩

theorem news_bytes {w : World} {a : Option Addr} {g o : Nat} {L : List Nat} (h : BAt w a g o L) {ad : Addr} (ha : a = some ad) : ∀ j u, (bL L)[j]? = some u → w.cell? (ad.add j) = some u := by
  intro j u hj
  have hl : j < L.length := by
    have := (List.getElem?_eq_some_iff.1 hj).1
    unfold bL at this
    simpa using this
  obtain ⟨e, _⟩ := h.at_ (by omega)
  rw [ha] at e
  obtain rfl := Option.some.inj e
  rw [addr_addo, h.cell j hl, ← hj]
  unfold bL bV
  simp [hl]
theorem bL_one (L : List Nat) : ∀ u ∈ bL L, u.oneCell' = true := fun u hu => by
  unfold bL bV at hu
  simp at hu
  obtain ⟨x, _, rfl⟩ := hu
  rfl
theorem bL_len (L : List Nat) : (bL L).length = L.length := by unfold bL; simp

/-- What Unpack answers. -/
def Ans (L : List Nat) (w w' : World) (r : Value) (e : Int) : Prop := (∃ f gz cz, Good L f ∧ r = fieldV (side L) gz (side L * side L) cz ∧ e = 0 ∧ Row w' gz (side L * side L) f ∧ w.heap.size ≤ gz) ∨ ((∀ f, ¬ Good L f) ∧ r = noneV ∧ e = 210)
theorem unp_ans {fn : Nat} (hU : UnpOk fn) {a : Option Addr} {g o c : Nat} {L : List Nat} (w : World) (hc : L.length ≤ c) (hbig : L.length ≤ 140737488355328) (h : BAt w a g o L) : Calls Try.prog fn #[.slice a L.length c] w fun r w' => ∃ (n : Int) (b : Option Addr) (l k : Nat) (e : Int), r = .returned (.tuple #[.agg #[.int .i64 n, .slice b l k], .int .i64 e]) ∧ Ans L w w' (.agg #[.int .i64 n, .slice b l k]) e ∧ Below w.heap.size w w' := by
  refine (hU a g o c L w hc hbig h).mono ?_
  rintro r w' ⟨⟨f, gz, cz, hg, rfl, hR, hs⟩ | ⟨hn, rfl⟩, hb⟩
  · exact ⟨_, _, _, _, 0, rfl, .inl ⟨f, gz, cz, hg, rfl, rfl, hR, hs⟩, hb⟩
  · exact ⟨_, _, _, _, 210, rfl, .inr ⟨hn, rfl, rfl⟩, hb⟩

/-- Two that answer alike. -/
theorem ans_same {L : List Nat} {w1 w2 w3 w4 W : World} {r r' : Value} {e e' : Int} (h1 : Ans L w1 w2 r e) (h2 : Ans L w3 w4 r' e') (hb1 : Below w2.heap.size w2 W) (hb2 : Below w4.heap.size w4 W) (hh : Head L → side L ≤ 64) :
    e = e' ∧ Calls Try.prog 12 #[r, r'] W fun x w' => x = .returned (.bool true) ∧ Below W.heap.size W w' := by
  rcases h1 with ⟨f, gz, cz, hg, rfl, rfl, hR, _⟩ | ⟨hn, rfl, rfl⟩
  · rcases h2 with ⟨f', gz', cz', hg', rfl, rfl, hR', _⟩ | ⟨hn', _, _⟩
    · have hm : side L * side L ≤ 4096 := Nat.mul_le_mul (hh hg.1) (hh hg.1)
      exact ⟨rfl, sameRows hm (good_same hg hg'.2.1) W (row_below hR hb1 (row_lt hR)) (row_below hR' hb2 (row_lt hR'))⟩
    · exact absurd hg (hn' f)
  · rcases h2 with ⟨f', _, _, hg', _⟩ | ⟨_, rfl, rfl⟩
    · exact absurd hg' (hn f')
    · exact ⟨rfl, sameNone W⟩

end Go.Proofs.Ytpmbgjoilfdkaaa
