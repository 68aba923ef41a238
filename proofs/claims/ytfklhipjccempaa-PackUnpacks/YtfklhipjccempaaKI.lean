/- Any bytes are read, or refused, as the document says: the walk. -/
import Derived.Test.YtfklhipjccempaaKH
import Derived.Laws.AppendOwnNone
namespace Go.Proofs.Ytfklhipjccempaa
open Go.RowKit Fl Ieee

theorem run_strAny {w : World} {a : Option Addr} {g o cap : Nat} {L : List Nat} (h : BAt w a g o L) : (convert 22 9 (.slice a L.length cap)).run Try.prog w = .ok (.string (strB L)) w := by
  by_cases c : 0 < L.length
  · obtain ⟨rfl, _⟩ := h.at_ c
    exact run_str h.cell
  · have e : L = [] := List.eq_nil_of_length_eq_zero (by omega)
    subst e
    rw [run_convert_bytes_string w _ _ 5 _ _ _ Try.underlying22 Try.underlying5 Try.underlying9]
    cases a with
    | none => rfl
    | some ad => rfl

theorem bat_own {w : World} {B : Nat} {v : Value} {L : List Nat} (h : w.ownsRow B 5 1 v L.length (bL L)) (hl : ∀ i, L.getD i 0 < 256) : ∃ a c g, v = .slice a L.length c ∧ L.length ≤ c ∧ BAt w a g 0 L ∧ (0 < L.length → B ≤ g) := by
  rcases h.2 with ⟨h1, h2⟩ | ⟨g, cap, cur, h1, h2, h3, h4, h5⟩
  · refine ⟨none, 0, 0, ?_, by omega, ⟨hl, fun c => by omega, fun i hi => by omega⟩, fun c => by omega⟩
    rw [h1, h2]
  · subst h1
    refine ⟨_, cap, g, rfl, by omega, ⟨hl, fun _ => ⟨rfl, (Array.getElem?_eq_some_iff.1 h3).1⟩, fun i hi => own_cellsB h i hi⟩, fun _ => h2⟩

theorem news_bytes {w : World} {a : Option Addr} {g o : Nat} {L : List Nat} (h : BAt w a g o L) {ad : Addr} (ha : a = some ad) : ∀ j u, (bL L)[j]? = some u → w.cell? (ad.add j) = some u := by
  intro j u hj
  have hl : j < L.length := by
    have := (List.getElem?_eq_some_iff.1 hj).1
    unfold bL at this
    simpa using this
  obtain ⟨e, _⟩ := h.at_ (by omega)
  rw [ha] at e
  obtain rfl := Option.some.inj e
  rw [addr_addo, h.cell j hl, ← hj]
  unfold bL bV
  simp [hl]
theorem bL_one (L : List Nat) : ∀ u ∈ bL L, u.oneCell' = true := fun u hu => by
  unfold bL bV at hu
  simp at hu
  obtain ⟨x, _, rfl⟩ := hu
  rfl
theorem bL_len (L : List Nat) : (bL L).length = L.length := by unfold bL; simp

/-- What Unpack answers. -/
def Ans (L : List Nat) (w w' : World) (r : Value) (e : Int) : Prop := (∃ f gz cz, Good L f ∧ r = fieldV (side L) gz (side L * side L) cz ∧ e = 0 ∧ Row w' gz (side L * side L) f ∧ w.heap.size ≤ gz) ∨ ((∀ f, ¬ Good L f) ∧ r = noneV ∧ e = 210)
theorem unp_ans {fn : Nat} (hU : UnpOk fn) {a : Option Addr} {g o c : Nat} {L : List Nat} (w : World) (hc : L.length ≤ c) (hbig : L.length ≤ 140737488355328) (h : BAt w a g o L) : Calls Try.prog fn #[.slice a L.length c] w fun r w' => ∃ (n : Int) (b : Option Addr) (l k : Nat) (e : Int), r = .returned (.tuple #[.agg #[.int .i64 n, .slice b l k], .int .i64 e]) ∧ Ans L w w' (.agg #[.int .i64 n, .slice b l k]) e ∧ Below w.heap.size w w' := by
  refine (hU a g o c L w hc hbig h).mono ?_
  rintro r w' ⟨⟨f, gz, cz, hg, rfl, hR, hs⟩ | ⟨hn, rfl⟩, hb⟩
  · exact ⟨_, _, _, _, 0, rfl, .inl ⟨f, gz, cz, hg, rfl, rfl, hR, hs⟩, hb⟩
  · exact ⟨_, _, _, _, 210, rfl, .inr ⟨hn, rfl, rfl⟩, hb⟩

/-- Two that answer alike. -/
theorem ans_same {L : List Nat} {w1 w2 w3 w4 W : World} {r r' : Value} {e e' : Int} (h1 : Ans L w1 w2 r e) (h2 : Ans L w3 w4 r' e') (hb1 : Below w2.heap.size w2 W) (hb2 : Below w4.heap.size w4 W) (hh : Head L → side L ≤ 64) :
    e = e' ∧ Calls Try.prog 7 #[r, r'] W fun x w' => x = .returned (.bool true) ∧ Below W.heap.size W w' := by
  rcases h1 with ⟨f, gz, cz, hg, rfl, rfl, hR, _⟩ | ⟨hn, rfl, rfl⟩
  · rcases h2 with ⟨f', gz', cz', hg', rfl, rfl, hR', _⟩ | ⟨hn', _, _⟩
    · have hm : side L * side L ≤ 4096 := Nat.mul_le_mul (hh hg.1) (hh hg.1)
      exact ⟨rfl, sameRows hm (good_same hg hg'.2.1) W (row_below hR hb1 (row_lt hR)) (row_below hR' hb2 (row_lt hR'))⟩
    · exact absurd hg (hn' f)
  · rcases h2 with ⟨f', _, _, hg', _⟩ | ⟨_, rfl, rfl⟩
    · exact absurd hg' (hn f')
    · exact ⟨rfl, sameNone W⟩

set_option maxRecDepth 100000 in
set_option maxHeartbeats 6400000 in
theorem unpacksWalk (hU : UnpOk 5) {a : Option Addr} {g o cap : Nat} {L : List Nat} (hlen : L.length ≤ 140737488355328) (w : World) (h : BAt w a g o L) (hnil : a = none → cap = 0) (hcap : L.length ≤ cap)
    (hal : Calls Try.prog 4 #[] w fun e w' => e = .returned (.bool true) ∧ Below w.heap.size w w') :
    Calls Try.prog 3 #[.slice a L.length cap] w fun e w' => e = .returned (.bool true) ∧ Below w.heap.size w w' := by
  obtain ⟨i0, hi0, hz0, hz1, hz2⟩ := info_parts infoB
  have kA := hide hal
  have H := hide h
  have hL := hide (bL_len L)
  have hN := hide hnil
  have hCAP := hide hcap
  clear hal h hnil hcap
  go_enter Try.func3, Try.ntmps3
  go_wp2_with fail
  refine (unhide kA).mono ?_
  rintro e w1 ⟨rfl, hb1⟩
  have B1 := hide hb1
  have H1 := hide (bat_keep (unhide H) hb1)
  clear hb1 kA
  have hown0 := hide (World.ownsRow_lit (base := w1.heap.size) (e := 5) (size := 1) w1 #[] 0 (Nat.le_refl _) (Nat.zero_le _) rfl)
  cases a with
  | none =>
    have hl0 : L.length = 0 := by
      by_cases c : 0 < L.length
      · have := ((unhide H1).at_ c).1
        cases this
      · omega
    obtain rfl := unhide hN rfl
    have eL : L = [] := List.eq_nil_of_length_eq_zero hl0
    subst eL
    go_wp2_with (first
      | (at_builtin; refine wpList_append_own_none rfl (.tmp 10) (.tmp 11) 22 rfl w1.heap.size 5 i0 1 Try.underlying22 hi0 _ 0 _ rfl (unhide hown0) rfl ?_))
    have bw : Below w1.heap.size w1 (w1.alloc (.cells #[] 5)) := (Below.refl _ _).alloc (Nat.le_refl _) _
    have hown' := unhide hown0
    clear hown0 hL
    generalize w1.alloc (.cells #[] 5) = w2 at *
    generalize Value.slice (some ⟨w1.heap.size, 0, none⟩) 0 0 = v' at *
    have hown' : w2.ownsRow w1.heap.size 5 1 v' ([] : List Nat).length (bL []) := hown'
    obtain ⟨a2, c2, g2, rfl, hc2, hb2, _⟩ := bat_own hown' (unhide H1).lt
    have C2 := hide hc2
    clear hc2
    have B2 := hide ((unhide B1).trans (bw.mono (unhide B1).size))
    have H2 := hide (bat_keep (unhide H1) bw)
    have G2 := hide hb2
    clear hb2 hown' H1 B1 bw
    go_wp2_with fail
    refine (unp_ans hU (c := c2) w2 (unhide C2) hlen (unhide G2)).mono ?_
    rintro e w3 ⟨n3, p3, l3, k3, e3, rfl, A3, hb3⟩
    have B3 := hide ((unhide B2).trans (hb3.mono (unhide B2).size))
    have H3 := hide (bat_keep (unhide H2) hb3)
    have G3 := hide (bat_keep (unhide G2) hb3)
    have A3 := hide A3
    clear hb3 G2 H2 B2
    go_wp2_with fail
    have ba : Below w3.heap.size w3 (w3.alloc (.cells #[.int .i64 n3, .slice p3 l3 k3] 26)) := (Below.refl _ _).alloc (Nat.le_refl _) _
    refine (unp_ans refUnpack (c := 0) (w3.alloc (.cells #[.int .i64 n3, .slice p3 l3 k3] 26)) (Nat.le_refl _) hlen (bat_keep (unhide H3) ba)).mono ?_
    rintro e w4 ⟨n4, p4, l4, k4, e4, rfl, A4, hb4⟩
    have hsz : w3.heap.size < w4.heap.size := by have := hb4.size; rw [World.size_alloc] at this; omega
    have bb : Below w4.heap.size w4 (w4.alloc (.cells #[.int .i64 n4, .slice p4 l4 k4] 26)) := (Below.refl _ _).alloc (Nat.le_refl _) _
    have b34 : Below w3.heap.size w3 (w4.alloc (.cells #[.int .i64 n4, .slice p4 l4 k4] 26)) := (ba.trans (hb4.mono (by rw [World.size_alloc]; omega))).trans (bb.mono (by omega))
    obtain ⟨rfl, kS⟩ := ans_same (unhide A3) A4 b34 bb (fun hh => hh.hi)
    have z4 : w4.heap[w3.heap.size]? = some (.cells #[.int .i64 n3, .slice p3 l3 k3] 26) := by
      rw [hb4.block _ (by rw [World.size_alloc]; omega)]
      exact heap_alloc_new w3 _
    have c30 : w4.cell? ⟨w3.heap.size, 0, none⟩ = some (.int .i64 n3) := by simp [World.cell?, z4]
    have c31 : w4.cell? ⟨w3.heap.size, 1, none⟩ = some (.slice p3 l3 k3) := by simp [World.cell?, z4]
    have c30' : (w4.alloc (.cells #[.int .i64 n4, .slice p4 l4 k4] 26)).cell? ⟨w3.heap.size, 0, none⟩ = some (.int .i64 n3) := (World.cell?_of_block (Below.heap_alloc w4 _ _ hsz)).trans c30
    have c31' : (w4.alloc (.cells #[.int .i64 n4, .slice p4 l4 k4] 26)).cell? ⟨w3.heap.size, 1, none⟩ = some (.slice p3 l3 k3) := (World.cell?_of_block (Below.heap_alloc w4 _ _ hsz)).trans c31
    have KS := hide kS
    have B4 := hide ((unhide B3).trans (b34.mono (unhide B3).size))
    have H4 := hide (bat_keep (unhide H3) b34)
    have G4 := hide (bat_keep (unhide G3) b34)
    clear A3 A4 hb4 kS b34 z4 ba bb c30 c31 H3 G3 B3
    go_wp2_with fail
    refine (unhide KS).mono ?_
    rintro e w5 ⟨rfl, hb5⟩
    have B5 := hide ((unhide B4).trans (hb5.mono (unhide B4).size))
    have s1 : (convert 22 9 (.slice a2 0 c2)).run Try.prog w5 = .ok (.string (strB [])) w5 := run_strAny (cap := c2) (bat_keep (unhide G4) hb5)
    have s2 : (convert 22 9 (.slice none 0 0)).run Try.prog w5 = .ok (.string (strB [])) w5 := run_strAny (cap := 0) (bat_keep (unhide H4) hb5)
    have ec : ((strB []).toList == (strB []).toList) = true := by simp
    clear hb5 KS c30' c31' H4 G4 B4
    generalize strB [] = S1 at *
    go_wp2_with fail
    go_ret
    exact ⟨rfl, unhide B5⟩
  | some ad =>
    have hnews := hide (news_bytes (bat_keep (unhide H1) ((Below.refl _ w1).alloc (Nat.le_refl _) (.cells #[] 5))) rfl)
    have hone := hide (bL_one L)
    go_wp2_with (first
      | (at_builtin; refine wpList_append_own _ rfl (.tmp 10) (.tmp 11) 22 rfl w1.heap.size 5 i0 (.int .u8 0) 1 1 Try.underlying22 hi0 hz0 hz1 hz2 rfl (by decide) _ 0 _ rfl (unhide hown0) ad L.length cap (bL L) rfl (by rw [bL_len, Nat.mul_one]) (unhide hnews) (unhide hone) ?c3 ?c4 ?c5 ?_))
    case c3 => unfold maxLen; omega
    case c4 => omega
    case c5 => simp
    intro v' w2 hown' hgrow _
    have bw : Below w1.heap.size w1 w2 := ((Below.refl _ _).alloc (Nat.le_refl _) _).grown hgrow (by simp) (fun k hk => by cases hk; exact Nat.le_refl _)
    have hown' : w2.ownsRow w1.heap.size 5 1 v' L.length (bL L) := hown'
    clear hgrow hnews hone hown0 hL
    obtain ⟨a2, c2, g2, rfl, hc2, hb2, _⟩ := bat_own hown' (unhide H1).lt
    have C2 := hide hc2
    clear hc2
    have B2 := hide ((unhide B1).trans (bw.mono (unhide B1).size))
    have H2 := hide (bat_keep (unhide H1) bw)
    have G2 := hide hb2
    clear hb2 hown' H1 B1 bw
    go_wp2_with fail
    refine (unp_ans hU (c := c2) w2 (unhide C2) hlen (unhide G2)).mono ?_
    rintro e w3 ⟨n3, p3, l3, k3, e3, rfl, A3, hb3⟩
    have B3 := hide ((unhide B2).trans (hb3.mono (unhide B2).size))
    have H3 := hide (bat_keep (unhide H2) hb3)
    have G3 := hide (bat_keep (unhide G2) hb3)
    have A3 := hide A3
    clear hb3 G2 H2 B2
    go_wp2_with fail
    have ba : Below w3.heap.size w3 (w3.alloc (.cells #[.int .i64 n3, .slice p3 l3 k3] 26)) := (Below.refl _ _).alloc (Nat.le_refl _) _
    refine (unp_ans refUnpack (c := cap) (w3.alloc (.cells #[.int .i64 n3, .slice p3 l3 k3] 26)) (unhide hCAP) hlen (bat_keep (unhide H3) ba)).mono ?_
    rintro e w4 ⟨n4, p4, l4, k4, e4, rfl, A4, hb4⟩
    have hsz : w3.heap.size < w4.heap.size := by have := hb4.size; rw [World.size_alloc] at this; omega
    have bb : Below w4.heap.size w4 (w4.alloc (.cells #[.int .i64 n4, .slice p4 l4 k4] 26)) := (Below.refl _ _).alloc (Nat.le_refl _) _
    have b34 : Below w3.heap.size w3 (w4.alloc (.cells #[.int .i64 n4, .slice p4 l4 k4] 26)) := (ba.trans (hb4.mono (by rw [World.size_alloc]; omega))).trans (bb.mono (by omega))
    obtain ⟨rfl, kS⟩ := ans_same (unhide A3) A4 b34 bb (fun hh => hh.hi)
    have z4 : w4.heap[w3.heap.size]? = some (.cells #[.int .i64 n3, .slice p3 l3 k3] 26) := by
      rw [hb4.block _ (by rw [World.size_alloc]; omega)]
      exact heap_alloc_new w3 _
    have c30 : w4.cell? ⟨w3.heap.size, 0, none⟩ = some (.int .i64 n3) := by simp [World.cell?, z4]
    have c31 : w4.cell? ⟨w3.heap.size, 1, none⟩ = some (.slice p3 l3 k3) := by simp [World.cell?, z4]
    have c30' : (w4.alloc (.cells #[.int .i64 n4, .slice p4 l4 k4] 26)).cell? ⟨w3.heap.size, 0, none⟩ = some (.int .i64 n3) := (World.cell?_of_block (Below.heap_alloc w4 _ _ hsz)).trans c30
    have c31' : (w4.alloc (.cells #[.int .i64 n4, .slice p4 l4 k4] 26)).cell? ⟨w3.heap.size, 1, none⟩ = some (.slice p3 l3 k3) := (World.cell?_of_block (Below.heap_alloc w4 _ _ hsz)).trans c31
    have KS := hide kS
    have B4 := hide ((unhide B3).trans (b34.mono (unhide B3).size))
    have H4 := hide (bat_keep (unhide H3) b34)
    have G4 := hide (bat_keep (unhide G3) b34)
    clear A3 A4 hb4 kS b34 z4 ba bb c30 c31 H3 G3 B3
    go_wp2_with fail
    refine (unhide KS).mono ?_
    rintro e w5 ⟨rfl, hb5⟩
    have B5 := hide ((unhide B4).trans (hb5.mono (unhide B4).size))
    have s1 := run_strAny (cap := c2) (bat_keep (unhide G4) hb5)
    have s2 := run_strAny (cap := cap) (bat_keep (unhide H4) hb5)
    have ec : ((strB L).toList == (strB L).toList) = true := by simp
    clear hb5 KS c30' c31' H4 G4 B4
    generalize strB L = S1 at *
    go_wp2_with fail
    go_ret
    exact ⟨rfl, unhide B5⟩
end Go.Proofs.Ytfklhipjccempaa
