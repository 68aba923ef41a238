/- The document's next slice of a file. -/
import Derived.Test.YtpmbgjoilfdkaaaVG
import Derived.Deep.DeepCutAuto
import Derived.Deep.RegionHeld3
namespace Go.Proofs.Ytpmbgjoilfdkaaa
open Go.RowKit Fl Ieee

section
variable {P : Program}
theorem results_two_tmps {fn : Func} {p u v : Tmp} {ty : TypeId} (h : fn.results = #[.cell p ty, .tmp u, .tmp v]) (tmps : Array Value) (w : World) (g : Nat) (a b c e : Value) (d : TypeDesc)
    (hp : tmps.getD p undef = .pointer (some ⟨g, 0, none⟩)) (hc : tmps.getD u undef = c) (he : tmps.getD v undef = e) (h0 : w.cell? ⟨g, 0, none⟩ = some a) (h1 : w.cell? ⟨g, 1, none⟩ = some b)
    (hu : P.underlying ty = some d) (hd : (match d with | .struct _ | .array _ _ => true | _ => false) = true) (hi : (P.info? ty).map (·.size) = some 2) :
    (results fn tmps).run P w = .ok (.tuple #[.agg #[a, b], c, e]) w := by
  have hp' : tmps[p]?.getD undef = .pointer (some ⟨g, 0, none⟩) := by simpa using hp
  have hc' : tmps[u]?.getD undef = c := by simpa using hc
  have he' : tmps[v]?.getD undef = e := by simpa using he
  simp [results, h, hp', hc', he', asAddr, load_two w g ty a b d h0 h1 hu hd hi]
end

/-- What is asked of next. -/
def NextOk (fn : Nat) : Prop := ∀ (a ab : Option Addr) (l cap g o cb : Nat) (prev : Option Sli) (B : List Nat) (w : World), LastAt w a l prev → BAt w ab g o B → B.length ≤ cb → B.length ≤ 140737488355328 →
  Calls Try.prog fn #[.slice a l cap, .slice ab B.length cb] w fun r w' => ((∃ n f k gz cz, NextIs prev B n f k ∧ r = .returned (.tuple #[fieldV n gz (n * n) cz, .int .i64 k, .bool true]) ∧ Row w' gz (n * n) f ∧ w.heap.size ≤ gz ∧ 1 ≤ n ∧ n ≤ 64 ∧ Bits n f) ∨
    ((∀ n f k, ¬ NextIs prev B n f k) ∧ r = .returned (.tuple #[noneV, .int .i64 0, .bool false]))) ∧ Below w.heap.size w w'

theorem inner_len {B : List Nat} (h : numB B 0 4 + 8 ≤ B.length) : (inner B).length = numB B 0 4 - 1 := by
  unfold inner
  rw [List.length_take, List.length_drop]
  omega
theorem inner_get {B : List Nat} {i : Nat} (hi : i < (inner B).length) : (inner B).getD i 0 = B.getD (9 + i) 0 := by
  have h : i < numB B 0 4 - 1 := by
    unfold inner at hi
    rw [List.length_take] at hi
    omega
  unfold inner
  rw [List.getD_eq_getElem?_getD, List.getD_eq_getElem?_getD, List.getElem?_take, if_pos h, List.getElem?_drop]
theorem bat_inner {w : World} {ab : Option Addr} {g o : Nat} {B : List Nat} (h : BAt w ab g o B) (h9 : 9 ≤ B.length) : BAt w (some ⟨g, o + 9, none⟩) g (o + 9) (inner B) := by
  have hl : ∀ i, i < (inner B).length → 9 + i < B.length := fun i hi => by
    unfold inner at hi
    rw [List.length_take, List.length_drop] at hi
    omega
  refine ⟨fun i => ?_, fun hl => ⟨rfl, (h.at_ (by omega)).2⟩, fun i hi => ?_⟩
  · by_cases c : i < (inner B).length
    · rw [inner_get c]
      exact h.lt _
    · rw [getD_out c]
      decide
  · rw [inner_get hi, ← h.cell (9 + i) (hl i hi), Nat.add_assoc]
theorem bat_drew {w : World} {ab : Option Addr} {g o : Nat} {B : List Nat} (h : BAt w ab g o B) (d : Nat) : BAt (w.drewN d) ab g o B := ⟨h.lt, h.at_, h.cell⟩
theorem last_drew {w : World} {a : Option Addr} {l : Nat} {prev : Option Sli} (h : LastAt w a l prev) (d : Nat) : LastAt (w.drewN d) a l prev := h

theorem cells_two {W : World} {s : Nat} {a b : Value} {t : TypeId} (h : W.heap[s]? = some (.cells #[a, b] t (0, 0))) : W.cell? ⟨s, 0, none⟩ = some a ∧ W.cell? ⟨s, 1, none⟩ = some b ∧ W.frozen? ⟨s, 0, none⟩ = false ∧ W.frozen? ⟨s, 1, none⟩ = false :=
  ⟨by simp [World.cell?, h], by simp [World.cell?, h], by simp [World.frozen?, h], by simp [World.frozen?, h]⟩
theorem unp_at {a : Option Addr} {g o c E : Nat} {L : List Nat} (w : World) (e : E = L.length) (h : BAt w a g o L) :
    Calls Try.prog 35 #[.slice a E c] w fun r w' => ((∃ f gz cz, Good L f ∧ r = .returned (.tuple #[fieldV (side L) gz (side L * side L) cz, .int .i64 0]) ∧ Row w' gz (side L * side L) f ∧ w.heap.size ≤ gz) ∨ ((∀ f, ¬ Good L f) ∧ r = .returned (.tuple #[.agg #[.int .i64 0, .slice none 0 0], .int .i64 210]))) ∧ Below w.heap.size w w' := by
  subst e
  exact refUnpackAny a g o c L w h
theorem bat_nil {w : World} {ab : Option Addr} {g o : Nat} {L : List Nat} (h : L.length = 0) : BAt w ab g o L :=
  ⟨fun i => by rw [getD_out (by omega)]; decide, fun hl => by omega, fun i hi => by omega⟩
theorem good_len {L : List Nat} {f : Nat → Nat × Nat} (h : Good L f) : 2 ≤ L.length := h.1.len

/-- What stands behind the reading of a slice. -/
structure Tail (w wx : World) (X n : Nat) (prev : Option Sli) (B : List Nat) (f : Nat → Nat × Nat) (gf cf : Nat) : Prop where
  read : ReadIs prev B n f
  bits : Bits n f
  box : wx.heap[X]? = some (.cells #[.int .i64 n, .slice (some ⟨gf, 0, none⟩) (n * n) cf] 30 (0, 0))
  gf_ : w.heap.size < gf
  row : Row wx gf (n * n) f
  bel : Below w.heap.size w wx
  res : wx.heap[w.heap.size]? = some (.cells #[.int .i64 0, .slice none 0 0] 30 (0, 0))
theorem tail_change {w V W : World} {X n gz cz : Nat} {a b : Value} {B : List Nat} {f0 p : Nat → Nat × Nat} (h8 : B.getD 8 0 = 1) (hg : Good (inner B) f0) (hn : side (inner B) = n) (hf : Bits n f0) (hp : Bits n p) (hX : w.heap.size < X) (hXV : X < V.heap.size)
    (hx : V.heap[X]? = some (.cells #[a, b] 30 (0, 0))) (hr : V.heap[w.heap.size]? = some (.cells #[.int .i64 0, .slice none 0 0] 30 (0, 0))) (hb : Below w.heap.size w V)
    (hbz : Below V.heap.size V W) (hgz : V.heap.size ≤ gz) (hR : Row W gz (n * n) (xorC f0 p)) :
    Tail w ((W.setCell ⟨X, 0, none⟩ (.int .i64 n)).setCell ⟨X, 1, none⟩ (.slice (some ⟨gz, 0, none⟩) (n * n) cz)) X n (some (n, p)) B (xorC f0 p) gz cz := by
  have hx' : W.heap[X]? = some (.cells #[a, b] 30 (0, 0)) := by rw [hbz.block X hXV]; exact hx
  refine ⟨⟨f0, hg, hn.symm, fun _ => ⟨p, rfl, fun _ _ => rfl⟩, fun e => absurd h8 e⟩, bits_xor hf hp, two_heap hx' _ _, by omega, row_keep hR ?_, ?_, ?_⟩
  · rw [Below.heap_setCell _ _ _ _ (by show gz ≠ X; omega), Below.heap_setCell _ _ _ _ (by show gz ≠ X; omega)]
  · exact ((hb.trans (hbz.mono hb.size)).setCell (by show w.heap.size ≤ X; omega) _).setCell (by show w.heap.size ≤ X; omega) _
  · rw [Below.heap_setCell _ _ _ _ (by show w.heap.size ≠ X; omega), Below.heap_setCell _ _ _ _ (by show w.heap.size ≠ X; omega), hbz.block _ (by omega)]
    exact hr

theorem run_strE {W : World} {g o cb E : Nat} {B : List Nat} (h : BAt W (some ⟨g, o, none⟩) g o B) (hE : E ≤ B.length) : (convert 22 9 (.slice (some ⟨g, o, none⟩) E cb)).run Try.prog W = .ok (.string (strB (B.take E))) W := by
  have hl : (B.take E).length = E := by rw [List.length_take]; omega
  have h' : BAt W (some ⟨g, o, none⟩) g o (B.take E) := by
    have hg : ∀ i, i < E → (B.take E).getD i 0 = B.getD i 0 := fun i hi => by
      rw [List.getD_eq_getElem?_getD, List.getD_eq_getElem?_getD, List.getElem?_take, if_pos hi]
    refine ⟨fun i => ?_, fun hp => ⟨rfl, (h.at_ (by omega)).2⟩, fun i hi => ?_⟩
    · by_cases c : i < E
      · rw [hg i c]; exact h.lt i
      · rw [getD_out (by omega)]; decide
    · rw [hg i (by omega)]
      exact h.cell i (by omega)
  have := run_strAny (cap := cb) h'
  rw [hl] at this
  exact this
theorem rec_held {V W : World} {l cap n g c : Nat} {a : Option Addr} {f : Nat → Nat × Nat} {prev : Option Sli} {A D E : Prop} (h1 : 1 ≤ n) (h2 : n ≤ 64) (hf : Hid (Bits n f)) (hR : Hid (Row V g (n * n) f)) (hL : Hid (LastAt V a l prev)) (hs : A ∧ D ∧ E ∧ Hid (Below V.heap.size V W)) :
    Calls Try.prog 37 #[.slice a l cap, .agg #[.int .i64 n, .slice (some ⟨g, 0, none⟩) (n * n) c]] W fun r w' => ∃ (bs : List Nat) (g' c' k : Nat) (z : ByteArray), r = .returned (.slice (some ⟨g', 0, none⟩) k c') ∧ Hid (BodyIs prev n f bs) ∧ Hid (∀ K, (∀ i, K.getD i 0 < 256) → (z.toList == (strB K).toList) = decide (recL bs = K)) ∧ (convert 22 9 (.slice (some ⟨g', 0, none⟩) k c')).run Try.prog w' = .ok (.string z) w' ∧ Hid (Below V.heap.size V w') := by
  have hb := unhide hs.2.2.2
  refine (refRecord n g c l cap a f prev W h1 h2 (unhide hf) (row_below (unhide hR) hb (row_lt (unhide hR))) (last_keep (unhide hL) hb)).mono ?_
  rintro r w' ⟨bs, g', c', rfl, hBI, h256, hO, hbw⟩
  refine ⟨bs, g', c', (recL bs).length, strB (recL bs), rfl, hBI, fun K hK => str_same (recL_lt h256) (mem_getD hK), run_strAny (cap := c') (bat_of_own hO (recL_lt h256)), hb.trans (hbw.mono hb.size)⟩

set_option maxRecDepth 100000 in
set_option maxHeartbeats 12800000 in
theorem refNext : NextOk 25 := by
  intro a ab l cap g o cb prev B w hL hB hcb hbig
  have LX := hide hL
  have BX := hide hB
  have infoG : (Try.prog.info? 30).map (·.size) = some 2 := by kernel_rfl
  have IG := hide infoG
  clear hL hB infoG
  have bel1 : Below w.heap.size w (w.alloc (.cells #[.int .i64 0, .slice none 0 0] 30)) := (Below.refl _ _).alloc (Nat.le_refl _) _
  have r1 : (w.alloc (.cells #[.int .i64 0, .slice none 0 0] 30)).heap[w.heap.size]? = some (.cells #[.int .i64 0, .slice none 0 0] 30 (0, 0)) := heap_alloc_new w _
  have s1 : (w.alloc (.cells #[.int .i64 0, .slice none 0 0] 30)).heap.size = w.heap.size + 1 := World.size_alloc _ _
  have kN := hide (fun (h4 : 4 ≤ B.length) (W : World) (h : BAt W ab g o B) => refNumber4 (c := cb) h4 W h)
  by_cases h9 : B.length < 9
  · have q1 : ((B.length : Int) < 9) = True := by simp; omega
    have q2 : (B.length < 9) = True := by simp; omega
    have NO : Hid (∀ n f k, ¬ NextIs prev B n f k) := fun n f k h => by have := h.len; omega
    clear kN LX BX hcb hbig
    go_enter Try.func25, Try.ntmps25
    go_wp2_with fail
    refine bodyPost_ret (results_two_tmps (P := Try.prog) rfl _ _ w.heap.size (.int .i64 0) (.slice none 0 0) (.int .i64 0) (.bool false) _ rfl rfl rfl (cells_two r1).1 (cells_two r1).2.1 Try.underlying30 rfl (unhide IG)) rfl ?_
    exact ⟨.inr ⟨unhide NO, rfl⟩, bel1⟩
  · have q1 : ((B.length : Int) < 9) = False := by simp; omega
    have q2 : (B.length < 9) = False := by simp; omega
    have kN2 := hide (unhide kN (by omega))
    have BX2 := hide (bat_keep (unhide BX) bel1)
    have LX2 := hide (last_keep (unhide LX) bel1)
    have BL := hide bel1
    have R1 := hide r1
    clear kN bel1 r1
    go_enter Try.func25, Try.ntmps25
    go_wp2_with fail
    generalize w.alloc (.cells #[.int .i64 0, .slice none 0 0] 30) = W1 at *
    refine (unhide kN2 _ (unhide BX2)).mono ?_
    rintro e W2 ⟨d, rfl, rfl⟩
    have BX3 := hide (bat_drew (unhide BX2) d)
    have LX3 := hide (last_drew (unhide LX2) d)
    have BL3 := hide (below_drewN (unhide BL) d)
    have R3 : Hid ((W1.drewN d).heap[w.heap.size]? = some (.cells #[.int .i64 0, .slice none 0 0] 30 (0, 0))) := unhide R1
    have s3 : (W1.drewN d).heap.size = w.heap.size + 1 := s1
    clear BX2 LX2 BL R1 s1 kN2
    generalize W1.drewN d = W3 at *
    obtain ⟨m, hm⟩ : ∃ m, m = numB B 0 4 := ⟨_, rfl⟩
    rw [← hm]
    have HM := hide hm
    have hml : m < 4294967296 := by rw [hm]; exact numB_lt (unhide BX3).lt 0 4
    clear hm
    have z0 : W3.cell? ⟨w.heap.size, 0, none⟩ = some (.int .i64 0) := by simp [World.cell?, unhide R3]
    have z1 : W3.cell? ⟨w.heap.size, 1, none⟩ = some (.slice none 0 0) := by simp [World.cell?, unhide R3]
    have z2 : W3.frozen? ⟨w.heap.size, 0, none⟩ = false := by simp [World.frozen?, unhide R3]
    have z3 : W3.frozen? ⟨w.heap.size, 1, none⟩ = false := by simp [World.frozen?, unhide R3]
    obtain ⟨e8, he8⟩ : ∃ e8, e8 + 8 = B.length := ⟨B.length - 8, by omega⟩
    have n1 : (B.length : Int) - 8 = (e8 : Int) := by omega
    have n2 : IntKind.i64.wrap (e8 : Int) = (e8 : Int) := by rw [IntKind.wrap_i64]; omega
    by_cases hm1 : m < 1
    · have q3 : ((m : Int) < 1) = True := by simp; omega
      have q4 : (m < 1) = True := by simp; omega
      have NO : Hid (∀ n f k, ¬ NextIs prev B n f k) := fun n f k h => by have := h.lo; have := unhide HM; omega
      go_wp2_with fail
      obtain ⟨t1, t2, t3, t4⟩ := two_set (unhide R3) (.int .i64 0) (.slice none 0 0)
      refine bodyPost_ret (results_two_tmps (P := Try.prog) rfl _ _ w.heap.size (.int .i64 0) (.slice none 0 0) (.int .i64 0) (.bool false) _ rfl rfl rfl t1 t2 Try.underlying30 rfl (unhide IG)) rfl ?_
      exact ⟨.inr ⟨unhide NO, rfl⟩, ((unhide BL3).setCell (Nat.le_refl _) _).setCell (Nat.le_refl _) _⟩
    · have q3 : ((m : Int) < 1) = False := by simp; omega
      have q4 : (m < 1) = False := by simp; omega
      by_cases hm2 : e8 < m
      · have q5 : ((e8 : Int) < (m : Int)) = True := by simp; omega
        have q6 : (e8 < m) = True := by simp; omega
        have NO : Hid (∀ n f k, ¬ NextIs prev B n f k) := fun n f k h => by have := h.hi; have := unhide HM; omega
        go_wp2_with fail
        obtain ⟨t1, t2, t3, t4⟩ := two_set (unhide R3) (.int .i64 0) (.slice none 0 0)
        refine bodyPost_ret (results_two_tmps (P := Try.prog) rfl _ _ w.heap.size (.int .i64 0) (.slice none 0 0) (.int .i64 0) (.bool false) _ rfl rfl rfl t1 t2 Try.underlying30 rfl (unhide IG)) rfl ?_
        exact ⟨.inr ⟨unhide NO, rfl⟩, ((unhide BL3).setCell (Nat.le_refl _) _).setCell (Nat.le_refl _) _⟩
      · have q5 : ((e8 : Int) < (m : Int)) = False := by simp; omega
        have q6 : (e8 < m) = False := by simp; omega
        obtain ⟨E, hE⟩ : ∃ E, E = 8 + m := ⟨_, rfl⟩
        have n3 : (8 : Int) + (m : Int) = (E : Int) := by omega
        have n4 : IntKind.i64.wrap (E : Int) = (E : Int) := by rw [IntKind.wrap_i64]; omega
        have n5 : (9 : Int) ≤ (E : Int) := by omega
        have n6 : (E : Int) ≤ (cb : Int) := by omega
        have n7 : (0 : Int) ≤ (E : Int) := by omega
        obtain ⟨rfl, hg⟩ := (unhide BX3).at_ (by omega)
        have HE := hide hE
        clear hE
        have eI : Hid (E - 9 = (inner B).length) := by show _ = _; rw [inner_len (by have := unhide HM; omega), ← unhide HM]; have := unhide HE; omega
        have eN : Hid (numB B 0 4 + 8 ≤ B.length) := by show _ ≤ _; have := unhide HM; omega
        by_cases hc9 : cb = 9
        · have kU := hide (unp_at (a := some ⟨g, o, none⟩) (g := g) (o := o) (c := 0) (L := inner B) W3 (unhide eI) (bat_nil (by rw [← unhide eI]; omega)))
          have NO : Hid (∀ n f k, ¬ NextIs prev B n f k) := fun n f k h => by
            obtain ⟨f0, hg, _⟩ := h.read
            have := good_len hg
            rw [← unhide eI] at this
            omega
          have NG : Hid (∀ f, ¬ Good (inner B) f) := fun f h => by
            have := good_len h
            rw [← unhide eI] at this
            omega
          subst hc9
          go_wp2_with fail
          refine (unhide kU).mono ?_
          rintro e w4 ⟨⟨f, gz, cz, hG, _⟩ | ⟨_, rfl⟩, hb⟩
          · exact absurd hG (unhide NG f)
          · have R4 : Hid ((w4.alloc (.cells #[.int .i64 0, .slice none 0 0] 30)).heap[w.heap.size]? = some (.cells #[.int .i64 0, .slice none 0 0] 30 (0, 0))) := by
              show _ = _
              rw [Below.heap_alloc _ _ _ (by have := hb.size; omega), hb.block _ (by omega)]
              exact unhide R3
            have BL4 := hide (((unhide BL3).trans (hb.mono (unhide BL3).size)).alloc (by have := hb.size; omega) (.cells #[.int .i64 0, .slice none 0 0] 30))
            obtain ⟨y0, y1, y2, y3⟩ := cells_two (unhide R4)
            clear hb kU z0 z1 z2 z3 R3 BL3 BX3 LX3
            go_wp2_with fail
            obtain ⟨t1, t2, t3, t4⟩ := two_set (unhide R4) (.int .i64 0) (.slice none 0 0)
            refine bodyPost_ret (results_two_tmps (P := Try.prog) rfl _ _ w.heap.size (.int .i64 0) (.slice none 0 0) (.int .i64 0) (.bool false) _ rfl rfl rfl t1 t2 Try.underlying30 rfl (unhide IG)) rfl ?_
            exact ⟨.inr ⟨unhide NO, rfl⟩, ((unhide BL4).setCell (Nat.le_refl _) _).setCell (Nat.le_refl _) _⟩
        · have hc : (cb = 9) = False := by simp; omega
          have hc0 : (cb = 0) = False := by simp; omega
          have kU := hide (unp_at (a := some ⟨g, o + 9, none⟩) (g := g) (o := o + 9) (c := cb - 9) (L := inner B) W3 (unhide eI) (bat_inner (unhide BX3) (by omega)))
          go_wp2_with fail
          refine (unhide kU).mono ?_
          rintro e w4 ⟨⟨f0, gz, cz, hG, rfl, hR, hgz⟩ | ⟨hno, rfl⟩, hb⟩
          · have hh := hG.1
            have hn1 : 1 ≤ side (inner B) := hh.lo
            have hn2 : side (inner B) ≤ 64 := hh.hi
            have GX := hide hG
            have HB0 := hide (good_bits (bat_inner (unhide BX3) (by omega)).lt hG)
            clear hh hG
            generalize hn : side (inner B) = n at *
            have HN := hide hn
            clear hn
            have sz4 : w.heap.size + 1 ≤ w4.heap.size := by have := hb.size; omega
            have R4 : Hid ((w4.alloc (.cells #[.int .i64 n, .slice (some ⟨gz, 0, none⟩) (n * n) cz] 30)).heap[w.heap.size]? = some (.cells #[.int .i64 0, .slice none 0 0] 30 (0, 0))) := by
              show _ = _
              rw [Below.heap_alloc _ _ _ (by omega), hb.block _ (by omega)]
              exact unhide R3
            have X4 : Hid ((w4.alloc (.cells #[.int .i64 n, .slice (some ⟨gz, 0, none⟩) (n * n) cz] 30)).heap[w4.heap.size]? = some (.cells #[.int .i64 n, .slice (some ⟨gz, 0, none⟩) (n * n) cz] 30 (0, 0))) := heap_alloc_new w4 _
            have bA : Below w4.heap.size w4 (w4.alloc (.cells #[.int .i64 n, .slice (some ⟨gz, 0, none⟩) (n * n) cz] 30)) := (Below.refl _ _).alloc (Nat.le_refl _) _
            have BL4 := hide (((unhide BL3).trans (hb.mono (unhide BL3).size)).trans (bA.mono (by omega)))
            have BX4 := hide (bat_keep (bat_keep (unhide BX3) hb) bA)
            have LX4 := hide (last_keep (last_keep (unhide LX3) hb) bA)
            have RW4 := hide (row_below hR bA (row_lt hR))
            have c8 := (unhide BX4).cell 8 (by omega)
            have hgz2 : w.heap.size < gz := by omega
            clear hb kU z0 z1 z2 z3 R3 BL3 BX3 LX3 bA hR
            obtain ⟨y8, hy8⟩ : ∃ y, y = B.getD 8 0 := ⟨_, rfl⟩
            rw [← hy8] at c8
            have H8 := hide hy8
            clear hy8
            have q8 : ((8 : Int) < (B.length : Int)) = True := by simp; omega
            have q8' : (8 < B.length) = True := by simp; omega
            unfold fieldV
            go_upto_if 40 with fail
            have sX : w4.heap.size < (w4.alloc (.cells #[.int .i64 n, .slice (some ⟨gz, 0, none⟩) (n * n) cz] 30)).heap.size := by rw [World.size_alloc]; omega
            generalize w4.alloc (.cells #[.int .i64 n, .slice (some ⟨gz, 0, none⟩) (n * n) cz] 30) = V1 at *
            have sX2 : w.heap.size < w4.heap.size := by omega
            generalize w4.heap.size = X at *
            clear hgz
            go_cut [8] (fun v wx => v = .pointer (some ⟨X, 0, none⟩) ∧ Hid (∃ f gf cf, Tail w wx X n prev B f gf cf))
            case first =>
              obtain ⟨x0, x1, x2, x3⟩ := cells_two (unhide X4)
              obtain ⟨y0, y1, y2, y3⟩ := cells_two (unhide R4)
              by_cases hy1 : y8 = 1
              · subst hy1
                rcases unhide LX4 with ⟨rfl, rfl⟩ | ⟨ga, k, n', p, g', c', rfl, hlk, hk, rfl, k1, k2, k3, k4, k5, k6, k7⟩
                · have NO : Hid (∀ n f k, ¬ NextIs none B n f k) := fun n f k h => by
                    obtain ⟨f1, _, _, h3, _⟩ := h.read
                    obtain ⟨p, e, _⟩ := h3 (unhide H8).symm
                    cases e
                  go_wp2_with fail
                  go_quiet (fail)
                  go_wp2_with fail
                  obtain ⟨t1, t2, t3, t4⟩ := two_set (W := V1.drewN nq) (unhide R4) (.int .i64 0) (.slice none 0 0)
                  refine bodyPost_ret (results_two_tmps (P := Try.prog) rfl _ _ w.heap.size (.int .i64 0) (.slice none 0 0) (.int .i64 0) (.bool false) _ rfl rfl rfl t1 t2 Try.underlying30 rfl (unhide IG)) rfl ?_
                  exact ⟨.inr ⟨unhide NO, rfl⟩, ((below_drewN (unhide BL4) nq).setCell (Nat.le_refl _) _).setCell (Nat.le_refl _) _⟩
                · have p0 : ((0 : Int) < (l : Int)) = True := by simp; omega
                  have p1 : ((l : Int) = 0) = False := by simp; omega
                  have p1' : (l = 0) = False := by simp; omega
                  have p2 : (l : Int) - 1 = (k : Int) := by omega
                  have p3 : ((l : Int) == 0) = false := by simp; omega
                  have p5 : (0 < l) = True := by simp; omega
                  have p6 : (k < l) = True := by simp; omega
                  have p7 : (0 : Int) ≤ (k : Int) := by omega
                  have p8 : (k : Int) < (l : Int) := by omega
                  have p9 : IntKind.i64.wrap (k : Int) = (k : Int) := by rw [IntKind.wrap_i64]; omega
                  clear hlk
                  by_cases hnn : n' = n
                  · subst hnn
                    go_wp2_with fail
                    go_quiet (fail)
                    go_wp2_with fail
                    have x0' : (V1.drewN nq).cell? ⟨X, 0, none⟩ = some (.int .i64 n') := x0
                    have x1' : (V1.drewN nq).cell? ⟨X, 1, none⟩ = some (.slice (some ⟨gz, 0, none⟩) (n' * n') cz) := x1
                    have k1' : (V1.drewN nq).cell? ⟨ga, k * 2, none⟩ = some (.int .i64 n') := k1
                    have k2' : (V1.drewN nq).cell? ⟨ga, k * 2 + 1, none⟩ = some (.slice (some ⟨g', 0, none⟩) (n' * n') c') := k2
                    have X5 : Hid ((V1.drewN nq).heap[X]? = some (.cells #[.int .i64 n', .slice (some ⟨gz, 0, none⟩) (n' * n') cz] 30 (0, 0))) := unhide X4
                    have R5 : Hid ((V1.drewN nq).heap[w.heap.size]? = some (.cells #[.int .i64 0, .slice none 0 0] 30 (0, 0))) := unhide R4
                    have B5 := hide (below_drewN (unhide BL4) nq)
                    have K5 := hide (refChange n' gz cz g' c' f0 p (V1.drewN nq).drew hn1 hn2 (unhide HB0) k7 (unhide RW4) k4)
                    have sX5 : X < (V1.drewN nq).heap.size := sX
                    have BP := hide k7
                    clear x0 x1 x2 x3 y0 y1 y2 y3 k1 k2 k3 k4 k7 X4 R4 BL4 RW4 LX4 BX4 c8 sX
                    unfold fieldV at K5
                    generalize V1.drewN nq = V2 at *
                    go_region_with (first
                      | (go_at_call 36; refine (unhide K5).mono ?_; rintro e W5 ⟨gy, cy, rfl, hRy, hgy, hby⟩
                         have e0 : W5.heap[X]? = some (.cells #[.int .i64 n', .slice (some ⟨gz, 0, none⟩) (n' * n') cz] 30 (0, 0)) := (hby.block X sX5).trans (unhide X5)
                         obtain ⟨x0, x1, x2, x3⟩ := cells_two e0
                         have by2 : Hid (Below V2.heap.size V2 W5) := ⟨hby.os, hby.tape, hby.output, hby.size, hby.block⟩
                         have ry2 := hide hRy
                         have gy2 : V2.heap.size ≤ gy := hgy
                         clear hby hRy hgy e0))
                    all_goals go_wp2_with fail
                    all_goals go_meet
                    all_goals exact ⟨rfl, xorC f0 p, gy, cy, tail_change (unhide H8).symm (unhide GX) (unhide HN) (unhide HB0) (unhide BP) sX2 sX5 (unhide X5) (unhide R5) (unhide B5) (unhide by2) gy2 (unhide ry2)⟩
                  · have p10 : ((n' : Int) = (n : Int)) = False := by simp; omega
                    have p11 : (n' = n) = False := by simp; omega
                    have p12 : ((n' : Int) != (n : Int)) = true := by simp; omega
                    have NO : Hid (∀ m f k, ¬ NextIs (some (n', p)) B m f k) := fun m f k h => by
                      obtain ⟨f1, _, h2, h3, _⟩ := h.read
                      obtain ⟨p, e, _⟩ := h3 (unhide H8).symm
                      have := unhide HN
                      cases e
                      omega
                    go_wp2_with fail
                    go_quiet (fail)
                    go_wp2_with fail
                    obtain ⟨t1, t2, t3, t4⟩ := two_set (W := V1.drewN nq) (unhide R4) (.int .i64 0) (.slice none 0 0)
                    refine bodyPost_ret (results_two_tmps (P := Try.prog) rfl _ _ w.heap.size (.int .i64 0) (.slice none 0 0) (.int .i64 0) (.bool false) _ rfl rfl rfl t1 t2 Try.underlying30 rfl (unhide IG)) rfl ?_
                    exact ⟨.inr ⟨unhide NO, rfl⟩, ((below_drewN (unhide BL4) nq).setCell (Nat.le_refl _) _).setCell (Nat.le_refl _) _⟩
              · have hy2 : ((y8 : Int) = 1) = False := by simp; omega
                have hy3 : (y8 = 1) = False := by simp; omega
                have hy4 : ((y8 : Int) == 1) = false := by simp; omega
                have TT : Hid (∃ f gf cf, Tail w V1 X n prev B f gf cf) := ⟨f0, gz, cz, ⟨f0, unhide GX, (unhide HN).symm, fun e => absurd ((unhide H8).trans e) hy1, fun _ _ _ => rfl⟩, unhide HB0, unhide X4, hgz2, unhide RW4, unhide BL4, unhide R4⟩
                go_wp2_with fail
                go_meet
                case rel => exact ⟨rfl, TT⟩
            case rest =>
              obtain ⟨V3, hV3⟩ : ∃ V, V = wc := ⟨_, rfl⟩
              subst hV3
              obtain ⟨rfl, ht⟩ := hcut
              obtain ⟨f, gf, cf, T⟩ := unhide ht
              have TX := hide T
              obtain ⟨x0, x1, x2, x3⟩ := cells_two T.box
              have BB := hide (bat_keep (unhide BX) T.bel)
              have LL := hide (last_keep (unhide LX) T.bel)
              have RF := hide T.row
              have BF := hide T.bits
              have hEB : E ≤ B.length := by omega
              have e2 := hide (fun (W : World) (hb : Below V3.heap.size V3 W) => run_strE (cb := cb) (bat_keep (unhide BB) hb) hEB)
              have hX2 : X < V3.heap.size := (Array.getElem?_eq_some_iff.1 T.box).1
              have hK : ∀ i, (B.take E).getD i 0 < 256 := fun i => by
                rw [List.getD_eq_getElem?_getD, List.getElem?_take]
                split
                · rw [← List.getD_eq_getElem?_getD]; exact (unhide BX).lt i
                · decide
              have HK := hide hK
              clear ht T hK X4 R4 BL4 RW4 LX4 BX4 c8 sX GX HB0
              obtain ⟨SB, hSB⟩ : ∃ z, z = strB (B.take E) := ⟨_, rfl⟩
              rw [← hSB] at e2
              have FC : Hid (∀ W : World, Below V3.heap.size V3 W → W.cell? ⟨X, 0, none⟩ = some (.int .i64 n) ∧ W.cell? ⟨X, 1, none⟩ = some (.slice (some ⟨gf, 0, none⟩) (n * n) cf) ∧ (convert 22 9 (.slice (some ⟨g, o, none⟩) E cb)).run Try.prog W = .ok (.string SB) W ∧ Hid (Below V3.heap.size V3 W)) := fun W hb =>
                ⟨(hb.cell (p := ⟨X, 0, none⟩) hX2).trans x0, (hb.cell (p := ⟨X, 1, none⟩) hX2).trans x1, unhide e2 W hb, hb⟩
              have HS := hide hSB
              clear hSB e2
              go_wp2_with fail
              go_cut [77] (fun v wx => Hid (∃ bs b, v = .bool b ∧ (b = true ↔ recL bs ≠ B.take E) ∧ BodyIs prev n f bs ∧ Below V3.heap.size V3 wx))
              case first =>
                have FD := unhide FC V3.drew (Below.refl _ _).drew
                have e7 := FD.2.2.1
                have KR := hide (rec_held (cap := cap) (c := cf) hn1 hn2 BF RF LL FD)
                clear FD
                go_region_with (first
                  | (go_at_call 37; refine (unhide KR).mono ?_; rintro e W6 ⟨bs, g6, c6, k6, z6, rfl, hBI, hcmp, e6, hv1⟩
                     have e8 := (unhide FC W6 (unhide hv1)).2.2.1))
                all_goals go_wp2_with fail
                all_goals go_meet
                all_goals exact ⟨bs, _, rfl, by rw [unhide HS, unhide hcmp _ (unhide HK)]; simp, unhide hBI, unhide hv1⟩
              case rest =>
                obtain ⟨bs, b, rfl, hb, hBI, hbw⟩ := unhide hcut
                have BW := hide ((unhide TX).bel.trans (hbw.mono (unhide TX).bel.size))
                have hRV : w.heap.size < V3.heap.size := (Array.getElem?_eq_some_iff.1 (unhide TX).res).1
                have R7 : Hid (wc.heap[w.heap.size]? = some (.cells #[.int .i64 0, .slice none 0 0] 30 (0, 0))) := by
                  show _ = _
                  rw [hbw.block _ hRV]
                  exact (unhide TX).res
                have X7 : Hid (wc.heap[X]? = some (.cells #[.int .i64 n, .slice (some ⟨gf, 0, none⟩) (n * n) cf] 30 (0, 0))) := by
                  show _ = _
                  rw [hbw.block _ hX2]
                  exact (unhide TX).box
                have RW7 := hide (row_below (unhide RF) hbw (row_lt (unhide RF)))
                have hgf := (unhide TX).gf_
                have RD := hide (unhide TX).read
                have BI := hide hBI
                clear hcut hbw hBI x0 x1 x2 x3 FC RF BB LL TX
                obtain ⟨x0, x1, x2, x3⟩ := cells_two (unhide X7)
                obtain ⟨y0, y1, y2, y3⟩ := cells_two (unhide R7)
                have eT : Hid (E = 8 + numB B 0 4) := by show _ = _; rw [← unhide HM]; exact unhide HE
                cases b
                · have hq : recL bs = B.take E := by
                    by_cases c : recL bs = B.take E
                    · exact c
                    · exact absurd (hb.2 c) (by decide)
                  have NX : Hid (NextIs prev B n f E) := ⟨by omega, unhide eT, by have := unhide HM; omega, unhide eN, unhide RD, bs, unhide BI, hq⟩
                  clear hb hq
                  go_wp2_with fail
                  obtain ⟨t1, t2, t3, t4⟩ := two_set (unhide R7) (.int .i64 n) (.slice (some ⟨gf, 0, none⟩) (n * n) cf)
                  refine bodyPost_ret (results_two_tmps (P := Try.prog) rfl _ _ w.heap.size (.int .i64 n) (.slice (some ⟨gf, 0, none⟩) (n * n) cf) (.int .i64 E) (.bool true) _ rfl rfl rfl t1 t2 Try.underlying30 rfl (unhide IG)) rfl ?_
                  exact ⟨.inl ⟨n, f, E, gf, cf, unhide NX, rfl, row_keep (unhide RW7) (t3 gf (by omega)), by omega, hn1, hn2, unhide BF⟩, ((unhide BW).setCell (Nat.le_refl _) _).setCell (Nat.le_refl _) _⟩
                · have NO : Hid (∀ n f k, ¬ NextIs prev B n f k) := next_no (unhide RD) (unhide BI) (unhide eT) (hb.1 rfl)
                  clear hb
                  go_wp2_with fail
                  obtain ⟨t1, t2, t3, t4⟩ := two_set (unhide R7) (.int .i64 0) (.slice none 0 0)
                  refine bodyPost_ret (results_two_tmps (P := Try.prog) rfl _ _ w.heap.size (.int .i64 0) (.slice none 0 0) (.int .i64 0) (.bool false) _ rfl rfl rfl t1 t2 Try.underlying30 rfl (unhide IG)) rfl ?_
                  exact ⟨.inr ⟨unhide NO, rfl⟩, ((unhide BW).setCell (Nat.le_refl _) _).setCell (Nat.le_refl _) _⟩
          · have NO : Hid (∀ n f k, ¬ NextIs prev B n f k) := fun n f k h => by
              obtain ⟨f0, hg, _⟩ := h.read
              exact hno f0 hg
            have R4 : Hid ((w4.alloc (.cells #[.int .i64 0, .slice none 0 0] 30)).heap[w.heap.size]? = some (.cells #[.int .i64 0, .slice none 0 0] 30 (0, 0))) := by
              show _ = _
              rw [Below.heap_alloc _ _ _ (by have := hb.size; omega), hb.block _ (by omega)]
              exact unhide R3
            have BL4 := hide (((unhide BL3).trans (hb.mono (unhide BL3).size)).alloc (by have := hb.size; omega) (.cells #[.int .i64 0, .slice none 0 0] 30))
            obtain ⟨y0, y1, y2, y3⟩ := cells_two (unhide R4)
            clear hb kU z0 z1 z2 z3 R3 BL3 BX3 LX3
            go_wp2_with fail
            obtain ⟨t1, t2, t3, t4⟩ := two_set (unhide R4) (.int .i64 0) (.slice none 0 0)
            refine bodyPost_ret (results_two_tmps (P := Try.prog) rfl _ _ w.heap.size (.int .i64 0) (.slice none 0 0) (.int .i64 0) (.bool false) _ rfl rfl rfl t1 t2 Try.underlying30 rfl (unhide IG)) rfl ?_
            exact ⟨.inr ⟨unhide NO, rfl⟩, ((unhide BL4).setCell (Nat.le_refl _) _).setCell (Nat.le_refl _) _⟩
end Go.Proofs.Ytpmbgjoilfdkaaa
