/- The document's body of a slice. -/
import Derived.Test.YtpmbgjoilfdkaaaM7
import Derived.Test.YtpmbgjoilfdkaaaKI
import Derived.Deep.DeepCutAuto
import Derived.Deep.RegionHeld3
namespace Go.Proofs.Ytpmbgjoilfdkaaa
open Go.RowKit Fl Ieee
attribute [local go_sem] store_complex

def Bits (n : Nat) (f : Nat → Nat × Nat) : Prop := ∀ i, i < n * n → (f i).1 < 18446744073709551616 ∧ (f i).2 < 18446744073709551616
theorem bits_xor {n : Nat} {f p : Nat → Nat × Nat} (hf : Bits n f) (hp : Bits n p) : Bits n (xorC f p) := fun i hi => ⟨xor_lt (hf i hi).1 (hp i hi).1, xor_lt (hf i hi).2 (hp i hi).2⟩

/-- What stands ahead: nothing, or a list whose last slice is prev. -/
def LastAt (w : World) (a : Option Addr) (l : Nat) (prev : Option Sli) : Prop := (l = 0 ∧ prev = none) ∨
  ∃ g k n p g' c', a = some ⟨g, 0, none⟩ ∧ l = k + 1 ∧ k < 64 ∧ prev = some (n, p) ∧ w.cell? ⟨g, k * 2, none⟩ = some (.int .i64 (n : Nat)) ∧ w.cell? ⟨g, k * 2 + 1, none⟩ = some (.slice (some ⟨g', 0, none⟩) (n * n) c') ∧ g < w.heap.size ∧ Row w g' (n * n) p ∧ 1 ≤ n ∧ n ≤ 64 ∧ Bits n p
theorem last_keep {w w' : World} {a : Option Addr} {l : Nat} {prev : Option Sli} (h : LastAt w a l prev) (hb : Below w.heap.size w w') : LastAt w' a l prev := by
  rcases h with h | ⟨g, k, n, p, g', c', h1, h2, h3, h4, h5, h6, h7, h8, h9⟩
  · exact .inl h
  · exact .inr ⟨g, k, n, p, g', c', h1, h2, h3, h4, (hb.cell (p := ⟨g, k * 2, none⟩) h7).trans h5, (hb.cell (p := ⟨g, k * 2 + 1, none⟩) h7).trans h6, Nat.lt_of_lt_of_le h7 hb.size, row_below h8 hb (row_lt h8), h9⟩

def PackO (fn : Nat) : Prop := ∀ (n g c : Nat) (f : Nat → Nat × Nat) (w : World), 1 ≤ n → n ≤ 64 → Bits n f → Row w g (n * n) f →
  Calls Try.prog fn #[fieldV n g (n * n) c] w fun r w' => ∃ (L : List Nat) (g' c' : Nat), r = .returned (.tuple #[.slice (some ⟨g', 0, none⟩) L.length c', .int .i64 0]) ∧ PackIs n f L ∧ (∀ y ∈ L, y < 256) ∧ 2 ≤ L.length ∧ L.length ≤ 600000 ∧ w'.ownsRow w.heap.size 5 1 (.slice (some ⟨g', 0, none⟩) L.length c') L.length (bL L) ∧ Below w.heap.size w w'
theorem packO {fn : Nat} (h : PackOk fn) : PackO fn := by
  intro n g c f w h1 h2 hb hR
  refine (h n g c f w h1 h2 hb hR).mono ?_
  rintro r w' ⟨a, g', c', rfl, hS, hO, hB⟩
  have hm : n * n ≤ 4096 := Nat.mul_le_mul h2 h2
  have hc := sh_can hS
  exact ⟨_, g', c', rfl, ⟨a, hS, rfl⟩, by_lt hc.1 hc.2 h2, byL_pos _ _ _ _, by have := byL_len a n (n * n) f; omega, hO, hB⟩

/-- What is asked of body. -/
def BodyOk (fn : Nat) : Prop := ∀ (n g c l cap : Nat) (a : Option Addr) (f : Nat → Nat × Nat) (prev : Option Sli) (w : World), 1 ≤ n → n ≤ 64 → Bits n f → Row w g (n * n) f → LastAt w a l prev →
  Calls Try.prog fn #[.slice a l cap, fieldV n g (n * n) c] w fun r w' => ∃ (bs : List Nat) (g' c' : Nat), r = .returned (.slice (some ⟨g', 0, none⟩) bs.length c') ∧ BodyIs prev n f bs ∧ (∀ y ∈ bs, y < 256) ∧ 1 ≤ bs.length ∧ bs.length ≤ 600001 ∧ w'.ownsRow w.heap.size 5 1 (.slice (some ⟨g', 0, none⟩) bs.length c') bs.length (bL bs) ∧ Below w.heap.size w w'

theorem getD_lt {L : List Nat} (h : ∀ y ∈ L, y < 256) (i : Nat) : L.getD i 0 < 256 := by
  by_cases c : i < L.length
  · rw [List.getD_eq_getElem?_getD, List.getElem?_eq_getElem c]
    exact h _ (List.getElem_mem c)
  · rw [getD_out c]
    decide
theorem bat_of_own {w : World} {B g c : Nat} {L : List Nat} (h : w.ownsRow B 5 1 (.slice (some ⟨g, 0, none⟩) L.length c) L.length (bL L)) (hl : ∀ y ∈ L, y < 256) : BAt w (some ⟨g, 0, none⟩) g 0 L :=
  ⟨getD_lt hl, fun _ => ⟨rfl, (h.lt g rfl).2⟩, fun i hi => own_cellsB h i hi⟩
theorem cons_lt {x : Nat} {L : List Nat} (hx : x < 256) (h : ∀ y ∈ L, y < 256) : ∀ y ∈ x :: L, y < 256 := fun y hy => by
  rcases List.mem_cons.1 hy with rfl | hy
  · exact hx
  · exact h y hy
theorem below_drewN {B : Nat} {w w' : World} (h : Below B w w') (d : Nat) : Below B w (w'.drewN d) := ⟨h.os, h.tape, h.output, h.size, h.block⟩
/-- A pointer to a new field. -/
def Boxed (V W : World) (v : Value) (n m : Nat) (q : Nat → Nat × Nat) : Prop := ∃ b gz cz, v = .pointer (some ⟨b, 0, none⟩) ∧ V.heap.size ≤ b ∧ W.heap[b]? = some (.cells #[.int .i64 n, .slice (some ⟨gz, 0, none⟩) m cz] 30 (0, 0)) ∧ V.heap.size ≤ gz ∧ Row W gz m q ∧ Below V.heap.size V W
theorem two_heap {W : World} {s : Nat} {a b : Value} {t : TypeId} (h : W.heap[s]? = some (.cells #[a, b] t (0, 0))) (x y : Value) : ((W.setCell ⟨s, 0, none⟩ x).setCell ⟨s, 1, none⟩ y).heap[s]? = some (.cells #[x, y] t (0, 0)) := by
  have h1 : (W.setCell ⟨s, 0, none⟩ x).heap[s]? = some (.cells #[x, b] t (0, 0)) := heap_setCell_same W s 0 _ _ _ h
  exact heap_setCell_same _ s 1 _ _ _ h1
theorem boxed_set {V W : World} {s n m gz cz : Nat} {a b : Value} {q : Nat → Nat × Nat} (h : W.heap[s]? = some (.cells #[a, b] 30 (0, 0))) (hs : V.heap.size ≤ s) (hg : V.heap.size ≤ gz) (hne : gz ≠ s) (hR : Row W gz m q) (hB : Below V.heap.size V W) :
    Boxed V ((W.setCell ⟨s, 0, none⟩ (.int .i64 n)).setCell ⟨s, 1, none⟩ (.slice (some ⟨gz, 0, none⟩) m cz)) (.pointer (some ⟨s, 0, none⟩)) n m q := by
  refine ⟨s, gz, cz, rfl, hs, two_heap h _ _, hg, row_keep hR ?_, (hB.setCell hs _).setCell hs _⟩
  rw [Below.heap_setCell _ _ _ _ hne, Below.heap_setCell _ _ _ _ hne]
theorem boxed_lit {V W : World} {n m gz cz : Nat} {q : Nat → Nat × Nat} (hR : Row W gz m q) (hg : V.heap.size ≤ gz) (hB : Below V.heap.size V W) :
    Boxed V (W.alloc (.cells #[.int .i64 n, .slice (some ⟨gz, 0, none⟩) m cz] 30)) (.pointer (some ⟨W.heap.size, 0, none⟩)) n m q :=
  ⟨W.heap.size, gz, cz, rfl, hB.size, heap_alloc_new W _, hg, row_keep hR (Below.heap_alloc _ _ _ (row_lt hR)), hB.alloc hB.size _⟩
theorem change_held {V W : World} {fn M : Nat} {n' : Int} {X : Nat → Nat × Nat} {args : Array Value} {A B C D : Prop} (h : Hid (∀ W : World, Below V.heap.size V W → Calls Try.prog fn args W fun r w' => ∃ gz cz, r = .returned (.tuple #[.agg #[.int .i64 n', .slice (some ⟨gz, 0, none⟩) M cz], .int .i64 0]) ∧ Row w' gz M X ∧ W.heap.size ≤ gz ∧ Below W.heap.size W w')) (hs : A ∧ B ∧ C ∧ D ∧ Hid (Below V.heap.size V W)) :
    Calls Try.prog fn args W fun r w' => ∃ gz cz, r = .returned (.tuple #[.agg #[.int .i64 n', .slice (some ⟨gz, 0, none⟩) M cz], .int .i64 0]) ∧ Row w' gz M X ∧ W.heap.size ≤ gz ∧ Below W.heap.size W w' ∧ Hid (Below V.heap.size V w') := by
  refine (unhide h W (unhide hs.2.2.2.2)).mono ?_
  rintro r w' ⟨gz, cz, e, h1, h2, h3⟩
  exact ⟨gz, cz, e, h1, h2, h3, (unhide hs.2.2.2.2).trans (h3.mono (unhide hs.2.2.2.2).size)⟩
theorem change_new {V : World} {fn M : Nat} {n' : Int} {X : Nat → Nat × Nat} {args : Array Value} (h : Hid (∀ W : World, Below V.heap.size V W → Calls Try.prog fn args W fun r w' => ∃ gz cz, r = .returned (.tuple #[.agg #[.int .i64 n', .slice (some ⟨gz, 0, none⟩) M cz], .int .i64 0]) ∧ Row w' gz M X ∧ W.heap.size ≤ gz ∧ Below W.heap.size W w')) :
    Calls Try.prog fn args (V.alloc (.cells #[.int .i64 0, .slice none 0 0] 30)).drew fun r w' => ∃ gz cz, r = .returned (.tuple #[.agg #[.int .i64 n', .slice (some ⟨gz, 0, none⟩) M cz], .int .i64 0]) ∧ Row w' gz M X ∧ V.heap.size + 1 ≤ gz ∧ Hid (w'.heap[V.heap.size]? = some (.cells #[.int .i64 0, .slice none 0 0] 30 (0, 0))) ∧ Hid (Below V.heap.size V w') ∧
      w'.cell? ⟨V.heap.size, 0, none⟩ = some (.int .i64 0) ∧ w'.cell? ⟨V.heap.size, 1, none⟩ = some (.slice none 0 0) ∧ w'.frozen? ⟨V.heap.size, 0, none⟩ = false ∧ w'.frozen? ⟨V.heap.size, 1, none⟩ = false := by
  have hb : Below V.heap.size V (V.alloc (.cells #[.int .i64 0, .slice none 0 0] 30)).drew := ((Below.refl _ _).alloc (Nat.le_refl _) _).drew
  have s0 : (V.alloc (.cells #[.int .i64 0, .slice none 0 0] 30)).drew.heap.size = V.heap.size + 1 := World.size_alloc _ _
  refine (unhide h _ hb).mono ?_
  rintro r w' ⟨gz, cz, e, h1, h2, h3⟩
  have z : w'.heap[V.heap.size]? = some (.cells #[.int .i64 0, .slice none 0 0] 30 (0, 0)) := by
    rw [h3.block _ (by omega)]
    exact heap_alloc_new V _
  exact ⟨gz, cz, e, h1, by omega, z, hb.trans (h3.mono (by omega)), by simp [World.cell?, z], by simp [World.cell?, z], by simp [World.frozen?, z], by simp [World.frozen?, z]⟩
theorem bL_cons (x : Nat) (L : List Nat) : [Value.int .u8 (x : Nat)] ++ bL L = bL (x :: L) := by unfold bL bV; rfl

set_option maxRecDepth 100000 in
set_option maxHeartbeats 12800000 in
theorem refBody : BodyOk 48 := by
  intro n g c l cap a f prev w h1 h2 hf hR hL
  obtain ⟨i0, hi0, hz0, hz1, hz2⟩ := info_parts infoB
  have hM2 : n * n ≤ 4096 := Nat.mul_le_mul h2 h2
  have hM1 : 1 ≤ n * n := Nat.mul_le_mul h1 h1
  have kP := hide (fun (W : World) hr => packO refPack n g c f W h1 h2 hf hr)
  have kX := hide (fun (p : Nat → Nat × Nat) (hp : Bits n p) (g' c' : Nat) (W : World) r1 r2 => refChange n g c g' c' f p W h1 h2 hf hp r1 r2)
  have kQ := hide (fun (p : Nat → Nat × Nat) (hp : Bits n p) (g' c' : Nat) (W : World) hr => packO refPack n g' c' (xorC f p) W h1 h2 (bits_xor hf hp) hr)
  have RX := hide hR
  have LX := hide hL
  have BB0 : Hid (Below (w.heap.size + 1) (box w n g (n * n) c) (box w n g (n * n) c)) := Below.refl _ _
  clear hR hL hf
  unfold fieldV at *
  generalize hM : n * n = M at *
  go_enter Try.func48, Try.ntmps48
  go_wp2_with fail
  refine (unhide kP (box w n g M c) (box_row (unhide BB0) (unhide RX))).mono ?_
  rintro e w1 ⟨L, g1, c1, rfl, hP, h256, hlo, hhi, hO, hb⟩
  rw [box_size] at hO hb
  have PX := hide hP
  have O1 := hide hO
  have B1 := hide hb
  have Y1 := hide h256
  clear hP hO hb h256 kP
  have hown0 := hide (World.ownsRow_lit (base := w1.heap.size) (e := 5) (size := 1) w1 #[.int .u8 0] 1 (Nat.le_refl _) (by decide) rfl)
  have hnews : Hid (∀ j u, (bL L)[j]? = some u → (w1.alloc (.cells #[.int .u8 0] 5)).cell? ((⟨g1, 0, none⟩ : Addr).add j) = some u) := by
    exact news_bytes (bat_keep (bat_of_own (unhide O1) (unhide Y1)) ((Below.refl _ w1).alloc (Nat.le_refl _) (.cells #[.int .u8 0] 5))) rfl
  have hone := hide (bL_one L)
  go_wp2_with (first
      | (at_builtin; refine wpList_append_own _ rfl (.tmp 17) (.tmp 18) 22 rfl w1.heap.size 5 i0 (.int .u8 0) 1 1 Try.underlying22 hi0 hz0 hz1 hz2 rfl (by decide) _ 1 _ rfl (unhide hown0) ⟨g1, 0, none⟩ L.length c1 (bL L) rfl (by rw [bL_len, Nat.mul_one]) (unhide hnews) (unhide hone) ?c3 ?c4 ?c5 ?_))
  case c3 => unfold maxLen; omega
  case c4 => omega
  case c5 => simp
  intro v' w2 hown' hgrow _
  have bw : Below w1.heap.size w1 w2 := ((Below.refl _ _).alloc (Nat.le_refl _) _).grown hgrow (by simp) (fun k hk => by cases hk; exact Nat.le_refl _)
  have O2 : Hid (w2.ownsRow w1.heap.size 5 1 v' (0 :: L).length (bL (0 :: L))) := by
    have := hown'
    rw [Nat.add_comm] at this
    exact this
  have hlow : w.heap.size + 1 ≤ w1.heap.size := by have := (unhide B1).size; rw [box_size] at this; exact this
  have B2 := hide ((unhide B1).trans (bw.mono hlow))
  have B20 := hide (box_below (unhide B2))
  have LX2 := hide (last_keep (unhide LX) (unhide B20))
  have R2 := hide (box_row (unhide B2) (unhide RX))
  have O2' := hide (own_less (unhide O2) (by omega : w.heap.size ≤ w1.heap.size))
  obtain ⟨g2, c2, rfl⟩ := own_slice (unhide O2) (by simp)
  have Y2 := hide (cons_lt (by decide : 0 < 256) (unhide Y1))
  obtain ⟨b1, b2⟩ := box_cells (unhide B2)
  have el : (0 :: L).length = L.length + 1 := rfl
  clear hown' hgrow bw hown0 hnews hone O1 B1 LX RX BB0 O2
  rcases unhide LX2 with ⟨rfl, rfl⟩ | ⟨ga, k, n', p, g', c', rfl, rfl, hk, rfl, k1, k2, k3, k4, k5, k6, k7⟩
  · have BZ : Hid (BodyIs none n f (0 :: L)) := ⟨L, unhide PX, .inr ⟨fun p e => (by cases e), rfl⟩⟩
    go_wp2_with fail
    go_quiet (fail)
    go_wp2_with fail
    go_ret
    exact ⟨0 :: L, g2, c2, rfl, unhide BZ, unhide Y2, by simp, by simp; omega, unhide O2', below_drewN (unhide B20) nq⟩
  · obtain ⟨l, hl⟩ : ∃ l, l = k + 1 := ⟨_, rfl⟩
    rw [← hl]
    have q0 : ((0 : Int) < (l : Int)) = True := by simp; omega
    have q2 : (l : Int) - 1 = (k : Int) := by omega
    have q3 : ((k : Int) < (l : Int)) = True := by simp; omega
    have q4 : IntKind.i64.wrap ((l : Int) - 1) = (k : Int) := by rw [IntKind.wrap_i64]; omega
    have q5 : (0 < l) = True := by simp; omega
    have q6 : (k < l) = True := by simp; omega
    have q7 : (0 : Int) ≤ (k : Int) := by omega
    have q9 : IntKind.i64.wrap (k : Int) = (k : Int) := by rw [IntKind.wrap_i64]; omega
    have q8 : (k : Int) < (l : Int) := by omega
    clear hl LX2
    by_cases hn : n' = n
    · subst hn
      go_wp2_with fail
      go_quiet (fail)
      go_wp2_with fail
      have b1' : (w2.drewN nq).cell? ⟨w.heap.size, 0, none⟩ = some (.int .i64 n') := b1
      have b2' : (w2.drewN nq).cell? ⟨w.heap.size, 1, none⟩ = some (.slice (some ⟨g, 0, none⟩) M c) := b2
      have k1' : (w2.drewN nq).cell? ⟨ga, k * 2, none⟩ = some (.int .i64 n') := k1
      have k2' : (w2.drewN nq).cell? ⟨ga, k * 2 + 1, none⟩ = some (.slice (some ⟨g', 0, none⟩) (n' * n') c') := k2
      have B3 := hide (below_drewN (unhide B20) nq)
      have O3 : Hid ((w2.drewN nq).ownsRow w.heap.size 5 1 (.slice (some ⟨g2, 0, none⟩) (0 :: L).length c2) (0 :: L).length (bL (0 :: L))) := unhide O2'
      have R3 : Hid (Row (w2.drewN nq) g M f) := unhide R2
      have R4 : Hid (Row (w2.drewN nq) g' (n' * n') p) := k4
      have KX := hide (unhide kX p k7 g' c')
      have KQ := hide (unhide kQ p k7)
      have hw : w.heap.size < (w2.drewN nq).heap.size := by have := (unhide B2).size; rw [box_size] at this; exact this
      have hga : ga < (w2.drewN nq).heap.size := k3
      clear b1 b2 k1 k2 k3 k4 k7 B20 B2 O2' R2 kX kQ
      rw [hM] at k2' R4
      clear hM
      generalize w2.drewN nq = V0 at *
      have KC : Hid (∀ W : World, Below V0.heap.size V0 W → Calls Try.prog 36 #[.agg #[.int .i64 n', .slice (some ⟨g, 0, none⟩) M c], .agg #[.int .i64 n', .slice (some ⟨g', 0, none⟩) M c']] W fun r w' => ∃ gz cz, r = .returned (.tuple #[.agg #[.int .i64 n', .slice (some ⟨gz, 0, none⟩) M cz], .int .i64 0]) ∧ Row w' gz M (xorC f p) ∧ W.heap.size ≤ gz ∧ Below W.heap.size W w') := fun W hb => unhide KX W (row_below (unhide R3) hb (row_lt (unhide R3))) (row_below (unhide R4) hb (row_lt (unhide R4)))
      have FC : Hid (∀ W : World, Below V0.heap.size V0 W → W.cell? ⟨w.heap.size, 0, none⟩ = some (.int .i64 n') ∧ W.cell? ⟨w.heap.size, 1, none⟩ = some (.slice (some ⟨g, 0, none⟩) M c) ∧ W.cell? ⟨ga, k * 2, none⟩ = some (.int .i64 n') ∧ W.cell? ⟨ga, k * 2 + 1, none⟩ = some (.slice (some ⟨g', 0, none⟩) M c') ∧ Hid (Below V0.heap.size V0 W)) := fun W hb =>
        ⟨(hb.cell (p := ⟨w.heap.size, 0, none⟩) hw).trans b1', (hb.cell (p := ⟨w.heap.size, 1, none⟩) hw).trans b2', (hb.cell (p := ⟨ga, k * 2, none⟩) hga).trans k1', (hb.cell (p := ⟨ga, k * 2 + 1, none⟩) hga).trans k2', hb⟩
      clear KX
      go_cut [8] (fun v wx => Hid (Boxed V0 wx v n' M (xorC f p)))
      case first =>
        go_region_held3 (fun W => W.cell? ⟨w.heap.size, 0, none⟩ = some (.int .i64 n') ∧ W.cell? ⟨w.heap.size, 1, none⟩ = some (.slice (some ⟨g, 0, none⟩) M c) ∧ W.cell? ⟨ga, k * 2, none⟩ = some (.int .i64 n') ∧ W.cell? ⟨ga, k * 2 + 1, none⟩ = some (.slice (some ⟨g', 0, none⟩) M c') ∧ Hid (Below V0.heap.size V0 W))
          (first | exact unhide FC _ (unhide hv1) | exact unhide FC _ (unhide hv1).drew | exact unhide FC _ (Below.refl _ _).drew | exact unhide FC _ ((Below.refl _ _).alloc (Nat.le_refl _) _) | exact unhide FC _ ((Below.refl _ _).alloc (Nat.le_refl _) _).drew | exact unhide FC _ ((unhide hv1).alloc (unhide hv1).size _) | exact unhide FC _ (((unhide hv1).setCell (Nat.le_refl _) _).setCell (Nat.le_refl _) _) | go_keep)
          (first
          | (go_at_call 36; with_reducible refine (change_new KC).mono ?_; rintro e W1 ⟨gz, cz, rfl, hRz, hgz, hz, hv1, z0, z1, z2, z3⟩)
          | (go_at_call 36; with_reducible refine (change_held KC (by assumption)).mono ?_; rintro e W1 ⟨gz, cz, rfl, hRz, hgz, hbz, hv1⟩))
        all_goals go_wp2_with fail
        all_goals go_meet
        · exact boxed_lit hRz hgz (unhide hv1)
        · exact boxed_set (unhide hz) (Nat.le_refl _) (by omega) (by omega) hRz (unhide hv1)
      case rest =>
        obtain ⟨b, gz, cz, rfl, hb1, hb2, hb3, hRz, hbz⟩ := unhide hcut
        have d1 : wc.cell? ⟨b, 0, none⟩ = some (.int .i64 n') := by simp [World.cell?, hb2]
        have d2 : wc.cell? ⟨b, 1, none⟩ = some (.slice (some ⟨gz, 0, none⟩) M cz) := by simp [World.cell?, hb2]
        have KZ := hide (unhide KQ gz cz wc hRz)
        have B4 := hide ((unhide B3).trans (hbz.mono (unhide B3).size))
        have O4 := hide (own_below (unhide O3) hbz)
        clear hcut hb2 hbz hRz KC FC KQ O3 B3 b1' b2' k1' k2' R3 R4
        go_wp2_with fail
        refine (unhide KZ).mono ?_
        rintro e w5 ⟨C, g3, c3, rfl, hP, h256, hlo3, hhi3, hO, hb⟩
        have PC := hide hP
        have O5 := hide hO
        have B5 := hide ((unhide B4).trans (hb.mono (unhide B4).size))
        have O6 := hide (own_below (unhide O4) hb)
        have Y3 := hide h256
        have sz5 : w.heap.size ≤ w5.heap.size := (unhide B5).size
        clear hP hO hb h256 KZ O4 B4 d1 d2
        by_cases hlt : C.length < L.length
        · have t1 : ((C.length : Int) < (L.length : Int)) = True := by simp; omega
          have t2 : (C.length < L.length) = True := by simp; omega
          have BZ : Hid (BodyIs (some (n', p)) n' f (1 :: C)) := ⟨L, unhide PX, .inl ⟨p, C, rfl, unhide PC, hlt, rfl⟩⟩
          have hown0 := hide (World.ownsRow_lit (base := w5.heap.size) (e := 5) (size := 1) w5 #[.int .u8 1] 1 (Nat.le_refl _) (by decide) rfl)
          have hnews : Hid (∀ j u, (bL C)[j]? = some u → (w5.alloc (.cells #[.int .u8 1] 5)).cell? ((⟨g3, 0, none⟩ : Addr).add j) = some u) := by
            exact news_bytes (bat_keep (bat_of_own (unhide O5) (unhide Y3)) ((Below.refl _ w5).alloc (Nat.le_refl _) (.cells #[.int .u8 1] 5))) rfl
          have hone := hide (bL_one C)
          go_wp2_with (first
            | (at_builtin; refine wpList_append_own _ rfl (.tmp 56) (.tmp 57) 22 rfl w5.heap.size 5 i0 (.int .u8 0) 1 1 Try.underlying22 hi0 hz0 hz1 hz2 rfl (by decide) _ 1 _ rfl (unhide hown0) ⟨g3, 0, none⟩ C.length c3 (bL C) rfl (by rw [bL_len, Nat.mul_one]) (unhide hnews) (unhide hone) ?c3 ?c4 ?c5 ?_))
          case c3 => unfold maxLen; omega
          case c4 => omega
          case c5 => simp
          intro v' w6 hown' hgrow _
          have bw : Below w5.heap.size w5 w6 := ((Below.refl _ _).alloc (Nat.le_refl _) _).grown hgrow (by simp) (fun k hk => by cases hk; exact Nat.le_refl _)
          have O7 : Hid (w6.ownsRow w5.heap.size 5 1 v' (1 :: C).length (bL (1 :: C))) := by
            have := hown'
            rw [Nat.add_comm] at this
            exact this
          obtain ⟨g7, c7, rfl⟩ := own_slice (unhide O7) (by simp)
          have O8 := hide (own_less (unhide O7) sz5)
          have B7 := hide ((unhide B5).trans (bw.mono sz5))
          have Y7 := hide (cons_lt (by decide : 1 < 256) (unhide Y3))
          have el7 : (1 :: C).length = C.length + 1 := rfl
          clear hown' hgrow bw hown0 hnews hone O7
          go_wp2_with fail
          go_ret
          exact ⟨1 :: C, g7, c7, rfl, unhide BZ, unhide Y7, by simp, by simp; omega, unhide O8, unhide B7⟩
        · have t1 : ((C.length : Int) < (L.length : Int)) = False := by simp; omega
          have t2 : (C.length < L.length) = False := by simp; omega
          have BZ : Hid (BodyIs (some (n', p)) n' f (0 :: L)) := ⟨L, unhide PX, .inr ⟨fun p' e => (by cases e; exact ⟨C, unhide PC, hlt⟩), rfl⟩⟩
          go_wp2_with fail
          go_ret
          exact ⟨0 :: L, g2, c2, rfl, unhide BZ, unhide Y2, by simp, by simp; omega, unhide O6, unhide B5⟩
    · have q1 : ((n' : Int) = (n : Int)) = False := by simp; omega
      have BZ : Hid (BodyIs (some (n', p)) n f (0 :: L)) := ⟨L, unhide PX, .inr ⟨fun p e => (by cases e; exact absurd rfl hn), rfl⟩⟩
      go_wp2_with fail
      go_quiet (fail)
      go_wp2_with fail
      go_ret
      exact ⟨0 :: L, g2, c2, rfl, unhide BZ, unhide Y2, by simp, by simp; omega, unhide O2', below_drewN (unhide B20) nq⟩
end Go.Proofs.Ytpmbgjoilfdkaaa
