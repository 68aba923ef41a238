/- The landed peeling: a cell closed. -/
import Derived.Test.YtgbkfmjkemkajabPM3
import Derived.Shelf.Abstract
namespace Go.Proofs.Ytgbkfmjkemkajab
open Go.RowKit Go.Shelf

section
variable {S : Nat → Prop} {w : World} {n : Nat} {L : List (Int × Int)} {a : Option Addr} {cap g o : Nat} {V : PV} {bo : Nat → Bool} {bk bk' : Nat → Nat → Bool} {v : Value} {m : Nat} {f : Nat → Nat × Nat}

theorem Peel.bkExt (h : Peel S w n L a cap g o V bo bk v m f) (he : ∀ k, k < L.length → bk k = bk' k) : Peel S w n L a cap g o V bo bk' v m f :=
  ⟨h.heap, mem_ext h.mem (fun r hr i _ => by
    match r with
    | 0 => rfl
    | 1 => rfl
    | 2 => rfl
    | r + 3 =>
      have hr' : r < L.length := by
        rcases hr with e | ⟨e, _⟩ <;> omega
      show (if i % 2 = 0 then Value.int .i64 (cntL n (dk L r) (bk r) ((i / 2 : Nat) : Int) : Nat) else Value.int .i64 (sumL n (dk L r) (bk r) ((i / 2 : Nat) : Int) : Nat)) = (if i % 2 = 0 then Value.int .i64 (cntL n (dk L r) (bk' r) ((i / 2 : Nat) : Int) : Nat) else Value.int .i64 (sumL n (dk L r) (bk' r) ((i / 2 : Nat) : Int) : Nat))
      rw [he r hr']), h.apB, h.apQ, h.sB, h.sR, h.sQ, h.sS, h.atF, h.atL, h.dirs, h.dS⟩
theorem Peel.boExt {bo' : Nat → Bool} (h : Peel S w n L a cap g o V bo bk v m f) (he : ∀ i, i < n * n → bo i = bo' i) : Peel S w n L a cap g o V bo' bk v m f :=
  ⟨h.heap, mem_ext h.mem (fun r hr i hi => by
    match r with
    | 0 =>
      show Value.bool (bo i) = .bool (bo' i)
      rw [he i hi]
    | 1 => rfl
    | 2 => rfl
    | r + 3 => rfl), h.apB, h.apQ, h.sB, h.sR, h.sQ, h.sS, h.atF, h.atL, h.dirs, h.dS⟩
end

theorem Peel.less {S S' : Nat → Prop} {w : World} {n : Nat} {L : List (Int × Int)} {a : Option Addr} {cap g o : Nat} {V : PV} {bo : Nat → Bool} {bk : Nat → Nat → Bool} {v : Value} {m : Nat} {f : Nat → Nat × Nat} (h : Peel S w n L a cap g o V bo bk v m f) (hs : ∀ x, S' x → S x) (hd : 0 < L.length → S' g) : Peel S' w n L a cap g o V bo bk v m f :=
  h.more (fun x hx => h.sS x (hs x hx)) (fun hx => h.sB (hs _ hx)) (fun r hr hx => h.sR r hr (hs _ hx)) (fun q hq hx => h.sQ q hq (hs _ hx)) hd

/-- A new block more is left alone. -/
theorem Peel.plus {S : Nat → Prop} {w w' : World} {n : Nat} {L : List (Int × Int)} {a : Option Addr} {cap g o : Nat} {V : PV} {bo : Nat → Bool} {bk : Nat → Nat → Bool} {v : Value} {m : Nat} {f : Nat → Nat × Nat} (h : Peel S w n L a cap g o V bo bk v m f) (hb : Below w.heap.size w w') {N : Nat → Prop} (hN : ∀ x, N x → w.heap.size ≤ x ∧ x < w'.heap.size) : Peel (fun x => S x ∨ N x) w' n L a cap g o V bo bk v m f := by
  refine (h.below hb).more (fun x hx => ?_) (fun hx => ?_) (fun r hr hx => ?_) (fun q hq hx => ?_) (fun hl => Or.inl (h.dS hl))
  · rcases hx with hx | hx
    · exact Nat.lt_of_lt_of_le (h.sS x hx) hb.size
    · exact (hN x hx).2
  · rcases hx with hx | hx
    · exact h.sB hx
    · have := (hN _ hx).1; have := h.heap.lt; omega
  · rcases hx with hx | hx
    · exact h.sR r hr hx
    · have := (hN _ hx).1; have := h.lt hr; omega
  · rcases hx with hx | hx
    · exact h.sQ q hq hx
    · have := (hN _ hx).1; have := h.heap.qv.lt hq; omega

theorem bkAt_next (b : Nat → Bool) (c k : Nat) : (fun i => if i = k then shutB b c else bkAt b c k i) = bkAt b c (k + 1) := by
  funext i
  by_cases e : i = k
  · subst e
    rw [if_pos rfl, bkAt_new]
  · rw [if_neg e, bkAt_ne e]

/-- What holds while a cell's lines are gone through. -/
def CloseSt (S : Nat → Prop) (w0 : World) (n : Nat) (L : List (Int × Int)) (a : Option Addr) (cap g o : Nat) (V : PV) (b : Nat → Bool) (c : Nat) (but : Nat × Nat → Prop) (m0 : Nat) (k : Nat) (W : World) : Prop :=
  (∃ v m f, Peel S W n L a cap g o V (shutB b c) (bkAt b c k) v m f ∧ QOk n L (bkAt b c k) f m but ∧ m ≤ m0 + k) ∧ Aside S w0 W

theorem CloseSt.below {S : Nat → Prop} {w0 : World} {n : Nat} {L : List (Int × Int)} {a : Option Addr} {cap g o : Nat} {V : PV} {b : Nat → Bool} {c : Nat} {but : Nat × Nat → Prop} {m0 k : Nat} {W W' : World} (h : CloseSt S w0 n L a cap g o V b c but m0 k W) (hb : Below W.heap.size W W') : CloseSt S w0 n L a cap g o V b c but m0 k W' := by
  obtain ⟨⟨v, m, f, h1, h2, h3⟩, h4⟩ := h
  exact ⟨⟨v, m, f, h1.below hb, h2, h3⟩, h4.trans (Aside.of_below hb h1.sS)⟩

set_option maxRecDepth 100000 in
set_option maxHeartbeats 3200000 in
theorem closeDo {S : Nat → Prop} {w0 : World} {n : Nat} {L : List (Int × Int)} {a : Option Addr} {cap g o : Nat} {V : PV} {b : Nat → Bool} {c : Nat} {but : Nat × Nat → Prop} {m0 k j b1 b2 : Nat} (h64 : n ≤ 64) (hL : L.length ≤ 64) (hc : c < n * n) (hbc : b c = true) (hm : m0 + 64 < 1000000)
    (s1 : S b1) (s2 : S b2) (x1 : w0.cell? ⟨b1, 0, none⟩ = some (.pointer (some ⟨V.B, 0, none⟩))) (x2 : w0.cell? ⟨b2, 0, none⟩ = some (.int .i64 c))
    (hk : k < L.length) (hj : j < binN n (dk L k)) (hl : lnI n (dk L k) c = (j : Int)) (W : World) (h : CloseSt S w0 n L a cap g o V b c but m0 k W) :
    Calls Try.prog 73 #[.agg #[.int .i64 k, .int .i64 j], .pointer (some ⟨b1, 0, none⟩), .pointer (some ⟨b2, 0, none⟩)] W fun e W' => (∃ u, e = .returned u) ∧ CloseSt S w0 n L a cap g o V b c but m0 (k + 1) W' := by
  obtain ⟨⟨v, m, f, hP, hQ, hm1⟩, hA⟩ := h
  have hsq : n * n ≤ 4096 := Nat.mul_le_mul h64 h64
  have hlt1 : b1 < W.heap.size := hP.sS b1 s1
  have hlt2 : b2 < W.heap.size := hP.sS b2 s2
  have y1 := hide (heap_alloc_new W (.cells #[.int .i64 k, .int .i64 j] 58))
  have y2 := hide ((Below.refl W.heap.size W).alloc (Nat.le_refl _) (.cells #[.int .i64 k, .int .i64 j] 58))
  have hd := hide hP.dS
  have H1 := hide (hP.plus (N := fun x => x = W.heap.size) (unhide y2) (fun x hx => by rw [World.size_alloc]; omega))
  have A1 := hide (hA.trans (Aside.of_below (unhide y2) hP.sS))
  have d1 := (World.cell?_of_block (a := ⟨b1, 0, none⟩) ((unhide A1).block b1 s1)).trans x1
  have d2 := (World.cell?_of_block (a := ⟨b2, 0, none⟩) ((unhide A1).block b2 s2)).trans x2
  have x3 : (W.alloc (.cells #[.int .i64 k, .int .i64 j] 58)).cell? ⟨W.heap.size, 0, none⟩ = some (.int .i64 k) := cell_of_row _ W.heap.size 0 _ _ (0, 0) (unhide y1)
  have x4 : (W.alloc (.cells #[.int .i64 k, .int .i64 j] 58)).cell? ⟨W.heap.size, 1, none⟩ = some (.int .i64 j) := cell_of_row _ W.heap.size 1 _ _ (0, 0) (unhide y1)
  have o1 := cntL_shut (d := dk L k) hc hbc (j : Int)
  have o2 := sumL_shut (d := dk L k) hc hbc (j : Int)
  rw [if_pos hl] at o1 o2
  have o3 := cntL_le n (dk L k) (shutB b c) (j : Int)
  have o4 := sumL_le h64 (dk L k) (shutB b c) (j : Int)
  have kC := hide (fun (W' : World) (hW : Peel (fun x => S x ∨ x = W.heap.size) W' n L a cap g o V (shutB b c) (bkAt b c k) v m f) => peelCount (many := -1) (sum := -(c : Int)) (b' := shutB b c) hk hj
    (fun i hi => by
      rw [bkAt_old]
      have g1 := cntL_shut (d := dk L k) hc hbc (i : Int)
      have g2 := sumL_shut (d := dk L k) hc hbc (i : Int)
      rw [if_neg (by omega)] at g1 g2
      exact ⟨g1, g2⟩)
    (by rw [bkAt_old]; omega) (by rw [bkAt_old]; omega) (by omega) (by omega) W' hW)
  rw [bkAt_next] at kC
  have kK := hide (fun (W' : World) (hW : Peel (fun x => S x ∨ x = W.heap.size) W' n L a cap g o V (shutB b c) (bkAt b c (k + 1)) v m f) => peelLook hk hj (by omega) W' hW)
  rw [bkAt_new] at kK
  have hfin : Hid (∀ W', Aside S w0 W' → (∃ v' m' f', Peel (fun x => S x ∨ x = W.heap.size) W' n L a cap g o V (shutB b c) (bkAt b c (k + 1)) v' m' f' ∧ ((cntL n (dk L k) (shutB b c) (j : Int) = 1 ∧ m' = m + 1 ∧ ∀ y, InQ f' (m + 1) y ↔ y = (k, j) ∨ InQ f m y) ∨ (cntL n (dk L k) (shutB b c) (j : Int) ≠ 1 ∧ m' = m ∧ f' = f))) → CloseSt S w0 n L a cap g o V b c but m0 (k + 1) W') := fun W' hA' ⟨v', m', f', hP', hq⟩ => by
    refine ⟨?_, hA'⟩
    have hP' := hP'.less (S' := S) (fun x hx => Or.inl hx) (unhide hd)
    rcases hq with ⟨h1, rfl, h2⟩ | ⟨h1, rfl, rfl⟩
    · exact ⟨v', m + 1, f', hP', hQ.put hc hbc hk hj hl h1 h2, by omega⟩
    · exact ⟨v', m', f', hP', hQ.pass hc hbc hl h1, by omega⟩
  have z1 : IntKind.i64.wrap (-(c : Int)) = -(c : Int) := by rw [IntKind.wrap_i64]; omega
  clear hP hQ hA x1 x2 o1 o2 o3 o4
  go_enter Try.func73, Try.ntmps73
  go_wp2_with fail
  refine (unhide kC _ (unhide H1)).mono ?_
  rintro e w2 ⟨⟨_, rfl⟩, hP2, hA2⟩
  have e1 := (World.cell?_of_block (a := ⟨b1, 0, none⟩) (hA2.block b1 (Or.inl s1))).trans d1
  have e3 := (World.cell?_of_block (a := ⟨W.heap.size, 0, none⟩) (hA2.block _ (Or.inr rfl))).trans x3
  have e4 := (World.cell?_of_block (a := ⟨W.heap.size, 1, none⟩) (hA2.block _ (Or.inr rfl))).trans x4
  have H2 := hide hP2
  have A2 := hide ((unhide A1).trans (hA2.mono fun x hx => Or.inl hx))
  clear hP2 hA2 H1 A1 kC y1 y2 d1 d2 x3 x4
  go_wp2_with fail
  refine (unhide kK _ (unhide H2)).mono ?_
  rintro e w3 ⟨⟨_, rfl⟩, hP3, hA3⟩
  have R3 := hide (unhide hfin w3 ((unhide A2).trans (hA3.mono fun x hx => Or.inl hx)) hP3)
  clear hP3 hA3 kK hfin A2 H2
  go_wp2_with fail
  go_end0
  exact ⟨⟨_, rfl⟩, unhide R3⟩

set_option maxRecDepth 100000 in
set_option maxHeartbeats 3200000 in
theorem peelClose {S : Nat → Prop} {n : Nat} {L : List (Int × Int)} {a : Option Addr} {cap g o : Nat} {V : PV} {b : Nat → Bool} {c m : Nat} {v : Value} {f : Nat → Nat × Nat} {but : Nat × Nat → Prop} (hn : 1 ≤ n) (h64 : n ≤ 64) (hL : L.length ≤ 64) (ho : ∀ d, d ∈ L → okD d.1 d.2 = true) (hc : c < n * n) (hbc : b c = true) (hm : m + 64 < 1000000)
    (w : World) (h : Peel S w n L a cap g o V b (fun _ => b) v m f) (hq : QOk n L (fun _ => b) f m but) :
    Calls Try.prog 42 #[.pointer (some ⟨V.B, 0, none⟩), .int .i64 c] w fun e w' => (∃ u, e = .returned u) ∧ (∃ v' m' f', Peel S w' n L a cap g o V (shutB b c) (fun _ => shutB b c) v' m' f' ∧ QOk n L (bkAt b c L.length) f' m' but ∧ m' ≤ m + L.length) ∧ Aside S w w' := by
  have hsq : n * n ≤ 4096 := Nat.mul_le_mul h64 h64
  have q1 : ((c : Int) < ((n * n : Nat) : Int)) = True := by simp; omega
  have y2 := hide (((Below.refl w.heap.size w).alloc (Nat.le_refl _) (.cells #[.pointer (some ⟨V.B, 0, none⟩)] 50)).alloc (by rw [World.size_alloc]; omega) (.cells #[.int .i64 c] 3))
  have hsz : ((w.alloc (.cells #[.pointer (some ⟨V.B, 0, none⟩)] 50)).alloc (.cells #[.int .i64 c] 3)).heap.size = w.heap.size + 2 := by rw [World.size_alloc, World.size_alloc]
  have H1 := hide (h.plus (N := fun x => x = w.heap.size ∨ x = w.heap.size + 1) (unhide y2) (fun x hx => by rw [hsz]; omega))
  have A1 := hide (Aside.of_below (unhide y2) h.sS)
  have hd := hide h.dS
  have x1 : ((w.alloc (.cells #[.pointer (some ⟨V.B, 0, none⟩)] 50)).alloc (.cells #[.int .i64 c] 3)).cell? ⟨w.heap.size, 0, none⟩ = some (.pointer (some ⟨V.B, 0, none⟩)) :=
    (World.cell?_of_block (a := ⟨w.heap.size, 0, none⟩) (Below.heap_alloc _ _ _ (by rw [World.size_alloc]; show w.heap.size < _; omega))).trans (cell_of_row _ w.heap.size 0 _ _ (0, 0) (heap_alloc_new w _))
  have x2 : ((w.alloc (.cells #[.pointer (some ⟨V.B, 0, none⟩)] 50)).alloc (.cells #[.int .i64 c] 3)).cell? ⟨w.heap.size + 1, 0, none⟩ = some (.int .i64 c) := by
    have := cell_of_row _ _ 0 _ _ (0, 0) (heap_alloc_new (w.alloc (.cells #[.pointer (some ⟨V.B, 0, none⟩)] 50)) (.cells #[.int .i64 c] 3))
    rw [World.size_alloc] at this
    exact this
  have c4 := (unhide H1).c4
  have c5 := (unhide H1).open_ hc
  have f5 := (unhide H1).frozen (live0 _) c
  have hq := hide hq
  clear h hsz
  go_enter Try.func42, Try.ntmps42
  go_wp2_with fail
  generalize (w.alloc (.cells #[.pointer (some ⟨V.B, 0, none⟩)] 50)).alloc (.cells #[.int .i64 c] 3) = w1 at *
  generalize w.heap.size = p at *
  go_region
  obtain ⟨hP2, hA2⟩ := (unhide H1).setOpen c
  have H2 := hide (hP2.below ((Below.refl _ _).drew))
  have A2 := hide ((unhide A1).trans ((hA2.drew).mono fun x hx => Or.inl hx))
  have e1 : (w1.setCell ⟨V.blk 0, c, none⟩ (.bool false)).drew.cell? ⟨p, 0, none⟩ = some (.pointer (some ⟨V.B, 0, none⟩)) := (World.cell?_of_block (a := ⟨p, 0, none⟩) (hA2.block p (Or.inr (Or.inl rfl)))).trans x1
  have e2 : (w1.setCell ⟨V.blk 0, c, none⟩ (.bool false)).drew.cell? ⟨p + 1, 0, none⟩ = some (.int .i64 c) := (World.cell?_of_block (a := ⟨p + 1, 0, none⟩) (hA2.block (p + 1) (Or.inr (Or.inr rfl)))).trans x2
  clear hP2 hA2 H1 A1 x1 x2 c4 c5 f5 y2
  generalize (w1.setCell ⟨V.blk 0, c, none⟩ (.bool false)).drew = w2 at *
  have k1 := hide (eachBin (S := fun x => S x ∨ (x = p ∨ x = p + 1)) (V := V) (cap := cap) (St := CloseSt (fun x => S x ∨ (x = p ∨ x = p + 1)) w2 n L a cap g o V b c but m) (lb := #[.pointer (some ⟨p, 0, none⟩), .pointer (some ⟨p + 1, 0, none⟩)]) hn h64 hL ho hc (enters_of Try.func73 (by kernel_rfl) rfl)
    (fun k W hW => by obtain ⟨⟨v, m, f, hW, _⟩, _⟩ := hW; exact ⟨_, _, v, m, f, hW⟩) (fun k W W' hW hb => hW.below hb)
    (fun k j W hk hj hl hW => closeDo h64 hL hc hbc hm (Or.inr (Or.inl rfl)) (Or.inr (Or.inr rfl)) e1 e2 hk hj hl W hW) w2 ⟨⟨v, m, f, unhide H2, unhide hq, by omega⟩, Aside.refl _ _⟩)
  clear H2
  go_wp2_with fail
  refine (unhide k1).mono ?_
  rintro e w3 ⟨⟨_, rfl⟩, ⟨⟨v3, m3, f3, hP3, hq3, hm3⟩, hA3⟩⟩
  have R3 := hide ((hP3.less (S' := S) (fun x hx => Or.inl hx) (unhide hd)).bkExt (bk' := fun _ => shutB b c) (fun k hk => if_pos hk))
  have A3 := hide ((unhide A2).trans (hA3.mono fun x hx => Or.inl hx))
  have Q3 := hide hq3
  clear hP3 hA3 hq3 k1 A2 e1 e2
  go_wp2_with fail
  go_end0
  exact ⟨⟨_, rfl⟩, ⟨v3, m3, f3, unhide R3, unhide Q3, hm3⟩, unhide A3⟩
end Go.Proofs.Ytgbkfmjkemkajab
