/- The document's own copy of a ghost. -/
import Derived.Test.YtfddchjonjklkaaGV
import Derived.Laws.AppendOwn
import Derived.Deep.RegionLaw
namespace Go.Proofs.Ytfddchjonjklkaa
open Go.RowKit Fl
attribute [local go_sem] store_complex

theorem cell_grown {w w' : World} {r : Option Nat} (h : w.grownBy w' r) {p : Addr} {v : Value} (hc : w.cell? p = some v) (hr : some p.block ≠ r) : w'.cell? p = some v := h.cell hc hr
theorem frozen_grown {w w' : World} {r : Option Nat} (h : w.grownBy w' r) {p : Addr} (hlt : p.block < w.heap.size) (hc : w.frozen? p = false) (hr : some p.block ≠ r) : w'.frozen? p = false :=
  (World.frozen?_of_block (h.block p.block hlt hr)).trans hc

def vals (n : Nat) (f : Nat → Nat × Nat) : List Value := (List.range n).map fun i => cv (f i)

theorem vals_length (n : Nat) (f : Nat → Nat × Nat) : (vals n f).length = n := by unfold vals; simp

theorem vals_get {n i : Nat} (f : Nat → Nat × Nat) (h : i < n) : (vals n f)[i]? = some (cv (f i)) := by
  unfold vals
  simp [h]

theorem vals_lt {n i : Nat} {f : Nat → Nat × Nat} {u : Value} (h : (vals n f)[i]? = some u) : i < n ∧ u = cv (f i) := by
  have hi : i < n := by
    have := (List.getElem?_eq_some_iff.1 h).1
    rwa [vals_length] at this
  rw [vals_get f hi] at h
  exact ⟨hi, (Option.some.inj h).symm⟩

/-- What an owned list is: a row. -/
theorem row_owned {w : World} {B n : Nat} {v : Value} {xs : List Value} {f : Nat → Nat × Nat} (h : w.ownsRow B 38 1 v n xs) (hn : 1 ≤ n) (hx : ∀ i, i < n → xs[i]? = some (cv (f i))) :
    ∃ g cap, v = .slice (some ⟨g, 0, none⟩) n cap ∧ n ≤ cap ∧ B ≤ g ∧ Row w g n f := by
  rcases h.2 with ⟨_, h'⟩ | ⟨g, cap, cur, rfl, hb, hg, hnc, _, hcs, htake⟩
  · omega
  · refine ⟨g, cap, rfl, hnc, hb, cur, hg, by omega, fun i hi => ?_⟩
    have h3 := hx i hi
    rw [← htake, List.getElem?_take, if_pos (by omega)] at h3
    simpa using h3

/-- append to an owned list, as one step of a region that draws. -/
theorem step_append_own {P : Program} {ops : Array Oper} {o : Oper} {a : Act} {w : World} {K : Act → World → Prop} {Q : Exit → Act → World → Prop} {E : Prop}
    (hgd : o.guard = none) (s x : Operand) (t : TypeId) (ho : o.op = Op.call { callee := Callee.builtin Builtin.append, args := #[s, x], argTypes := #[t, t] })
    (base : Nat) (e : TypeId) (i : TypeInfo) (z : Value) (size bytes : Nat) (ht : P.underlying t = some (.slice e)) (hi : P.info? e = some i) (hz : i.zero = some z)
    (hsize : i.size = size) (hby : i.bytes = bytes) (hzs : z.cells.size = size) (hsz : 0 < size)
    (v : Value) (n : Nat) (xs : List Value) (hs : a.eval s = v) (hown : w.ownsRow base e size v n xs)
    (ad : Addr) (m c : Nat) (news : List Value) (hx : a.eval x = .slice (some ad) m c) (hl : news.length = m * size) (hnews : ∀ j u, news[j]? = some u → w.cell? (ad.add j) = some u) (h1 : ∀ u ∈ news, u.oneCell' = true)
    (h63 : n + m ≤ maxLen) (hbytes : (n + m) * bytes ≤ 140737488355328) (hbase : base ≤ w.heap.size)
    (h : ∀ v' w', w'.ownsRow base e size v' (n + m) (xs ++ news) → w.grownBy w' v.ownBlock → K (a.put o.dst v') w') :
    if Region.wanted o (yielded ops a.tmps) = true then Oper.wp P o a w K Q else E := by
  have hw : Region.wanted o (yielded ops a.tmps) = true := by simp [Region.wanted, hgd]
  rw [if_pos hw]
  obtain ⟨v', w', hr, h2, h3, _⟩ := run_append_own (P := P) w base t o.type e i z size bytes ht hi hz hsize hby hzs hsz v n xs hown ad m c news hl hnews h1 h63 hbytes hbase
  unfold Oper.wp execOp
  simp only [ho, resolve, invoke, builtin, Sem.run_bind, Sem.run_pure, Result.andThen_ok, List.map_toArray, List.map_cons, List.map_nil, hs, hx, hr]
  exact h v' w' h2 h3

/-- Three cells laid behind a copy. -/
theorem laid3 {w W : World} {b gl M : Nat} {f : Nat → Nat × Nat} {x y z u v t : Value} (h0 : W.cell? ⟨b, 0, none⟩ = some u) (h1 : W.cell? ⟨b, 1, none⟩ = some v) (h2 : W.cell? ⟨b, 2, none⟩ = some t) (hb : Below w.heap.size w W) (hR : Row W gl M f) (hne : gl ≠ b) (hle : w.heap.size ≤ b) :
    (((W.setCell ⟨b, 0, none⟩ x).setCell ⟨b, 1, none⟩ y).setCell ⟨b, 2, none⟩ z).cell? ⟨b, 0, none⟩ = some x ∧
    (((W.setCell ⟨b, 0, none⟩ x).setCell ⟨b, 1, none⟩ y).setCell ⟨b, 2, none⟩ z).cell? ⟨b, 1, none⟩ = some y ∧
    (((W.setCell ⟨b, 0, none⟩ x).setCell ⟨b, 1, none⟩ y).setCell ⟨b, 2, none⟩ z).cell? ⟨b, 2, none⟩ = some z ∧
    Row (((W.setCell ⟨b, 0, none⟩ x).setCell ⟨b, 1, none⟩ y).setCell ⟨b, 2, none⟩ z) gl M f ∧
    Below w.heap.size w (((W.setCell ⟨b, 0, none⟩ x).setCell ⟨b, 1, none⟩ y).setCell ⟨b, 2, none⟩ z) := by
  refine ⟨by simp [go_sem, h0], by simp [go_sem, h1], by simp [go_sem, h2], ?_, ?_⟩
  · refine row_keep hR ?_
    rw [Below.heap_setCell _ _ _ _ (by show gl ≠ b; omega), Below.heap_setCell _ _ _ _ (by show gl ≠ b; omega), Below.heap_setCell _ _ _ _ (by show gl ≠ b; omega)]
  · exact ((hb.setCell (p := ⟨b, 0, none⟩) hle _).setCell (p := ⟨b, 1, none⟩) hle _).setCell (p := ⟨b, 2, none⟩) hle _

set_option maxHeartbeats 6400000 in
theorem copyAny {x y : Int} {g m cap : Nat} {f : Nat → Nat × Nat} (hm1 : 1 ≤ m) (hm : m ≤ 4096) (w : World) (hR : Row w g m f) :
    Calls Try.prog 13 #[.agg #[.int .i64 x, .int .i64 y, .slice (some ⟨g, 0, none⟩) m cap]] w fun e w' =>
      ∃ g' cap', e = .returned (.agg #[.int .i64 x, .int .i64 y, .slice (some ⟨g', 0, none⟩) m cap']) ∧ w.heap.size ≤ g' ∧ Row w' g' m f ∧ Below w.heap.size w w' := by
  obtain ⟨i0, hi0, hz0, hz1, hz2⟩ := info_parts infoC
  have hR := hide hR
  go_enter Try.func13, Try.ntmps13
  go_wp2_with fail
  generalize hw1 : (w.alloc (.cells #[.int .i64 x, .int .i64 y, .slice (some ⟨g, 0, none⟩) m cap] 26)).alloc (.cells #[.int .i64 0, .int .i64 0, .slice none 0 0] 26) = w1
  have hs1 : Hid (w1.heap.size = w.heap.size + 2) := by
    rw [← hw1]
    show _ = _
    simp
  have b0 : w1.cell? ⟨w.heap.size, 0, none⟩ = some (.int .i64 x) := by rw [← hw1]; simp [go_sem]
  have b1 : w1.cell? ⟨w.heap.size, 1, none⟩ = some (.int .i64 y) := by rw [← hw1]; simp [go_sem]
  have b2 : w1.cell? ⟨w.heap.size, 2, none⟩ = some (.slice (some ⟨g, 0, none⟩) m cap) := by rw [← hw1]; simp [go_sem]
  have b3 : w1.cell? ⟨w.heap.size + 1, 0, none⟩ = some (.int .i64 0) := by rw [← hw1]; simp [go_sem]
  have b4 : w1.cell? ⟨w.heap.size + 1, 1, none⟩ = some (.int .i64 0) := by rw [← hw1]; simp [go_sem]
  have b5 : w1.cell? ⟨w.heap.size + 1, 2, none⟩ = some (.slice none 0 0) := by rw [← hw1]; simp [go_sem]
  have f3 : w1.frozen? ⟨w.heap.size + 1, 0, none⟩ = false := by rw [← hw1]; simp [go_sem]
  have f4 : w1.frozen? ⟨w.heap.size + 1, 1, none⟩ = false := by rw [← hw1]; simp [go_sem]
  have f5 : w1.frozen? ⟨w.heap.size + 1, 2, none⟩ = false := by rw [← hw1]; simp [go_sem]
  have hB1 : Below w.heap.size w w1 := by
    rw [← hw1]
    exact ((Below.refl _ _).alloc (Nat.le_refl _) _).alloc (by simp) _
  have hR1 := row_below (unhide hR) hB1 (row_lt (unhide hR))
  have hR2 : Hid (Row (w1.drew.alloc (.cells #[] 38)) g m f) := row_keep (row_drew hR1) (Below.heap_alloc _ _ _ (by show g < w1.heap.size; exact row_lt hR1))
  have hfac : Hid (∀ w' : World, (w1.drew.alloc (.cells #[] 38)).grownBy w' (some w1.heap.size) →
      w'.cell? ⟨w.heap.size, 0, none⟩ = some (.int .i64 x) ∧ w'.cell? ⟨w.heap.size, 1, none⟩ = some (.int .i64 y) ∧ w'.cell? ⟨w.heap.size, 2, none⟩ = some (.slice (some ⟨g, 0, none⟩) m cap) ∧
      w'.cell? ⟨w.heap.size + 1, 0, none⟩ = some (.int .i64 0) ∧ w'.cell? ⟨w.heap.size + 1, 1, none⟩ = some (.int .i64 0) ∧ w'.cell? ⟨w.heap.size + 1, 2, none⟩ = some (.slice none 0 0) ∧
      w'.frozen? ⟨w.heap.size + 1, 0, none⟩ = false ∧ w'.frozen? ⟨w.heap.size + 1, 1, none⟩ = false ∧ w'.frozen? ⟨w.heap.size + 1, 2, none⟩ = false ∧ Below w.heap.size w w') := by
    intro w' h
    have e := unhide hs1
    have k := fun (j : Nat) (hj : j < w1.heap.size) => Below.heap_alloc w1.drew (.cells #[] 38) j hj
    have z : (w1.drew.alloc (.cells #[] 38)).heap.size = w1.heap.size + 1 := by simp [go_sem]
    have cl : ∀ (b i : Nat) (v : Value), b < w1.heap.size → w1.cell? ⟨b, i, none⟩ = some v → w'.cell? ⟨b, i, none⟩ = some v := fun b i v hb hc => cell_grown h ((World.cell?_of_block (k _ hb)).trans hc) (by simp; omega)
    have fl : ∀ (b i : Nat), b < w1.heap.size → w1.frozen? ⟨b, i, none⟩ = false → w'.frozen? ⟨b, i, none⟩ = false := fun b i hb hc => frozen_grown h (by rw [z]; show b < _; omega) ((World.frozen?_of_block (k _ hb)).trans hc) (by simp; omega)
    exact ⟨cl _ _ _ (by omega) b0, cl _ _ _ (by omega) b1, cl _ _ _ (by omega) b2, cl _ _ _ (by omega) b3, cl _ _ _ (by omega) b4, cl _ _ _ (by omega) b5, fl _ _ (by omega) f3, fl _ _ (by omega) f4, fl _ _ (by omega) f5,
      ((hB1.drew).alloc (by show w.heap.size ≤ w1.heap.size; omega) _).grown h (by rw [z]; omega) (fun j hj => by cases hj; omega)⟩
  have hv : Hid (∀ u ∈ vals m f, u.oneCell' = true) := by
    intro u hu
    unfold vals at hu
    simp at hu
    obtain ⟨i, _, rfl⟩ := hu
    rfl
  have hnews : Hid (∀ j u, (vals m f)[j]? = some u → (w1.drew.alloc (.cells #[] 38)).cell? ((⟨g, 0, none⟩ : Addr).add j) = some u) := by
    intro j u hj
    obtain ⟨hj1, rfl⟩ := vals_lt hj
    rw [addr_add]
    exact row_at (unhide hR2) hj1
  have hov := hide (fun v' w' (h : World.ownsRow w' w1.heap.size 38 1 v' (0 + m) ([] ++ vals m f)) => row_owned (f := f) h (by omega) (fun i hi => by
    show (vals m f)[i]? = _
    exact vals_get f (by omega)))
  have al := fun (b i : Nat) (v : Value) (hb : b < w1.heap.size) (hc : w1.cell? ⟨b, i, none⟩ = some v) => show (w1.alloc (.cells #[] 38)).cell? ⟨b, i, none⟩ = some v from (World.cell?_of_block (Below.heap_alloc w1 _ _ hb)).trans hc
  have z0 := al _ _ _ (by have := unhide hs1; omega) b0
  have z1 := al _ _ _ (by have := unhide hs1; omega) b1
  have z2 := al _ _ _ (by have := unhide hs1; omega) b2
  clear hR1 hB1 hR2 hw1 hR al
  go_region_law (refine step_append_own rfl (.tmp 7) (.tmp 9) 24 rfl w1.heap.size 38 i0 (.complex .f64 0 0) 1 16 Try.underlying24 hi0 hz0 hz1 hz2 rfl (by decide) (.slice (some ⟨w1.heap.size, 0, none⟩) 0 0) 0 [] rfl (World.ownsRow_lit w1.drew #[] 0 (Nat.le_refl _) (Nat.zero_le _) rfl) ⟨g, 0, none⟩ m cap (vals m f) rfl (by rw [vals_length, Nat.mul_one]) (unhide hnews) (unhide hv) (by unfold maxLen; omega) (by omega) (by simp [go_sem]) ?_
                 intro v' w' hown' hgrow
                 obtain ⟨k0, k1, k2, k3, k4, k5, l3, l4, l5, k7⟩ := unhide hfac w' hgrow
                 obtain ⟨g', cap', rfl, h1, h2, h3⟩ := unhide hov v' w' hown'
                 rw [Nat.zero_add] at h3
                 have fin := hide (laid3 (w := w) (x := .int .i64 x) (y := .int .i64 y) (z := .slice (some ⟨g', 0, none⟩) m cap') k3 k4 k5 k7 h3 (by have := unhide hs1; omega) (by omega))
                 have h2 := hide h2
                 clear hown' hgrow k7 h3)
  all_goals go_wp2_with fail
  all_goals obtain ⟨j1, j2, j3, j4, j5⟩ := unhide fin
  all_goals refine bodyPost_ret (results_three (P := Try.prog) rfl _ _ (w.heap.size + 1) (.int .i64 x) (.int .i64 y) (.slice (some ⟨g', 0, none⟩) m cap') _ rfl j1 j2 j3 Try.underlying26 rfl (by kernel_rfl)) rfl ?_
  all_goals exact ⟨g', cap', rfl, by have := unhide hs1; have e2 : w1.heap.size ≤ g' := unhide h2; omega, j4, j5⟩
end Go.Proofs.Ytfddchjonjklkaa
