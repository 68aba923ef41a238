/- The law's own copy of a field. -/
import Derived.Test.YtgbffbikieikdaaDoorPG
import Derived.Laws.AppendOwn
import Derived.Deep.RegionLaw
namespace Go.Proofs.YtgbffbikieikdaaDoor
open Go.RowKit Fl
attribute [local go_sem] store_complex

/-- append to an owned list, as one step of a region that draws. -/
theorem step_append_own {P : Program} {ops : Array Oper} {o : Oper} {a : Act} {w : World} {K : Act → World → Prop} {Q : Exit → Act → World → Prop} {E : Prop}
    (hgd : o.guard = none) (s x : Operand) (t : TypeId) (ho : o.op = Op.call { callee := Callee.builtin Builtin.append, args := #[s, x], argTypes := #[t, t] })
    (base : Nat) (e : TypeId) (i : TypeInfo) (z : Value) (size bytes : Nat) (ht : P.underlying t = some (.slice e)) (hi : P.info? e = some i) (hz : i.zero = some z)
    (hsize : i.size = size) (hby : i.bytes = bytes) (hzs : z.cells.size = size) (hsz : 0 < size)
    (v : Value) (n : Nat) (xs : List Value) (hs : a.eval s = v) (hown : w.ownsRow base e size v n xs)
    (ad : Addr) (m c : Nat) (news : List Value) (hx : a.eval x = .slice (some ad) m c) (hl : news.length = m * size) (hnews : ∀ j u, news[j]? = some u → w.cell? (ad.add j) = some u) (h1 : ∀ u ∈ news, u.oneCell' = true)
    (h63 : n + m ≤ maxLen) (hbytes : (n + m) * bytes ≤ 140737488355328) (hbase : base ≤ w.heap.size)
    (h : ∀ v' w', w'.ownsRow base e size v' (n + m) (xs ++ news) → w.grownBy w' v.ownBlock → K (a.put o.dst v') w') :
    if Region.wanted o (yielded ops a.tmps) = true then Oper.wp P o a w K Q else E := by
  have hw : Region.wanted o (yielded ops a.tmps) = true := by simp [Region.wanted, hgd]
  rw [if_pos hw]
  obtain ⟨v', w', hr, h2, h3, _⟩ := run_append_own (P := P) w base t o.type e i z size bytes ht hi hz hsize hby hzs hsz v n xs hown ad m c news hl hnews h1 h63 hbytes hbase
  unfold Oper.wp execOp
  simp only [ho, resolve, invoke, builtin, Sem.run_bind, Sem.run_pure, Result.andThen_ok, List.map_toArray, List.map_cons, List.map_nil, hs, hx, hr]
  exact h v' w' h2 h3

set_option maxHeartbeats 3200000 in
theorem copiedAny {n g m cap : Nat} {f : Nat → Nat × Nat} (hm1 : 1 ≤ m) (hm : m ≤ 4096) (w : World) (hR : Row w g m f) :
    Calls Tryd.prog 7 #[gridV n g m cap] w fun e w' =>
      ∃ g' cap', e = .returned (gridV n g' m cap') ∧ m ≤ cap' ∧ w.heap.size ≤ g' ∧ Row w' g' m f ∧ Below w.heap.size w w' := by
  obtain ⟨i0, hi0, hz0, hz1, hz2⟩ := info_parts infoC
  have hR := hide hR
  unfold gridV
  go_enter Tryd.func7, Tryd.ntmps7
  go_wp2_with fail
  generalize hw1 : (w.alloc (.cells #[.int .i64 n, .slice (some ⟨g, 0, none⟩) m cap] 26)).alloc (.cells #[.int .i64 0, .slice none 0 0] 26) = w1
  have hs1 : Hid (w1.heap.size = w.heap.size + 2) := by
    rw [← hw1]
    show _ = _
    simp
  have b1 : w1.cell? ⟨w.heap.size, 0, none⟩ = some (.int .i64 n) := by rw [← hw1]; simp [go_sem]
  have b2 : w1.cell? ⟨w.heap.size, 1, none⟩ = some (.slice (some ⟨g, 0, none⟩) m cap) := by rw [← hw1]; simp [go_sem]
  have b3 : w1.cell? ⟨w.heap.size + 1, 0, none⟩ = some (.int .i64 0) := by rw [← hw1]; simp [go_sem]
  have b4 : w1.cell? ⟨w.heap.size + 1, 1, none⟩ = some (.slice none 0 0) := by rw [← hw1]; simp [go_sem]
  have b5 : w1.frozen? ⟨w.heap.size + 1, 0, none⟩ = false := by rw [← hw1]; simp [go_sem]
  have b6 : w1.frozen? ⟨w.heap.size + 1, 1, none⟩ = false := by rw [← hw1]; simp [go_sem]
  have hB1 : Below w.heap.size w w1 := by
    rw [← hw1]
    exact ((Below.refl _ _).alloc (Nat.le_refl _) _).alloc (by simp) _
  have hR1 := row_below (unhide hR) hB1 (row_lt (unhide hR))
  have hR2 : Hid (Row (w1.drew.alloc (.cells #[] 34)) g m f) := row_keep (row_drew hR1) (Below.heap_alloc _ _ _ (by show g < w1.heap.size; exact row_lt hR1))
  have hfac : Hid (∀ w' : World, (w1.drew.alloc (.cells #[] 34)).grownBy w' (some w1.heap.size) →
      w'.cell? ⟨w.heap.size, 0, none⟩ = some (.int .i64 n) ∧ w'.cell? ⟨w.heap.size, 1, none⟩ = some (.slice (some ⟨g, 0, none⟩) m cap) ∧ w'.cell? ⟨w.heap.size + 1, 0, none⟩ = some (.int .i64 0) ∧ w'.cell? ⟨w.heap.size + 1, 1, none⟩ = some (.slice none 0 0) ∧
      w'.frozen? ⟨w.heap.size + 1, 0, none⟩ = false ∧ w'.frozen? ⟨w.heap.size + 1, 1, none⟩ = false ∧ Below w.heap.size w w') := by
    intro w' h
    have e := unhide hs1
    have k := fun (j : Nat) (hj : j < w1.heap.size) => Below.heap_alloc w1.drew (.cells #[] 34) j hj
    have z : (w1.drew.alloc (.cells #[] 34)).heap.size = w1.heap.size + 1 := by simp [go_sem]
    exact ⟨cell_grown h ((World.cell?_of_block (k _ (by show w.heap.size < _; omega))).trans b1) (by simp; omega), cell_grown h ((World.cell?_of_block (k _ (by show w.heap.size < _; omega))).trans b2) (by simp; omega),
      cell_grown h ((World.cell?_of_block (k _ (by show w.heap.size + 1 < _; omega))).trans b3) (by simp; omega), cell_grown h ((World.cell?_of_block (k _ (by show w.heap.size + 1 < _; omega))).trans b4) (by simp; omega),
      frozen_grown h (by rw [z]; show w.heap.size + 1 < _; omega) ((World.frozen?_of_block (k _ (by show w.heap.size + 1 < _; omega))).trans b5) (by simp; omega), frozen_grown h (by rw [z]; show w.heap.size + 1 < _; omega) ((World.frozen?_of_block (k _ (by show w.heap.size + 1 < _; omega))).trans b6) (by simp; omega),
      ((hB1.drew).alloc (by show w.heap.size ≤ w1.heap.size; omega) _).grown h (by rw [z]; omega) (fun j hj => by cases hj; omega)⟩
  have hv : Hid (∀ u ∈ vals m f, u.oneCell' = true) := by
    intro u hu
    unfold vals at hu
    simp at hu
    obtain ⟨i, _, rfl⟩ := hu
    rfl
  have hnews : Hid (∀ j u, (vals m f)[j]? = some u → (w1.drew.alloc (.cells #[] 34)).cell? ((⟨g, 0, none⟩ : Addr).add j) = some u) := by
    intro j u hj
    obtain ⟨hj1, rfl⟩ := vals_lt hj
    rw [addr_add]
    exact row_at (unhide hR2) hj1
  have hov := hide (fun v' w' (h : World.ownsRow w' w1.heap.size 34 1 v' (0 + m) ([] ++ vals m f)) => row_owned (f := f) h (by omega) (fun i hi => by
    show (vals m f)[i]? = _
    exact vals_get f (by omega)))
  have z1 : (w1.alloc (.cells #[] 34)).cell? ⟨w.heap.size, 0, none⟩ = some (.int .i64 n) := (World.cell?_of_block (Below.heap_alloc w1 _ _ (by have := unhide hs1; show w.heap.size < _; omega))).trans b1
  have z2 : (w1.alloc (.cells #[] 34)).cell? ⟨w.heap.size, 1, none⟩ = some (.slice (some ⟨g, 0, none⟩) m cap) := (World.cell?_of_block (Below.heap_alloc w1 _ _ (by have := unhide hs1; show w.heap.size < _; omega))).trans b2
  clear hR1 hB1 hR2 hw1 hR
  go_region_law (refine step_append_own rfl (.tmp 5) (.tmp 7) 24 rfl w1.heap.size 34 i0 (.complex .f64 0 0) 1 16 Tryd.underlying24 hi0 hz0 hz1 hz2 rfl (by decide) (.slice (some ⟨w1.heap.size, 0, none⟩) 0 0) 0 [] rfl (World.ownsRow_lit w1.drew #[] 0 (Nat.le_refl _) (Nat.zero_le _) rfl) ⟨g, 0, none⟩ m cap (vals m f) rfl (by rw [vals_length, Nat.mul_one]) (unhide hnews) (unhide hv) (by unfold maxLen; omega) (by omega) (by simp [go_sem]) ?_
                 intro v' w' hown' hgrow
                 obtain ⟨k1, k2, k3, k4, k5, k6, k7⟩ := unhide hfac w' hgrow
                 obtain ⟨g', cap', rfl, h1, h2, h3⟩ := unhide hov v' w' hown'
                 have k7 := hide k7
                 have h3 := hide h3
                 have h2 := hide h2
                 clear hown' hgrow)
  all_goals go_wp2_with fail
  all_goals refine bodyPost_ret (results_two (P := Tryd.prog) rfl _ _ (w.heap.size + 1) (.int .i64 n) (.slice (some ⟨g', 0, none⟩) m cap') _ rfl (by simp [go_sem, k3]) (by simp [go_sem, k4]) Tryd.underlying26 rfl (by kernel_rfl)) rfl ?_
  all_goals have e := unhide hs1
  all_goals have h4 := unhide h3
  all_goals rw [Nat.zero_add] at h4
  all_goals have e2 : w1.heap.size ≤ g' := unhide h2
  all_goals refine ⟨g', cap', rfl, by omega, by omega, row_keep h4 ?_, ((unhide k7).setCell (by simp) _).setCell (by simp) _⟩
  all_goals have hne : g' ≠ w.heap.size + 1 := by omega
  all_goals exact (Below.heap_setCell _ _ _ _ (by simpa using hne)).trans (Below.heap_setCell _ _ _ _ (by simpa using hne))
end Go.Proofs.YtgbffbikieikdaaDoor
