/- The open cell of a line. -/
import Derived.Test.YtgbkfmjkemkajaaPB2
import Derived.Test.YtgbkfmjkemkajaaM2
import Derived.BigQuiet
namespace Go.Proofs.Ytgbkfmjkemkajaa
open Go.RowKit

theorem lineL_get {P Q st bin : Int} {n t : Nat} {c : Int × Int} (hn : 1 ≤ n) (h : (lineL P Q st bin n (n * n))[t]? = some c) : ∃ i, i < n * n ∧ c = (((i % n : Nat) : Int), ((i / n : Nat) : Int)) ∧ Q * ((i % n : Nat) : Int) - P * ((i / n : Nat) : Int) + st = bin ∧ i / n < n := by
  have hm := List.mem_of_getElem? h
  unfold lineL at hm
  rw [List.mem_map] at hm
  obtain ⟨i, hi, rfl⟩ := hm
  rw [List.mem_filter, List.mem_range] at hi
  obtain ⟨h1, h2⟩ := hi
  unfold onLine at h2
  exact ⟨i, h1, rfl, by simpa using h2, (Nat.div_lt_iff_lt_mul (by omega)).2 h1⟩

theorem lineL_has {P Q st bin : Int} {n i : Nat} (hi : i < n * n) (h : Q * ((i % n : Nat) : Int) - P * ((i / n : Nat) : Int) + st = bin) : ∃ t : Nat, (lineL P Q st bin n (n * n))[t]? = some (((i % n : Nat) : Int), ((i / n : Nat) : Int)) := by
  refine List.mem_iff_getElem?.1 ?_
  unfold lineL
  rw [List.mem_map]
  refine ⟨i, ?_, rfl⟩
  rw [List.mem_filter, List.mem_range]
  refine ⟨hi, ?_⟩
  unfold onLine
  simpa using h

set_option maxRecDepth 100000 in
set_option maxHeartbeats 6400000 in
theorem boardCell {base n : Nat} {L : List (Int × Int)} {a : Option Addr} {cap g o : Nat} {V : BV} {bo : Nat → Bool} {bk : Nat → Nat → Bool} {k j : Nat} (hn : 1 ≤ n) (h64 : n ≤ 64) (hL : L.length ≤ 64) (hk : k < L.length) (ho : okD (dk L k).1 (dk L k).2 = true) (hj : j < binN n (dk L k)) (h1 : cntL n (dk L k) bo (j : Int) = 1) (w : World) (h : Board w base n L a cap g o V bo bk) :
    Calls Try.prog 22 #[.pointer (some ⟨V.blk 0, 0, none⟩), .int .i64 k, .int .i64 j] w fun e w' =>
      ∃ c, c < n * n ∧ bo c = true ∧ lnI n (dk L k) c = (j : Int) ∧ e = .returned (.int .i64 c) ∧ Below w.heap.size w w' := by
  have hM : n * n ≤ 4096 := Nat.mul_le_mul h64 h64
  obtain ⟨i0, hi0, hb0⟩ := cnt_has (Nat.le_of_eq h1.symm)
  obtain ⟨hb1, hl0⟩ := onB_true.1 hb0
  have hb1 := hide hb1
  clear hb0
  have H := hide h
  have hd := dk_at hk
  have c0 : w.cell? ⟨V.blk 0, 0, none⟩ = some (.int .i64 n) := h.field (by omega)
  have c5 : w.cell? ⟨V.blk 0, 5, none⟩ = some (.slice a L.length cap) := h.field (by omega)
  have hp := h.lt (r := 0) (Or.inl (by omega))
  obtain ⟨rfl, hg⟩ := h.dirs.at_ (by omega)
  have hD := h.dirs
  obtain ⟨c1, c2⟩ := hD.cell k _ hd
  have hbin := binN_eq hn h64 ho
  obtain ⟨b1, b2, b3⟩ := okD_bounds ho
  have hS : lineS n (dk L k) (j : Int) = (lineL (dk L k).1 (dk L k).2 (startS n (dk L k)) j n (n * n), 0) := by
    unfold lineS
    rw [hbin]
    dsimp only
    rw [if_neg (by omega), if_neg (by omega)]
    simp
  have kl := hide (fun (W : World) => lineAny (n := (n : Int)) (bin := (j : Int)) (a := dk L k) ⟨by unfold I64; omega, by unfold I64; omega⟩ W)
  rw [hS] at kl
  have hop := hide (fun W (hb : Below w.heap.size w W) i (hi : i < n * n) => (h.below hb).open_ hi)
  have c1' : Hid (∀ W, Below w.heap.size w W → W.cell? ⟨V.blk 0, 1, none⟩ = some (.slice (some ⟨V.blk 1, 0, none⟩) (n * n) V.cO)) := fun W hb => (h.below hb).field (by omega)
  have c0' : Hid (∀ W, Below w.heap.size w W → W.cell? ⟨V.blk 0, 0, none⟩ = some (.int .i64 n)) := fun W hb => (h.below hb).field (by omega)
  have hget := hide (fun (t : Nat) c (ht : (lineL (dk L k).1 (dk L k).2 (startS n (dk L k)) j n (n * n))[t]? = some c) => lineL_get hn ht)
  obtain ⟨t0, ht0⟩ := lineL_has (P := (dk L k).1) (Q := (dk L k).2) (st := startS n (dk L k)) (bin := (j : Int)) hi0 (by unfold lnI lnO at hl0; exact hl0)
  have hlen := lineL_len (dk L k).1 (dk L k).2 (startS n (dk L k)) j n (n * n)
  have hln := hide (fun i (e : (dk L k).2 * ((i % n : Nat) : Int) - (dk L k).1 * ((i / n : Nat) : Int) + startS n (dk L k) = (j : Int)) => show lnI n (dk L k) i = (j : Int) from e)
  have ht1 := hide ht0
  clear ht0
  have qk : ((k : Int) < (L.length : Int)) = True := by simp; omega
  unfold dirV at kl
  generalize lineL (dk L k).1 (dk L k).2 (startS n (dk L k)) j n (n * n) = l at *
  generalize hP : (dk L k).1 = P at *
  generalize hQ : (dk L k).2 = Q at *
  generalize startS n (dk L k) = st at *
  generalize n * n = M at *
  clear hS hbin h hD hl0 h1 hd H hj
  have fct : Hid (∀ w8 : World, Below w.heap.size w w8 → w8.cell? ⟨V.blk 0, 0, none⟩ = some (.int .i64 n) ∧ w8.cell? ⟨V.blk 0, 5, none⟩ = some (.slice (some ⟨g, o, none⟩) L.length cap) ∧ w8.cell? ⟨g, o + k * 2, none⟩ = some (.int .i64 P) ∧ w8.cell? ⟨g, o + k * 2 + 1, none⟩ = some (.int .i64 Q)) :=
    fun w8 h => ⟨(h.cell (p := ⟨V.blk 0, 0, none⟩) hp).trans c0, (h.cell (p := ⟨V.blk 0, 5, none⟩) hp).trans c5, (h.cell (p := ⟨g, o + k * 2, none⟩) hg).trans c1, (h.cell (p := ⟨g, o + k * 2 + 1, none⟩) hg).trans c2⟩
  clear hP hQ ho b1 b2 b3
  go_enter Try.func22, Try.ntmps22
  go_wp2_with fail
  go_region_held3 (fun w8 => w8.cell? ⟨V.blk 0, 0, none⟩ = some (.int .i64 n) ∧ w8.cell? ⟨V.blk 0, 5, none⟩ = some (.slice (some ⟨g, o, none⟩) L.length cap) ∧ w8.cell? ⟨g, o + k * 2, none⟩ = some (.int .i64 P) ∧ w8.cell? ⟨g, o + k * 2 + 1, none⟩ = some (.int .i64 Q))
    (first | exact unhide fct _ (unhide hv1) | go_keep)
    (first
    | (go_at_call 50; with_reducible refine (unhide kl _).mono ?_; rintro e v1 ⟨v, rfl, hown, hx1⟩
       have hv1 : Hid (Below w.heap.size w v1) := ⟨hx1.os, hx1.tape, hx1.output, hx1.size, hx1.block⟩
       have hO := hide (pairs2_owns hown)
       clear hx1 hown))
  clear c0 c1 c2 c5 kl fct
  obtain ⟨a2, cap2, g2, o2, rfl, hat, hcell⟩ := unhide hO
  have hat1 := hide hat
  have hcell1 := hide hcell
  have c0 := hide (unhide c0' v1 (unhide hv1))
  have c1 := hide (unhide c1' v1 (unhide hv1))
  have hop1 := hide (unhide hop v1 (unhide hv1))
  clear hO c0' c1' hop hat hcell
  go_wp2_with fail
  go_loopw [9] (fun tv wr => ∃ t : Nat, t ≤ l.length ∧ tv = .int .i64 t ∧ Hid (∀ t', t' < t → ∀ i, i < M → l[t']? = some (((i % n : Nat) : Int), ((i / n : Nat) : Int)) → bo i = false) ∧ Hid (wr.heap = v1.heap) ∧ Hid (Below w.heap.size w wr)) (fun tv _ => l.length - (intOf tv).toNat)
  case atStart => exact ⟨0, Nat.zero_le _, rfl, fun t' ht' => absurd ht' (Nat.not_lt_zero _), rfl, hv1⟩
  case round =>
    obtain ⟨t, ht, rfl, hno, hh, hBr⟩ := hrel
    by_cases htl : t < l.length
    · have q1 : ((t : Int) < (l.length : Int)) = True := by simp; omega
      obtain ⟨c, hc⟩ : ∃ c, l[t]? = some c := ⟨_, List.getElem?_eq_getElem htl⟩
      obtain ⟨i, hi, rfl, hli', hym⟩ := unhide hget t c hc
      have hli := hide (unhide hln i hli')
      clear hli'
      obtain ⟨rfl, hg2⟩ := unhide hat1 (by omega)
      obtain ⟨x1', x2'⟩ := unhide hcell1 t _ hc
      have x1 := (cell_heap (unhide hh) _).trans x1'
      have x2 := (cell_heap (unhide hh) _).trans x2'
      clear x1' x2'
      dsimp only at x1 x2
      have x3 := (cell_heap (unhide hh) _).trans (unhide hop1 i hi)
      have y0 := (cell_heap (unhide hh) _).trans (unhide c0)
      have y1 := (cell_heap (unhide hh) _).trans (unhide c1)
      have hnx : Hid (bo i = false → ∀ t', t' < t + 1 → ∀ i, i < M → l[t']? = some (((i % n : Nat) : Int), ((i / n : Nat) : Int)) → bo i = false) := fun hb t' ht' i' hi' h' => by
        by_cases e : t' = t
        · subst e
          rw [hc] at h'
          injection h' with h'
          have e1 := congrArg Prod.fst h'
          have e2 := congrArg Prod.snd h'
          dsimp only at e1 e2
          have d1 := Nat.div_add_mod i n
          have d2 := Nat.div_add_mod i' n
          have m1 : i' % n = i % n := by omega
          have m2 : i' / n = i / n := by omega
          rw [m1, m2] at d2
          rw [← d2, d1]
          exact hb
        · exact unhide hno t' (by omega) i' hi' h'
      have hdm : n * (i / n) + i % n = i := Nat.div_add_mod i n
      generalize i % n = x at x1 hdm
      generalize i / n = y at x2 hdm hym
      have hz : (y : Int) * (n : Int) = ((n * y : Nat) : Int) := by rw [Nat.mul_comm]; push_cast; rfl
      have hz2 : n * y ≤ i := by omega
      generalize n * y = z at *
      have qi : ((i : Int) < (M : Int)) = True := by simp; omega
      have n1 : IntKind.i64.wrap (z : Int) = (z : Int) := by rw [IntKind.wrap_i64]; omega
      have n2 : IntKind.i64.wrap ((z : Int) + (x : Int)) = (i : Int) := by rw [IntKind.wrap_i64]; omega
      clear hc hno hdm
      cases hb : bo i
      · rw [hb] at x3
        have hnx2 := hide (unhide hnx hb)
        clear hb hnx
        go_wp2_with fail
        go_quiet (fail)
        go_wp2_with fail
        exact ⟨⟨t + 1, by omega, by go_num, hnx2, unhide hh, ⟨(unhide hBr).os, (unhide hBr).tape, (unhide hBr).output, (unhide hBr).size, (unhide hBr).block⟩⟩, by simp [intOf]; omega⟩
      · rw [hb] at x3
        have hb2 := hide hb
        clear hb
        go_wp2_with fail
        go_quiet (fail)
        go_wp2_with fail
        go_ret
        exact ⟨i, hi, unhide hb2, unhide hli, rfl, ⟨(unhide hBr).os, (unhide hBr).tape, (unhide hBr).output, (unhide hBr).size, (unhide hBr).block⟩⟩
    · exfalso
      have e : t = l.length := by omega
      have hlt := (List.getElem?_eq_some_iff.1 (unhide ht1)).1
      have := unhide hno t0 (by omega) i0 hi0 (unhide ht1)
      rw [unhide hb1] at this
      cases this
end Go.Proofs.Ytgbkfmjkemkajaa
