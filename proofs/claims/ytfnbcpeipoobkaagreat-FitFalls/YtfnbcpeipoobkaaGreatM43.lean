/- FitFalls: its way to ray.All, and behind it. -/
import Derived.Test.YtfnbcpeipoobkaaGreatM42
set_option linter.unusedSimpArgs false
namespace Go.Proofs.YtfnbcpeipoobkaaGreat
open Go Go.RowKit Go.Shelf Fl Ieee
attribute [local go_sem] store_complex

theorem seq0 : (body3 Tryz.f3) = .seq (cfst (body3 Tryz.f3)) (csnd (body3 Tryz.f3)) := by kernel_rfl
theorem seq1 : (csnd (body3 Tryz.f3)) = .seq (cfst (csnd (body3 Tryz.f3))) (csnd (csnd (body3 Tryz.f3))) := by kernel_rfl
theorem seq2 : (csnd (csnd (body3 Tryz.f3))) = .seq (cfst (csnd (csnd (body3 Tryz.f3)))) (csnd (csnd (csnd (body3 Tryz.f3)))) := by kernel_rfl
theorem seq3 : (csnd (csnd (csnd (body3 Tryz.f3)))) = .seq (cfst (csnd (csnd (csnd (body3 Tryz.f3))))) (csnd (csnd (csnd (csnd (body3 Tryz.f3))))) := by kernel_rfl
theorem seq4 : (csnd (csnd (csnd (csnd (body3 Tryz.f3))))) = .seq (cfst (csnd (csnd (csnd (csnd (body3 Tryz.f3)))))) (csnd (csnd (csnd (csnd (csnd (body3 Tryz.f3)))))) := by kernel_rfl
theorem seq5 : (csnd (csnd (csnd (csnd (csnd (body3 Tryz.f3)))))) = .seq (cfst (csnd (csnd (csnd (csnd (csnd (body3 Tryz.f3))))))) (csnd (csnd (csnd (csnd (csnd (csnd (body3 Tryz.f3))))))) := by kernel_rfl
theorem seq6 : (csnd (csnd (csnd (csnd (csnd (csnd (body3 Tryz.f3))))))) = .seq (cfst (csnd (csnd (csnd (csnd (csnd (csnd (body3 Tryz.f3)))))))) (csnd (csnd (csnd (csnd (csnd (csnd (csnd (body3 Tryz.f3)))))))) := by kernel_rfl
theorem seq7 : (csnd (csnd (csnd (csnd (csnd (csnd (csnd (body3 Tryz.f3)))))))) = .seq (cfst (csnd (csnd (csnd (csnd (csnd (csnd (csnd (body3 Tryz.f3))))))))) (csnd (csnd (csnd (csnd (csnd (csnd (csnd (csnd (body3 Tryz.f3))))))))) := by kernel_rfl
theorem reg3 : cfst (csnd (csnd (csnd (csnd (csnd (csnd (csnd (body3 Tryz.f3)))))))) = .region 13 (ops3 Tryz.f3) false := by kernel_rfl
theorem rng3 : List.range (ops3 Tryz.f3).size = [0, 1, 2, 3, 4, 5, 6, 7, 8] := by kernel_rfl
set_option maxRecDepth 100000 in
theorem pre_0 {lv bv dv : Value} (w : World) : Code.wp (barP Tryz.prog) (cfst (body3 Tryz.f3)) (fun e a w1 => e = .normal ∧ a = ⟨#[lv, bv, dv, undef, undef, undef, .bool false, undef, undef, undef, undef, undef, undef, undef, undef, undef, undef, undef, undef, undef, undef, undef, undef, undef, undef, undef, undef, undef, undef, undef, undef, undef, undef, undef, undef, undef, undef, undef, undef, undef, undef, undef, undef, undef, undef, undef, undef, undef, undef, undef, undef, undef, undef, undef, undef, undef, undef, undef, undef, undef, undef, undef, undef, undef, undef, undef, undef, undef, undef, undef, undef, undef, undef, undef, undef, undef, undef, undef, undef, undef, undef, undef, undef, undef, undef, undef, undef, undef, undef, undef, undef, undef, undef, undef, undef, undef, undef, undef, undef, undef, undef, undef, undef, undef, undef, undef, undef, undef, undef, undef, undef, undef, undef, undef, undef, undef, undef, undef, undef, undef, undef, undef, undef, undef, undef, undef, undef, undef, undef, undef, undef, undef, undef, undef, undef, undef, undef, undef, undef, undef, undef, undef, undef, undef, undef, undef, undef, undef, undef, undef, undef, undef, undef, undef, undef, undef, undef, undef, undef, undef, undef, undef, undef, undef, undef, undef, undef, undef, undef, undef, undef, undef, undef, undef, undef, undef, undef, undef, undef, undef, undef], []⟩ ∧ w1 = w) ⟨#[lv, bv, dv, undef, undef, undef, undef, undef, undef, undef, undef, undef, undef, undef, undef, undef, undef, undef, undef, undef, undef, undef, undef, undef, undef, undef, undef, undef, undef, undef, undef, undef, undef, undef, undef, undef, undef, undef, undef, undef, undef, undef, undef, undef, undef, undef, undef, undef, undef, undef, undef, undef, undef, undef, undef, undef, undef, undef, undef, undef, undef, undef, undef, undef, undef, undef, undef, undef, undef, undef, undef, undef, undef, undef, undef, undef, undef, undef, undef, undef, undef, undef, undef, undef, undef, undef, undef, undef, undef, undef, undef, undef, undef, undef, undef, undef, undef, undef, undef, undef, undef, undef, undef, undef, undef, undef, undef, undef, undef, undef, undef, undef, undef, undef, undef, undef, undef, undef, undef, undef, undef, undef, undef, undef, undef, undef, undef, undef, undef, undef, undef, undef, undef, undef, undef, undef, undef, undef, undef, undef, undef, undef, undef, undef, undef, undef, undef, undef, undef, undef, undef, undef, undef, undef, undef, undef, undef, undef, undef, undef, undef, undef, undef, undef, undef, undef, undef, undef, undef, undef, undef, undef, undef, undef, undef, undef, undef, undef, undef, undef, undef], []⟩ w := by
  simp only [body3, csnd, cfst, Tryz.f3, Option.getD_some]
  go_wp2_with fail
set_option maxRecDepth 100000 in
theorem pre_1 {lv bv dv : Value} (w : World) : Code.wp (barP Tryz.prog) (cfst (csnd (body3 Tryz.f3))) (fun e a w1 => e = .normal ∧ a = ⟨#[lv, bv, dv, undef, undef, undef, .bool false, undef, undef, undef, undef, undef, undef, undef, undef, undef, undef, undef, undef, undef, undef, undef, .bool true, .bool false, undef, undef, undef, undef, undef, undef, undef, undef, undef, undef, undef, undef, undef, undef, undef, undef, undef, undef, undef, undef, undef, undef, undef, undef, undef, undef, undef, undef, undef, undef, undef, undef, undef, undef, undef, undef, undef, undef, undef, undef, undef, undef, undef, undef, undef, undef, undef, undef, undef, undef, undef, undef, undef, undef, undef, undef, undef, undef, undef, undef, undef, undef, undef, undef, undef, undef, undef, undef, undef, undef, undef, undef, undef, undef, undef, undef, undef, undef, undef, undef, undef, undef, undef, undef, undef, undef, undef, undef, undef, undef, undef, undef, undef, undef, undef, undef, undef, undef, undef, undef, undef, undef, undef, undef, undef, undef, undef, undef, undef, undef, undef, undef, undef, undef, undef, undef, undef, undef, undef, undef, undef, undef, undef, undef, undef, undef, undef, undef, undef, undef, undef, undef, undef, undef, undef, undef, undef, undef, undef, undef, undef, undef, undef, undef, undef, undef, undef, undef, undef, undef, undef, undef, undef, undef, undef, undef, undef], []⟩ ∧ Below w.heap.size w w1) ⟨#[lv, bv, dv, undef, undef, undef, .bool false, undef, undef, undef, undef, undef, undef, undef, undef, undef, undef, undef, undef, undef, undef, undef, undef, undef, undef, undef, undef, undef, undef, undef, undef, undef, undef, undef, undef, undef, undef, undef, undef, undef, undef, undef, undef, undef, undef, undef, undef, undef, undef, undef, undef, undef, undef, undef, undef, undef, undef, undef, undef, undef, undef, undef, undef, undef, undef, undef, undef, undef, undef, undef, undef, undef, undef, undef, undef, undef, undef, undef, undef, undef, undef, undef, undef, undef, undef, undef, undef, undef, undef, undef, undef, undef, undef, undef, undef, undef, undef, undef, undef, undef, undef, undef, undef, undef, undef, undef, undef, undef, undef, undef, undef, undef, undef, undef, undef, undef, undef, undef, undef, undef, undef, undef, undef, undef, undef, undef, undef, undef, undef, undef, undef, undef, undef, undef, undef, undef, undef, undef, undef, undef, undef, undef, undef, undef, undef, undef, undef, undef, undef, undef, undef, undef, undef, undef, undef, undef, undef, undef, undef, undef, undef, undef, undef, undef, undef, undef, undef, undef, undef, undef, undef, undef, undef, undef, undef, undef, undef, undef, undef, undef, undef], []⟩ w := by
  simp only [body3, csnd, cfst, Tryz.f3, Option.getD_some]
  go_wp2_with fail
  refine (falive _).mono ?_
  rintro e w2 ⟨rfl, hb⟩
  have hb := hide hb
  go_wp2_with fail
set_option maxRecDepth 100000 in
theorem pre_2 {lv bv dv : Value} (w : World) : Code.wp (barP Tryz.prog) (cfst (csnd (csnd (body3 Tryz.f3)))) (fun e a w1 => e = .normal ∧ a = ⟨#[lv, bv, dv, undef, undef, undef, .bool false, .int .i64 1, undef, undef, undef, undef, undef, undef, undef, undef, undef, undef, undef, undef, undef, undef, .bool true, .bool false, undef, undef, undef, undef, undef, undef, undef, undef, undef, undef, undef, undef, undef, undef, undef, undef, undef, undef, undef, undef, undef, undef, undef, undef, undef, undef, undef, undef, undef, undef, undef, undef, undef, undef, undef, undef, undef, undef, undef, undef, undef, undef, undef, undef, undef, undef, undef, undef, undef, undef, undef, undef, undef, undef, undef, undef, undef, undef, undef, undef, undef, undef, undef, undef, undef, undef, undef, undef, undef, undef, undef, undef, undef, undef, undef, undef, undef, undef, undef, undef, undef, undef, undef, undef, undef, undef, undef, undef, undef, undef, undef, undef, undef, undef, undef, undef, undef, undef, undef, undef, undef, undef, undef, undef, undef, undef, undef, undef, undef, undef, undef, undef, undef, undef, undef, undef, undef, undef, undef, undef, undef, undef, undef, undef, undef, undef, undef, undef, undef, undef, undef, undef, undef, undef, undef, undef, undef, undef, undef, undef, undef, undef, undef, undef, undef, undef, undef, undef, undef, undef, undef, undef, undef, undef, undef, undef, undef], []⟩ ∧ w1 = w) ⟨#[lv, bv, dv, undef, undef, undef, .bool false, undef, undef, undef, undef, undef, undef, undef, undef, undef, undef, undef, undef, undef, undef, undef, .bool true, .bool false, undef, undef, undef, undef, undef, undef, undef, undef, undef, undef, undef, undef, undef, undef, undef, undef, undef, undef, undef, undef, undef, undef, undef, undef, undef, undef, undef, undef, undef, undef, undef, undef, undef, undef, undef, undef, undef, undef, undef, undef, undef, undef, undef, undef, undef, undef, undef, undef, undef, undef, undef, undef, undef, undef, undef, undef, undef, undef, undef, undef, undef, undef, undef, undef, undef, undef, undef, undef, undef, undef, undef, undef, undef, undef, undef, undef, undef, undef, undef, undef, undef, undef, undef, undef, undef, undef, undef, undef, undef, undef, undef, undef, undef, undef, undef, undef, undef, undef, undef, undef, undef, undef, undef, undef, undef, undef, undef, undef, undef, undef, undef, undef, undef, undef, undef, undef, undef, undef, undef, undef, undef, undef, undef, undef, undef, undef, undef, undef, undef, undef, undef, undef, undef, undef, undef, undef, undef, undef, undef, undef, undef, undef, undef, undef, undef, undef, undef, undef, undef, undef, undef, undef, undef, undef, undef, undef, undef], []⟩ w := by
  simp only [body3, csnd, cfst, Tryz.f3, Option.getD_some]
  go_wp2_with fail
theorem In3.of {w w1 w2 : World} {n gg gb : Nat} {L : List Int} (hb : Below w.heap.size w w1) (h : In3 w1 w2 n gg gb L) : In3 w w2 n gg gb L := ⟨hb.trans (h.low.mono hb.size), Nat.le_trans hb.size h.new, h.g0, h.row⟩
set_option maxRecDepth 100000 in
set_option maxHeartbeats 4000000 in
theorem law_pre {T : Machine → Prop} {cs : List Frame} {gl ol lc dc : Nat} {la da : Option Addr} {L : List Int} {D : List (Int × Int)} {bv : Value} (w : World) (hLl : L.length ≤ 9223372036854775807) (hB : Bytes w la gl ol L) (hcap : D.length ≤ dc) (hda : 0 < D.length → ∃ g o, da = some ⟨g, o, none⟩)
    (hl : ∀ a w1 n gg gb, 1 ≤ n → n ≤ 8 → In3 w w1 n gg gb L → Tm3 a (.slice la L.length lc) bv (.slice da (D.take 4).length dc) (.int .i64 n) (.pointer (some ⟨gb, 0, none⟩)) → To T (lone ((Go.Conc.base 3).at a [.code (csnd (csnd (csnd (csnd (csnd (csnd (csnd (body3 Tryz.f3))))))))]) cs w1)) :
    To T (lone (Frame.enter (barP Tryz.prog) 3 #[.slice la L.length lc, bv, .slice da D.length dc] .normal) cs w) := by
  rw [Go.Conc.enter_at _ Bar.func3 rfl]
  obtain ⟨lv, hlv⟩ : ∃ lv : Value, lv = .slice la L.length lc := ⟨_, rfl⟩
  obtain ⟨dv, hdv⟩ : ∃ dv : Value, dv = .slice da D.length dc := ⟨_, rfl⟩
  rw [← hlv, ← hdv]
  have e0 : #[lv, bv, dv] ++ Array.replicate (Tryz.f3.ntmps - #[lv, bv, dv].size) undef = #[lv, bv, dv, undef, undef, undef, undef, undef, undef, undef, undef, undef, undef, undef, undef, undef, undef, undef, undef, undef, undef, undef, undef, undef, undef, undef, undef, undef, undef, undef, undef, undef, undef, undef, undef, undef, undef, undef, undef, undef, undef, undef, undef, undef, undef, undef, undef, undef, undef, undef, undef, undef, undef, undef, undef, undef, undef, undef, undef, undef, undef, undef, undef, undef, undef, undef, undef, undef, undef, undef, undef, undef, undef, undef, undef, undef, undef, undef, undef, undef, undef, undef, undef, undef, undef, undef, undef, undef, undef, undef, undef, undef, undef, undef, undef, undef, undef, undef, undef, undef, undef, undef, undef, undef, undef, undef, undef, undef, undef, undef, undef, undef, undef, undef, undef, undef, undef, undef, undef, undef, undef, undef, undef, undef, undef, undef, undef, undef, undef, undef, undef, undef, undef, undef, undef, undef, undef, undef, undef, undef, undef, undef, undef, undef, undef, undef, undef, undef, undef, undef, undef, undef, undef, undef, undef, undef, undef, undef, undef, undef, undef, undef, undef, undef, undef, undef, undef, undef, undef, undef, undef, undef, undef, undef, undef, undef, undef, undef, undef, undef, undef] := by simp
  rw [e0]
  clear e0
  refine (?_ : To T (lone ((Go.Conc.base 3).at ⟨#[lv, bv, dv, undef, undef, undef, undef, undef, undef, undef, undef, undef, undef, undef, undef, undef, undef, undef, undef, undef, undef, undef, undef, undef, undef, undef, undef, undef, undef, undef, undef, undef, undef, undef, undef, undef, undef, undef, undef, undef, undef, undef, undef, undef, undef, undef, undef, undef, undef, undef, undef, undef, undef, undef, undef, undef, undef, undef, undef, undef, undef, undef, undef, undef, undef, undef, undef, undef, undef, undef, undef, undef, undef, undef, undef, undef, undef, undef, undef, undef, undef, undef, undef, undef, undef, undef, undef, undef, undef, undef, undef, undef, undef, undef, undef, undef, undef, undef, undef, undef, undef, undef, undef, undef, undef, undef, undef, undef, undef, undef, undef, undef, undef, undef, undef, undef, undef, undef, undef, undef, undef, undef, undef, undef, undef, undef, undef, undef, undef, undef, undef, undef, undef, undef, undef, undef, undef, undef, undef, undef, undef, undef, undef, undef, undef, undef, undef, undef, undef, undef, undef, undef, undef, undef, undef, undef, undef, undef, undef, undef, undef, undef, undef, undef, undef, undef, undef, undef, undef, undef, undef, undef, undef, undef, undef, undef, undef, undef, undef, undef, undef], []⟩ [.code (body3 Tryz.f3)]) cs w))
  rw [seq0]
  refine to_seq (to_wp (pre_0 w) ?_)
  rintro _ w0 ⟨rfl, hw0⟩
  rw [hw0]
  clear hw0 w0
  rw [seq1]
  refine to_seq (to_wp (pre_1 _) ?_)
  rintro _ w1 ⟨rfl, hb1⟩
  rw [seq2]
  refine to_seq (to_wp (pre_2 _) ?_)
  rintro _ w0 ⟨rfl, hw0⟩
  rw [hw0]
  clear hw0 w0
  rw [seq3]
  refine to_seq (to_wp (pre_n hlv _) ?_)
  rintro a3 w0 ⟨hw0, n, v8, h1, h2, hT⟩
  rw [hw0]
  clear hw0 w0
  rw [seq4]
  refine to_seq (to_wp (K := K4 lv bv dv w1 n L) (by rw [act_eta a3 hT.size hT.defers, hT.e0, hT.e1, hT.e2, hT.e7]; exact pre_g h1 h2 w1 w1 (Below.refl _ _)) ?_)
  rintro a4 w4 ⟨gg, gb, hI, hT4⟩
  rw [seq5]
  subst hlv
  refine to_seq (to_wp (K := K5 (.slice la L.length lc) bv dv w1 n gg gb L) (by rw [act_eta a4 hT4.size hT4.defers, hT4.e0, hT4.e1, hT4.e2, hT4.e7, hT4.e8]; exact pre_fill h1 h2 hLl w1 w4 (bytes_below hB hb1) hI) ?_)
  rintro a5 w5 ⟨hI3, hT5⟩
  rw [seq6]
  subst hdv
  refine to_seq (to_wp (K := K6 (.slice la L.length lc) bv (.slice da (D.take 4).length dc) w5 n gb) (by rw [act_eta a5 hT5.size hT5.defers, hT5.e0, hT5.e1, hT5.e2, hT5.e7, hT5.e8]; exact pre_dirs hcap hda w5) ?_)
  rintro a6 w0 ⟨hw0, hT⟩
  rw [hw0]
  exact hl a6 _ n gg gb h1 h2 (In3.of hb1 hI3) hT
def op3 (fn : Func) (i : Nat) : Oper := ((ops3 fn)[i]?).getD ⟨none, .move (.tmp 0), 0, "", #[], none⟩
theorem run_mv {ρ : Operand → Value} {o : Oper} {w : World} {v : Value} (x : Operand) (h : o.op = .move x) (hv : ρ x = v) : (execOp ρ o).run (barP Tryz.prog) w = .ok (.value v) w := by
  unfold execOp
  rw [h, ← hv]
  rfl
theorem run_op0 {ρ : Operand → Value} {w1 : World} {n gg gb : Nat} (hρ : ρ (.tmp 8) = .pointer (some ⟨gb, 0, none⟩)) (c0 : w1.cell? ⟨gb, 0, none⟩ = some (.int .i64 n)) (c1 : w1.cell? ⟨gb, 1, none⟩ = some (.slice (some ⟨gg, 0, none⟩) (n * n : Nat) (n * n : Nat))) : (execOp ρ (op3 Tryz.f3 0)).run (barP Tryz.prog) w1 = .ok (.value (gridV n gg (n * n))) w1 := by
  unfold execOp
  rw [show (op3 Tryz.f3 0).op = .load 27 (.tmp 8) by kernel_rfl]
  simp [go_sem, hρ, c0, c1, gridV]
theorem run_op2 {ρ : Operand → Value} {w1 : World} {x y : Value} (h1 : ρ (.tmp 84) = x) (h2 : ρ (.tmp 85) = y) (h3 : ρ (.const (.int .i64 1)) = .int .i64 1) (h4 : ρ (.func 5) = .func (.func 5) #[] #[]) : (execOp ρ (op3 Tryz.f3 2)).run (barP Tryz.prog) w1 = .ok (.enter 5 #[x, y, .int .i64 1]) w1 := by
  unfold execOp
  rw [show (op3 Tryz.f3 2).op = .call { callee := .value (.func 5), args := #[.tmp 84, .tmp 85, .const (.int .i64 1)], argTypes := #[27, 23, 3] } by kernel_rfl]
  simp [go_sem, h1, h2, h3, h4]
theorem okObj_unbar (o : Obj) (h : okObj (barP Tryz.prog) o) : okObj Tryz.prog o := by
  letI : Inhabited Junk := noJunk
  cases o with
  | loop l => exact ⟨by rw [← okCode_bar (P := Tryz.prog) (F := (barF Tryz.prog))]; exact h.1, by rw [← okCode_bar (P := Tryz.prog) (F := (barF Tryz.prog))]; exact h.2.1, fun c e => by rw [← okCode_bar (P := Tryz.prog) (F := (barF Tryz.prog))]; exact h.2.2 c e⟩
  | deferred ds => cases ds <;> exact h
  | _ => exact h
/-- The law at its call of ray.All. -/
def fr3 (fn : Func) (a : Act) : Frame := (Go.Conc.base 3).at a [.inRegion (ops3 fn) [2, 3, 4, 5, 6, 7, 8], .code (rest3 fn)]
theorem Tm3.put {a : Act} {lv bv dv v7 v8 v : Value} {d : Nat} (h : Tm3 a lv bv dv v7 v8) (hd : 8 < d) (hd2 : d ≠ 8) : Tm3 (a.put (some d) v) lv bv dv v7 v8 := by
  refine ⟨by simp [Act.put, h.size], h.defers, (eval_put (b := a) (d := d) (t := 0) (v := v) (by omega)).trans h.e0, (eval_put (b := a) (d := d) (t := 1) (v := v) (by omega)).trans h.e1, (eval_put (b := a) (d := d) (t := 2) (v := v) (by omega)).trans h.e2, (eval_put (b := a) (d := d) (t := 7) (v := v) (by omega)).trans h.e7, (eval_put (b := a) (d := d) (t := 8) (v := v) (by omega)).trans h.e8⟩
set_option maxRecDepth 100000 in
set_option maxHeartbeats 4000000 in
theorem law_to {T : Machine → Prop} {cs : List Frame} {gl ol lc dc : Nat} {la da : Option Addr} {L : List Int} {D : List (Int × Int)} {bv : Value} (w : World) (hLl : L.length ≤ 9223372036854775807) (hB : Bytes w la gl ol L) (hcap : D.length ≤ dc) (hda : 0 < D.length → ∃ g o, da = some ⟨g, o, none⟩)
    (hl : ∀ a w1 n gg gb, 1 ≤ n → n ≤ 8 → In3 w w1 n gg gb L → Tm3 a (.slice la L.length lc) bv (.slice da (D.take 4).length dc) (.int .i64 n) (.pointer (some ⟨gb, 0, none⟩)) → To T (lone (Frame.enter (barP Tryz.prog) 5 #[gridV n gg (n * n), .slice da (D.take 4).length dc, .int .i64 1] .normal) (fr3 Tryz.f3 a :: cs) w1)) :
    To T (lone (Frame.enter (barP Tryz.prog) 3 #[.slice la L.length lc, bv, .slice da D.length dc] .normal) cs w) := by
  refine law_pre w hLl hB hcap hda fun a w1 n gg gb h1 h2 hI hT => ?_
  have c0 : w1.cell? ⟨gb, 0, none⟩ = some (.int .i64 n) := by simp [World.cell?, hI.g0]
  have c1 : w1.cell? ⟨gb, 1, none⟩ = some (.slice (some ⟨gg, 0, none⟩) (n * n : Nat) (n * n : Nat)) := by simp [World.cell?, hI.g0]
  have d0 : (op3 Tryz.f3 0).dst = some 84 := by kernel_rfl
  have d1 : (op3 Tryz.f3 1).dst = some 85 := by kernel_rfl
  have v8 : a.eval (.tmp 8) = .pointer (some ⟨gb, 0, none⟩) := hT.e8
  have hs := hT.size
  rw [seq7, reg3]
  refine to_seq (to_region ?_)
  rw [rng3]
  refine to_value (o := op3 Tryz.f3 0) (by kernel_rfl) (aS_want (by kernel_rfl) _) (by simp [Go.Conc.base]) (v := gridV n gg (n * n)) (w' := w1) (run_op0 v8 c0 c1) ?_
  rw [d0]
  have v2 : (a.put (some 84) (gridV n gg (n * n))).eval (.tmp 2) = .slice da (D.take 4).length dc := (eval_put (by decide)).trans hT.e2
  refine to_value (o := op3 Tryz.f3 1) (by kernel_rfl) (aS_want (by kernel_rfl) _) (by simp [Go.Conc.base]) (v := .slice da (D.take 4).length dc) (w' := w1) (run_mv _ (show (op3 Tryz.f3 1).op = .move (.tmp 2) by kernel_rfl) v2) ?_
  rw [d1]
  have hs2 : (a.put (some 84) (gridV n gg (n * n))).tmps.size = 181 := by simp [Act.put, hs]
  have v84 : ((a.put (some 84) (gridV n gg (n * n))).put (some 85) (.slice da (D.take 4).length dc)).eval (.tmp 84) = gridV n gg (n * n) := (eval_put (by decide)).trans (eval_put_same (by omega))
  have v85 : ((a.put (some 84) (gridV n gg (n * n))).put (some 85) (.slice da (D.take 4).length dc)).eval (.tmp 85) = .slice da (D.take 4).length dc := eval_put_same (by omega)
  refine to_enter (o := op3 Tryz.f3 2) (by kernel_rfl) (aS_want (by kernel_rfl) _) (by simp [Go.Conc.base]) (f := 5) (args := #[gridV n gg (n * n), .slice da (D.take 4).length dc, .int .i64 1]) (w' := w1) (run_op2 v84 v85 rfl rfl) ?_
  exact hl _ w1 n gg gb h1 h2 hI ((hT.put (by decide) (by decide)).put (by decide) (by decide))
theorem run_ext {ρ : Operand → Value} {o : Oper} {w : World} {x y : Value} {s : Nat} (h : ρ (.tmp s) = .tuple #[x, y]) (ho : o.op = .extract (.tmp s) 0) : (execOp ρ o).run (barP Tryz.prog) w = .ok (.value x) w := by
  unfold execOp
  rw [ho]
  simp [go_sem, h]
theorem run_ext1 {ρ : Operand → Value} {o : Oper} {w : World} {x y : Value} {s : Nat} (h : ρ (.tmp s) = .tuple #[x, y]) (ho : o.op = .extract (.tmp s) 1) : (execOp ρ o).run (barP Tryz.prog) w = .ok (.value y) w := by
  unfold execOp
  rw [ho]
  simp [go_sem, h]
theorem run_op6 {ρ : Operand → Value} {w4 : World} : (execOp ρ (op3 Tryz.f3 6)).run (barP Tryz.prog) w4 = .ok (.value (.pointer (some ⟨w4.heap.size, 0, none⟩))) (w4.alloc (.cells #[.int .i64 0, .slice none 0 0] 33)) := by
  unfold execOp
  rw [show (op3 Tryz.f3 6).op = .alloc 33 by kernel_rfl]
  simp [go_sem]
theorem run_op7 {ρ : Operand → Value} {w4 : World} {n : Int} {gq m : Nat} (h1 : ρ (.tmp 10) = .pointer (some ⟨w4.heap.size, 0, none⟩)) (h2 : ρ (.tmp 87) = .agg #[.int .i64 n, .slice (some ⟨gq, 0, none⟩) m m]) : (execOp ρ (op3 Tryz.f3 7)).run (barP Tryz.prog) (w4.alloc (.cells #[.int .i64 0, .slice none 0 0] 33)) = .ok .skip (w4.alloc (.cells #[.int .i64 n, .slice (some ⟨gq, 0, none⟩) m m] 33)) := by
  unfold execOp
  rw [show (op3 Tryz.f3 7).op = .store 33 (.tmp 10) (.tmp 87) by kernel_rfl]
  simp [go_sem, h1, h2]
theorem run_op8 {ρ : Operand → Value} {w : World} {v : Value} (h : ρ (.tmp 88) = v) : (execOp ρ (op3 Tryz.f3 8)).run (barP Tryz.prog) w = .ok (.value v) w := by
  unfold execOp
  rw [show (op3 Tryz.f3 8).op = .assign (.tmp 88) by kernel_rfl]
  simp [go_sem, h]
theorem size_put {a : Act} {d : Nat} {v : Value} {k : Nat} (h : a.tmps.size = k) : (a.put (some d) v).tmps.size = k := by simp [Act.put, h]
set_option maxRecDepth 100000 in
set_option maxHeartbeats 4000000 in
theorem law_upto {T : Machine → Prop} {cs : List Frame} {w4 : World} {a : Act} {lv bv dv v7 v8 : Value} {gq m : Nat} {n : Int} (hT : Tm3 a lv bv dv v7 v8)
    (h : ∀ a', Tm3 a' lv bv dv v7 v8 → a'.tmps.getD 10 undef = .pointer (some ⟨w4.heap.size, 0, none⟩) → a'.tmps.getD 11 undef = .int .i64 0 → To T (lone ((Go.Conc.base 3).at a' [.code (rest3 Tryz.f3)]) cs (w4.alloc (.cells #[.int .i64 n, .slice (some ⟨gq, 0, none⟩) m m] 33)))) :
    To T (lone ((fr3 Tryz.f3 a).finish (.tuple #[.agg #[.int .i64 n, .slice (some ⟨gq, 0, none⟩) m m], .int .i64 0])) cs w4) := by
  have d3 : (op3 Tryz.f3 3).dst = some 83 := by kernel_rfl
  have d4 : (op3 Tryz.f3 4).dst = some 87 := by kernel_rfl
  have d5 : (op3 Tryz.f3 5).dst = some 88 := by kernel_rfl
  have d6 : (op3 Tryz.f3 6).dst = some 10 := by kernel_rfl
  have d7 : (op3 Tryz.f3 7).dst = none := by kernel_rfl
  have d8 : (op3 Tryz.f3 8).dst = some 11 := by kernel_rfl
  unfold fr3
  rw [Frame.finish_at, show ((ops3 Tryz.f3)[2]?).bind (·.dst) = some 86 from by kernel_rfl]
  have s0 := hT.size
  have hT1 := hT.put (d := 86) (v := .tuple #[.agg #[.int .i64 n, .slice (some ⟨gq, 0, none⟩) m m], .int .i64 0]) (by decide) (by decide)
  have v1 : (a.put (some 86) (.tuple #[.agg #[.int .i64 n, .slice (some ⟨gq, 0, none⟩) m m], .int .i64 0])).eval (.tmp 86) = .tuple #[.agg #[.int .i64 n, .slice (some ⟨gq, 0, none⟩) m m], .int .i64 0] := eval_put_same (by omega)
  have s1 : (a.put (some 86) (.tuple #[.agg #[.int .i64 n, .slice (some ⟨gq, 0, none⟩) m m], .int .i64 0])).tmps.size = 181 := size_put s0
  generalize a.put (some 86) (.tuple #[.agg #[.int .i64 n, .slice (some ⟨gq, 0, none⟩) m m], .int .i64 0]) = b1 at *
  refine to_value (o := op3 Tryz.f3 3) (by kernel_rfl) (aS_want (by kernel_rfl) _) (by simp [Go.Conc.base]) (v := .tuple #[.agg #[.int .i64 n, .slice (some ⟨gq, 0, none⟩) m m], .int .i64 0]) (w' := w4) (run_mv _ (show (op3 Tryz.f3 3).op = .move (.tmp 86) by kernel_rfl) v1) ?_
  rw [d3]
  have hT2 := hT1.put (d := 83) (v := .tuple #[.agg #[.int .i64 n, .slice (some ⟨gq, 0, none⟩) m m], .int .i64 0]) (by decide) (by decide)
  have v2 : (b1.put (some 83) (.tuple #[.agg #[.int .i64 n, .slice (some ⟨gq, 0, none⟩) m m], .int .i64 0])).eval (.tmp 83) = .tuple #[.agg #[.int .i64 n, .slice (some ⟨gq, 0, none⟩) m m], .int .i64 0] := eval_put_same (by omega)
  have s2 : (b1.put (some 83) (.tuple #[.agg #[.int .i64 n, .slice (some ⟨gq, 0, none⟩) m m], .int .i64 0])).tmps.size = 181 := size_put s1
  generalize b1.put (some 83) (.tuple #[.agg #[.int .i64 n, .slice (some ⟨gq, 0, none⟩) m m], .int .i64 0]) = b2 at *
  refine to_value (o := op3 Tryz.f3 4) (by kernel_rfl) (aS_want (by kernel_rfl) _) (by simp [Go.Conc.base]) (v := .agg #[.int .i64 n, .slice (some ⟨gq, 0, none⟩) m m]) (w' := w4) (run_ext v2 (by kernel_rfl)) ?_
  rw [d4]
  have hT3 := hT2.put (d := 87) (v := .agg #[.int .i64 n, .slice (some ⟨gq, 0, none⟩) m m]) (by decide) (by decide)
  have v3 : (b2.put (some 87) (.agg #[.int .i64 n, .slice (some ⟨gq, 0, none⟩) m m])).eval (.tmp 83) = .tuple #[.agg #[.int .i64 n, .slice (some ⟨gq, 0, none⟩) m m], .int .i64 0] := (eval_put (by decide)).trans v2
  have v3' : (b2.put (some 87) (.agg #[.int .i64 n, .slice (some ⟨gq, 0, none⟩) m m])).eval (.tmp 87) = .agg #[.int .i64 n, .slice (some ⟨gq, 0, none⟩) m m] := eval_put_same (by omega)
  have s3 : (b2.put (some 87) (.agg #[.int .i64 n, .slice (some ⟨gq, 0, none⟩) m m])).tmps.size = 181 := size_put s2
  generalize b2.put (some 87) (.agg #[.int .i64 n, .slice (some ⟨gq, 0, none⟩) m m]) = b3 at *
  refine to_value (o := op3 Tryz.f3 5) (by kernel_rfl) (aS_want (by kernel_rfl) _) (by simp [Go.Conc.base]) (v := .int .i64 0) (w' := w4) (run_ext1 v3 (by kernel_rfl)) ?_
  rw [d5]
  have hT4 := hT3.put (d := 88) (v := .int .i64 0) (by decide) (by decide)
  have v4 : (b3.put (some 88) (.int .i64 0)).eval (.tmp 87) = .agg #[.int .i64 n, .slice (some ⟨gq, 0, none⟩) m m] := (eval_put (by decide)).trans v3'
  have v4' : (b3.put (some 88) (.int .i64 0)).eval (.tmp 88) = .int .i64 0 := eval_put_same (by omega)
  have s4 : (b3.put (some 88) (.int .i64 0)).tmps.size = 181 := size_put s3
  generalize b3.put (some 88) (.int .i64 0) = b4 at *
  refine to_value (o := op3 Tryz.f3 6) (by kernel_rfl) (aS_want (by kernel_rfl) _) (by simp [Go.Conc.base]) (v := .pointer (some ⟨w4.heap.size, 0, none⟩)) (w' := w4.alloc (.cells #[.int .i64 0, .slice none 0 0] 33)) run_op6 ?_
  rw [d6]
  have hT5 := hT4.put (d := 10) (v := .pointer (some ⟨w4.heap.size, 0, none⟩)) (by decide) (by decide)
  have v5 : (b4.put (some 10) (.pointer (some ⟨w4.heap.size, 0, none⟩))).eval (.tmp 87) = .agg #[.int .i64 n, .slice (some ⟨gq, 0, none⟩) m m] := (eval_put (by decide)).trans v4
  have v5' : (b4.put (some 10) (.pointer (some ⟨w4.heap.size, 0, none⟩))).eval (.tmp 88) = .int .i64 0 := (eval_put (by decide)).trans v4'
  have v5'' : (b4.put (some 10) (.pointer (some ⟨w4.heap.size, 0, none⟩))).eval (.tmp 10) = .pointer (some ⟨w4.heap.size, 0, none⟩) := eval_put_same (by omega)
  have s5 : (b4.put (some 10) (.pointer (some ⟨w4.heap.size, 0, none⟩))).tmps.size = 181 := size_put s4
  generalize b4.put (some 10) (.pointer (some ⟨w4.heap.size, 0, none⟩)) = b5 at *
  refine to_none (o := op3 Tryz.f3 7) (by kernel_rfl) (aS_want (by kernel_rfl) _) (by simp [Go.Conc.base]) (w' := w4.alloc (.cells #[.int .i64 n, .slice (some ⟨gq, 0, none⟩) m m] 33)) (run_op7 v5'' v5) ?_
  rw [d7]
  refine (?_ : To T (lone ((Go.Conc.base 3).at b5 (.inRegion (ops3 Tryz.f3) [8] :: [.code (rest3 Tryz.f3)])) cs _))
  refine to_value (o := op3 Tryz.f3 8) (by kernel_rfl) (aS_want (by kernel_rfl) _) (by simp [Go.Conc.base]) (v := .int .i64 0) (w' := w4.alloc (.cells #[.int .i64 n, .slice (some ⟨gq, 0, none⟩) m m] 33)) (run_op8 v5') ?_
  rw [d8]
  exact to_out (h _ (hT5.put (by decide) (by decide)) ((eval_put (b := b5) (d := 11) (t := 10) (by decide)).trans v5'') (eval_put_same (b := b5) (d := 11) (by omega)))
end Go.Proofs.YtfnbcpeipoobkaaGreat
