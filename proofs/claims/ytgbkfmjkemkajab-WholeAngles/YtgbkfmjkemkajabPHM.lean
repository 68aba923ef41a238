/- The heap's methods, found by their names. -/
import Derived.Test.YtgbkfmjkemkajabPH1
namespace Go.Proofs.Ytgbkfmjkemkajab
open Go.RowKit

section
variable {P : Program}
theorem run_method_val {w : World} {t elem : TypeId} {f : FuncId} {a : Addr} {u : Value} {name : String} {n : Nat} {i : TypeInfo} {m : Method}
    (hi : P.info? t = some i) (hm : i.methods.find? (·.name == name) = some m) (hp : m.path = #[]) (hf : m.func = some (f, false)) (hu : P.underlying t = some (.pointer elem)) (hl : (loadVar elem a).run P w = .ok u w) :
    (method (n + 1) t (.pointer (some a)) name).run P w = .ok (f, u) w := by
  have hs : ∀ s, Builtin.ssaWrapNilChk_ #[t] t #[.pointer (some a), strVal "", strVal s] = pure (.pointer (some a)) := fun _ => rfl
  simp [method, typeInfo, hi, hm, hp, hf, follow, receiverAt, run_underlying hu, Place.get, hs, Sem.run_bind, asAddr, hl]
theorem run_method_ptr {w : World} {t elem : TypeId} {f : FuncId} {v : Value} {name : String} {n : Nat} {i : TypeInfo} {m : Method}
    (hi : P.info? t = some i) (hm : i.methods.find? (·.name == name) = some m) (hp : m.path = #[]) (hf : m.func = some (f, true)) (hu : P.underlying t = some (.pointer elem)) :
    (method (n + 1) t v name).run P w = .ok (f, v) w := by
  simp [method, typeInfo, hi, hm, hp, hf, follow, receiverAt, run_underlying hu, Place.get, Sem.run_bind]
end

theorem found (name : String) (x : Array FieldStep × Option (FuncId × Bool)) (h : (Try.prog.info? 94).bind (fun i => (i.methods.find? (·.name == name)).map (fun m => (m.path, m.func))) = some x) :
    ∃ i m, Try.prog.info? 94 = some i ∧ i.methods.find? (·.name == name) = some m ∧ m.path = x.1 ∧ m.func = x.2 := by
  cases hi : Try.prog.info? 94 with
  | none => rw [hi] at h; cases h
  | some i =>
    rw [hi] at h
    simp only [Option.bind_some] at h
    cases hm : i.methods.find? (·.name == name) with
    | none => rw [hm] at h; cases h
    | some m =>
      rw [hm] at h
      simp only [Option.map_some, Option.some.injEq] at h
      subst h
      exact ⟨i, m, rfl, hm, rfl, rfl⟩
theorem loadQ {w : World} {a : Addr} {u : Value} (h : w.cell? a = some u) : (loadVar 69 a).run Try.prog w = .ok u w := by
  simp [go_sem, h]

theorem findLen {w : World} {a : Addr} {u : Value} (h : w.cell? a = some u) (n : Nat) : (method (n + 1) 94 (.pointer (some a)) "Len").run Try.prog w = .ok (40, u) w := by
  obtain ⟨i, m, h1, h2, h3, h4⟩ := found "Len" (#[], some (40, false)) (by kernel_rfl)
  exact run_method_val h1 h2 h3 h4 Try.underlying94 (loadQ h)
theorem findLess {w : World} {a : Addr} {u : Value} (h : w.cell? a = some u) (n : Nat) : (method (n + 1) 94 (.pointer (some a)) "Less").run Try.prog w = .ok (109, u) w := by
  obtain ⟨i, m, h1, h2, h3, h4⟩ := found "Less" (#[], some (109, false)) (by kernel_rfl)
  exact run_method_val h1 h2 h3 h4 Try.underlying94 (loadQ h)
theorem findSwap {w : World} {a : Addr} {u : Value} (h : w.cell? a = some u) (n : Nat) : (method (n + 1) 94 (.pointer (some a)) "Swap").run Try.prog w = .ok (110, u) w := by
  obtain ⟨i, m, h1, h2, h3, h4⟩ := found "Swap" (#[], some (110, false)) (by kernel_rfl)
  exact run_method_val h1 h2 h3 h4 Try.underlying94 (loadQ h)
theorem findPush {w : World} (v : Value) (n : Nat) : (method (n + 1) 94 v "Push").run Try.prog w = .ok (112, v) w := by
  obtain ⟨i, m, h1, h2, h3, h4⟩ := found "Push" (#[], some (112, true)) (by kernel_rfl)
  exact run_method_ptr h1 h2 h3 h4 Try.underlying94
theorem findPop {w : World} (v : Value) (n : Nat) : (method (n + 1) 94 v "Pop").run Try.prog w = .ok (111, v) w := by
  obtain ⟨i, m, h1, h2, h3, h4⟩ := found "Pop" (#[], some (111, true)) (by kernel_rfl)
  exact run_method_ptr h1 h2 h3 h4 Try.underlying94
end Go.Proofs.Ytgbkfmjkemkajab
