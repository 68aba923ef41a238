/- The landed peeling, untouched. -/
import Derived.Test.YtgbkfmjkemkajabPM6b
namespace Go.Proofs.Ytgbkfmjkemkajab
open Go.RowKit Go.Shelf

theorem index_start {n : Nat} {d : Int × Int} (hn : 1 ≤ n) (h64 : n ≤ 64) (ho : okD d.1 d.2 = true) : indexS n d 0 0 = (startS n d, 0) := by
  unfold indexS
  rw [binN_eq hn h64 ho, if_neg (fun h => h rfl), if_neg (by omega), Int.mul_zero, Int.mul_zero]
  simp

theorem infoLine : (Try.prog.info? 96).map (fun i => (i.zero, i.size, i.bytes)) = some (some (.agg #[.int .i64 0, .int .i64 0]), 2, 16) := by kernel_rfl
theorem infoLL : (Try.prog.info? 86).map (fun i => (i.zero, i.size, i.bytes)) = some (some (.slice none 0 0), 1, 24) := by kernel_rfl

theorem Bs.start {w W : World} {n : Nat} {L : List (Int × Int)} {a : Option Addr} {cap B b0 c0 : Nat} (hst : W.heap[B]? = some (.cells #[.int .i64 n, .slice a L.length cap, .slice none 0 0, .slice none 0 0, .slice (some ⟨b0, 0, none⟩) (n * n : Nat) c0, .slice none 0 0] 71 (0, 0)))
    (hpb : W.heap[B + 1]? = some (.cells #[.pointer (some ⟨B, 0, none⟩)] 50 (0, 0))) (hop : VRow W 4 b0 (n * n) (fun _ => .bool true)) (h1 : w.heap.size ≤ b0) (h2 : b0 < B) (hb : Below w.heap.size w W) :
    Bs w.heap.size w W n L a cap B b0 c0 (.slice none 0 0) (.slice none 0 0) (.slice none 0 0) 0 (.slice none 0 0) 0 (fun _ => 0) 0 := by
  have key : ∀ r q, bsR B b0 (.slice none 0 0) (.slice none 0 0) (fun _ => 0) 0 r = some q → (r = 0 ∧ q = B) ∨ (r = 1 ∧ q = B + 1) ∨ (r = 2 ∧ q = b0) := fun r q hr => by
    match r with
    | 0 => exact Or.inl ⟨rfl, (Option.some.inj hr).symm⟩
    | 1 => exact Or.inr (Or.inl ⟨rfl, (Option.some.inj hr).symm⟩)
    | 2 => exact Or.inr (Or.inr ⟨rfl, (Option.some.inj hr).symm⟩)
    | 3 => cases hr
    | 4 => cases hr
    | r + 5 => cases hr
  have hB : B + 1 < W.heap.size := (Array.getElem?_eq_some_iff.1 hpb).1
  refine ⟨hst, hpb, hop, World.ownsRow_nil _ _ _ _, World.ownsRow_nil _ _ _ _, fun i hi => by omega, fun r s q hr hs => ?_, fun r q hr => ?_, hb⟩
  · rcases key r q hr with ⟨e1, e2⟩ | ⟨e1, e2⟩ | ⟨e1, e2⟩ <;> rcases key s q hs with ⟨f1, f2⟩ | ⟨f1, f2⟩ | ⟨f1, f2⟩ <;> omega
  · rcases key r q hr with ⟨e1, e2⟩ | ⟨e1, e2⟩ | ⟨e1, e2⟩ <;> omega

def o7_0 : Oper := { dst := some 43, op := Op.load 50 (Operand.tmp 5), type := 50, pos := "steps.go:56", after := #[], guard := none }
def o7_1 : Oper := { dst := some 44, op := Op.load 50 (Operand.tmp 5), type := 50, pos := "steps.go:56", after := #[{ on := 19, ground := Ground.gcOnly Departure.lateStores }], guard := none }
def o7_2 : Oper := { dst := some 45, op := Op.load 50 (Operand.tmp 5), type := 50, pos := "steps.go:56", after := #[], guard := none }
def o7_3 : Oper := { dst := some 46, op := Op.nilCheck (Operand.tmp 45), type := 0, pos := "steps.go:56", after := #[{ on := 2, ground := Ground.data }], guard := none }
def o7_4 : Oper := { dst := some 47, op := Op.fieldAddr 71 (Operand.tmp 46) 2, type := 0, pos := "steps.go:56", after := #[{ on := 3, ground := Ground.data }], guard := none }
def o7_5 : Oper := { dst := some 48, op := Op.load 66 (Operand.tmp 47), type := 66, pos := "steps.go:56", after := #[{ on := 4, ground := Ground.data }], guard := none }
def o7_6 : Oper := { dst := some 49, op := Op.move (Operand.tmp 8), type := 3, pos := "steps.go:56", after := #[], guard := none }
def o7_7 : Oper := { dst := some 50, op := Op.buildSlice 66 1 #[(0, Operand.tmp 49)], type := 66, pos := "steps.go:56", after := #[{ on := 6, ground := Ground.data }], guard := none }
def o7_8 : Oper := { dst := some 51, op := Op.call { callee := Callee.builtin Builtin.append, args := #[Operand.tmp 48, Operand.tmp 50], argTypes := #[66, 66] }, type := 66, pos := "steps.go:56", after := #[{ on := 5, ground := Ground.data }, { on := 7, ground := Ground.data }], guard := none }
def o7_9 : Oper := { dst := some 52, op := Op.load 50 (Operand.tmp 5), type := 50, pos := "steps.go:56", after := #[], guard := none }
def o7_10 : Oper := { dst := some 53, op := Op.nilCheck (Operand.tmp 52), type := 0, pos := "steps.go:56", after := #[{ on := 9, ground := Ground.data }], guard := none }
def o7_11 : Oper := { dst := some 54, op := Op.fieldAddr 71 (Operand.tmp 53) 3, type := 0, pos := "steps.go:56", after := #[{ on := 10, ground := Ground.data }], guard := none }
def o7_12 : Oper := { dst := some 55, op := Op.load 67 (Operand.tmp 54), type := 67, pos := "steps.go:56", after := #[{ on := 11, ground := Ground.data }], guard := none }
def o7_13 : Oper := { dst := some 56, op := Op.move (Operand.tmp 10), type := 3, pos := "steps.go:56", after := #[], guard := none }
def o7_14 : Oper := { dst := some 57, op := Op.makeSlice 86 (Operand.tmp 56) (Operand.tmp 56), type := 86, pos := "steps.go:56", after := #[{ on := 13, ground := Ground.data }, { on := 13, ground := Ground.data }], guard := none }
def o7_15 : Oper := { dst := some 58, op := Op.buildSlice 67 1 #[(0, Operand.tmp 57)], type := 67, pos := "steps.go:56", after := #[{ on := 14, ground := Ground.data }], guard := none }
def o7_16 : Oper := { dst := some 59, op := Op.call { callee := Callee.builtin Builtin.append, args := #[Operand.tmp 55, Operand.tmp 58], argTypes := #[67, 67] }, type := 67, pos := "steps.go:56", after := #[{ on := 12, ground := Ground.data }, { on := 15, ground := Ground.data }, { on := 8, ground := Ground.chain }], guard := none }
def o7_17 : Oper := { dst := some 60, op := Op.nilCheck (Operand.tmp 43), type := 0, pos := "steps.go:56", after := #[{ on := 0, ground := Ground.data }, { on := 0, ground := Ground.phase }, { on := 1, ground := Ground.textOnly Departure.lateStores }, { on := 2, ground := Ground.phase }, { on := 3, ground := Ground.phase }, { on := 4, ground := Ground.phase }, { on := 5, ground := Ground.phase }, { on := 6, ground := Ground.phase }, { on := 7, ground := Ground.phase }, { on := 8, ground := Ground.phase }, { on := 9, ground := Ground.textOnly Departure.lateStores }, { on := 10, ground := Ground.textOnly Departure.lateStoresUnsure }, { on := 11, ground := Ground.textOnly Departure.lateStoresUnsure }, { on := 12, ground := Ground.phase }, { on := 13, ground := Ground.textOnly Departure.lateStores }, { on := 14, ground := Ground.textOnly Departure.lateStoresUnsure }, { on := 15, ground := Ground.textOnly Departure.lateStoresUnsure }, { on := 16, ground := Ground.phase }], guard := none }
def o7_18 : Oper := { dst := some 61, op := Op.fieldAddr 71 (Operand.tmp 60) 2, type := 0, pos := "steps.go:56", after := #[{ on := 17, ground := Ground.data }, { on := 0, ground := Ground.phase }, { on := 1, ground := Ground.textOnly Departure.lateStores }, { on := 2, ground := Ground.phase }, { on := 3, ground := Ground.phase }, { on := 4, ground := Ground.phase }, { on := 5, ground := Ground.phase }, { on := 6, ground := Ground.phase }, { on := 7, ground := Ground.phase }, { on := 8, ground := Ground.phase }, { on := 9, ground := Ground.textOnly Departure.lateStores }, { on := 10, ground := Ground.textOnly Departure.lateStoresUnsure }, { on := 11, ground := Ground.textOnly Departure.lateStoresUnsure }, { on := 12, ground := Ground.phase }, { on := 13, ground := Ground.textOnly Departure.lateStores }, { on := 14, ground := Ground.textOnly Departure.lateStoresUnsure }, { on := 15, ground := Ground.textOnly Departure.lateStoresUnsure }, { on := 16, ground := Ground.phase }], guard := none }
def o7_19 : Oper := { dst := none, op := Op.store 66 (Operand.tmp 61) (Operand.tmp 51), type := 0, pos := "steps.go:56", after := #[{ on := 18, ground := Ground.data }, { on := 8, ground := Ground.data }, { on := 16, ground := Ground.chain }, { on := 0, ground := Ground.phase }, { on := 1, ground := Ground.textOnly Departure.lateStores }, { on := 2, ground := Ground.phase }, { on := 3, ground := Ground.phase }, { on := 4, ground := Ground.phase }, { on := 5, ground := Ground.phase }, { on := 6, ground := Ground.phase }, { on := 7, ground := Ground.phase }, { on := 8, ground := Ground.phase }, { on := 9, ground := Ground.textOnly Departure.lateStores }, { on := 10, ground := Ground.textOnly Departure.lateStoresUnsure }, { on := 11, ground := Ground.textOnly Departure.lateStoresUnsure }, { on := 12, ground := Ground.phase }, { on := 13, ground := Ground.textOnly Departure.lateStores }, { on := 14, ground := Ground.textOnly Departure.lateStoresUnsure }, { on := 15, ground := Ground.textOnly Departure.lateStoresUnsure }, { on := 16, ground := Ground.phase }], guard := none }
def o7_20 : Oper := { dst := some 62, op := Op.nilCheck (Operand.tmp 44), type := 0, pos := "steps.go:56", after := #[{ on := 1, ground := Ground.data }, { on := 0, ground := Ground.phase }, { on := 1, ground := Ground.phase }, { on := 2, ground := Ground.phase }, { on := 3, ground := Ground.phase }, { on := 4, ground := Ground.phase }, { on := 5, ground := Ground.phase }, { on := 6, ground := Ground.phase }, { on := 7, ground := Ground.phase }, { on := 8, ground := Ground.phase }, { on := 9, ground := Ground.phase }, { on := 10, ground := Ground.phase }, { on := 11, ground := Ground.phase }, { on := 12, ground := Ground.phase }, { on := 13, ground := Ground.phase }, { on := 14, ground := Ground.phase }, { on := 15, ground := Ground.phase }, { on := 16, ground := Ground.phase }, { on := 17, ground := Ground.phase }, { on := 18, ground := Ground.phase }, { on := 19, ground := Ground.phase }], guard := none }
def o7_21 : Oper := { dst := some 63, op := Op.fieldAddr 71 (Operand.tmp 62) 3, type := 0, pos := "steps.go:56", after := #[{ on := 20, ground := Ground.data }, { on := 0, ground := Ground.phase }, { on := 1, ground := Ground.phase }, { on := 2, ground := Ground.phase }, { on := 3, ground := Ground.phase }, { on := 4, ground := Ground.phase }, { on := 5, ground := Ground.phase }, { on := 6, ground := Ground.phase }, { on := 7, ground := Ground.phase }, { on := 8, ground := Ground.phase }, { on := 9, ground := Ground.phase }, { on := 10, ground := Ground.phase }, { on := 11, ground := Ground.phase }, { on := 12, ground := Ground.phase }, { on := 13, ground := Ground.phase }, { on := 14, ground := Ground.phase }, { on := 15, ground := Ground.phase }, { on := 16, ground := Ground.phase }, { on := 17, ground := Ground.phase }, { on := 18, ground := Ground.phase }, { on := 19, ground := Ground.phase }], guard := none }
def o7_22 : Oper := { dst := none, op := Op.store 67 (Operand.tmp 63) (Operand.tmp 59), type := 0, pos := "steps.go:56", after := #[{ on := 21, ground := Ground.data }, { on := 16, ground := Ground.data }, { on := 19, ground := Ground.chain }, { on := 0, ground := Ground.phase }, { on := 1, ground := Ground.phase }, { on := 2, ground := Ground.phase }, { on := 3, ground := Ground.phase }, { on := 4, ground := Ground.phase }, { on := 5, ground := Ground.phase }, { on := 6, ground := Ground.phase }, { on := 7, ground := Ground.phase }, { on := 8, ground := Ground.phase }, { on := 9, ground := Ground.phase }, { on := 10, ground := Ground.phase }, { on := 11, ground := Ground.phase }, { on := 12, ground := Ground.phase }, { on := 13, ground := Ground.phase }, { on := 14, ground := Ground.phase }, { on := 15, ground := Ground.phase }, { on := 16, ground := Ground.phase }, { on := 17, ground := Ground.phase }, { on := 18, ground := Ground.phase }, { on := 19, ground := Ground.phase }], guard := none }
def R7 : Array Oper := #[o7_0, o7_1, o7_2, o7_3, o7_4, o7_5, o7_6, o7_7, o7_8, o7_9, o7_10, o7_11, o7_12, o7_13, o7_14, o7_15, o7_16, o7_17, o7_18, o7_19, o7_20, o7_21, o7_22]

theorem carry_cell {W W' : World} {T : Nat} {v : Value} (h : ∀ j u, [v][j]? = some u → W.cell? ((⟨T, 0, none⟩ : Addr).add j) = some u) (hb : Below W.heap.size W W') (hl : T < W.heap.size) : ∀ j u, [v][j]? = some u → W'.cell? ((⟨T, 0, none⟩ : Addr).add j) = some u := fun j u hu => by
  have := h j u hu
  rw [addr_add] at this ⊢
  exact (hb.cell (p := ⟨T, j, none⟩) hl).trans this
theorem carry_grown {W W' : World} {T : Nat} {v : Value} {r : Option Nat} (h : ∀ j u, [v][j]? = some u → W.cell? ((⟨T, 0, none⟩ : Addr).add j) = some u) (hg : W.grownBy W' r) (hl : T < W.heap.size) (hn : r ≠ some T) : ∀ j u, [v][j]? = some u → W'.cell? ((⟨T, 0, none⟩ : Addr).add j) = some u := fun j u hu => by
  have := h j u hu
  rw [addr_add] at this ⊢
  exact (World.cell?_of_block (a := ⟨T, j, none⟩) (hg.block T hl (fun e => hn e.symm))).trans this
theorem Bs.ltF {base : Nat} {w0 W : World} {n : Nat} {L : List (Int × Int)} {a : Option Addr} {cap B b0 c0 : Nat} {sF sL vF : Value} {kF : Nat} {vL : Value} {kL : Nat} {lk : Nat → Nat} {K : Nat} (h : Bs base w0 W n L a cap B b0 c0 sF sL vF kF vL kL lk K) {q : Nat} (hq : vF.ownBlock = some q) : q < W.heap.size := (h.rng 3 q hq).2
theorem made_lines (W : World) (m : Nat) : VRow (W.alloc (.cells (madeCells #[.int .i64 0, .int .i64 0] (m * 2)) 96)) 96 W.heap.size (m * 2) (fun _ => .int .i64 0) := by
  refine ⟨_, heap_alloc_new W _, by rw [size_madeCells]; omega, fun i hi => ?_⟩
  have h2 : i % 2 = 0 ∨ i % 2 = 1 := by omega
  rcases h2 with h2 | h2 <;> simp [madeCells, hi, h2]
theorem run_make_lines (m : Nat) (hm : m ≤ 2017) (W : World) : (Instr.makeSlice 86 (.int .i64 (m : Nat)) (.int .i64 (m : Nat))).run Try.prog W = .ok (.slice (some ⟨W.heap.size, 0, none⟩) m m) (W.alloc (.cells (madeCells #[.int .i64 0, .int .i64 0] (m * 2)) 96)) := by
  obtain ⟨i, hi, hz, hs, hb⟩ := info_parts infoLine
  have hr := run_make (P := Try.prog) W 86 96 i _ Try.underlying86 hi hz .i64 .i64 m m (by omega) (Int.le_refl _) (by rw [hb]; omega) (by omega)
  simp only [Int.toNat_natCast, hs] at hr
  exact hr
theorem not_false_of {b : Bool} (h : b = true) : b = false → False := fun h' => by rw [h] at h'; cases h'

set_option maxRecDepth 100000 in
set_option maxHeartbeats 6400000 in
theorem untouchedOk {n : Nat} {L : List (Int × Int)} {a : Option Addr} {cap g o : Nat} (hn : 1 ≤ n) (h64 : n ≤ 64) (hL : L.length ≤ 64) (ho : ∀ d, d ∈ L → okD d.1 d.2 = true) (w : World) (hD : Dirs w a g o L) :
    Calls Try.prog 13 #[.int .i64 n, .slice a L.length cap] w fun e w' => ∃ V v m f, e = .returned (.pointer (some ⟨V.B, 0, none⟩)) ∧ Peel (fun x => x < w.heap.size) w' n L a cap g o V (fun _ => true) (fun _ _ => true) v m f ∧ QOk n L (fun _ _ => true) f m (fun _ => False) ∧ m ≤ 64 * 2017 ∧ Below w.heap.size w w' := by
  obtain ⟨M, hM⟩ : ∃ M, n * n = M := ⟨_, rfl⟩
  have hM1 : 1 ≤ M := by rw [← hM]; exact Nat.mul_pos hn hn
  have hM2 : M ≤ 4096 := by rw [← hM]; exact Nat.mul_le_mul h64 h64
  have mI : (n : Int) * (n : Int) = (M : Int) := by rw [← hM]; push_cast; rfl
  have m1 : IntKind.i64.wrap ((n : Int) * (n : Int)) = (M : Int) := by rw [mI, IntKind.wrap_i64]; omega
  have HD := hide hD
  have HM := hide hM
  have y1 := hide ((Below.refl w.heap.size w).alloc (Nat.le_refl _) (.cells #[.bool true] 4))
  have k1 := hide (repeatOk hM1 hM2 (w.alloc (.cells #[.bool true] 4)) (cell_of_row _ w.heap.size 0 _ _ (0, 0) (heap_alloc_new w _)) (by rw [World.size_alloc]; omega))
  clear hD hM mI
  go_enter Try.func13, Try.ntmps13
  go_wp2_with fail
  refine (unhide k1).mono ?_
  rintro e w1 ⟨b0, rfl, hb0, hrow, hb1⟩
  rw [World.size_alloc] at hb0
  have B1 := hide ((unhide y1).trans (hb1.mono (by rw [World.size_alloc]; omega)))
  have R1 := hide hrow
  have hlt0 := vrow_lt hrow
  clear hb1 hrow k1 y1
  go_wp2_with fail
  have G0 : Hid (Bs w.heap.size w ((w1.alloc (.cells #[.int .i64 n, .slice a L.length cap, .slice none 0 0, .slice none 0 0, .slice (some ⟨b0, 0, none⟩) M M, .slice none 0 0] 71)).alloc (.cells #[.pointer (some ⟨w1.heap.size, 0, none⟩)] 50)) n L a cap w1.heap.size b0 M (.slice none 0 0) (.slice none 0 0) (.slice none 0 0) 0 (.slice none 0 0) 0 (fun _ => 0) 0) := by
    have R1' := unhide R1
    rw [← unhide HM] at R1' ⊢
    refine Bs.start ?_ ?_ (vrow_keep R1' ?_) (by omega) hlt0 (((unhide B1).alloc (unhide B1).size _).alloc (by rw [World.size_alloc]; have := (unhide B1).size; omega) _)
    · exact (Below.heap_alloc _ _ _ (by rw [World.size_alloc]; omega)).trans (heap_alloc_new w1 _)
    · have := heap_alloc_new (w1.alloc (.cells #[.int .i64 n, .slice a L.length cap, .slice none 0 0, .slice none 0 0, .slice (some ⟨b0, 0, none⟩) (n * n : Nat) (n * n), .slice none 0 0] 71)) (.cells #[.pointer (some ⟨w1.heap.size, 0, none⟩)] 50)
      rw [World.size_alloc] at this
      exact this
    · exact (Below.heap_alloc _ _ _ (by rw [World.size_alloc]; omega)).trans (Below.heap_alloc _ _ _ hlt0)
  generalize (w1.alloc (.cells #[.int .i64 n, .slice a L.length cap, .slice none 0 0, .slice none 0 0, .slice (some ⟨b0, 0, none⟩) M M, .slice none 0 0] 71)).alloc (.cells #[.pointer (some ⟨w1.heap.size, 0, none⟩)] 50) = w2 at *
  clear R1 B1 hlt0
  generalize w1.heap.size = B at *
  obtain ⟨base, hbase⟩ : ∃ x, w.heap.size = x := ⟨_, rfl⟩
  rw [hbase] at G0
  replace hbase := hide hbase
  go_loopw [27] (fun kv wr => ∃ (k : Nat) (vF vL : Value) (lk : Nat → Nat), k ≤ L.length ∧ kv = .int .i64 k ∧ Hid (Bs base w wr n L a cap B b0 M vF vL vF k vL k lk k)) (fun kv _ => L.length - (intOf kv).toNat)
  case atStart => exact ⟨0, _, _, _, Nat.zero_le _, rfl, G0⟩
  case round =>
    clear G0
    obtain ⟨k, vF, vL, lk, hk, rfl, G⟩ := hrel
    by_cases hkL : k < L.length
    · have q1 : ((k : Int) < (L.length : Int)) = True := by simp; omega
      have hDr := dirs_below (unhide HD) (by have := (unhide G).bel; rw [← unhide hbase] at this; exact this)
      obtain ⟨haa, hgb⟩ := hDr.at_ (by omega)
      subst haa
      have hok := ho _ (dk_mem hkL)
      obtain ⟨p1, p2⟩ := hDr.cell k _ (dk_at hkL)
      obtain ⟨o1, o2, o3⟩ := okD_bounds hok
      have h6 : Dir64 (dk L k) := ⟨by unfold I64; omega, by unfold I64; omega⟩
      have kI := hide (fun (W : World) => dirIndex (n := (n : Int)) (x := 0) (y := 0) h6 W)
      have kB := hide (fun (W : World) => dirBins (n := (n : Int)) h6 W)
      rw [index_start hn h64 hok] at kI
      rw [binN_eq hn h64 hok] at kB
      unfold dirV at kI kB
      dsimp only at kI kB
      have hbn := binN_le h64 hok
      have y1 := hide (heap_alloc_new wr (.cells #[.int .i64 (dk L k).1, .int .i64 (dk L k).2] 31))
      have y2 := hide ((Below.refl wr.heap.size wr).alloc (Nat.le_refl _) (.cells #[.int .i64 (dk L k).1, .int .i64 (dk L k).2] 31))
      have G1 := hide ((unhide G).below (unhide y2))
      have x4 : (wr.alloc (.cells #[.int .i64 (dk L k).1, .int .i64 (dk L k).2] 31)).cell? ⟨wr.heap.size, 0, none⟩ = some (.int .i64 (dk L k).1) := cell_of_row _ wr.heap.size 0 _ _ (0, 0) (unhide y1)
      have x5 : (wr.alloc (.cells #[.int .i64 (dk L k).1, .int .i64 (dk L k).2] 31)).cell? ⟨wr.heap.size, 1, none⟩ = some (.int .i64 (dk L k).2) := cell_of_row _ wr.heap.size 1 _ _ (0, 0) (unhide y1)
      have hl5 : wr.heap.size < (wr.alloc (.cells #[.int .i64 (dk L k).1, .int .i64 (dk L k).2] 31)).heap.size := by rw [World.size_alloc]; omega
      clear hDr hok G y1 y2 h6 o1 o2 o3
      go_wp2_with fail
      clear p1 p2
      generalize wr.alloc (.cells #[.int .i64 (dk L k).1, .int .i64 (dk L k).2] 31) = w3 at *
      generalize wr.heap.size = pd at *
      refine (unhide kI w3).mono ?_
      rintro e w4 ⟨rfl, hb4⟩
      have G2 := hide ((unhide G1).below hb4)
      have x6 := (hb4.cell (p := ⟨pd, 0, none⟩) hl5).trans x4
      have x7 := (hb4.cell (p := ⟨pd, 1, none⟩) hl5).trans x5
      clear hb4 kI x4 x5 hl5 G1
      go_wp2_with fail
      refine (unhide kB w4).mono ?_
      rintro e w5 ⟨rfl, hb5⟩
      have G3 := hide ((unhide G2).below hb5)
      clear hb5 kB x6 x7 G2
      go_wp2_with fail
      have cA := (unhide G3).cp
      have cB := (unhide G3).c2.1
      have cC := (unhide G3).c3.1
      obtain ⟨i1, hi1, hy0, hy1, hy2⟩ := info_parts infoInt
      obtain ⟨i4, hi4, hu0, hu1, hu2⟩ := info_parts infoLL
      have hmk := fun W => run_make_lines (binN n (dk L k)) (by omega) W
      have G := G3
      clear G3
      change Code.wp Try.prog (Code.region 7 R7 true) _ _ _
      refine wp_region_L (S := SL (fun W => W.cell? ⟨B + 1, 0, none⟩ = some (.pointer (some ⟨B, 0, none⟩))) (fun W => W.cell? ⟨B, 2, none⟩ = some vF) (fun W => W.cell? ⟨B, 3, none⟩ = some vL) 19 22) mixed ⟨cA, fun _ => cB, fun _ => cC⟩ (fun hc hS => ?_)
      clear cA cB cC
      replace G := hide ((unhide G).below ((Below.refl _ w5).drew))
      generalize w5.drew = Wc at *
      refine anyL_take (i := 0) (oi := o7_0) (v := .pointer (some ⟨B, 0, none⟩)) (S0 := (fun W => W.cell? ⟨B + 1, 0, none⟩ = some (.pointer (some ⟨B, 0, none⟩)))) rfl (by kernel_rfl) (by kernel_rfl) (by kernel_rfl) (fun _ _ _ h => h) (sl_set (by decide) (by decide)) sl_a hc hS (Or.inl ⟨by rfl, ?_⟩) (fun hc hS => ?_)
      · intro W hSw
        simp only [o7_0]
        go_simp
      simp only [o7_0, Act.put, List.setIfInBounds_toArray, List.set_cons_zero, List.set_cons_succ]
      refine anyL_take (i := 1) (oi := o7_1) (v := .pointer (some ⟨B, 0, none⟩)) (S0 := (fun W => W.cell? ⟨B + 1, 0, none⟩ = some (.pointer (some ⟨B, 0, none⟩)))) rfl (by kernel_rfl) (by kernel_rfl) (by kernel_rfl) (fun _ _ _ h => h) (sl_set (by decide) (by decide)) sl_a hc hS (Or.inl ⟨by rfl, ?_⟩) (fun hc hS => ?_)
      · intro W hSw
        simp only [o7_1]
        go_simp
      simp only [o7_1, Act.put, List.setIfInBounds_toArray, List.set_cons_zero, List.set_cons_succ]
      refine anyL_take (i := 2) (oi := o7_2) (v := .pointer (some ⟨B, 0, none⟩)) (S0 := (fun W => W.cell? ⟨B + 1, 0, none⟩ = some (.pointer (some ⟨B, 0, none⟩)))) rfl (by kernel_rfl) (by kernel_rfl) (by kernel_rfl) (fun _ _ _ h => h) (sl_set (by decide) (by decide)) sl_a hc hS (Or.inl ⟨by rfl, ?_⟩) (fun hc hS => ?_)
      · intro W hSw
        simp only [o7_2]
        go_simp
      simp only [o7_2, Act.put, List.setIfInBounds_toArray, List.set_cons_zero, List.set_cons_succ]
      refine anyL_take (i := 3) (oi := o7_3) (v := .pointer (some ⟨B, 0, none⟩)) (S0 := (fun _ => True)) rfl (by kernel_rfl) (by kernel_rfl) (by kernel_rfl) (fun _ _ _ h => h) (sl_set (by decide) (by decide)) (fun _ _ _ _ _ => trivial) hc hS (Or.inl ⟨by rfl, ?_⟩) (fun hc hS => ?_)
      · intro W hSw
        simp only [o7_3]
        go_simp
      simp only [o7_3, Act.put, List.setIfInBounds_toArray, List.set_cons_zero, List.set_cons_succ]
      refine anyL_take (i := 4) (oi := o7_4) (v := .pointer (some ⟨B, 2, none⟩)) (S0 := (fun _ => True)) rfl (by kernel_rfl) (by kernel_rfl) (by kernel_rfl) (fun _ _ _ h => h) (sl_set (by decide) (by decide)) (fun _ _ _ _ _ => trivial) hc hS (Or.inl ⟨by rfl, ?_⟩) (fun hc hS => ?_)
      · intro W hSw
        simp only [o7_4]
        go_simp
      simp only [o7_4, Act.put, List.setIfInBounds_toArray, List.set_cons_zero, List.set_cons_succ]
      refine anyL_take (i := 5) (oi := o7_5) (v := vF) (S0 := (fun W => W.cell? ⟨B, 2, none⟩ = some vF)) rfl (by kernel_rfl) (by kernel_rfl) (by kernel_rfl) (fun _ _ _ h => h) (sl_set (by decide) (by decide)) (sl_b2 (by decide) (by kernel_rfl)) hc hS (Or.inl ⟨by rfl, ?_⟩) (fun hc hS => ?_)
      · intro W hSw
        simp only [o7_5]
        go_simp
      simp only [o7_5, Act.put, List.setIfInBounds_toArray, List.set_cons_zero, List.set_cons_succ]
      refine anyL_take (i := 6) (oi := o7_6) (v := .int .i64 (startS n (dk L k))) (S0 := (fun _ => True)) rfl (by kernel_rfl) (by kernel_rfl) (by kernel_rfl) (fun _ _ _ h => h) (sl_set (by decide) (by decide)) (fun _ _ _ _ _ => trivial) hc hS (Or.inl ⟨by rfl, ?_⟩) (fun hc hS => ?_)
      · intro W hSw
        simp only [o7_6]
        go_simp
      simp only [o7_6, Act.put, List.setIfInBounds_toArray, List.set_cons_zero, List.set_cons_succ]
      refine anyL_take (i := 9) (oi := o7_9) (v := .pointer (some ⟨B, 0, none⟩)) (S0 := (fun W => W.cell? ⟨B + 1, 0, none⟩ = some (.pointer (some ⟨B, 0, none⟩)))) rfl (by kernel_rfl) (by kernel_rfl) (by kernel_rfl) (fun _ _ _ h => h) (sl_set (by decide) (by decide)) sl_a hc hS (Or.inl ⟨by rfl, ?_⟩) (fun hc hS => ?_)
      · intro W hSw
        simp only [o7_9]
        go_simp
      simp only [o7_9, Act.put, List.setIfInBounds_toArray, List.set_cons_zero, List.set_cons_succ]
      refine anyL_take (i := 10) (oi := o7_10) (v := .pointer (some ⟨B, 0, none⟩)) (S0 := (fun _ => True)) rfl (by kernel_rfl) (by kernel_rfl) (by kernel_rfl) (fun _ _ _ h => h) (sl_set (by decide) (by decide)) (fun _ _ _ _ _ => trivial) hc hS (Or.inl ⟨by rfl, ?_⟩) (fun hc hS => ?_)
      · intro W hSw
        simp only [o7_10]
        go_simp
      simp only [o7_10, Act.put, List.setIfInBounds_toArray, List.set_cons_zero, List.set_cons_succ]
      refine anyL_take (i := 11) (oi := o7_11) (v := .pointer (some ⟨B, 3, none⟩)) (S0 := (fun _ => True)) rfl (by kernel_rfl) (by kernel_rfl) (by kernel_rfl) (fun _ _ _ h => h) (sl_set (by decide) (by decide)) (fun _ _ _ _ _ => trivial) hc hS (Or.inl ⟨by rfl, ?_⟩) (fun hc hS => ?_)
      · intro W hSw
        simp only [o7_11]
        go_simp
      simp only [o7_11, Act.put, List.setIfInBounds_toArray, List.set_cons_zero, List.set_cons_succ]
      refine anyL_take (i := 12) (oi := o7_12) (v := vL) (S0 := (fun W => W.cell? ⟨B, 3, none⟩ = some vL)) rfl (by kernel_rfl) (by kernel_rfl) (by kernel_rfl) (fun _ _ _ h => h) (sl_set (by decide) (by decide)) (sl_b3 (by decide) (by kernel_rfl)) hc hS (Or.inl ⟨by rfl, ?_⟩) (fun hc hS => ?_)
      · intro W hSw
        simp only [o7_12]
        go_simp
      simp only [o7_12, Act.put, List.setIfInBounds_toArray, List.set_cons_zero, List.set_cons_succ]
      refine anyL_take (i := 13) (oi := o7_13) (v := .int .i64 (binN n (dk L k) : Nat)) (S0 := (fun _ => True)) rfl (by kernel_rfl) (by kernel_rfl) (by kernel_rfl) (fun _ _ _ h => h) (sl_set (by decide) (by decide)) (fun _ _ _ _ _ => trivial) hc hS (Or.inl ⟨by rfl, ?_⟩) (fun hc hS => ?_)
      · intro W hSw
        simp only [o7_13]
        go_simp
      simp only [o7_13, Act.put, List.setIfInBounds_toArray, List.set_cons_zero, List.set_cons_succ]
      refine anyL_two (i := 7) (j := 14) (o := o7_7) (o' := o7_14) (by kernel_rfl) rfl rfl hc ?_ ?_
      · intro K hK
        simp only [o7_7]
        go_simp
        have y2 := (Below.refl _ Wc).alloc (Nat.le_refl _) (.cells #[.int .i64 (startS n (dk L k))] 3)
        have t1 := cell_one_new Wc (.int .i64 (startS n (dk L k))) 3
        have l1 : Wc.heap.size < (Wc.alloc (.cells #[.int .i64 (startS n (dk L k))] 3)).heap.size := by rw [World.size_alloc]; omega
        replace G := hide ((unhide G).below y2)
        clear y2
        generalize hT1 : Wc.heap.size = T1 at *
        generalize Wc.alloc (.cells #[.int .i64 (startS n (dk L k))] 3) = W_1 at *
        refine hK.out _ _ ⟨(unhide G).cp, fun _ => (unhide G).c2.1, fun _ => (unhide G).c3.1⟩ (fun hc hS => ?_)
        clear hK K
        refine anyL_two (i := 8) (j := 14) (o := o7_8) (o' := o7_14) (by kernel_rfl) rfl rfl hc ?_ ?_
        · intro K hK
          refine step_append_at rfl (.tmp 48) (.tmp 50) 66 rfl 0 3 i1 (.int .i64 0) 1 8 Try.underlying66 hi1 hy0 hy1 hy2 rfl (by decide) vF k (xsF (bsX1 n L) k) rfl (unhide G).oF ⟨T1, 0, none⟩ 1 1 [bsX1 n L k] rfl rfl t1 (fun u hu => by simp at hu; subst hu; rfl) (by unfold maxLen; omega) (by omega) (Nat.zero_le _) ?_
          intro vF' W_2 hown' hgrow hat
          obtain ⟨qF, cF, rfl⟩ := own_slice hown'
          replace G := hide ((unhide G).appF hown' hgrow hat)
          clear hown' hgrow hat t1 l1
          simp only [o7_8, Act.put, List.setIfInBounds_toArray, List.set_cons_zero, List.set_cons_succ]
          refine hK.out _ _ ⟨(unhide G).cp, fun _ => (unhide G).c2.1, fun _ => (unhide G).c3.1⟩ (fun hc hS => ?_)
          clear hK K
          refine anyL_one (i := 14) (o := o7_14) (by kernel_rfl) rfl hc ?_
          intro K hK
          simp only [o7_14]
          go_simp
          have y2 := (Below.refl _ W_2).alloc (Nat.le_refl _) (.cells (madeCells #[.int .i64 0, .int .i64 0] (binN n (dk L k) * 2)) 96)
          replace G := hide ((unhide G).line (Nat.le_refl _) y2 (Nat.le_refl _) (made_lines W_2 _))
          clear y2
          generalize W_2.heap.size = Lb at *
          generalize W_2.alloc (.cells (madeCells #[.int .i64 0, .int .i64 0] (binN n (dk L k) * 2)) 96) = W_3 at *
          refine hK.out _ _ ⟨(unhide G).cp, fun _ => (unhide G).c2.1, fun _ => (unhide G).c3.1⟩ (fun hc hS => ?_)
          clear hK K
          refine anyL_one (i := 15) (o := o7_15) (by kernel_rfl) rfl hc ?_
          intro K hK
          simp only [o7_15]
          go_simp
          have y2 := (Below.refl _ W_3).alloc (Nat.le_refl _) (.cells #[.slice (some ⟨Lb, 0, none⟩) (binN n (dk L k)) (binN n (dk L k))] 86)
          have t2 := cell_one_new W_3 (.slice (some ⟨Lb, 0, none⟩) (binN n (dk L k)) (binN n (dk L k))) 86
          have l2 : W_3.heap.size < (W_3.alloc (.cells #[.slice (some ⟨Lb, 0, none⟩) (binN n (dk L k)) (binN n (dk L k))] 86)).heap.size := by rw [World.size_alloc]; omega
          have n2 := trivial
          replace G := hide ((unhide G).below y2)
          clear y2
          generalize W_3.heap.size = T2 at *
          generalize W_3.alloc (.cells #[.slice (some ⟨Lb, 0, none⟩) (binN n (dk L k)) (binN n (dk L k))] 86) = W_4 at *
          refine hK.out _ _ ⟨(unhide G).cp, fun _ => (unhide G).c2.1, fun _ => (unhide G).c3.1⟩ (fun hc hS => ?_)
          clear hK K
          refine anyL_one (i := 16) (o := o7_16) (by kernel_rfl) rfl hc ?_
          intro K hK
          refine step_append_at rfl (.tmp 55) (.tmp 58) 67 rfl 0 86 i4 (.slice none 0 0) 1 24 Try.underlying67 hi4 hu0 hu1 hu2 rfl (by decide) vL k (xsF (bsX2 n L (updP lk k Lb)) k) rfl (unhide G).oL ⟨T2, 0, none⟩ 1 1 [bsX2 n L (updP lk k Lb) k] rfl rfl (by unfold bsX2; rw [updP_at]; exact t2) (fun u hu => by simp at hu; subst hu; rfl) (by unfold maxLen; omega) (by omega) (Nat.zero_le _) ?_
          intro vL' W_5 hown' hgrow hat
          obtain ⟨qL, cL, rfl⟩ := own_slice hown'
          replace G := hide ((unhide G).appL hown' hgrow hat)
          clear hown' hgrow hat t2 l2
          simp only [o7_16, Act.put, List.setIfInBounds_toArray, List.set_cons_zero, List.set_cons_succ]
          refine hK.out _ _ ⟨(unhide G).cp, fun _ => (unhide G).c2.1, fun _ => (unhide G).c3.1⟩ (fun hc hS => ?_)
          clear hK K
          refine anyL_take (i := 17) (oi := o7_17) (v := .pointer (some ⟨B, 0, none⟩)) (S0 := (fun _ => True)) rfl (by kernel_rfl) (by kernel_rfl) (by kernel_rfl) (fun _ _ _ h => h) (sl_set (by decide) (by decide)) (fun _ _ _ _ _ => trivial) hc hS (Or.inl ⟨by rfl, ?_⟩) (fun hc hS => ?_)
          · intro W hSw
            simp only [o7_17]
            go_simp
          simp only [o7_17, Act.put, List.setIfInBounds_toArray, List.set_cons_zero, List.set_cons_succ]
          refine anyL_take (i := 18) (oi := o7_18) (v := .pointer (some ⟨B, 2, none⟩)) (S0 := (fun _ => True)) rfl (by kernel_rfl) (by kernel_rfl) (by kernel_rfl) (fun _ _ _ h => h) (sl_set (by decide) (by decide)) (fun _ _ _ _ _ => trivial) hc hS (Or.inl ⟨by rfl, ?_⟩) (fun hc hS => ?_)
          · intro W hSw
            simp only [o7_18]
            go_simp
          simp only [o7_18, Act.put, List.setIfInBounds_toArray, List.set_cons_zero, List.set_cons_succ]
          obtain ⟨cz, fz⟩ := (unhide G).c2
          refine anyL_one (i := 19) (o := o7_19) (by kernel_rfl) rfl hc ?_
          intro K hK
          simp only [o7_19]
          go_simp
          replace G := hide ((unhide G).set2 (.slice (some ⟨qF, 0, none⟩) (k + 1) cF))
          clear cz fz
          generalize World.setCell _ _ _ = Wd at *
          refine hK.out _ _ ⟨(unhide G).cp, fun h => (not_false_of (by kernel_rfl) h).elim, fun _ => (unhide G).c3.1⟩ (fun hc hS => ?_)
          clear hK K
          refine anyL_take (i := 20) (oi := o7_20) (v := .pointer (some ⟨B, 0, none⟩)) (S0 := (fun _ => True)) rfl (by kernel_rfl) (by kernel_rfl) (by kernel_rfl) (fun _ _ _ h => h) (sl_set (by decide) (by decide)) (fun _ _ _ _ _ => trivial) hc hS (Or.inl ⟨by rfl, ?_⟩) (fun hc hS => ?_)
          · intro W hSw
            simp only [o7_20]
            go_simp
          simp only [o7_20, Act.put, List.setIfInBounds_toArray, List.set_cons_zero, List.set_cons_succ]
          refine anyL_take (i := 21) (oi := o7_21) (v := .pointer (some ⟨B, 3, none⟩)) (S0 := (fun _ => True)) rfl (by kernel_rfl) (by kernel_rfl) (by kernel_rfl) (fun _ _ _ h => h) (sl_set (by decide) (by decide)) (fun _ _ _ _ _ => trivial) hc hS (Or.inl ⟨by rfl, ?_⟩) (fun hc hS => ?_)
          · intro W hSw
            simp only [o7_21]
            go_simp
          simp only [o7_21, Act.put, List.setIfInBounds_toArray, List.set_cons_zero, List.set_cons_succ]
          obtain ⟨cz, fz⟩ := (unhide G).c3
          refine anyL_one (i := 22) (o := o7_22) (by kernel_rfl) rfl hc ?_
          intro K hK
          simp only [o7_22]
          go_simp
          replace G := hide ((unhide G).set3 (.slice (some ⟨qL, 0, none⟩) (k + 1) cL))
          clear cz fz
          generalize World.setCell _ _ _ = We at *
          refine hK.out _ _ ⟨(unhide G).cp, fun h => (not_false_of (by kernel_rfl) h).elim, fun h => (not_false_of (by kernel_rfl) h).elim⟩ (fun hc hS => ?_)
          clear hK K hc hS
          refine anyL_done (by kernel_rfl) ?_ _
          go_wp2_with fail
          exact ⟨⟨k + 1, _, _, _, hkL, by go_num, G⟩, by simp [intOf]; omega⟩
        · intro K hK
          simp only [o7_14]
          go_simp
          have y2 := (Below.refl _ W_1).alloc (Nat.le_refl _) (.cells (madeCells #[.int .i64 0, .int .i64 0] (binN n (dk L k) * 2)) 96)
          have t1 := carry_cell t1 y2 l1
          have l1 := Nat.lt_of_lt_of_le l1 y2.size
          replace G := hide ((unhide G).line (Nat.le_refl _) y2 (Nat.le_refl _) (made_lines W_1 _))
          clear y2
          generalize W_1.heap.size = Lb at *
          generalize W_1.alloc (.cells (madeCells #[.int .i64 0, .int .i64 0] (binN n (dk L k) * 2)) 96) = W_2 at *
          refine hK.out _ _ ⟨(unhide G).cp, fun _ => (unhide G).c2.1, fun _ => (unhide G).c3.1⟩ (fun hc hS => ?_)
          clear hK K
          refine anyL_two (i := 8) (j := 15) (o := o7_8) (o' := o7_15) (by kernel_rfl) rfl rfl hc ?_ ?_
          · intro K hK
            refine step_append_at rfl (.tmp 48) (.tmp 50) 66 rfl 0 3 i1 (.int .i64 0) 1 8 Try.underlying66 hi1 hy0 hy1 hy2 rfl (by decide) vF k (xsF (bsX1 n L) k) rfl (unhide G).oF ⟨T1, 0, none⟩ 1 1 [bsX1 n L k] rfl rfl t1 (fun u hu => by simp at hu; subst hu; rfl) (by unfold maxLen; omega) (by omega) (Nat.zero_le _) ?_
            intro vF' W_3 hown' hgrow hat
            obtain ⟨qF, cF, rfl⟩ := own_slice hown'
            replace G := hide ((unhide G).appF hown' hgrow hat)
            clear hown' hgrow hat t1 l1
            simp only [o7_8, Act.put, List.setIfInBounds_toArray, List.set_cons_zero, List.set_cons_succ]
            refine hK.out _ _ ⟨(unhide G).cp, fun _ => (unhide G).c2.1, fun _ => (unhide G).c3.1⟩ (fun hc hS => ?_)
            clear hK K
            refine anyL_one (i := 15) (o := o7_15) (by kernel_rfl) rfl hc ?_
            intro K hK
            simp only [o7_15]
            go_simp
            have y2 := (Below.refl _ W_3).alloc (Nat.le_refl _) (.cells #[.slice (some ⟨Lb, 0, none⟩) (binN n (dk L k)) (binN n (dk L k))] 86)
            have t2 := cell_one_new W_3 (.slice (some ⟨Lb, 0, none⟩) (binN n (dk L k)) (binN n (dk L k))) 86
            have l2 : W_3.heap.size < (W_3.alloc (.cells #[.slice (some ⟨Lb, 0, none⟩) (binN n (dk L k)) (binN n (dk L k))] 86)).heap.size := by rw [World.size_alloc]; omega
            have n2 := trivial
            replace G := hide ((unhide G).below y2)
            clear y2
            generalize W_3.heap.size = T2 at *
            generalize W_3.alloc (.cells #[.slice (some ⟨Lb, 0, none⟩) (binN n (dk L k)) (binN n (dk L k))] 86) = W_4 at *
            refine hK.out _ _ ⟨(unhide G).cp, fun _ => (unhide G).c2.1, fun _ => (unhide G).c3.1⟩ (fun hc hS => ?_)
            clear hK K
            refine anyL_one (i := 16) (o := o7_16) (by kernel_rfl) rfl hc ?_
            intro K hK
            refine step_append_at rfl (.tmp 55) (.tmp 58) 67 rfl 0 86 i4 (.slice none 0 0) 1 24 Try.underlying67 hi4 hu0 hu1 hu2 rfl (by decide) vL k (xsF (bsX2 n L (updP lk k Lb)) k) rfl (unhide G).oL ⟨T2, 0, none⟩ 1 1 [bsX2 n L (updP lk k Lb) k] rfl rfl (by unfold bsX2; rw [updP_at]; exact t2) (fun u hu => by simp at hu; subst hu; rfl) (by unfold maxLen; omega) (by omega) (Nat.zero_le _) ?_
            intro vL' W_5 hown' hgrow hat
            obtain ⟨qL, cL, rfl⟩ := own_slice hown'
            replace G := hide ((unhide G).appL hown' hgrow hat)
            clear hown' hgrow hat t2 l2
            simp only [o7_16, Act.put, List.setIfInBounds_toArray, List.set_cons_zero, List.set_cons_succ]
            refine hK.out _ _ ⟨(unhide G).cp, fun _ => (unhide G).c2.1, fun _ => (unhide G).c3.1⟩ (fun hc hS => ?_)
            clear hK K
            refine anyL_take (i := 17) (oi := o7_17) (v := .pointer (some ⟨B, 0, none⟩)) (S0 := (fun _ => True)) rfl (by kernel_rfl) (by kernel_rfl) (by kernel_rfl) (fun _ _ _ h => h) (sl_set (by decide) (by decide)) (fun _ _ _ _ _ => trivial) hc hS (Or.inl ⟨by rfl, ?_⟩) (fun hc hS => ?_)
            · intro W hSw
              simp only [o7_17]
              go_simp
            simp only [o7_17, Act.put, List.setIfInBounds_toArray, List.set_cons_zero, List.set_cons_succ]
            refine anyL_take (i := 18) (oi := o7_18) (v := .pointer (some ⟨B, 2, none⟩)) (S0 := (fun _ => True)) rfl (by kernel_rfl) (by kernel_rfl) (by kernel_rfl) (fun _ _ _ h => h) (sl_set (by decide) (by decide)) (fun _ _ _ _ _ => trivial) hc hS (Or.inl ⟨by rfl, ?_⟩) (fun hc hS => ?_)
            · intro W hSw
              simp only [o7_18]
              go_simp
            simp only [o7_18, Act.put, List.setIfInBounds_toArray, List.set_cons_zero, List.set_cons_succ]
            obtain ⟨cz, fz⟩ := (unhide G).c2
            refine anyL_one (i := 19) (o := o7_19) (by kernel_rfl) rfl hc ?_
            intro K hK
            simp only [o7_19]
            go_simp
            replace G := hide ((unhide G).set2 (.slice (some ⟨qF, 0, none⟩) (k + 1) cF))
            clear cz fz
            generalize World.setCell _ _ _ = Wd at *
            refine hK.out _ _ ⟨(unhide G).cp, fun h => (not_false_of (by kernel_rfl) h).elim, fun _ => (unhide G).c3.1⟩ (fun hc hS => ?_)
            clear hK K
            refine anyL_take (i := 20) (oi := o7_20) (v := .pointer (some ⟨B, 0, none⟩)) (S0 := (fun _ => True)) rfl (by kernel_rfl) (by kernel_rfl) (by kernel_rfl) (fun _ _ _ h => h) (sl_set (by decide) (by decide)) (fun _ _ _ _ _ => trivial) hc hS (Or.inl ⟨by rfl, ?_⟩) (fun hc hS => ?_)
            · intro W hSw
              simp only [o7_20]
              go_simp
            simp only [o7_20, Act.put, List.setIfInBounds_toArray, List.set_cons_zero, List.set_cons_succ]
            refine anyL_take (i := 21) (oi := o7_21) (v := .pointer (some ⟨B, 3, none⟩)) (S0 := (fun _ => True)) rfl (by kernel_rfl) (by kernel_rfl) (by kernel_rfl) (fun _ _ _ h => h) (sl_set (by decide) (by decide)) (fun _ _ _ _ _ => trivial) hc hS (Or.inl ⟨by rfl, ?_⟩) (fun hc hS => ?_)
            · intro W hSw
              simp only [o7_21]
              go_simp
            simp only [o7_21, Act.put, List.setIfInBounds_toArray, List.set_cons_zero, List.set_cons_succ]
            obtain ⟨cz, fz⟩ := (unhide G).c3
            refine anyL_one (i := 22) (o := o7_22) (by kernel_rfl) rfl hc ?_
            intro K hK
            simp only [o7_22]
            go_simp
            replace G := hide ((unhide G).set3 (.slice (some ⟨qL, 0, none⟩) (k + 1) cL))
            clear cz fz
            generalize World.setCell _ _ _ = We at *
            refine hK.out _ _ ⟨(unhide G).cp, fun h => (not_false_of (by kernel_rfl) h).elim, fun h => (not_false_of (by kernel_rfl) h).elim⟩ (fun hc hS => ?_)
            clear hK K hc hS
            refine anyL_done (by kernel_rfl) ?_ _
            go_wp2_with fail
            exact ⟨⟨k + 1, _, _, _, hkL, by go_num, G⟩, by simp [intOf]; omega⟩
          · intro K hK
            simp only [o7_15]
            go_simp
            have y2 := (Below.refl _ W_2).alloc (Nat.le_refl _) (.cells #[.slice (some ⟨Lb, 0, none⟩) (binN n (dk L k)) (binN n (dk L k))] 86)
            have t2 := cell_one_new W_2 (.slice (some ⟨Lb, 0, none⟩) (binN n (dk L k)) (binN n (dk L k))) 86
            have l2 : W_2.heap.size < (W_2.alloc (.cells #[.slice (some ⟨Lb, 0, none⟩) (binN n (dk L k)) (binN n (dk L k))] 86)).heap.size := by rw [World.size_alloc]; omega
            have t1 := carry_cell t1 y2 l1
            have l1 := Nat.lt_of_lt_of_le l1 y2.size
            have n2 : vF.ownBlock ≠ some W_2.heap.size := fun e => Nat.lt_irrefl _ (Bs.ltF (unhide G) e)
            replace G := hide ((unhide G).below y2)
            clear y2
            generalize W_2.heap.size = T2 at *
            generalize W_2.alloc (.cells #[.slice (some ⟨Lb, 0, none⟩) (binN n (dk L k)) (binN n (dk L k))] 86) = W_3 at *
            refine hK.out _ _ ⟨(unhide G).cp, fun _ => (unhide G).c2.1, fun _ => (unhide G).c3.1⟩ (fun hc hS => ?_)
            clear hK K
            refine anyL_one (i := 8) (o := o7_8) (by kernel_rfl) rfl hc ?_
            intro K hK
            refine step_append_at rfl (.tmp 48) (.tmp 50) 66 rfl 0 3 i1 (.int .i64 0) 1 8 Try.underlying66 hi1 hy0 hy1 hy2 rfl (by decide) vF k (xsF (bsX1 n L) k) rfl (unhide G).oF ⟨T1, 0, none⟩ 1 1 [bsX1 n L k] rfl rfl t1 (fun u hu => by simp at hu; subst hu; rfl) (by unfold maxLen; omega) (by omega) (Nat.zero_le _) ?_
            intro vF' W_4 hown' hgrow hat
            have t2 := carry_grown t2 hgrow l2 n2
            have l2 := Nat.lt_of_lt_of_le l2 hgrow.size
            obtain ⟨qF, cF, rfl⟩ := own_slice hown'
            replace G := hide ((unhide G).appF hown' hgrow hat)
            clear hown' hgrow hat t1 l1
            simp only [o7_8, Act.put, List.setIfInBounds_toArray, List.set_cons_zero, List.set_cons_succ]
            refine hK.out _ _ ⟨(unhide G).cp, fun _ => (unhide G).c2.1, fun _ => (unhide G).c3.1⟩ (fun hc hS => ?_)
            clear hK K
            refine anyL_one (i := 16) (o := o7_16) (by kernel_rfl) rfl hc ?_
            intro K hK
            refine step_append_at rfl (.tmp 55) (.tmp 58) 67 rfl 0 86 i4 (.slice none 0 0) 1 24 Try.underlying67 hi4 hu0 hu1 hu2 rfl (by decide) vL k (xsF (bsX2 n L (updP lk k Lb)) k) rfl (unhide G).oL ⟨T2, 0, none⟩ 1 1 [bsX2 n L (updP lk k Lb) k] rfl rfl (by unfold bsX2; rw [updP_at]; exact t2) (fun u hu => by simp at hu; subst hu; rfl) (by unfold maxLen; omega) (by omega) (Nat.zero_le _) ?_
            intro vL' W_5 hown' hgrow hat
            obtain ⟨qL, cL, rfl⟩ := own_slice hown'
            replace G := hide ((unhide G).appL hown' hgrow hat)
            clear hown' hgrow hat t2 l2
            simp only [o7_16, Act.put, List.setIfInBounds_toArray, List.set_cons_zero, List.set_cons_succ]
            refine hK.out _ _ ⟨(unhide G).cp, fun _ => (unhide G).c2.1, fun _ => (unhide G).c3.1⟩ (fun hc hS => ?_)
            clear hK K
            refine anyL_take (i := 17) (oi := o7_17) (v := .pointer (some ⟨B, 0, none⟩)) (S0 := (fun _ => True)) rfl (by kernel_rfl) (by kernel_rfl) (by kernel_rfl) (fun _ _ _ h => h) (sl_set (by decide) (by decide)) (fun _ _ _ _ _ => trivial) hc hS (Or.inl ⟨by rfl, ?_⟩) (fun hc hS => ?_)
            · intro W hSw
              simp only [o7_17]
              go_simp
            simp only [o7_17, Act.put, List.setIfInBounds_toArray, List.set_cons_zero, List.set_cons_succ]
            refine anyL_take (i := 18) (oi := o7_18) (v := .pointer (some ⟨B, 2, none⟩)) (S0 := (fun _ => True)) rfl (by kernel_rfl) (by kernel_rfl) (by kernel_rfl) (fun _ _ _ h => h) (sl_set (by decide) (by decide)) (fun _ _ _ _ _ => trivial) hc hS (Or.inl ⟨by rfl, ?_⟩) (fun hc hS => ?_)
            · intro W hSw
              simp only [o7_18]
              go_simp
            simp only [o7_18, Act.put, List.setIfInBounds_toArray, List.set_cons_zero, List.set_cons_succ]
            obtain ⟨cz, fz⟩ := (unhide G).c2
            refine anyL_one (i := 19) (o := o7_19) (by kernel_rfl) rfl hc ?_
            intro K hK
            simp only [o7_19]
            go_simp
            replace G := hide ((unhide G).set2 (.slice (some ⟨qF, 0, none⟩) (k + 1) cF))
            clear cz fz
            generalize World.setCell _ _ _ = Wd at *
            refine hK.out _ _ ⟨(unhide G).cp, fun h => (not_false_of (by kernel_rfl) h).elim, fun _ => (unhide G).c3.1⟩ (fun hc hS => ?_)
            clear hK K
            refine anyL_take (i := 20) (oi := o7_20) (v := .pointer (some ⟨B, 0, none⟩)) (S0 := (fun _ => True)) rfl (by kernel_rfl) (by kernel_rfl) (by kernel_rfl) (fun _ _ _ h => h) (sl_set (by decide) (by decide)) (fun _ _ _ _ _ => trivial) hc hS (Or.inl ⟨by rfl, ?_⟩) (fun hc hS => ?_)
            · intro W hSw
              simp only [o7_20]
              go_simp
            simp only [o7_20, Act.put, List.setIfInBounds_toArray, List.set_cons_zero, List.set_cons_succ]
            refine anyL_take (i := 21) (oi := o7_21) (v := .pointer (some ⟨B, 3, none⟩)) (S0 := (fun _ => True)) rfl (by kernel_rfl) (by kernel_rfl) (by kernel_rfl) (fun _ _ _ h => h) (sl_set (by decide) (by decide)) (fun _ _ _ _ _ => trivial) hc hS (Or.inl ⟨by rfl, ?_⟩) (fun hc hS => ?_)
            · intro W hSw
              simp only [o7_21]
              go_simp
            simp only [o7_21, Act.put, List.setIfInBounds_toArray, List.set_cons_zero, List.set_cons_succ]
            obtain ⟨cz, fz⟩ := (unhide G).c3
            refine anyL_one (i := 22) (o := o7_22) (by kernel_rfl) rfl hc ?_
            intro K hK
            simp only [o7_22]
            go_simp
            replace G := hide ((unhide G).set3 (.slice (some ⟨qL, 0, none⟩) (k + 1) cL))
            clear cz fz
            generalize World.setCell _ _ _ = We at *
            refine hK.out _ _ ⟨(unhide G).cp, fun h => (not_false_of (by kernel_rfl) h).elim, fun h => (not_false_of (by kernel_rfl) h).elim⟩ (fun hc hS => ?_)
            clear hK K hc hS
            refine anyL_done (by kernel_rfl) ?_ _
            go_wp2_with fail
            exact ⟨⟨k + 1, _, _, _, hkL, by go_num, G⟩, by simp [intOf]; omega⟩
      · intro K hK
        simp only [o7_14]
        go_simp
        have y2 := (Below.refl _ Wc).alloc (Nat.le_refl _) (.cells (madeCells #[.int .i64 0, .int .i64 0] (binN n (dk L k) * 2)) 96)
        replace G := hide ((unhide G).line (Nat.le_refl _) y2 (Nat.le_refl _) (made_lines Wc _))
        clear y2
        generalize Wc.heap.size = Lb at *
        generalize Wc.alloc (.cells (madeCells #[.int .i64 0, .int .i64 0] (binN n (dk L k) * 2)) 96) = W_1 at *
        refine hK.out _ _ ⟨(unhide G).cp, fun _ => (unhide G).c2.1, fun _ => (unhide G).c3.1⟩ (fun hc hS => ?_)
        clear hK K
        refine anyL_two (i := 7) (j := 15) (o := o7_7) (o' := o7_15) (by kernel_rfl) rfl rfl hc ?_ ?_
        · intro K hK
          simp only [o7_7]
          go_simp
          have y2 := (Below.refl _ W_1).alloc (Nat.le_refl _) (.cells #[.int .i64 (startS n (dk L k))] 3)
          have t1 := cell_one_new W_1 (.int .i64 (startS n (dk L k))) 3
          have l1 : W_1.heap.size < (W_1.alloc (.cells #[.int .i64 (startS n (dk L k))] 3)).heap.size := by rw [World.size_alloc]; omega
          replace G := hide ((unhide G).below y2)
          clear y2
          generalize hT1 : W_1.heap.size = T1 at *
          generalize W_1.alloc (.cells #[.int .i64 (startS n (dk L k))] 3) = W_2 at *
          refine hK.out _ _ ⟨(unhide G).cp, fun _ => (unhide G).c2.1, fun _ => (unhide G).c3.1⟩ (fun hc hS => ?_)
          clear hK K
          refine anyL_two (i := 8) (j := 15) (o := o7_8) (o' := o7_15) (by kernel_rfl) rfl rfl hc ?_ ?_
          · intro K hK
            refine step_append_at rfl (.tmp 48) (.tmp 50) 66 rfl 0 3 i1 (.int .i64 0) 1 8 Try.underlying66 hi1 hy0 hy1 hy2 rfl (by decide) vF k (xsF (bsX1 n L) k) rfl (unhide G).oF ⟨T1, 0, none⟩ 1 1 [bsX1 n L k] rfl rfl t1 (fun u hu => by simp at hu; subst hu; rfl) (by unfold maxLen; omega) (by omega) (Nat.zero_le _) ?_
            intro vF' W_3 hown' hgrow hat
            obtain ⟨qF, cF, rfl⟩ := own_slice hown'
            replace G := hide ((unhide G).appF hown' hgrow hat)
            clear hown' hgrow hat t1 l1
            simp only [o7_8, Act.put, List.setIfInBounds_toArray, List.set_cons_zero, List.set_cons_succ]
            refine hK.out _ _ ⟨(unhide G).cp, fun _ => (unhide G).c2.1, fun _ => (unhide G).c3.1⟩ (fun hc hS => ?_)
            clear hK K
            refine anyL_one (i := 15) (o := o7_15) (by kernel_rfl) rfl hc ?_
            intro K hK
            simp only [o7_15]
            go_simp
            have y2 := (Below.refl _ W_3).alloc (Nat.le_refl _) (.cells #[.slice (some ⟨Lb, 0, none⟩) (binN n (dk L k)) (binN n (dk L k))] 86)
            have t2 := cell_one_new W_3 (.slice (some ⟨Lb, 0, none⟩) (binN n (dk L k)) (binN n (dk L k))) 86
            have l2 : W_3.heap.size < (W_3.alloc (.cells #[.slice (some ⟨Lb, 0, none⟩) (binN n (dk L k)) (binN n (dk L k))] 86)).heap.size := by rw [World.size_alloc]; omega
            have n2 := trivial
            replace G := hide ((unhide G).below y2)
            clear y2
            generalize W_3.heap.size = T2 at *
            generalize W_3.alloc (.cells #[.slice (some ⟨Lb, 0, none⟩) (binN n (dk L k)) (binN n (dk L k))] 86) = W_4 at *
            refine hK.out _ _ ⟨(unhide G).cp, fun _ => (unhide G).c2.1, fun _ => (unhide G).c3.1⟩ (fun hc hS => ?_)
            clear hK K
            refine anyL_one (i := 16) (o := o7_16) (by kernel_rfl) rfl hc ?_
            intro K hK
            refine step_append_at rfl (.tmp 55) (.tmp 58) 67 rfl 0 86 i4 (.slice none 0 0) 1 24 Try.underlying67 hi4 hu0 hu1 hu2 rfl (by decide) vL k (xsF (bsX2 n L (updP lk k Lb)) k) rfl (unhide G).oL ⟨T2, 0, none⟩ 1 1 [bsX2 n L (updP lk k Lb) k] rfl rfl (by unfold bsX2; rw [updP_at]; exact t2) (fun u hu => by simp at hu; subst hu; rfl) (by unfold maxLen; omega) (by omega) (Nat.zero_le _) ?_
            intro vL' W_5 hown' hgrow hat
            obtain ⟨qL, cL, rfl⟩ := own_slice hown'
            replace G := hide ((unhide G).appL hown' hgrow hat)
            clear hown' hgrow hat t2 l2
            simp only [o7_16, Act.put, List.setIfInBounds_toArray, List.set_cons_zero, List.set_cons_succ]
            refine hK.out _ _ ⟨(unhide G).cp, fun _ => (unhide G).c2.1, fun _ => (unhide G).c3.1⟩ (fun hc hS => ?_)
            clear hK K
            refine anyL_take (i := 17) (oi := o7_17) (v := .pointer (some ⟨B, 0, none⟩)) (S0 := (fun _ => True)) rfl (by kernel_rfl) (by kernel_rfl) (by kernel_rfl) (fun _ _ _ h => h) (sl_set (by decide) (by decide)) (fun _ _ _ _ _ => trivial) hc hS (Or.inl ⟨by rfl, ?_⟩) (fun hc hS => ?_)
            · intro W hSw
              simp only [o7_17]
              go_simp
            simp only [o7_17, Act.put, List.setIfInBounds_toArray, List.set_cons_zero, List.set_cons_succ]
            refine anyL_take (i := 18) (oi := o7_18) (v := .pointer (some ⟨B, 2, none⟩)) (S0 := (fun _ => True)) rfl (by kernel_rfl) (by kernel_rfl) (by kernel_rfl) (fun _ _ _ h => h) (sl_set (by decide) (by decide)) (fun _ _ _ _ _ => trivial) hc hS (Or.inl ⟨by rfl, ?_⟩) (fun hc hS => ?_)
            · intro W hSw
              simp only [o7_18]
              go_simp
            simp only [o7_18, Act.put, List.setIfInBounds_toArray, List.set_cons_zero, List.set_cons_succ]
            obtain ⟨cz, fz⟩ := (unhide G).c2
            refine anyL_one (i := 19) (o := o7_19) (by kernel_rfl) rfl hc ?_
            intro K hK
            simp only [o7_19]
            go_simp
            replace G := hide ((unhide G).set2 (.slice (some ⟨qF, 0, none⟩) (k + 1) cF))
            clear cz fz
            generalize World.setCell _ _ _ = Wd at *
            refine hK.out _ _ ⟨(unhide G).cp, fun h => (not_false_of (by kernel_rfl) h).elim, fun _ => (unhide G).c3.1⟩ (fun hc hS => ?_)
            clear hK K
            refine anyL_take (i := 20) (oi := o7_20) (v := .pointer (some ⟨B, 0, none⟩)) (S0 := (fun _ => True)) rfl (by kernel_rfl) (by kernel_rfl) (by kernel_rfl) (fun _ _ _ h => h) (sl_set (by decide) (by decide)) (fun _ _ _ _ _ => trivial) hc hS (Or.inl ⟨by rfl, ?_⟩) (fun hc hS => ?_)
            · intro W hSw
              simp only [o7_20]
              go_simp
            simp only [o7_20, Act.put, List.setIfInBounds_toArray, List.set_cons_zero, List.set_cons_succ]
            refine anyL_take (i := 21) (oi := o7_21) (v := .pointer (some ⟨B, 3, none⟩)) (S0 := (fun _ => True)) rfl (by kernel_rfl) (by kernel_rfl) (by kernel_rfl) (fun _ _ _ h => h) (sl_set (by decide) (by decide)) (fun _ _ _ _ _ => trivial) hc hS (Or.inl ⟨by rfl, ?_⟩) (fun hc hS => ?_)
            · intro W hSw
              simp only [o7_21]
              go_simp
            simp only [o7_21, Act.put, List.setIfInBounds_toArray, List.set_cons_zero, List.set_cons_succ]
            obtain ⟨cz, fz⟩ := (unhide G).c3
            refine anyL_one (i := 22) (o := o7_22) (by kernel_rfl) rfl hc ?_
            intro K hK
            simp only [o7_22]
            go_simp
            replace G := hide ((unhide G).set3 (.slice (some ⟨qL, 0, none⟩) (k + 1) cL))
            clear cz fz
            generalize World.setCell _ _ _ = We at *
            refine hK.out _ _ ⟨(unhide G).cp, fun h => (not_false_of (by kernel_rfl) h).elim, fun h => (not_false_of (by kernel_rfl) h).elim⟩ (fun hc hS => ?_)
            clear hK K hc hS
            refine anyL_done (by kernel_rfl) ?_ _
            go_wp2_with fail
            exact ⟨⟨k + 1, _, _, _, hkL, by go_num, G⟩, by simp [intOf]; omega⟩
          · intro K hK
            simp only [o7_15]
            go_simp
            have y2 := (Below.refl _ W_2).alloc (Nat.le_refl _) (.cells #[.slice (some ⟨Lb, 0, none⟩) (binN n (dk L k)) (binN n (dk L k))] 86)
            have t2 := cell_one_new W_2 (.slice (some ⟨Lb, 0, none⟩) (binN n (dk L k)) (binN n (dk L k))) 86
            have l2 : W_2.heap.size < (W_2.alloc (.cells #[.slice (some ⟨Lb, 0, none⟩) (binN n (dk L k)) (binN n (dk L k))] 86)).heap.size := by rw [World.size_alloc]; omega
            have t1 := carry_cell t1 y2 l1
            have l1 := Nat.lt_of_lt_of_le l1 y2.size
            have n2 : vF.ownBlock ≠ some W_2.heap.size := fun e => Nat.lt_irrefl _ (Bs.ltF (unhide G) e)
            replace G := hide ((unhide G).below y2)
            clear y2
            generalize W_2.heap.size = T2 at *
            generalize W_2.alloc (.cells #[.slice (some ⟨Lb, 0, none⟩) (binN n (dk L k)) (binN n (dk L k))] 86) = W_3 at *
            refine hK.out _ _ ⟨(unhide G).cp, fun _ => (unhide G).c2.1, fun _ => (unhide G).c3.1⟩ (fun hc hS => ?_)
            clear hK K
            refine anyL_one (i := 8) (o := o7_8) (by kernel_rfl) rfl hc ?_
            intro K hK
            refine step_append_at rfl (.tmp 48) (.tmp 50) 66 rfl 0 3 i1 (.int .i64 0) 1 8 Try.underlying66 hi1 hy0 hy1 hy2 rfl (by decide) vF k (xsF (bsX1 n L) k) rfl (unhide G).oF ⟨T1, 0, none⟩ 1 1 [bsX1 n L k] rfl rfl t1 (fun u hu => by simp at hu; subst hu; rfl) (by unfold maxLen; omega) (by omega) (Nat.zero_le _) ?_
            intro vF' W_4 hown' hgrow hat
            have t2 := carry_grown t2 hgrow l2 n2
            have l2 := Nat.lt_of_lt_of_le l2 hgrow.size
            obtain ⟨qF, cF, rfl⟩ := own_slice hown'
            replace G := hide ((unhide G).appF hown' hgrow hat)
            clear hown' hgrow hat t1 l1
            simp only [o7_8, Act.put, List.setIfInBounds_toArray, List.set_cons_zero, List.set_cons_succ]
            refine hK.out _ _ ⟨(unhide G).cp, fun _ => (unhide G).c2.1, fun _ => (unhide G).c3.1⟩ (fun hc hS => ?_)
            clear hK K
            refine anyL_one (i := 16) (o := o7_16) (by kernel_rfl) rfl hc ?_
            intro K hK
            refine step_append_at rfl (.tmp 55) (.tmp 58) 67 rfl 0 86 i4 (.slice none 0 0) 1 24 Try.underlying67 hi4 hu0 hu1 hu2 rfl (by decide) vL k (xsF (bsX2 n L (updP lk k Lb)) k) rfl (unhide G).oL ⟨T2, 0, none⟩ 1 1 [bsX2 n L (updP lk k Lb) k] rfl rfl (by unfold bsX2; rw [updP_at]; exact t2) (fun u hu => by simp at hu; subst hu; rfl) (by unfold maxLen; omega) (by omega) (Nat.zero_le _) ?_
            intro vL' W_5 hown' hgrow hat
            obtain ⟨qL, cL, rfl⟩ := own_slice hown'
            replace G := hide ((unhide G).appL hown' hgrow hat)
            clear hown' hgrow hat t2 l2
            simp only [o7_16, Act.put, List.setIfInBounds_toArray, List.set_cons_zero, List.set_cons_succ]
            refine hK.out _ _ ⟨(unhide G).cp, fun _ => (unhide G).c2.1, fun _ => (unhide G).c3.1⟩ (fun hc hS => ?_)
            clear hK K
            refine anyL_take (i := 17) (oi := o7_17) (v := .pointer (some ⟨B, 0, none⟩)) (S0 := (fun _ => True)) rfl (by kernel_rfl) (by kernel_rfl) (by kernel_rfl) (fun _ _ _ h => h) (sl_set (by decide) (by decide)) (fun _ _ _ _ _ => trivial) hc hS (Or.inl ⟨by rfl, ?_⟩) (fun hc hS => ?_)
            · intro W hSw
              simp only [o7_17]
              go_simp
            simp only [o7_17, Act.put, List.setIfInBounds_toArray, List.set_cons_zero, List.set_cons_succ]
            refine anyL_take (i := 18) (oi := o7_18) (v := .pointer (some ⟨B, 2, none⟩)) (S0 := (fun _ => True)) rfl (by kernel_rfl) (by kernel_rfl) (by kernel_rfl) (fun _ _ _ h => h) (sl_set (by decide) (by decide)) (fun _ _ _ _ _ => trivial) hc hS (Or.inl ⟨by rfl, ?_⟩) (fun hc hS => ?_)
            · intro W hSw
              simp only [o7_18]
              go_simp
            simp only [o7_18, Act.put, List.setIfInBounds_toArray, List.set_cons_zero, List.set_cons_succ]
            obtain ⟨cz, fz⟩ := (unhide G).c2
            refine anyL_one (i := 19) (o := o7_19) (by kernel_rfl) rfl hc ?_
            intro K hK
            simp only [o7_19]
            go_simp
            replace G := hide ((unhide G).set2 (.slice (some ⟨qF, 0, none⟩) (k + 1) cF))
            clear cz fz
            generalize World.setCell _ _ _ = Wd at *
            refine hK.out _ _ ⟨(unhide G).cp, fun h => (not_false_of (by kernel_rfl) h).elim, fun _ => (unhide G).c3.1⟩ (fun hc hS => ?_)
            clear hK K
            refine anyL_take (i := 20) (oi := o7_20) (v := .pointer (some ⟨B, 0, none⟩)) (S0 := (fun _ => True)) rfl (by kernel_rfl) (by kernel_rfl) (by kernel_rfl) (fun _ _ _ h => h) (sl_set (by decide) (by decide)) (fun _ _ _ _ _ => trivial) hc hS (Or.inl ⟨by rfl, ?_⟩) (fun hc hS => ?_)
            · intro W hSw
              simp only [o7_20]
              go_simp
            simp only [o7_20, Act.put, List.setIfInBounds_toArray, List.set_cons_zero, List.set_cons_succ]
            refine anyL_take (i := 21) (oi := o7_21) (v := .pointer (some ⟨B, 3, none⟩)) (S0 := (fun _ => True)) rfl (by kernel_rfl) (by kernel_rfl) (by kernel_rfl) (fun _ _ _ h => h) (sl_set (by decide) (by decide)) (fun _ _ _ _ _ => trivial) hc hS (Or.inl ⟨by rfl, ?_⟩) (fun hc hS => ?_)
            · intro W hSw
              simp only [o7_21]
              go_simp
            simp only [o7_21, Act.put, List.setIfInBounds_toArray, List.set_cons_zero, List.set_cons_succ]
            obtain ⟨cz, fz⟩ := (unhide G).c3
            refine anyL_one (i := 22) (o := o7_22) (by kernel_rfl) rfl hc ?_
            intro K hK
            simp only [o7_22]
            go_simp
            replace G := hide ((unhide G).set3 (.slice (some ⟨qL, 0, none⟩) (k + 1) cL))
            clear cz fz
            generalize World.setCell _ _ _ = We at *
            refine hK.out _ _ ⟨(unhide G).cp, fun h => (not_false_of (by kernel_rfl) h).elim, fun h => (not_false_of (by kernel_rfl) h).elim⟩ (fun hc hS => ?_)
            clear hK K hc hS
            refine anyL_done (by kernel_rfl) ?_ _
            go_wp2_with fail
            exact ⟨⟨k + 1, _, _, _, hkL, by go_num, G⟩, by simp [intOf]; omega⟩
        · intro K hK
          simp only [o7_15]
          go_simp
          have y2 := (Below.refl _ W_1).alloc (Nat.le_refl _) (.cells #[.slice (some ⟨Lb, 0, none⟩) (binN n (dk L k)) (binN n (dk L k))] 86)
          have t2 := cell_one_new W_1 (.slice (some ⟨Lb, 0, none⟩) (binN n (dk L k)) (binN n (dk L k))) 86
          have l2 : W_1.heap.size < (W_1.alloc (.cells #[.slice (some ⟨Lb, 0, none⟩) (binN n (dk L k)) (binN n (dk L k))] 86)).heap.size := by rw [World.size_alloc]; omega
          have n2 : vF.ownBlock ≠ some W_1.heap.size := fun e => Nat.lt_irrefl _ (Bs.ltF (unhide G) e)
          replace G := hide ((unhide G).below y2)
          clear y2
          generalize W_1.heap.size = T2 at *
          generalize W_1.alloc (.cells #[.slice (some ⟨Lb, 0, none⟩) (binN n (dk L k)) (binN n (dk L k))] 86) = W_2 at *
          refine hK.out _ _ ⟨(unhide G).cp, fun _ => (unhide G).c2.1, fun _ => (unhide G).c3.1⟩ (fun hc hS => ?_)
          clear hK K
          refine anyL_one (i := 7) (o := o7_7) (by kernel_rfl) rfl hc ?_
          intro K hK
          simp only [o7_7]
          go_simp
          have y2 := (Below.refl _ W_2).alloc (Nat.le_refl _) (.cells #[.int .i64 (startS n (dk L k))] 3)
          have t1 := cell_one_new W_2 (.int .i64 (startS n (dk L k))) 3
          have l1 : W_2.heap.size < (W_2.alloc (.cells #[.int .i64 (startS n (dk L k))] 3)).heap.size := by rw [World.size_alloc]; omega
          have t2 := carry_cell t2 y2 l2
          have l2 := Nat.lt_of_lt_of_le l2 y2.size
          replace G := hide ((unhide G).below y2)
          clear y2
          generalize hT1 : W_2.heap.size = T1 at *
          generalize W_2.alloc (.cells #[.int .i64 (startS n (dk L k))] 3) = W_3 at *
          refine hK.out _ _ ⟨(unhide G).cp, fun _ => (unhide G).c2.1, fun _ => (unhide G).c3.1⟩ (fun hc hS => ?_)
          clear hK K
          refine anyL_one (i := 8) (o := o7_8) (by kernel_rfl) rfl hc ?_
          intro K hK
          refine step_append_at rfl (.tmp 48) (.tmp 50) 66 rfl 0 3 i1 (.int .i64 0) 1 8 Try.underlying66 hi1 hy0 hy1 hy2 rfl (by decide) vF k (xsF (bsX1 n L) k) rfl (unhide G).oF ⟨T1, 0, none⟩ 1 1 [bsX1 n L k] rfl rfl t1 (fun u hu => by simp at hu; subst hu; rfl) (by unfold maxLen; omega) (by omega) (Nat.zero_le _) ?_
          intro vF' W_4 hown' hgrow hat
          have t2 := carry_grown t2 hgrow l2 n2
          have l2 := Nat.lt_of_lt_of_le l2 hgrow.size
          obtain ⟨qF, cF, rfl⟩ := own_slice hown'
          replace G := hide ((unhide G).appF hown' hgrow hat)
          clear hown' hgrow hat t1 l1
          simp only [o7_8, Act.put, List.setIfInBounds_toArray, List.set_cons_zero, List.set_cons_succ]
          refine hK.out _ _ ⟨(unhide G).cp, fun _ => (unhide G).c2.1, fun _ => (unhide G).c3.1⟩ (fun hc hS => ?_)
          clear hK K
          refine anyL_one (i := 16) (o := o7_16) (by kernel_rfl) rfl hc ?_
          intro K hK
          refine step_append_at rfl (.tmp 55) (.tmp 58) 67 rfl 0 86 i4 (.slice none 0 0) 1 24 Try.underlying67 hi4 hu0 hu1 hu2 rfl (by decide) vL k (xsF (bsX2 n L (updP lk k Lb)) k) rfl (unhide G).oL ⟨T2, 0, none⟩ 1 1 [bsX2 n L (updP lk k Lb) k] rfl rfl (by unfold bsX2; rw [updP_at]; exact t2) (fun u hu => by simp at hu; subst hu; rfl) (by unfold maxLen; omega) (by omega) (Nat.zero_le _) ?_
          intro vL' W_5 hown' hgrow hat
          obtain ⟨qL, cL, rfl⟩ := own_slice hown'
          replace G := hide ((unhide G).appL hown' hgrow hat)
          clear hown' hgrow hat t2 l2
          simp only [o7_16, Act.put, List.setIfInBounds_toArray, List.set_cons_zero, List.set_cons_succ]
          refine hK.out _ _ ⟨(unhide G).cp, fun _ => (unhide G).c2.1, fun _ => (unhide G).c3.1⟩ (fun hc hS => ?_)
          clear hK K
          refine anyL_take (i := 17) (oi := o7_17) (v := .pointer (some ⟨B, 0, none⟩)) (S0 := (fun _ => True)) rfl (by kernel_rfl) (by kernel_rfl) (by kernel_rfl) (fun _ _ _ h => h) (sl_set (by decide) (by decide)) (fun _ _ _ _ _ => trivial) hc hS (Or.inl ⟨by rfl, ?_⟩) (fun hc hS => ?_)
          · intro W hSw
            simp only [o7_17]
            go_simp
          simp only [o7_17, Act.put, List.setIfInBounds_toArray, List.set_cons_zero, List.set_cons_succ]
          refine anyL_take (i := 18) (oi := o7_18) (v := .pointer (some ⟨B, 2, none⟩)) (S0 := (fun _ => True)) rfl (by kernel_rfl) (by kernel_rfl) (by kernel_rfl) (fun _ _ _ h => h) (sl_set (by decide) (by decide)) (fun _ _ _ _ _ => trivial) hc hS (Or.inl ⟨by rfl, ?_⟩) (fun hc hS => ?_)
          · intro W hSw
            simp only [o7_18]
            go_simp
          simp only [o7_18, Act.put, List.setIfInBounds_toArray, List.set_cons_zero, List.set_cons_succ]
          obtain ⟨cz, fz⟩ := (unhide G).c2
          refine anyL_one (i := 19) (o := o7_19) (by kernel_rfl) rfl hc ?_
          intro K hK
          simp only [o7_19]
          go_simp
          replace G := hide ((unhide G).set2 (.slice (some ⟨qF, 0, none⟩) (k + 1) cF))
          clear cz fz
          generalize World.setCell _ _ _ = Wd at *
          refine hK.out _ _ ⟨(unhide G).cp, fun h => (not_false_of (by kernel_rfl) h).elim, fun _ => (unhide G).c3.1⟩ (fun hc hS => ?_)
          clear hK K
          refine anyL_take (i := 20) (oi := o7_20) (v := .pointer (some ⟨B, 0, none⟩)) (S0 := (fun _ => True)) rfl (by kernel_rfl) (by kernel_rfl) (by kernel_rfl) (fun _ _ _ h => h) (sl_set (by decide) (by decide)) (fun _ _ _ _ _ => trivial) hc hS (Or.inl ⟨by rfl, ?_⟩) (fun hc hS => ?_)
          · intro W hSw
            simp only [o7_20]
            go_simp
          simp only [o7_20, Act.put, List.setIfInBounds_toArray, List.set_cons_zero, List.set_cons_succ]
          refine anyL_take (i := 21) (oi := o7_21) (v := .pointer (some ⟨B, 3, none⟩)) (S0 := (fun _ => True)) rfl (by kernel_rfl) (by kernel_rfl) (by kernel_rfl) (fun _ _ _ h => h) (sl_set (by decide) (by decide)) (fun _ _ _ _ _ => trivial) hc hS (Or.inl ⟨by rfl, ?_⟩) (fun hc hS => ?_)
          · intro W hSw
            simp only [o7_21]
            go_simp
          simp only [o7_21, Act.put, List.setIfInBounds_toArray, List.set_cons_zero, List.set_cons_succ]
          obtain ⟨cz, fz⟩ := (unhide G).c3
          refine anyL_one (i := 22) (o := o7_22) (by kernel_rfl) rfl hc ?_
          intro K hK
          simp only [o7_22]
          go_simp
          replace G := hide ((unhide G).set3 (.slice (some ⟨qL, 0, none⟩) (k + 1) cL))
          clear cz fz
          generalize World.setCell _ _ _ = We at *
          refine hK.out _ _ ⟨(unhide G).cp, fun h => (not_false_of (by kernel_rfl) h).elim, fun h => (not_false_of (by kernel_rfl) h).elim⟩ (fun hc hS => ?_)
          clear hK K hc hS
          refine anyL_done (by kernel_rfl) ?_ _
          go_wp2_with fail
          exact ⟨⟨k + 1, _, _, _, hkL, by go_num, G⟩, by simp [intOf]; omega⟩
    · have e : k = L.length := by omega
      subst e
      have q1 : ((L.length : Int) < (L.length : Int)) = False := by simp
      have hbw := unhide hbase
      have hDr := dirs_below (unhide HD) (by have := (unhide G).bel; rw [← hbw] at this; exact this)
      have hgg : 0 < L.length → g < base := fun hl => by rw [← hbw]; exact ((unhide HD).at_ hl).2
      have cP := (unhide G).cp
      have cP' := hide cP
      have l0 := hide ((unhide G).rng 1 (B + 1) rfl)
      have P0 : Hid (Peel (fun x => x < base) wr n L a cap g o (bsV B b0 M vF vL lk) (fun _ => true) (fun _ => ltB 0) (.slice none 0 0) 0 (fun _ => (0, 0))) := by
        have G' := unhide G
        exact G'.peel hDr hgg
      have hpq := hide (fun r hr => (unhide G).notBox r hr)
      have hV : (bsV B b0 M vF vL lk).B = B := rfl
      have A0 := hide (unhide G).bel
      clear hDr G hbw
      generalize bsV B b0 M vF vL lk = V at *
      subst hV
      have c4 := (unhide P0).c4
      rw [unhide HM] at c4
      go_wp2_with fail
      clear c4 cP
      have P1 : Hid (Peel (fun x => x < base ∨ x = V.B + 1) wr n L a cap g o V (fun _ => true) (fun _ => ltB 0) (.slice none 0 0) 0 (fun _ => (0, 0))) :=
        (unhide P0).more (fun x hx => by rcases hx with hx | hx; exact (unhide P0).sS x hx; rw [hx]; exact (unhide l0).2) (fun hx => by rcases hx with hx | hx; exact (unhide P0).sB hx; omega) (fun r hr hx => by rcases hx with hx | hx; exact (unhide P0).sR r hr hx; exact unhide hpq r hr hx) (fun q hq => by cases hq) (fun hl => Or.inl (hgg hl))
      have cP1 : Hid (wr.cell? ⟨V.B + 1, 0, none⟩ = some (.pointer (some ⟨V.B, 0, none⟩))) := cP'
      clear P0 cP' l0 hpq
      have hbs : Hid (∀ W W', Below base w W → Aside (fun x => x < base ∨ x = V.B + 1) W W' → Below base w W') := fun W W' h1 h2 => h1.trans (h2.below fun x hx => Or.inl hx)
      go_loopw [70] (fun cv wx => ∃ c : Nat, c ≤ M ∧ cv = .int .i64 c ∧ Hid (Peel (fun x => x < base ∨ x = V.B + 1) wx n L a cap g o V (fun _ => true) (fun _ => ltB c) (.slice none 0 0) 0 (fun _ => (0, 0))) ∧ Hid (wx.cell? ⟨V.B + 1, 0, none⟩ = some (.pointer (some ⟨V.B, 0, none⟩))) ∧ Hid (Below base w wx)) (fun cv _ => M - (intOf cv).toNat)
      case atStart => exact ⟨0, Nat.zero_le _, rfl, P1, cP1, A0⟩
      case round =>
        clear P1 cP1 A0
        obtain ⟨c, hc, rfl, P2, cP2, A2⟩ := hrel
        by_cases hcM : c < M
        · have q2 : ((c : Int) < (M : Int)) = True := by simp; omega
          have hcn : c < n * n := by rw [unhide HM]; exact hcM
          have y1 := hide (heap_alloc_new wr (.cells #[.int .i64 c] 3))
          have y2 := hide ((Below.refl wr.heap.size wr).alloc (Nat.le_refl _) (.cells #[.int .i64 c] 3))
          have P3 := hide ((unhide P2).plus (N := fun x => x = wr.heap.size) (unhide y2) (fun x hx => by rw [World.size_alloc]; omega))
          have hlB := (unhide P2).sS (V.B + 1) (Or.inr rfl)
          have x1 := ((unhide y2).cell (p := ⟨V.B + 1, 0, none⟩) hlB).trans (unhide cP2)
          have x2 : (wr.alloc (.cells #[.int .i64 c] 3)).cell? ⟨wr.heap.size, 0, none⟩ = some (.int .i64 c) := cell_of_row _ wr.heap.size 0 _ _ (0, 0) (unhide y1)
          have A3 := hide ((unhide A2).trans ((unhide y2).mono (by have := (unhide P2).sS (V.B + 1) (Or.inr rfl); have := (unhide A2).size; have hh := unhide hbase; omega)))
          clear P2 cP2 A2 y1 y2
          go_wp2_with fail
          generalize wr.alloc (.cells #[.int .i64 c] 3) = w3 at *
          generalize wr.heap.size = pc2 at *
          have k1 := hide (eachBin (S := fun x => (x < base ∨ x = V.B + 1) ∨ x = pc2) (V := V) (cap := cap) (St := UpSt (fun x => (x < base ∨ x = V.B + 1) ∨ x = pc2) w3 n L a cap g o V c (fun _ => (0, 0))) (lb := #[.pointer (some ⟨V.B + 1, 0, none⟩), .pointer (some ⟨pc2, 0, none⟩)]) hn h64 hL ho hcn (enters_of Try.func34 (by kernel_rfl) rfl)
            (fun k W hW => ⟨_, _, _, _, _, hW.1⟩) (fun k W W' hW hb => hW.below hb)
            (fun k j W hk hj hl hW => upDo h64 hcn (Or.inl (Or.inr rfl)) (Or.inr rfl) x1 x2 hk hj hl W hW) w3 ⟨(unhide P3).bkExt (fun k _ => (if_neg (by omega)).symm), Aside.refl _ _⟩)
          clear P3
          go_wp2_with fail
          refine (unhide k1).mono ?_
          rintro e w4 ⟨⟨_, rfl⟩, hP4, hA4⟩
          have P4 := hide ((hP4.less (S' := fun x => x < base ∨ x = V.B + 1) (fun x hx => Or.inl hx) (fun hl => Or.inl (hgg hl))).bkExt (bk' := fun _ => ltB (c + 1)) (fun k hk => if_pos hk))
          have A4 := hide (unhide hbs w3 w4 (unhide A3) (hA4.mono fun x hx => Or.inl hx))
          have cP4 := hide ((World.cell?_of_block (a := ⟨V.B + 1, 0, none⟩) (hA4.block _ (Or.inl (Or.inr rfl)))).trans x1)
          clear hP4 hA4 k1 A3 x1 x2
          go_wp2_with fail
          exact ⟨⟨c + 1, by omega, by go_num, P4, cP4, A4⟩, by simp [intOf]; omega⟩
        · have e : c = M := by omega
          subst e
          have q2 : ((c : Int) < (c : Int)) = False := by simp
          have P3 : Hid (Peel (fun x => x < base ∨ x = V.B + 1) wr n L a cap g o V (fun _ => true) (fun _ _ => true) (.slice none 0 0) 0 (fun _ => (0, 0))) := by
            have := unhide P2
            rw [← unhide HM] at this
            exact this.allExt
          clear P2
          have cP3 := unhide cP2
          have c3 := (unhide P3).c3
          go_wp2_with fail
          clear c3 cP3
          have cP3 := cP2
          clear cP2
          have H3 := A2
          clear A2
          go_loopw [83] (fun kv wx => ∃ (k : Nat) (v : Value) (m : Nat) (f : Nat → Nat × Nat), k ≤ L.length ∧ kv = .int .i64 k ∧ Hid (Peel (fun x => x < base ∨ x = V.B + 1) wx n L a cap g o V (fun _ => true) (fun _ _ => true) v m f) ∧ Hid (QOk n L (fun _ _ => true) f m (later k 0)) ∧ m ≤ k * 2017 ∧ Hid (wx.cell? ⟨V.B + 1, 0, none⟩ = some (.pointer (some ⟨V.B, 0, none⟩))) ∧ Hid (Below base w wx)) (fun kv _ => L.length - (intOf kv).toNat)
          case atStart => exact ⟨0, _, 0, _, Nat.zero_le _, rfl, P3, QOk.none, by omega, cP3, H3⟩
          case round =>
            clear P3 cP3 H3
            obtain ⟨k, v, m, f, hk, rfl, P4, Q4, hm4, cP4, A4⟩ := hrel
            by_cases hkL : k < L.length
            · have q3 : ((k : Int) < (L.length : Int)) = True := by simp; omega
              have eL := (unhide P4).atL (by omega)
              have c5 := (unhide P4).lines hkL
              have hbn := binN_le h64 (ho _ (dk_mem hkL))
              rw [eL]
              obtain ⟨bn, hbN⟩ : ∃ x, binN n (dk L k) = x := ⟨_, rfl⟩
              rw [hbN] at c5 hbn
              replace hbN := hide hbN
              have eL := hide eL
              go_wp2_with fail
              clear c5
              go_loopw [90] (fun jv wx => ∃ (j : Nat) (v : Value) (m : Nat) (f : Nat → Nat × Nat), j ≤ bn ∧ jv = .int .i64 j ∧ Hid (Peel (fun x => x < base ∨ x = V.B + 1) wx n L a cap g o V (fun _ => true) (fun _ _ => true) v m f) ∧ Hid (QOk n L (fun _ _ => true) f m (later k j)) ∧ m ≤ k * 2017 + j ∧ Hid (wx.cell? ⟨V.B + 1, 0, none⟩ = some (.pointer (some ⟨V.B, 0, none⟩))) ∧ Hid (Below base w wx)) (fun jv _ => bn - (intOf jv).toNat)
              case atStart => exact ⟨0, v, m, f, Nat.zero_le _, rfl, P4, Q4, by omega, cP4, A4⟩
              case round =>
                clear P4 Q4 cP4 A4 hm4 v m f
                obtain ⟨j, v, m, f, hj, rfl, P5, Q5, hm5, cP5, A5⟩ := hrel
                by_cases hjB : j < bn
                · have q4 : ((j : Int) < (bn : Int)) = True := by simp; omega
                  have hjn : j < binN n (dk L k) := by rw [unhide hbN]; exact hjB
                  have k5 := hide (peelLook hkL hjn (by have := Nat.mul_le_mul_right 2017 (show k ≤ 64 by omega); omega) wr (unhide P5))
                  have c6 := unhide cP5
                  go_wp2_with fail
                  refine (unhide k5).mono ?_
                  rintro e w6 ⟨⟨_, rfl⟩, ⟨v6, m6, f6, hP6, hr6⟩, hA6⟩
                  have P6 := hide hP6
                  have Q6 := hide ((unhide Q5).look hkL hjn hr6)
                  have hm6 : m6 ≤ k * 2017 + (j + 1) := by rcases hr6 with ⟨_, e, _⟩ | ⟨_, e, _⟩ <;> omega
                  have cP6 := hide ((World.cell?_of_block (a := ⟨V.B + 1, 0, none⟩) (hA6.block _ (Or.inr rfl))).trans c6)
                  have A6 := hide (unhide hbs wr w6 (unhide A5) hA6)
                  clear hP6 hr6 hA6 k5 c6 P5 Q5 cP5 A5
                  go_wp2_with fail
                  exact ⟨⟨j + 1, v6, m6, f6, by omega, by go_num, P6, Q6, hm6, cP6, A6⟩, by simp [intOf]; omega⟩
                · have e : j = bn := by omega
                  have q4 : ((j : Int) < (bn : Int)) = False := by simp; omega
                  have Q6 : Hid (QOk n L (fun _ _ => true) f m (later (k + 1) 0)) := by
                    have := unhide Q5
                    rw [e, ← unhide hbN] at this
                    exact this.row
                  replace e := hide e
                  go_wp2_with fail
                  exact ⟨⟨k + 1, v, m, f, by omega, by go_num, P5, Q6, by omega, cP5, A5⟩, by simp [intOf]; omega⟩
            · have e : k = L.length := by omega
              subst e
              have q3 : ((L.length : Int) < (L.length : Int)) = False := by simp
              have c6 := unhide cP4
              have P5 := hide ((unhide P4).less (S' := fun x => x < base) (fun x hx => Or.inl hx) hgg)
              have Q5 := hide (unhide Q4).full
              clear P4 Q4
              go_wp2_with fail
              go_ret
              refine ⟨V, v, m, f, rfl, ?_, unhide Q5, by have := Nat.mul_le_mul_right 2017 hL; omega, ?_⟩
              · rw [unhide hbase]; exact unhide P5
              · rw [unhide hbase]; exact unhide A4
end Go.Proofs.Ytgbkfmjkemkajab
