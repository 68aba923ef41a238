/- FitFalls: up to its call of ray.All. -/
import Derived.Test.YtfnbcpeipoobkaaGreatM41
namespace Go.Proofs.YtfnbcpeipoobkaaGreat
open Go Go.RowKit Go.Shelf Fl Ieee
attribute [local go_sem] store_complex

set_option maxRecDepth 100000 in
theorem act_eta (a : Act) (h : a.tmps.size = 181) (hd : a.defers = []) : a = ⟨#[a.tmps.getD 0 undef, a.tmps.getD 1 undef, a.tmps.getD 2 undef, a.tmps.getD 3 undef, a.tmps.getD 4 undef, a.tmps.getD 5 undef, a.tmps.getD 6 undef, a.tmps.getD 7 undef, a.tmps.getD 8 undef, a.tmps.getD 9 undef, a.tmps.getD 10 undef, a.tmps.getD 11 undef, a.tmps.getD 12 undef, a.tmps.getD 13 undef, a.tmps.getD 14 undef, a.tmps.getD 15 undef, a.tmps.getD 16 undef, a.tmps.getD 17 undef, a.tmps.getD 18 undef, a.tmps.getD 19 undef, a.tmps.getD 20 undef, a.tmps.getD 21 undef, a.tmps.getD 22 undef, a.tmps.getD 23 undef, a.tmps.getD 24 undef, a.tmps.getD 25 undef, a.tmps.getD 26 undef, a.tmps.getD 27 undef, a.tmps.getD 28 undef, a.tmps.getD 29 undef, a.tmps.getD 30 undef, a.tmps.getD 31 undef, a.tmps.getD 32 undef, a.tmps.getD 33 undef, a.tmps.getD 34 undef, a.tmps.getD 35 undef, a.tmps.getD 36 undef, a.tmps.getD 37 undef, a.tmps.getD 38 undef, a.tmps.getD 39 undef, a.tmps.getD 40 undef, a.tmps.getD 41 undef, a.tmps.getD 42 undef, a.tmps.getD 43 undef, a.tmps.getD 44 undef, a.tmps.getD 45 undef, a.tmps.getD 46 undef, a.tmps.getD 47 undef, a.tmps.getD 48 undef, a.tmps.getD 49 undef, a.tmps.getD 50 undef, a.tmps.getD 51 undef, a.tmps.getD 52 undef, a.tmps.getD 53 undef, a.tmps.getD 54 undef, a.tmps.getD 55 undef, a.tmps.getD 56 undef, a.tmps.getD 57 undef, a.tmps.getD 58 undef, a.tmps.getD 59 undef, a.tmps.getD 60 undef, a.tmps.getD 61 undef, a.tmps.getD 62 undef, a.tmps.getD 63 undef, a.tmps.getD 64 undef, a.tmps.getD 65 undef, a.tmps.getD 66 undef, a.tmps.getD 67 undef, a.tmps.getD 68 undef, a.tmps.getD 69 undef, a.tmps.getD 70 undef, a.tmps.getD 71 undef, a.tmps.getD 72 undef, a.tmps.getD 73 undef, a.tmps.getD 74 undef, a.tmps.getD 75 undef, a.tmps.getD 76 undef, a.tmps.getD 77 undef, a.tmps.getD 78 undef, a.tmps.getD 79 undef, a.tmps.getD 80 undef, a.tmps.getD 81 undef, a.tmps.getD 82 undef, a.tmps.getD 83 undef, a.tmps.getD 84 undef, a.tmps.getD 85 undef, a.tmps.getD 86 undef, a.tmps.getD 87 undef, a.tmps.getD 88 undef, a.tmps.getD 89 undef, a.tmps.getD 90 undef, a.tmps.getD 91 undef, a.tmps.getD 92 undef, a.tmps.getD 93 undef, a.tmps.getD 94 undef, a.tmps.getD 95 undef, a.tmps.getD 96 undef, a.tmps.getD 97 undef, a.tmps.getD 98 undef, a.tmps.getD 99 undef, a.tmps.getD 100 undef, a.tmps.getD 101 undef, a.tmps.getD 102 undef, a.tmps.getD 103 undef, a.tmps.getD 104 undef, a.tmps.getD 105 undef, a.tmps.getD 106 undef, a.tmps.getD 107 undef, a.tmps.getD 108 undef, a.tmps.getD 109 undef, a.tmps.getD 110 undef, a.tmps.getD 111 undef, a.tmps.getD 112 undef, a.tmps.getD 113 undef, a.tmps.getD 114 undef, a.tmps.getD 115 undef, a.tmps.getD 116 undef, a.tmps.getD 117 undef, a.tmps.getD 118 undef, a.tmps.getD 119 undef, a.tmps.getD 120 undef, a.tmps.getD 121 undef, a.tmps.getD 122 undef, a.tmps.getD 123 undef, a.tmps.getD 124 undef, a.tmps.getD 125 undef, a.tmps.getD 126 undef, a.tmps.getD 127 undef, a.tmps.getD 128 undef, a.tmps.getD 129 undef, a.tmps.getD 130 undef, a.tmps.getD 131 undef, a.tmps.getD 132 undef, a.tmps.getD 133 undef, a.tmps.getD 134 undef, a.tmps.getD 135 undef, a.tmps.getD 136 undef, a.tmps.getD 137 undef, a.tmps.getD 138 undef, a.tmps.getD 139 undef, a.tmps.getD 140 undef, a.tmps.getD 141 undef, a.tmps.getD 142 undef, a.tmps.getD 143 undef, a.tmps.getD 144 undef, a.tmps.getD 145 undef, a.tmps.getD 146 undef, a.tmps.getD 147 undef, a.tmps.getD 148 undef, a.tmps.getD 149 undef, a.tmps.getD 150 undef, a.tmps.getD 151 undef, a.tmps.getD 152 undef, a.tmps.getD 153 undef, a.tmps.getD 154 undef, a.tmps.getD 155 undef, a.tmps.getD 156 undef, a.tmps.getD 157 undef, a.tmps.getD 158 undef, a.tmps.getD 159 undef, a.tmps.getD 160 undef, a.tmps.getD 161 undef, a.tmps.getD 162 undef, a.tmps.getD 163 undef, a.tmps.getD 164 undef, a.tmps.getD 165 undef, a.tmps.getD 166 undef, a.tmps.getD 167 undef, a.tmps.getD 168 undef, a.tmps.getD 169 undef, a.tmps.getD 170 undef, a.tmps.getD 171 undef, a.tmps.getD 172 undef, a.tmps.getD 173 undef, a.tmps.getD 174 undef, a.tmps.getD 175 undef, a.tmps.getD 176 undef, a.tmps.getD 177 undef, a.tmps.getD 178 undef, a.tmps.getD 179 undef, a.tmps.getD 180 undef], []⟩ := by
  obtain ⟨T, ds⟩ := a
  dsimp only at h hd
  subst hd
  have e : T.toList = (List.range 181).map fun i => T.getD i undef := by
    refine List.ext_getElem (by simp [h]) fun i h1 h2 => ?_
    have hi : i < T.size := by simpa using h1
    simp [Array.getD, hi]
  have e2 : T = ((List.range 181).map fun i => T.getD i undef).toArray := by rw [← e]
  exact congrArg (fun x => Act.mk x []) (e2.trans rfl)
/-- What the law's own variables hold. -/
structure Tm3 (a : Act) (lv bv dv v7 v8 : Value) : Prop where
  size : a.tmps.size = 181
  defers : a.defers = []
  e0 : a.tmps.getD 0 undef = lv
  e1 : a.tmps.getD 1 undef = bv
  e2 : a.tmps.getD 2 undef = dv
  e7 : a.tmps.getD 7 undef = v7
  e8 : a.tmps.getD 8 undef = v8
/-- The memory, the grid being filled up to k. -/
structure In4 (w w1 : World) (n gg gb k : Nat) (L : List Int) : Prop where
  low : Below w.heap.size w w1
  new : w.heap.size ≤ gb
  new2 : w.heap.size ≤ gg
  ne : gg ≠ gb
  g0 : w1.heap[gb]? = some (.cells #[.int .i64 n, .slice (some ⟨gg, 0, none⟩) (n * n : Nat) (n * n : Nat)] 27 (0, 0))
  row : Row w1 gg (n * n) (smallTo L k)
structure In3 (w w1 : World) (n gg gb : Nat) (L : List Int) : Prop where
  low : Below w.heap.size w w1
  new : w.heap.size ≤ gb
  g0 : w1.heap[gb]? = some (.cells #[.int .i64 n, .slice (some ⟨gg, 0, none⟩) (n * n : Nat) (n * n : Nat)] 27)
  row : Row w1 gg (n * n) (smallB L)
def K3 (lv bv dv : Value) (w : World) (a : Act) (w1 : World) : Prop := w1 = w ∧ ∃ (n : Nat) (v8 : Value), 1 ≤ n ∧ n ≤ 8 ∧ Tm3 a lv bv dv (.int .i64 n) v8
def K4 (lv bv dv : Value) (w : World) (n : Nat) (L : List Int) (a : Act) (w1 : World) : Prop := ∃ gg gb, In4 w w1 n gg gb 0 L ∧ Tm3 a lv bv dv (.int .i64 n) (.pointer (some ⟨gb, 0, none⟩))
def K5 (lv bv dv : Value) (w : World) (n gg gb : Nat) (L : List Int) (a : Act) (w1 : World) : Prop := In3 w w1 n gg gb L ∧ Tm3 a lv bv dv (.int .i64 n) (.pointer (some ⟨gb, 0, none⟩))
def K6 (lv bv dv : Value) (w : World) (n gb : Nat) (a : Act) (w1 : World) : Prop := w1 = w ∧ Tm3 a lv bv dv (.int .i64 n) (.pointer (some ⟨gb, 0, none⟩))
set_option maxRecDepth 100000 in
set_option maxHeartbeats 1600000 in
theorem pre_n {lv bv dv : Value} {la : Option Addr} {NL lc : Nat} (hlv : lv = .slice la NL lc) (w : World) :
    Code.wp (barP Tryz.prog) (cfst (csnd (csnd (csnd (body3 Tryz.f3))))) (fun e a w1 => e = .normal ∧ K3 lv bv dv w a w1) ⟨#[lv, bv, dv, undef, undef, undef, .bool false, .int .i64 1, undef, undef, undef, undef, undef, undef, undef, undef, undef, undef, undef, undef, undef, undef, .bool true, .bool false, undef, undef, undef, undef, undef, undef, undef, undef, undef, undef, undef, undef, undef, undef, undef, undef, undef, undef, undef, undef, undef, undef, undef, undef, undef, undef, undef, undef, undef, undef, undef, undef, undef, undef, undef, undef, undef, undef, undef, undef, undef, undef, undef, undef, undef, undef, undef, undef, undef, undef, undef, undef, undef, undef, undef, undef, undef, undef, undef, undef, undef, undef, undef, undef, undef, undef, undef, undef, undef, undef, undef, undef, undef, undef, undef, undef, undef, undef, undef, undef, undef, undef, undef, undef, undef, undef, undef, undef, undef, undef, undef, undef, undef, undef, undef, undef, undef, undef, undef, undef, undef, undef, undef, undef, undef, undef, undef, undef, undef, undef, undef, undef, undef, undef, undef, undef, undef, undef, undef, undef, undef, undef, undef, undef, undef, undef, undef, undef, undef, undef, undef, undef, undef, undef, undef, undef, undef, undef, undef, undef, undef, undef, undef, undef, undef, undef, undef, undef, undef, undef, undef, undef, undef, undef, undef, undef, undef], []⟩ w := by
  simp only [body3, csnd, cfst, Tryz.f3, Option.getD_some]
  subst hlv
  go_wp2_with fail
  go_loopw [7] (fun nv wr => ∃ n : Nat, 1 ≤ n ∧ n ≤ 8 ∧ nv = .int .i64 n ∧ w = wr) (fun nv _ => 8 - (intOf nv).toNat)
  case atStart => exact ⟨1, Nat.le_refl _, by decide, rfl, rfl⟩
  case round =>
    obtain ⟨n, hn1, hn8, rfl, rfl⟩ := hrel
    have hm : n * n ≤ 64 := Nat.mul_le_mul hn8 hn8
    obtain ⟨s, hs⟩ : ∃ s, 2 * n * n = s := ⟨_, rfl⟩
    have hs2 : s ≤ 128 := by rw [← hs, Nat.mul_assoc]; omega
    have a1 : 2 * (n : Int) * (n : Int) = (s : Int) := by rw [← hs]; push_cast; rfl
    by_cases c1 : s ≤ NL
    · have q1 : ((s : Int) ≤ (NL : Int)) = True := by simp; omega
      by_cases c2 : n < 8
      · have q2 : ((n : Int) < 8) = True := by simp; omega
        go_wp2_with fail
        exact ⟨⟨n + 1, by omega, by omega, by go_num, trivial⟩, by simp [intOf]; omega⟩
      · have q2 : ((n : Int) < 8) = False := by simp; omega
        go_wp2_with fail
        exact ⟨rfl, n, _, hn1, hn8, ⟨rfl, rfl, rfl, rfl, rfl, rfl, rfl⟩⟩
    · have q1 : ((s : Int) ≤ (NL : Int)) = False := by simp; omega
      go_wp2_with fail
      exact ⟨rfl, n, _, hn1, hn8, ⟨rfl, rfl, rfl, rfl, rfl, rfl, rfl⟩⟩
set_option maxRecDepth 100000 in
set_option maxHeartbeats 1600000 in
theorem pre_g {n : Nat} {L : List Int} {x0 x1 x2 x3 x4 x5 x6 x8 x9 x10 x11 x12 x13 x14 x15 x16 x17 x18 x19 x20 x21 x22 x23 x24 x25 x26 x27 x28 x29 x30 x31 x32 x33 x34 x35 x36 x37 x38 x39 x40 x41 x42 x43 x44 x45 x46 x47 x48 x49 x50 x51 x52 x53 x54 x55 x56 x57 x58 x59 x60 x61 x62 x63 x64 x65 x66 x67 x68 x69 x70 x71 x72 x73 x74 x75 x76 x77 x78 x79 x80 x81 x82 x83 x84 x85 x86 x87 x88 x89 x90 x91 x92 x93 x94 x95 x96 x97 x98 x99 x100 x101 x102 x103 x104 x105 x106 x107 x108 x109 x110 x111 x112 x113 x114 x115 x116 x117 x118 x119 x120 x121 x122 x123 x124 x125 x126 x127 x128 x129 x130 x131 x132 x133 x134 x135 x136 x137 x138 x139 x140 x141 x142 x143 x144 x145 x146 x147 x148 x149 x150 x151 x152 x153 x154 x155 x156 x157 x158 x159 x160 x161 x162 x163 x164 x165 x166 x167 x168 x169 x170 x171 x172 x173 x174 x175 x176 x177 x178 x179 x180 : Value} (h1 : 1 ≤ n) (h2 : n ≤ 8) (w0 w : World) (hlow : Below w0.heap.size w0 w) :
    Code.wp (barP Tryz.prog) (cfst (csnd (csnd (csnd (csnd (body3 Tryz.f3)))))) (fun e a w1 => e = .normal ∧ K4 x0 x1 x2 w0 n L a w1) ⟨#[x0, x1, x2, x3, x4, x5, x6, .int .i64 n, x8, x9, x10, x11, x12, x13, x14, x15, x16, x17, x18, x19, x20, x21, x22, x23, x24, x25, x26, x27, x28, x29, x30, x31, x32, x33, x34, x35, x36, x37, x38, x39, x40, x41, x42, x43, x44, x45, x46, x47, x48, x49, x50, x51, x52, x53, x54, x55, x56, x57, x58, x59, x60, x61, x62, x63, x64, x65, x66, x67, x68, x69, x70, x71, x72, x73, x74, x75, x76, x77, x78, x79, x80, x81, x82, x83, x84, x85, x86, x87, x88, x89, x90, x91, x92, x93, x94, x95, x96, x97, x98, x99, x100, x101, x102, x103, x104, x105, x106, x107, x108, x109, x110, x111, x112, x113, x114, x115, x116, x117, x118, x119, x120, x121, x122, x123, x124, x125, x126, x127, x128, x129, x130, x131, x132, x133, x134, x135, x136, x137, x138, x139, x140, x141, x142, x143, x144, x145, x146, x147, x148, x149, x150, x151, x152, x153, x154, x155, x156, x157, x158, x159, x160, x161, x162, x163, x164, x165, x166, x167, x168, x169, x170, x171, x172, x173, x174, x175, x176, x177, x178, x179, x180], []⟩ w := by
  obtain ⟨i0, hi0, hz0, hz1, hz2⟩ := info_parts infoC
  have hs0 := hlow.size
  have hlow := hide hlow
  obtain ⟨M, hM⟩ : ∃ M, n * n = M := ⟨_, rfl⟩
  have hM2 : M ≤ 64 := by rw [← hM]; exact Nat.mul_le_mul h2 h2
  have hM1 : 1 ≤ M := by rw [← hM]; exact Nat.mul_le_mul h1 h1
  have a3 : (n : Int) * (n : Int) = (M : Int) := by rw [← Int.natCast_mul, hM]
  have hMh := hide hM
  clear hM
  simp only [body3, csnd, cfst, Tryz.f3, Option.getD_some]
  go_wp2_with (first
    | (at_make; refine wpList_make_full _ rfl (.tmp 40) (.tmp 40) 25 rfl w.heap.size 28 i0 (.complex .f64 0 0) 1 Bar.underlying25 hi0 hz0 hz1 .i64 .i64 M M M rfl rfl rfl rfl ?c1 ?c2 ?c3 ?_))
  case c1 => rw [hz2]; omega
  case c2 => unfold maxLen; omega
  case c3 => exact Nat.le_refl _
  intro w2 hown2 hg2
  have hT : Row w2 w.heap.size M (smallTo L 0) := row_ext (row_owned hown2 (fun _ => (0, 0)) (fun i hi => zeros_get M i hi)) fun i _ => by unfold smallTo; rw [if_neg (by omega)]
  have hb2 := grown_below hg2
  have l2 := row_lt hT
  have bb := (Below.refl _ w2).alloc (Nat.le_refl _) (.cells #[.int .i64 n, .slice (some ⟨w.heap.size, 0, none⟩) M M] 27)
  have HI : Hid (In4 w0 (w2.alloc (.cells #[.int .i64 n, .slice (some ⟨w.heap.size, 0, none⟩) M M] 27)) n w.heap.size w2.heap.size 0 L) := by
    have e := unhide hMh
    subst e
    exact ⟨((unhide hlow).trans (hb2.mono hs0)).trans (bb.mono (by omega)), by omega, hs0, by omega, heap_alloc_new w2 _, row_below hT bb l2⟩
  clear hown2 hg2 hT hb2 bb
  go_wp2_with fail
  exact ⟨_, _, unhide HI, ⟨rfl, rfl, rfl, rfl, rfl, rfl, rfl⟩⟩
set_option maxRecDepth 100000 in
set_option maxHeartbeats 3200000 in
theorem pre_fill {n gg gb gl ol lc : Nat} {la : Option Addr} {L : List Int} {x1 x2 x3 x4 x5 x6 x9 x10 x11 x12 x13 x14 x15 x16 x17 x18 x19 x20 x21 x22 x23 x24 x25 x26 x27 x28 x29 x30 x31 x32 x33 x34 x35 x36 x37 x38 x39 x40 x41 x42 x43 x44 x45 x46 x47 x48 x49 x50 x51 x52 x53 x54 x55 x56 x57 x58 x59 x60 x61 x62 x63 x64 x65 x66 x67 x68 x69 x70 x71 x72 x73 x74 x75 x76 x77 x78 x79 x80 x81 x82 x83 x84 x85 x86 x87 x88 x89 x90 x91 x92 x93 x94 x95 x96 x97 x98 x99 x100 x101 x102 x103 x104 x105 x106 x107 x108 x109 x110 x111 x112 x113 x114 x115 x116 x117 x118 x119 x120 x121 x122 x123 x124 x125 x126 x127 x128 x129 x130 x131 x132 x133 x134 x135 x136 x137 x138 x139 x140 x141 x142 x143 x144 x145 x146 x147 x148 x149 x150 x151 x152 x153 x154 x155 x156 x157 x158 x159 x160 x161 x162 x163 x164 x165 x166 x167 x168 x169 x170 x171 x172 x173 x174 x175 x176 x177 x178 x179 x180 : Value} (h1 : 1 ≤ n) (h2 : n ≤ 8) (hLl : L.length ≤ 9223372036854775807) (w0 w : World) (hB : Bytes w0 la gl ol L) (hI : In4 w0 w n gg gb 0 L) :
    Code.wp (barP Tryz.prog) (cfst (csnd (csnd (csnd (csnd (csnd (body3 Tryz.f3))))))) (fun e a w1 => e = .normal ∧ K5 (.slice la L.length lc) x1 x2 w0 n gg gb L a w1) ⟨#[.slice la L.length lc, x1, x2, x3, x4, x5, x6, .int .i64 n, .pointer (some ⟨gb, 0, none⟩), x9, x10, x11, x12, x13, x14, x15, x16, x17, x18, x19, x20, x21, x22, x23, x24, x25, x26, x27, x28, x29, x30, x31, x32, x33, x34, x35, x36, x37, x38, x39, x40, x41, x42, x43, x44, x45, x46, x47, x48, x49, x50, x51, x52, x53, x54, x55, x56, x57, x58, x59, x60, x61, x62, x63, x64, x65, x66, x67, x68, x69, x70, x71, x72, x73, x74, x75, x76, x77, x78, x79, x80, x81, x82, x83, x84, x85, x86, x87, x88, x89, x90, x91, x92, x93, x94, x95, x96, x97, x98, x99, x100, x101, x102, x103, x104, x105, x106, x107, x108, x109, x110, x111, x112, x113, x114, x115, x116, x117, x118, x119, x120, x121, x122, x123, x124, x125, x126, x127, x128, x129, x130, x131, x132, x133, x134, x135, x136, x137, x138, x139, x140, x141, x142, x143, x144, x145, x146, x147, x148, x149, x150, x151, x152, x153, x154, x155, x156, x157, x158, x159, x160, x161, x162, x163, x164, x165, x166, x167, x168, x169, x170, x171, x172, x173, x174, x175, x176, x177, x178, x179, x180], []⟩ w := by
  have H := hide hB
  have HI := hide hI
  clear hB hI
  obtain ⟨N, hN⟩ : ∃ N, L.length = N := ⟨_, rfl⟩
  have hNN := hide hN
  rw [hN] at hLl ⊢
  clear hN
  obtain ⟨M, hM⟩ : ∃ M, n * n = M := ⟨_, rfl⟩
  have hM2 : M ≤ 64 := by rw [← hM]; exact Nat.mul_le_mul h2 h2
  have hM1 : 1 ≤ M := by rw [← hM]; exact Nat.mul_le_mul h1 h1
  have a3 : (n : Int) * (n : Int) = (M : Int) := by rw [← Int.natCast_mul, hM]
  have hMh := hide hM
  clear hM
  simp only [body3, csnd, cfst, Tryz.f3, Option.getD_some]
  go_wp2_with fail
  go_loopw [9] (fun iv wr => ∃ k : Nat, k ≤ M ∧ iv = .int .i64 k ∧ Hid (In4 w0 wr n gg gb k L)) (fun iv _ => M - (intOf iv).toNat)
  case atStart => exact ⟨0, Nat.zero_le _, rfl, HI⟩
  case round =>
    clear HI
    obtain ⟨k, hk, rfl, hI⟩ := hrel
    by_cases hkM : k < M
    · have q3 : ((k : Int) < (M : Int)) = True := by simp; omega
      by_cases hkN : 2 * k + 1 < N
      · have q4 : (2 * (k : Int) + 1 < (N : Int)) = True := by simp; omega
        have hl : 0 < L.length := by rw [unhide hNN]; omega
        obtain ⟨e1, hg⟩ := (unhide H).at_ hl
        obtain ⟨x, hx⟩ : ∃ x, L[2 * k]? = some x := ⟨_, List.getElem?_eq_getElem (by rw [unhide hNN]; omega)⟩
        obtain ⟨y, hy⟩ : ∃ y, L[2 * k + 1]? = some y := ⟨_, List.getElem?_eq_getElem (by rw [unhide hNN]; omega)⟩
        have r1 := ((unhide hI).low.cell (p := ⟨gl, ol + 2 * k, none⟩) hg).trans ((unhide H).cell _ _ hx)
        have r2 := ((unhide hI).low.cell (p := ⟨gl, ol + (2 * k + 1), none⟩) hg).trans ((unhide H).cell _ _ hy)
        have hrow := (unhide hI).row
        have g0 := (unhide hI).g0
        rw [unhide hMh] at hrow g0
        have c1 := row_at hrow hkM
        have f1 := row_frozen hrow k
        have d1 := block_cell g0 1
        simp only [List.getElem?_toArray, List.getElem?_cons_zero, List.getElem?_cons_succ] at d1
        unfold cv at c1
        have hv : smallB L k = (floatOfInt .f64 (IntKind.i8.wrap x), floatOfInt .f64 (IntKind.i8.wrap y)) := by
          unfold smallB smallZ
          rw [if_pos (by rw [unhide hNN]; exact hkN), List.getD_eq_getElem?_getD, List.getD_eq_getElem?_getD, hx, hy]
          rfl
        have HN : In4 w0 (wr.setCell ⟨gg, k, none⟩ (cv (smallB L k))) n gg gb (k + 1) L :=
          ⟨(unhide hI).low.setCell (p := ⟨gg, k, none⟩) (unhide hI).new2 _, (unhide hI).new, (unhide hI).new2, (unhide hI).ne, (Below.heap_setCell _ _ _ _ (Ne.symm (unhide hI).ne)).trans (unhide hI).g0, row_ext (row_set (unhide hI).row k (smallB L k)) fun i _ => smallTo_step L k i⟩
        rw [hv] at HN
        have HN := hide HN
        subst e1
        clear hrow g0 hI hv hx hy hl H
        go_wp2_with fail
        refine (wpIn_wide (n := 3)).1 ?_
        refine region_cls 20 (fun W => W = wr.drew) rfl mixed (by kernel_rfl) ?_
        simp only [List.take_succ_cons, List.take_zero, List.drop_succ_cons, List.drop_zero]
        refine quiet_val (.pointer (some ⟨gb, 1, none⟩)) (fun _ => trivial) rfl (fun W hW => by subst hW; go_simp) ?_
        refine quiet_val (.slice (some ⟨gg, 0, none⟩) M M) (fun _ => trivial) rfl (fun W hW => by subst hW; go_simp) ?_
        refine quiet_val (.int .i64 k) (fun _ => trivial) rfl (fun W hW => by subst hW; go_simp) ?_
        refine quiet_val (.slice (some ⟨gl, ol, none⟩) N lc) (fun _ => trivial) rfl (fun W hW => by subst hW; go_simp) ?_
        refine quiet_val (.int .i64 k) (fun _ => trivial) rfl (fun W hW => by subst hW; go_simp) ?_
        refine quiet_val (.int .i64 (2 * (k : Int))) (fun _ => trivial) rfl (fun W hW => by subst hW; go_simp; rw [IntKind.wrap_i64]; omega) ?_
        refine quiet_val (.pointer (some ⟨gl, ol + 2 * k, none⟩)) (fun _ => trivial) rfl (fun W hW => by subst hW; go_simp; rw [if_pos (by omega), show (2 * (k : Int)).toNat = 2 * k by omega]) ?_
        refine quiet_val (.int .u8 x) (fun _ => trivial) rfl (fun W hW => by subst hW; go_simp) ?_
        refine quiet_val (.int .i8 (IntKind.i8.wrap x)) (fun _ => trivial) rfl (fun W hW => by subst hW; go_simp) ?_
        refine quiet_val (.float .f64 (floatOfInt .f64 (IntKind.i8.wrap x))) (fun _ => trivial) rfl (fun W hW => by subst hW; go_simp) ?_
        refine quiet_val (.slice (some ⟨gl, ol, none⟩) N lc) (fun _ => trivial) rfl (fun W hW => by subst hW; go_simp) ?_
        refine quiet_val (.int .i64 k) (fun _ => trivial) rfl (fun W hW => by subst hW; go_simp) ?_
        refine quiet_val (.int .i64 (2 * (k : Int))) (fun _ => trivial) rfl (fun W hW => by subst hW; go_simp; rw [IntKind.wrap_i64]; omega) ?_
        refine quiet_val (.int .i64 (2 * (k : Int) + 1)) (fun _ => trivial) rfl (fun W hW => by subst hW; go_simp; rw [IntKind.wrap_i64]; omega) ?_
        refine quiet_val (.pointer (some ⟨gl, ol + (2 * k + 1), none⟩)) (fun _ => trivial) rfl (fun W hW => by subst hW; go_simp; rw [if_pos (by omega), show (2 * (k : Int) + 1).toNat = 2 * k + 1 by omega]) ?_
        refine quiet_val (.int .u8 y) (fun _ => trivial) rfl (fun W hW => by subst hW; go_simp) ?_
        refine quiet_val (.int .i8 (IntKind.i8.wrap y)) (fun _ => trivial) rfl (fun W hW => by subst hW; go_simp) ?_
        refine quiet_val (.float .f64 (floatOfInt .f64 (IntKind.i8.wrap y))) (fun _ => trivial) rfl (fun W hW => by subst hW; go_simp) ?_
        refine quiet_val (.complex .f64 (floatOfInt .f64 (IntKind.i8.wrap x)) (floatOfInt .f64 (IntKind.i8.wrap y))) (fun _ => trivial) rfl (fun W hW => by subst hW; go_simp) ?_
        refine quiet_val (.pointer (some ⟨gg, k, none⟩)) (fun _ => trivial) rfl (fun W hW => by subst hW; go_simp) ?_
        refine wpQuietIn_nil ?_
        intro w5 hw5
        subst hw5
        gi_wp2
        go_wp2_with fail
        exact ⟨⟨k + 1, hkM, by go_num, ⟨(unhide HN).low.drew, (unhide HN).new, (unhide HN).new2, (unhide HN).ne, (unhide HN).g0, (unhide HN).row⟩⟩, by simp [intOf]; omega⟩
      · have q4 : (2 * (k : Int) + 1 < (N : Int)) = False := by simp; omega
        have HE : Hid (In3 w0 wr n gg gb L) := ⟨(unhide hI).low, (unhide hI).new, (unhide hI).g0, row_ext (unhide hI).row fun i _ => smallTo_out (by rw [unhide hNN]; exact hkN) i⟩
        go_wp2_with fail
        exact ⟨unhide HE, ⟨rfl, rfl, rfl, rfl, rfl, rfl, rfl⟩⟩
    · have q3 : ((k : Int) < (M : Int)) = False := by simp; omega
      obtain rfl : k = M := by omega
      have HE : Hid (In3 w0 wr n gg gb L) := ⟨(unhide hI).low, (unhide hI).new, (unhide hI).g0, row_ext (unhide hI).row fun i hi => by
        unfold smallTo
        rw [if_pos (by rw [unhide hMh] at hi; exact hi)]⟩
      go_wp2_with fail
      exact ⟨unhide HE, ⟨rfl, rfl, rfl, rfl, rfl, rfl, rfl⟩⟩
set_option maxRecDepth 100000 in
set_option maxHeartbeats 1600000 in
theorem pre_dirs {n gb dc : Nat} {da : Option Addr} {D : List (Int × Int)} {x0 x1 x3 x4 x5 x6 x9 x10 x11 x12 x13 x14 x15 x16 x17 x18 x19 x20 x21 x22 x23 x24 x25 x26 x27 x28 x29 x30 x31 x32 x33 x34 x35 x36 x37 x38 x39 x40 x41 x42 x43 x44 x45 x46 x47 x48 x49 x50 x51 x52 x53 x54 x55 x56 x57 x58 x59 x60 x61 x62 x63 x64 x65 x66 x67 x68 x69 x70 x71 x72 x73 x74 x75 x76 x77 x78 x79 x80 x81 x82 x83 x84 x85 x86 x87 x88 x89 x90 x91 x92 x93 x94 x95 x96 x97 x98 x99 x100 x101 x102 x103 x104 x105 x106 x107 x108 x109 x110 x111 x112 x113 x114 x115 x116 x117 x118 x119 x120 x121 x122 x123 x124 x125 x126 x127 x128 x129 x130 x131 x132 x133 x134 x135 x136 x137 x138 x139 x140 x141 x142 x143 x144 x145 x146 x147 x148 x149 x150 x151 x152 x153 x154 x155 x156 x157 x158 x159 x160 x161 x162 x163 x164 x165 x166 x167 x168 x169 x170 x171 x172 x173 x174 x175 x176 x177 x178 x179 x180 : Value} (hcap : D.length ≤ dc) (hda : 0 < D.length → ∃ g o, da = some ⟨g, o, none⟩) (w : World) :
    Code.wp (barP Tryz.prog) (cfst (csnd (csnd (csnd (csnd (csnd (csnd (body3 Tryz.f3)))))))) (fun e a w1 => e = .normal ∧ K6 x0 x1 (.slice da (D.take 4).length dc) w n gb a w1) ⟨#[x0, x1, .slice da D.length dc, x3, x4, x5, x6, .int .i64 n, .pointer (some ⟨gb, 0, none⟩), x9, x10, x11, x12, x13, x14, x15, x16, x17, x18, x19, x20, x21, x22, x23, x24, x25, x26, x27, x28, x29, x30, x31, x32, x33, x34, x35, x36, x37, x38, x39, x40, x41, x42, x43, x44, x45, x46, x47, x48, x49, x50, x51, x52, x53, x54, x55, x56, x57, x58, x59, x60, x61, x62, x63, x64, x65, x66, x67, x68, x69, x70, x71, x72, x73, x74, x75, x76, x77, x78, x79, x80, x81, x82, x83, x84, x85, x86, x87, x88, x89, x90, x91, x92, x93, x94, x95, x96, x97, x98, x99, x100, x101, x102, x103, x104, x105, x106, x107, x108, x109, x110, x111, x112, x113, x114, x115, x116, x117, x118, x119, x120, x121, x122, x123, x124, x125, x126, x127, x128, x129, x130, x131, x132, x133, x134, x135, x136, x137, x138, x139, x140, x141, x142, x143, x144, x145, x146, x147, x148, x149, x150, x151, x152, x153, x154, x155, x156, x157, x158, x159, x160, x161, x162, x163, x164, x165, x166, x167, x168, x169, x170, x171, x172, x173, x174, x175, x176, x177, x178, x179, x180], []⟩ w := by
  simp only [body3, csnd, cfst, Tryz.f3, Option.getD_some]
  by_cases c : 4 < D.length
  · obtain ⟨g, o, rfl⟩ := hda (by omega)
    have hl : (D.take 4).length = 4 := by rw [List.length_take]; omega
    rw [hl]
    obtain ⟨m, hm⟩ : ∃ m, D.length = m := ⟨_, rfl⟩
    rw [hm] at c hcap ⊢
    have q1 : ((4 : Int) < (m : Int)) = True := by simp; omega
    have q2 : ((4 : Int) ≤ (dc : Int)) = True := by simp; omega
    go_wp2_with fail
    exact ⟨rfl, ⟨rfl, rfl, rfl, rfl, rfl, rfl, rfl⟩⟩
  · have hl : D.take 4 = D := List.take_of_length_le (by omega)
    rw [hl]
    obtain ⟨m, hm⟩ : ∃ m, D.length = m := ⟨_, rfl⟩
    rw [hm] at c hcap ⊢
    have q1 : ((4 : Int) < (m : Int)) = False := by simp; omega
    go_wp2_with fail
    exact ⟨rfl, ⟨rfl, rfl, rfl, rfl, rfl, rfl, rfl⟩⟩
end Go.Proofs.YtfnbcpeipoobkaaGreat
