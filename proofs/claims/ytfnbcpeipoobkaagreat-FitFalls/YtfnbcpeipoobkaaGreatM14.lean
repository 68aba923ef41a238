/- The barred program. (Laid by program: sp.py.) -/
import Derived.Test.YtfnbcpeipoobkaaGreatM13
import Derived.Test.YtfnbcpeipoobkaaGreatChecked
import Derived.KernelRfl
set_option linter.unusedSectionVars false
namespace Go.Proofs.YtfnbcpeipoobkaaGreat
open Go

/-- Which functions are barred. -/
def barMask : List Bool := [true, true, false, false, false, false, false, false, false, false, false, true, false, false, false, false, false, false, false, false, false, false, true, true, true, false, true, false, false, false, false, false, false, false, false, false, false, false, false, false, true, true, true, true, true, true, false, false, true, false, false, true, true, false, false, true, true, false, true, true, false, false, false, false, false, false, false, false, false, false, false, false, false, false, false, false, false, true, true, true, true, false, false, false, true, false, false, false, false, false, false, false, false, false, false, false, false, false, false, false, false, false, false, false, false, false, false, true, true, true, true, true, true, true, true, true, true, true, true, true, true, true, true, true]
/-- The functions, some of them barred. -/
def barL (P : Program) : List Func := barMask.zipWith (fun b f => if b then stub f else f) P.funcs.toList
def barF (P : Program) : Array Func := (barL P).toArray
/-- The barred program. -/
def barP (P : Program) : Program := bar P (barF P)
theorem Bar.prog_eq : barP Tryz.prog = bar Tryz.prog (barF Tryz.prog) := rfl
theorem Bar.same : bar Tryz.prog (barF Tryz.prog) = barP Tryz.prog := rfl
theorem Bar.again : bar (barP Tryz.prog) (barF Tryz.prog) = barP Tryz.prog := rfl
theorem Bar.list_eq : barL Tryz.prog = [stub Tryz.f0, stub Tryz.f1, Tryz.f2, Tryz.f3, Tryz.f4, Tryz.f5, Tryz.f6, Tryz.f7, Tryz.f8, Tryz.f9, Tryz.f10, stub Tryz.f11, Tryz.f12, Tryz.f13, Tryz.f14, Tryz.f15, Tryz.f16, Tryz.f17, Tryz.f18, Tryz.f19, Tryz.f20, Tryz.f21, stub Tryz.f22, stub Tryz.f23, stub Tryz.f24, Tryz.f25, stub Tryz.f26, Tryz.f27, Tryz.f28, Tryz.f29, Tryz.f30, Tryz.f31, Tryz.f32, Tryz.f33, Tryz.f34, Tryz.f35, Tryz.f36, Tryz.f37, Tryz.f38, Tryz.f39, stub Tryz.f40, stub Tryz.f41, stub Tryz.f42, stub Tryz.f43, stub Tryz.f44, stub Tryz.f45, Tryz.f46, Tryz.f47, stub Tryz.f48, Tryz.f49, Tryz.f50, stub Tryz.f51, stub Tryz.f52, Tryz.f53, Tryz.f54, stub Tryz.f55, stub Tryz.f56, Tryz.f57, stub Tryz.f58, stub Tryz.f59, Tryz.f60, Tryz.f61, Tryz.f62, Tryz.f63, Tryz.f64, Tryz.f65, Tryz.f66, Tryz.f67, Tryz.f68, Tryz.f69, Tryz.f70, Tryz.f71, Tryz.f72, Tryz.f73, Tryz.f74, Tryz.f75, Tryz.f76, stub Tryz.f77, stub Tryz.f78, stub Tryz.f79, stub Tryz.f80, Tryz.f81, Tryz.f82, Tryz.f83, stub Tryz.f84, Tryz.f85, Tryz.f86, Tryz.f87, Tryz.f88, Tryz.f89, Tryz.f90, Tryz.f91, Tryz.f92, Tryz.f93, Tryz.f94, Tryz.f95, Tryz.f96, Tryz.f97, Tryz.f98, Tryz.f99, Tryz.f100, Tryz.f101, Tryz.f102, Tryz.f103, Tryz.f104, Tryz.f105, Tryz.f106, stub Tryz.f107, stub Tryz.f108, stub Tryz.f109, stub Tryz.f110, stub Tryz.f111, stub Tryz.f112, stub Tryz.f113, stub Tryz.f114, stub Tryz.f115, stub Tryz.f116, stub Tryz.f117, stub Tryz.f118, stub Tryz.f119, stub Tryz.f120, stub Tryz.f121, stub Tryz.f122, stub Tryz.f123] := by kernel_rfl
theorem Bar.plain_eq : Tryz.prog.funcs.toList = [Tryz.f0, Tryz.f1, Tryz.f2, Tryz.f3, Tryz.f4, Tryz.f5, Tryz.f6, Tryz.f7, Tryz.f8, Tryz.f9, Tryz.f10, Tryz.f11, Tryz.f12, Tryz.f13, Tryz.f14, Tryz.f15, Tryz.f16, Tryz.f17, Tryz.f18, Tryz.f19, Tryz.f20, Tryz.f21, Tryz.f22, Tryz.f23, Tryz.f24, Tryz.f25, Tryz.f26, Tryz.f27, Tryz.f28, Tryz.f29, Tryz.f30, Tryz.f31, Tryz.f32, Tryz.f33, Tryz.f34, Tryz.f35, Tryz.f36, Tryz.f37, Tryz.f38, Tryz.f39, Tryz.f40, Tryz.f41, Tryz.f42, Tryz.f43, Tryz.f44, Tryz.f45, Tryz.f46, Tryz.f47, Tryz.f48, Tryz.f49, Tryz.f50, Tryz.f51, Tryz.f52, Tryz.f53, Tryz.f54, Tryz.f55, Tryz.f56, Tryz.f57, Tryz.f58, Tryz.f59, Tryz.f60, Tryz.f61, Tryz.f62, Tryz.f63, Tryz.f64, Tryz.f65, Tryz.f66, Tryz.f67, Tryz.f68, Tryz.f69, Tryz.f70, Tryz.f71, Tryz.f72, Tryz.f73, Tryz.f74, Tryz.f75, Tryz.f76, Tryz.f77, Tryz.f78, Tryz.f79, Tryz.f80, Tryz.f81, Tryz.f82, Tryz.f83, Tryz.f84, Tryz.f85, Tryz.f86, Tryz.f87, Tryz.f88, Tryz.f89, Tryz.f90, Tryz.f91, Tryz.f92, Tryz.f93, Tryz.f94, Tryz.f95, Tryz.f96, Tryz.f97, Tryz.f98, Tryz.f99, Tryz.f100, Tryz.f101, Tryz.f102, Tryz.f103, Tryz.f104, Tryz.f105, Tryz.f106, Tryz.f107, Tryz.f108, Tryz.f109, Tryz.f110, Tryz.f111, Tryz.f112, Tryz.f113, Tryz.f114, Tryz.f115, Tryz.f116, Tryz.f117, Tryz.f118, Tryz.f119, Tryz.f120, Tryz.f121, Tryz.f122, Tryz.f123] := by kernel_rfl
@[simp] theorem Bar.types_ : (barP Tryz.prog).types = Tryz.prog.types := types_bar
@[simp] theorem Bar.globals_ : (barP Tryz.prog).globals = Tryz.prog.globals := globals_bar
@[simp] theorem Bar.main_ : (barP Tryz.prog).main = Tryz.prog.main := main_bar
@[simp] theorem Bar.inits_ : (barP Tryz.prog).inits = Tryz.prog.inits := inits_bar
@[simp] theorem Bar.depth_ : (barP Tryz.prog).depth = Tryz.prog.depth := depth_bar
@[simp] theorem Bar.rt_ : (barP Tryz.prog).rt = { Tryz.prog.rt with panicNilError := Tryz.prog.types.size } := rt_bar
@[simp] theorem Bar.underlying_ (t : TypeId) : (barP Tryz.prog).underlying t = Tryz.prog.underlying t := under_bar t
@[simp] theorem Bar.cellsOf_ (t : TypeId) : (barP Tryz.prog).cellsOf t = Tryz.prog.cellsOf t := cells_bar t
@[simp] theorem Bar.bytesOf_ (t : TypeId) : (barP Tryz.prog).bytesOf t = Tryz.prog.bytesOf t := bytes_bar t
@[simp] theorem Bar.info_ (t : TypeId) : (barP Tryz.prog).info? t = Tryz.prog.info? t := info_bar t
@[simp] theorem Bar.typeInfo_ (t : TypeId) (w : World) : (typeInfo t).run (barP Tryz.prog) w = (typeInfo t).run Tryz.prog w := typeInfo_bar t w
@[simp] theorem Bar.runUnderlying_ (t : TypeId) (w : World) : (underlying t).run (barP Tryz.prog) w = (underlying t).run Tryz.prog w := runUnderlying_bar t w
@[simp] theorem Bar.sizeOf_ (t : TypeId) (w : World) : (sizeOf t).run (barP Tryz.prog) w = (sizeOf t).run Tryz.prog w := sizeOf_bar t w
@[simp] theorem Bar.isAgg_ (t : TypeId) (w : World) : (isAgg t).run (barP Tryz.prog) w = (isAgg t).run Tryz.prog w := isAgg_bar t w
@[simp] theorem Bar.zeroValue_ (t : TypeId) (w : World) : (zeroValue t).run (barP Tryz.prog) w = (zeroValue t).run Tryz.prog w := zeroValue_bar t w
@[simp] theorem Bar.eqGuardType_ (d : Nat) (t : TypeId) : (barP Tryz.prog).eqGuardType d t = Tryz.prog.eqGuardType d t := eqGuardType_bar d t
@[simp] theorem Bar.func2 : (barP Tryz.prog).funcs[2]? = some Tryz.f2 := by kernel_rfl
@[simp] theorem Bar.func3 : (barP Tryz.prog).funcs[3]? = some Tryz.f3 := by kernel_rfl
@[simp] theorem Bar.func4 : (barP Tryz.prog).funcs[4]? = some Tryz.f4 := by kernel_rfl
@[simp] theorem Bar.func5 : (barP Tryz.prog).funcs[5]? = some Tryz.f5 := by kernel_rfl
@[simp] theorem Bar.func6 : (barP Tryz.prog).funcs[6]? = some Tryz.f6 := by kernel_rfl
@[simp] theorem Bar.func7 : (barP Tryz.prog).funcs[7]? = some Tryz.f7 := by kernel_rfl
@[simp] theorem Bar.func8 : (barP Tryz.prog).funcs[8]? = some Tryz.f8 := by kernel_rfl
@[simp] theorem Bar.func9 : (barP Tryz.prog).funcs[9]? = some Tryz.f9 := by kernel_rfl
@[simp] theorem Bar.func10 : (barP Tryz.prog).funcs[10]? = some Tryz.f10 := by kernel_rfl
@[simp] theorem Bar.func12 : (barP Tryz.prog).funcs[12]? = some Tryz.f12 := by kernel_rfl
@[simp] theorem Bar.func13 : (barP Tryz.prog).funcs[13]? = some Tryz.f13 := by kernel_rfl
@[simp] theorem Bar.func14 : (barP Tryz.prog).funcs[14]? = some Tryz.f14 := by kernel_rfl
@[simp] theorem Bar.func15 : (barP Tryz.prog).funcs[15]? = some Tryz.f15 := by kernel_rfl
@[simp] theorem Bar.func16 : (barP Tryz.prog).funcs[16]? = some Tryz.f16 := by kernel_rfl
@[simp] theorem Bar.func17 : (barP Tryz.prog).funcs[17]? = some Tryz.f17 := by kernel_rfl
@[simp] theorem Bar.func18 : (barP Tryz.prog).funcs[18]? = some Tryz.f18 := by kernel_rfl
@[simp] theorem Bar.func19 : (barP Tryz.prog).funcs[19]? = some Tryz.f19 := by kernel_rfl
@[simp] theorem Bar.func20 : (barP Tryz.prog).funcs[20]? = some Tryz.f20 := by kernel_rfl
@[simp] theorem Bar.func21 : (barP Tryz.prog).funcs[21]? = some Tryz.f21 := by kernel_rfl
@[simp] theorem Bar.func25 : (barP Tryz.prog).funcs[25]? = some Tryz.f25 := by kernel_rfl
@[simp] theorem Bar.func27 : (barP Tryz.prog).funcs[27]? = some Tryz.f27 := by kernel_rfl
@[simp] theorem Bar.func28 : (barP Tryz.prog).funcs[28]? = some Tryz.f28 := by kernel_rfl
@[simp] theorem Bar.func29 : (barP Tryz.prog).funcs[29]? = some Tryz.f29 := by kernel_rfl
@[simp] theorem Bar.func30 : (barP Tryz.prog).funcs[30]? = some Tryz.f30 := by kernel_rfl
@[simp] theorem Bar.func31 : (barP Tryz.prog).funcs[31]? = some Tryz.f31 := by kernel_rfl
@[simp] theorem Bar.func32 : (barP Tryz.prog).funcs[32]? = some Tryz.f32 := by kernel_rfl
@[simp] theorem Bar.func33 : (barP Tryz.prog).funcs[33]? = some Tryz.f33 := by kernel_rfl
@[simp] theorem Bar.func34 : (barP Tryz.prog).funcs[34]? = some Tryz.f34 := by kernel_rfl
@[simp] theorem Bar.func35 : (barP Tryz.prog).funcs[35]? = some Tryz.f35 := by kernel_rfl
@[simp] theorem Bar.func36 : (barP Tryz.prog).funcs[36]? = some Tryz.f36 := by kernel_rfl
@[simp] theorem Bar.func37 : (barP Tryz.prog).funcs[37]? = some Tryz.f37 := by kernel_rfl
@[simp] theorem Bar.func38 : (barP Tryz.prog).funcs[38]? = some Tryz.f38 := by kernel_rfl
@[simp] theorem Bar.func39 : (barP Tryz.prog).funcs[39]? = some Tryz.f39 := by kernel_rfl
@[simp] theorem Bar.func46 : (barP Tryz.prog).funcs[46]? = some Tryz.f46 := by kernel_rfl
@[simp] theorem Bar.func47 : (barP Tryz.prog).funcs[47]? = some Tryz.f47 := by kernel_rfl
@[simp] theorem Bar.func49 : (barP Tryz.prog).funcs[49]? = some Tryz.f49 := by kernel_rfl
@[simp] theorem Bar.func50 : (barP Tryz.prog).funcs[50]? = some Tryz.f50 := by kernel_rfl
@[simp] theorem Bar.func53 : (barP Tryz.prog).funcs[53]? = some Tryz.f53 := by kernel_rfl
@[simp] theorem Bar.func54 : (barP Tryz.prog).funcs[54]? = some Tryz.f54 := by kernel_rfl
@[simp] theorem Bar.func57 : (barP Tryz.prog).funcs[57]? = some Tryz.f57 := by kernel_rfl
@[simp] theorem Bar.func60 : (barP Tryz.prog).funcs[60]? = some Tryz.f60 := by kernel_rfl
@[simp] theorem Bar.func61 : (barP Tryz.prog).funcs[61]? = some Tryz.f61 := by kernel_rfl
@[simp] theorem Bar.func62 : (barP Tryz.prog).funcs[62]? = some Tryz.f62 := by kernel_rfl
@[simp] theorem Bar.func63 : (barP Tryz.prog).funcs[63]? = some Tryz.f63 := by kernel_rfl
@[simp] theorem Bar.func64 : (barP Tryz.prog).funcs[64]? = some Tryz.f64 := by kernel_rfl
@[simp] theorem Bar.func65 : (barP Tryz.prog).funcs[65]? = some Tryz.f65 := by kernel_rfl
@[simp] theorem Bar.func66 : (barP Tryz.prog).funcs[66]? = some Tryz.f66 := by kernel_rfl
@[simp] theorem Bar.func67 : (barP Tryz.prog).funcs[67]? = some Tryz.f67 := by kernel_rfl
@[simp] theorem Bar.func68 : (barP Tryz.prog).funcs[68]? = some Tryz.f68 := by kernel_rfl
@[simp] theorem Bar.func69 : (barP Tryz.prog).funcs[69]? = some Tryz.f69 := by kernel_rfl
@[simp] theorem Bar.func70 : (barP Tryz.prog).funcs[70]? = some Tryz.f70 := by kernel_rfl
@[simp] theorem Bar.func71 : (barP Tryz.prog).funcs[71]? = some Tryz.f71 := by kernel_rfl
@[simp] theorem Bar.func72 : (barP Tryz.prog).funcs[72]? = some Tryz.f72 := by kernel_rfl
@[simp] theorem Bar.func73 : (barP Tryz.prog).funcs[73]? = some Tryz.f73 := by kernel_rfl
@[simp] theorem Bar.func74 : (barP Tryz.prog).funcs[74]? = some Tryz.f74 := by kernel_rfl
@[simp] theorem Bar.func75 : (barP Tryz.prog).funcs[75]? = some Tryz.f75 := by kernel_rfl
@[simp] theorem Bar.func76 : (barP Tryz.prog).funcs[76]? = some Tryz.f76 := by kernel_rfl
@[simp] theorem Bar.func81 : (barP Tryz.prog).funcs[81]? = some Tryz.f81 := by kernel_rfl
@[simp] theorem Bar.func82 : (barP Tryz.prog).funcs[82]? = some Tryz.f82 := by kernel_rfl
@[simp] theorem Bar.func83 : (barP Tryz.prog).funcs[83]? = some Tryz.f83 := by kernel_rfl
@[simp] theorem Bar.func85 : (barP Tryz.prog).funcs[85]? = some Tryz.f85 := by kernel_rfl
@[simp] theorem Bar.func86 : (barP Tryz.prog).funcs[86]? = some Tryz.f86 := by kernel_rfl
@[simp] theorem Bar.func87 : (barP Tryz.prog).funcs[87]? = some Tryz.f87 := by kernel_rfl
@[simp] theorem Bar.func88 : (barP Tryz.prog).funcs[88]? = some Tryz.f88 := by kernel_rfl
@[simp] theorem Bar.func89 : (barP Tryz.prog).funcs[89]? = some Tryz.f89 := by kernel_rfl
@[simp] theorem Bar.func90 : (barP Tryz.prog).funcs[90]? = some Tryz.f90 := by kernel_rfl
@[simp] theorem Bar.func91 : (barP Tryz.prog).funcs[91]? = some Tryz.f91 := by kernel_rfl
@[simp] theorem Bar.func92 : (barP Tryz.prog).funcs[92]? = some Tryz.f92 := by kernel_rfl
@[simp] theorem Bar.func93 : (barP Tryz.prog).funcs[93]? = some Tryz.f93 := by kernel_rfl
@[simp] theorem Bar.func94 : (barP Tryz.prog).funcs[94]? = some Tryz.f94 := by kernel_rfl
@[simp] theorem Bar.func95 : (barP Tryz.prog).funcs[95]? = some Tryz.f95 := by kernel_rfl
@[simp] theorem Bar.func96 : (barP Tryz.prog).funcs[96]? = some Tryz.f96 := by kernel_rfl
@[simp] theorem Bar.func97 : (barP Tryz.prog).funcs[97]? = some Tryz.f97 := by kernel_rfl
@[simp] theorem Bar.func98 : (barP Tryz.prog).funcs[98]? = some Tryz.f98 := by kernel_rfl
@[simp] theorem Bar.func99 : (barP Tryz.prog).funcs[99]? = some Tryz.f99 := by kernel_rfl
@[simp] theorem Bar.func100 : (barP Tryz.prog).funcs[100]? = some Tryz.f100 := by kernel_rfl
@[simp] theorem Bar.func101 : (barP Tryz.prog).funcs[101]? = some Tryz.f101 := by kernel_rfl
@[simp] theorem Bar.func102 : (barP Tryz.prog).funcs[102]? = some Tryz.f102 := by kernel_rfl
@[simp] theorem Bar.func103 : (barP Tryz.prog).funcs[103]? = some Tryz.f103 := by kernel_rfl
@[simp] theorem Bar.func104 : (barP Tryz.prog).funcs[104]? = some Tryz.f104 := by kernel_rfl
@[simp] theorem Bar.func105 : (barP Tryz.prog).funcs[105]? = some Tryz.f105 := by kernel_rfl
@[simp] theorem Bar.func106 : (barP Tryz.prog).funcs[106]? = some Tryz.f106 := by kernel_rfl
@[simp] theorem Bar.call2 (args : Array Value) (w : World) : (callFunc 2 args).run (barP Tryz.prog) w = .ok (.enter 2 args) w := by kernel_rfl
@[simp] theorem Bar.call3 (args : Array Value) (w : World) : (callFunc 3 args).run (barP Tryz.prog) w = .ok (.enter 3 args) w := by kernel_rfl
@[simp] theorem Bar.call4 (args : Array Value) (w : World) : (callFunc 4 args).run (barP Tryz.prog) w = .ok (.enter 4 args) w := by kernel_rfl
@[simp] theorem Bar.call5 (args : Array Value) (w : World) : (callFunc 5 args).run (barP Tryz.prog) w = .ok (.enter 5 args) w := by kernel_rfl
@[simp] theorem Bar.call6 (args : Array Value) (w : World) : (callFunc 6 args).run (barP Tryz.prog) w = .ok (.enter 6 args) w := by kernel_rfl
@[simp] theorem Bar.call7 (args : Array Value) (w : World) : (callFunc 7 args).run (barP Tryz.prog) w = .ok (.enter 7 args) w := by kernel_rfl
@[simp] theorem Bar.call8 (args : Array Value) (w : World) : (callFunc 8 args).run (barP Tryz.prog) w = .ok (.enter 8 args) w := by kernel_rfl
@[simp] theorem Bar.call9 (args : Array Value) (w : World) : (callFunc 9 args).run (barP Tryz.prog) w = .ok (.enter 9 args) w := by kernel_rfl
@[simp] theorem Bar.call10 (args : Array Value) (w : World) : (callFunc 10 args).run (barP Tryz.prog) w = .ok (.enter 10 args) w := by kernel_rfl
@[simp] theorem Bar.call12 (args : Array Value) (w : World) : (callFunc 12 args).run (barP Tryz.prog) w = .ok (.enter 12 args) w := by kernel_rfl
@[simp] theorem Bar.call13 (args : Array Value) (w : World) : (callFunc 13 args).run (barP Tryz.prog) w = .ok (.enter 13 args) w := by kernel_rfl
@[simp] theorem Bar.call14 (args : Array Value) (w : World) : (callFunc 14 args).run (barP Tryz.prog) w = .ok (.enter 14 args) w := by kernel_rfl
@[simp] theorem Bar.call15 (args : Array Value) (w : World) : (callFunc 15 args).run (barP Tryz.prog) w = .ok (.enter 15 args) w := by kernel_rfl
@[simp] theorem Bar.call16 (args : Array Value) (w : World) : (callFunc 16 args).run (barP Tryz.prog) w = .ok (.enter 16 args) w := by kernel_rfl
@[simp] theorem Bar.call17 (args : Array Value) (w : World) : (callFunc 17 args).run (barP Tryz.prog) w = .ok (.enter 17 args) w := by kernel_rfl
@[simp] theorem Bar.call18 (args : Array Value) (w : World) : (callFunc 18 args).run (barP Tryz.prog) w = .ok (.enter 18 args) w := by kernel_rfl
@[simp] theorem Bar.call19 (args : Array Value) (w : World) : (callFunc 19 args).run (barP Tryz.prog) w = .ok (.enter 19 args) w := by kernel_rfl
@[simp] theorem Bar.call20 (args : Array Value) (w : World) : (callFunc 20 args).run (barP Tryz.prog) w = .ok (.enter 20 args) w := by kernel_rfl
@[simp] theorem Bar.call21 (args : Array Value) (w : World) : (callFunc 21 args).run (barP Tryz.prog) w = .ok (.enter 21 args) w := by kernel_rfl
@[simp] theorem Bar.call25 (args : Array Value) (w : World) : (callFunc 25 args).run (barP Tryz.prog) w = .ok (.enter 25 args) w := by kernel_rfl
@[simp] theorem Bar.call27 (args : Array Value) (w : World) : (callFunc 27 args).run (barP Tryz.prog) w = .ok (.enter 27 args) w := by kernel_rfl
@[simp] theorem Bar.call28 (args : Array Value) (w : World) : (callFunc 28 args).run (barP Tryz.prog) w = .ok (.enter 28 args) w := by kernel_rfl
@[simp] theorem Bar.call29 (args : Array Value) (w : World) : (callFunc 29 args).run (barP Tryz.prog) w = .ok (.enter 29 args) w := by kernel_rfl
@[simp] theorem Bar.call30 (args : Array Value) (w : World) : (callFunc 30 args).run (barP Tryz.prog) w = .ok (.enter 30 args) w := by kernel_rfl
@[simp] theorem Bar.call31 (args : Array Value) (w : World) : (callFunc 31 args).run (barP Tryz.prog) w = .ok (.enter 31 args) w := by kernel_rfl
@[simp] theorem Bar.call32 (args : Array Value) (w : World) : (callFunc 32 args).run (barP Tryz.prog) w = .ok (.enter 32 args) w := by kernel_rfl
@[simp] theorem Bar.call33 (args : Array Value) (w : World) : (callFunc 33 args).run (barP Tryz.prog) w = .ok (.enter 33 args) w := by kernel_rfl
@[simp] theorem Bar.call34 (args : Array Value) (w : World) : (callFunc 34 args).run (barP Tryz.prog) w = .ok (.enter 34 args) w := by kernel_rfl
@[simp] theorem Bar.call35 (args : Array Value) (w : World) : (callFunc 35 args).run (barP Tryz.prog) w = .ok (.enter 35 args) w := by kernel_rfl
@[simp] theorem Bar.call36 (args : Array Value) (w : World) : (callFunc 36 args).run (barP Tryz.prog) w = .ok (.enter 36 args) w := by kernel_rfl
@[simp] theorem Bar.call37 (args : Array Value) (w : World) : (callFunc 37 args).run (barP Tryz.prog) w = .ok (.enter 37 args) w := by kernel_rfl
@[simp] theorem Bar.call38 (args : Array Value) (w : World) : (callFunc 38 args).run (barP Tryz.prog) w = .ok (.enter 38 args) w := by kernel_rfl
@[simp] theorem Bar.call46 (args : Array Value) (w : World) : (callFunc 46 args).run (barP Tryz.prog) w = .ok (.enter 46 args) w := by kernel_rfl
@[simp] theorem Bar.call47 (args : Array Value) (w : World) : (callFunc 47 args).run (barP Tryz.prog) w = .ok (.enter 47 args) w := by kernel_rfl
@[simp] theorem Bar.call49 (args : Array Value) (w : World) : (callFunc 49 args).run (barP Tryz.prog) w = .ok (.enter 49 args) w := by kernel_rfl
@[simp] theorem Bar.call50 (args : Array Value) (w : World) : (callFunc 50 args).run (barP Tryz.prog) w = .ok (.enter 50 args) w := by kernel_rfl
@[simp] theorem Bar.call53 (args : Array Value) (w : World) : (callFunc 53 args).run (barP Tryz.prog) w = .ok (.enter 53 args) w := by kernel_rfl
@[simp] theorem Bar.call54 (args : Array Value) (w : World) : (callFunc 54 args).run (barP Tryz.prog) w = .ok (.enter 54 args) w := by kernel_rfl
@[simp] theorem Bar.call57 (args : Array Value) (w : World) : (callFunc 57 args).run (barP Tryz.prog) w = .ok (.enter 57 args) w := by kernel_rfl
@[simp] theorem Bar.call60 (args : Array Value) (w : World) : (callFunc 60 args).run (barP Tryz.prog) w = .ok (.enter 60 args) w := by kernel_rfl
@[simp] theorem Bar.call61 (args : Array Value) (w : World) : (callFunc 61 args).run (barP Tryz.prog) w = .ok (.enter 61 args) w := by kernel_rfl
@[simp] theorem Bar.call62 (args : Array Value) (w : World) : (callFunc 62 args).run (barP Tryz.prog) w = .ok (.enter 62 args) w := by kernel_rfl
@[simp] theorem Bar.call63 (args : Array Value) (w : World) : (callFunc 63 args).run (barP Tryz.prog) w = .ok (.enter 63 args) w := by kernel_rfl
@[simp] theorem Bar.call64 (args : Array Value) (w : World) : (callFunc 64 args).run (barP Tryz.prog) w = .ok (.enter 64 args) w := by kernel_rfl
@[simp] theorem Bar.call65 (args : Array Value) (w : World) : (callFunc 65 args).run (barP Tryz.prog) w = .ok (.enter 65 args) w := by kernel_rfl
@[simp] theorem Bar.call66 (args : Array Value) (w : World) : (callFunc 66 args).run (barP Tryz.prog) w = .ok (.enter 66 args) w := by kernel_rfl
@[simp] theorem Bar.call67 (args : Array Value) (w : World) : (callFunc 67 args).run (barP Tryz.prog) w = .ok (.enter 67 args) w := by kernel_rfl
@[simp] theorem Bar.call68 (args : Array Value) (w : World) : (callFunc 68 args).run (barP Tryz.prog) w = .ok (.enter 68 args) w := by kernel_rfl
@[simp] theorem Bar.call69 (args : Array Value) (w : World) : (callFunc 69 args).run (barP Tryz.prog) w = .ok (.enter 69 args) w := by kernel_rfl
@[simp] theorem Bar.call70 (args : Array Value) (w : World) : (callFunc 70 args).run (barP Tryz.prog) w = .ok (.enter 70 args) w := by kernel_rfl
@[simp] theorem Bar.call71 (args : Array Value) (w : World) : (callFunc 71 args).run (barP Tryz.prog) w = .ok (.enter 71 args) w := by kernel_rfl
@[simp] theorem Bar.call72 (args : Array Value) (w : World) : (callFunc 72 args).run (barP Tryz.prog) w = .ok (.enter 72 args) w := by kernel_rfl
@[simp] theorem Bar.call73 (args : Array Value) (w : World) : (callFunc 73 args).run (barP Tryz.prog) w = .ok (.enter 73 args) w := by kernel_rfl
@[simp] theorem Bar.call74 (args : Array Value) (w : World) : (callFunc 74 args).run (barP Tryz.prog) w = .ok (.enter 74 args) w := by kernel_rfl
@[simp] theorem Bar.call75 (args : Array Value) (w : World) : (callFunc 75 args).run (barP Tryz.prog) w = .ok (.enter 75 args) w := by kernel_rfl
@[simp] theorem Bar.call76 (args : Array Value) (w : World) : (callFunc 76 args).run (barP Tryz.prog) w = .ok (.enter 76 args) w := by kernel_rfl
@[simp] theorem Bar.call81 (args : Array Value) (w : World) : (callFunc 81 args).run (barP Tryz.prog) w = .ok (.enter 81 args) w := by kernel_rfl
@[simp] theorem Bar.call82 (args : Array Value) (w : World) : (callFunc 82 args).run (barP Tryz.prog) w = .ok (.enter 82 args) w := by kernel_rfl
@[simp] theorem Bar.call83 (args : Array Value) (w : World) : (callFunc 83 args).run (barP Tryz.prog) w = .ok (.enter 83 args) w := by kernel_rfl
@[simp] theorem Bar.call85 (args : Array Value) (w : World) : (callFunc 85 args).run (barP Tryz.prog) w = .ok (.enter 85 args) w := by kernel_rfl
@[simp] theorem Bar.call86 (args : Array Value) (w : World) : (callFunc 86 args).run (barP Tryz.prog) w = .ok (.enter 86 args) w := by kernel_rfl
@[simp] theorem Bar.call87 (args : Array Value) (w : World) : (callFunc 87 args).run (barP Tryz.prog) w = .ok (.enter 87 args) w := by kernel_rfl
@[simp] theorem Bar.call88 (args : Array Value) (w : World) : (callFunc 88 args).run (barP Tryz.prog) w = .ok (.enter 88 args) w := by kernel_rfl
@[simp] theorem Bar.call89 (args : Array Value) (w : World) : (callFunc 89 args).run (barP Tryz.prog) w = .ok (.enter 89 args) w := by kernel_rfl
@[simp] theorem Bar.call90 (args : Array Value) (w : World) : (callFunc 90 args).run (barP Tryz.prog) w = .ok (.enter 90 args) w := by kernel_rfl
@[simp] theorem Bar.call93 (args : Array Value) (w : World) : (callFunc 93 args).run (barP Tryz.prog) w = .ok (.enter 93 args) w := by kernel_rfl
@[simp] theorem Bar.call94 (args : Array Value) (w : World) : (callFunc 94 args).run (barP Tryz.prog) w = .ok (.enter 94 args) w := by kernel_rfl
@[simp] theorem Bar.call95 (args : Array Value) (w : World) : (callFunc 95 args).run (barP Tryz.prog) w = .ok (.enter 95 args) w := by kernel_rfl
@[simp] theorem Bar.call96 (args : Array Value) (w : World) : (callFunc 96 args).run (barP Tryz.prog) w = .ok (.enter 96 args) w := by kernel_rfl
@[simp] theorem Bar.call97 (args : Array Value) (w : World) : (callFunc 97 args).run (barP Tryz.prog) w = .ok (.enter 97 args) w := by kernel_rfl
@[simp] theorem Bar.call98 (args : Array Value) (w : World) : (callFunc 98 args).run (barP Tryz.prog) w = .ok (.enter 98 args) w := by kernel_rfl
@[simp] theorem Bar.call99 (args : Array Value) (w : World) : (callFunc 99 args).run (barP Tryz.prog) w = .ok (.enter 99 args) w := by kernel_rfl
@[simp] theorem Bar.call100 (args : Array Value) (w : World) : (callFunc 100 args).run (barP Tryz.prog) w = .ok (.enter 100 args) w := by kernel_rfl
@[simp] theorem Bar.call101 (args : Array Value) (w : World) : (callFunc 101 args).run (barP Tryz.prog) w = .ok (.enter 101 args) w := by kernel_rfl
@[simp] theorem Bar.call102 (args : Array Value) (w : World) : (callFunc 102 args).run (barP Tryz.prog) w = .ok (.enter 102 args) w := by kernel_rfl
@[simp] theorem Bar.call103 (args : Array Value) (w : World) : (callFunc 103 args).run (barP Tryz.prog) w = .ok (.enter 103 args) w := by kernel_rfl
@[simp] theorem Bar.call104 (args : Array Value) (w : World) : (callFunc 104 args).run (barP Tryz.prog) w = .ok (.enter 104 args) w := by kernel_rfl
@[simp] theorem Bar.call106 (args : Array Value) (w : World) : (callFunc 106 args).run (barP Tryz.prog) w = .ok (.enter 106 args) w := by kernel_rfl
theorem Bar.ntmps2 : Go.Proofs.Tryz.f2.ntmps = 1 := by kernel_rfl
theorem Bar.ntmps3 : Go.Proofs.Tryz.f3.ntmps = 181 := by kernel_rfl
theorem Bar.ntmps4 : Go.Proofs.Tryz.f4.ntmps = 50 := by kernel_rfl
theorem Bar.ntmps5 : Go.Proofs.Tryz.f5.ntmps = 36 := by kernel_rfl
theorem Bar.ntmps6 : Go.Proofs.Tryz.f6.ntmps = 70 := by kernel_rfl
theorem Bar.ntmps7 : Go.Proofs.Tryz.f7.ntmps = 16 := by kernel_rfl
theorem Bar.ntmps8 : Go.Proofs.Tryz.f8.ntmps = 52 := by kernel_rfl
theorem Bar.ntmps9 : Go.Proofs.Tryz.f9.ntmps = 6 := by kernel_rfl
theorem Bar.ntmps10 : Go.Proofs.Tryz.f10.ntmps = 27 := by kernel_rfl
theorem Bar.ntmps12 : Go.Proofs.Tryz.f12.ntmps = 36 := by kernel_rfl
theorem Bar.ntmps13 : Go.Proofs.Tryz.f13.ntmps = 8 := by kernel_rfl
theorem Bar.ntmps14 : Go.Proofs.Tryz.f14.ntmps = 55 := by kernel_rfl
theorem Bar.ntmps15 : Go.Proofs.Tryz.f15.ntmps = 30 := by kernel_rfl
theorem Bar.ntmps16 : Go.Proofs.Tryz.f16.ntmps = 40 := by kernel_rfl
theorem Bar.ntmps17 : Go.Proofs.Tryz.f17.ntmps = 31 := by kernel_rfl
theorem Bar.ntmps18 : Go.Proofs.Tryz.f18.ntmps = 20 := by kernel_rfl
theorem Bar.ntmps19 : Go.Proofs.Tryz.f19.ntmps = 9 := by kernel_rfl
theorem Bar.ntmps20 : Go.Proofs.Tryz.f20.ntmps = 4 := by kernel_rfl
theorem Bar.ntmps21 : Go.Proofs.Tryz.f21.ntmps = 10 := by kernel_rfl
theorem Bar.ntmps25 : Go.Proofs.Tryz.f25.ntmps = 39 := by kernel_rfl
theorem Bar.ntmps27 : Go.Proofs.Tryz.f27.ntmps = 48 := by kernel_rfl
theorem Bar.ntmps28 : Go.Proofs.Tryz.f28.ntmps = 67 := by kernel_rfl
theorem Bar.ntmps29 : Go.Proofs.Tryz.f29.ntmps = 8 := by kernel_rfl
theorem Bar.ntmps30 : Go.Proofs.Tryz.f30.ntmps = 13 := by kernel_rfl
theorem Bar.ntmps31 : Go.Proofs.Tryz.f31.ntmps = 6 := by kernel_rfl
theorem Bar.ntmps32 : Go.Proofs.Tryz.f32.ntmps = 28 := by kernel_rfl
theorem Bar.ntmps33 : Go.Proofs.Tryz.f33.ntmps = 8 := by kernel_rfl
theorem Bar.ntmps34 : Go.Proofs.Tryz.f34.ntmps = 11 := by kernel_rfl
theorem Bar.ntmps35 : Go.Proofs.Tryz.f35.ntmps = 9 := by kernel_rfl
theorem Bar.ntmps36 : Go.Proofs.Tryz.f36.ntmps = 5 := by kernel_rfl
theorem Bar.ntmps37 : Go.Proofs.Tryz.f37.ntmps = 56 := by kernel_rfl
theorem Bar.ntmps38 : Go.Proofs.Tryz.f38.ntmps = 19 := by kernel_rfl
theorem Bar.ntmps39 : Go.Proofs.Tryz.f39.ntmps = 2 := by kernel_rfl
theorem Bar.ntmps46 : Go.Proofs.Tryz.f46.ntmps = 10 := by kernel_rfl
theorem Bar.ntmps47 : Go.Proofs.Tryz.f47.ntmps = 10 := by kernel_rfl
theorem Bar.ntmps49 : Go.Proofs.Tryz.f49.ntmps = 7 := by kernel_rfl
theorem Bar.ntmps50 : Go.Proofs.Tryz.f50.ntmps = 9 := by kernel_rfl
theorem Bar.ntmps53 : Go.Proofs.Tryz.f53.ntmps = 16 := by kernel_rfl
theorem Bar.ntmps54 : Go.Proofs.Tryz.f54.ntmps = 6 := by kernel_rfl
theorem Bar.ntmps57 : Go.Proofs.Tryz.f57.ntmps = 13 := by kernel_rfl
theorem Bar.ntmps60 : Go.Proofs.Tryz.f60.ntmps = 37 := by kernel_rfl
theorem Bar.ntmps61 : Go.Proofs.Tryz.f61.ntmps = 25 := by kernel_rfl
theorem Bar.ntmps62 : Go.Proofs.Tryz.f62.ntmps = 20 := by kernel_rfl
theorem Bar.ntmps63 : Go.Proofs.Tryz.f63.ntmps = 35 := by kernel_rfl
theorem Bar.ntmps64 : Go.Proofs.Tryz.f64.ntmps = 40 := by kernel_rfl
theorem Bar.ntmps65 : Go.Proofs.Tryz.f65.ntmps = 20 := by kernel_rfl
theorem Bar.ntmps66 : Go.Proofs.Tryz.f66.ntmps = 8 := by kernel_rfl
theorem Bar.ntmps67 : Go.Proofs.Tryz.f67.ntmps = 11 := by kernel_rfl
theorem Bar.ntmps68 : Go.Proofs.Tryz.f68.ntmps = 2 := by kernel_rfl
theorem Bar.ntmps69 : Go.Proofs.Tryz.f69.ntmps = 7 := by kernel_rfl
theorem Bar.ntmps70 : Go.Proofs.Tryz.f70.ntmps = 8 := by kernel_rfl
theorem Bar.ntmps71 : Go.Proofs.Tryz.f71.ntmps = 14 := by kernel_rfl
theorem Bar.ntmps72 : Go.Proofs.Tryz.f72.ntmps = 7 := by kernel_rfl
theorem Bar.ntmps73 : Go.Proofs.Tryz.f73.ntmps = 11 := by kernel_rfl
theorem Bar.ntmps74 : Go.Proofs.Tryz.f74.ntmps = 15 := by kernel_rfl
theorem Bar.ntmps75 : Go.Proofs.Tryz.f75.ntmps = 10 := by kernel_rfl
theorem Bar.ntmps76 : Go.Proofs.Tryz.f76.ntmps = 12 := by kernel_rfl
theorem Bar.ntmps81 : Go.Proofs.Tryz.f81.ntmps = 10 := by kernel_rfl
theorem Bar.ntmps82 : Go.Proofs.Tryz.f82.ntmps = 18 := by kernel_rfl
theorem Bar.ntmps83 : Go.Proofs.Tryz.f83.ntmps = 43 := by kernel_rfl
theorem Bar.ntmps85 : Go.Proofs.Tryz.f85.ntmps = 9 := by kernel_rfl
theorem Bar.ntmps86 : Go.Proofs.Tryz.f86.ntmps = 20 := by kernel_rfl
theorem Bar.ntmps87 : Go.Proofs.Tryz.f87.ntmps = 4 := by kernel_rfl
theorem Bar.ntmps88 : Go.Proofs.Tryz.f88.ntmps = 21 := by kernel_rfl
theorem Bar.ntmps89 : Go.Proofs.Tryz.f89.ntmps = 12 := by kernel_rfl
theorem Bar.ntmps90 : Go.Proofs.Tryz.f90.ntmps = 11 := by kernel_rfl
theorem Bar.ntmps91 : Go.Proofs.Tryz.f91.ntmps = 1 := by kernel_rfl
theorem Bar.ntmps92 : Go.Proofs.Tryz.f92.ntmps = 1 := by kernel_rfl
theorem Bar.ntmps93 : Go.Proofs.Tryz.f93.ntmps = 6 := by kernel_rfl
theorem Bar.ntmps94 : Go.Proofs.Tryz.f94.ntmps = 63 := by kernel_rfl
theorem Bar.ntmps95 : Go.Proofs.Tryz.f95.ntmps = 27 := by kernel_rfl
theorem Bar.ntmps96 : Go.Proofs.Tryz.f96.ntmps = 9 := by kernel_rfl
theorem Bar.ntmps97 : Go.Proofs.Tryz.f97.ntmps = 31 := by kernel_rfl
theorem Bar.ntmps98 : Go.Proofs.Tryz.f98.ntmps = 28 := by kernel_rfl
theorem Bar.ntmps99 : Go.Proofs.Tryz.f99.ntmps = 15 := by kernel_rfl
theorem Bar.ntmps100 : Go.Proofs.Tryz.f100.ntmps = 10 := by kernel_rfl
theorem Bar.ntmps101 : Go.Proofs.Tryz.f101.ntmps = 13 := by kernel_rfl
theorem Bar.ntmps102 : Go.Proofs.Tryz.f102.ntmps = 8 := by kernel_rfl
theorem Bar.ntmps103 : Go.Proofs.Tryz.f103.ntmps = 7 := by kernel_rfl
theorem Bar.ntmps104 : Go.Proofs.Tryz.f104.ntmps = 7 := by kernel_rfl
theorem Bar.ntmps105 : Go.Proofs.Tryz.f105.ntmps = 1 := by kernel_rfl
theorem Bar.ntmps106 : Go.Proofs.Tryz.f106.ntmps = 26 := by kernel_rfl
theorem Bar.params2 : Go.Proofs.Tryz.f2.params = #[] := by kernel_rfl
theorem Bar.params3 : Go.Proofs.Tryz.f3.params = #[22, 22, 23] := by kernel_rfl
theorem Bar.params4 : Go.Proofs.Tryz.f4.params = #[] := by kernel_rfl
theorem Bar.params5 : Go.Proofs.Tryz.f5.params = #[27, 23, 3] := by kernel_rfl
theorem Bar.params6 : Go.Proofs.Tryz.f6.params = #[27, 31, 3, 3] := by kernel_rfl
theorem Bar.params7 : Go.Proofs.Tryz.f7.params = #[27, 31] := by kernel_rfl
theorem Bar.params8 : Go.Proofs.Tryz.f8.params = #[31] := by kernel_rfl
theorem Bar.params9 : Go.Proofs.Tryz.f9.params = #[27] := by kernel_rfl
theorem Bar.params10 : Go.Proofs.Tryz.f10.params = #[23] := by kernel_rfl
theorem Bar.params12 : Go.Proofs.Tryz.f12.params = #[27, 31] := by kernel_rfl
theorem Bar.params13 : Go.Proofs.Tryz.f13.params = #[25] := by kernel_rfl
theorem Bar.params14 : Go.Proofs.Tryz.f14.params = #[27, 31] := by kernel_rfl
theorem Bar.params15 : Go.Proofs.Tryz.f15.params = #[31] := by kernel_rfl
theorem Bar.params16 : Go.Proofs.Tryz.f16.params = #[27, 31, 3] := by kernel_rfl
theorem Bar.params17 : Go.Proofs.Tryz.f17.params = #[27] := by kernel_rfl
theorem Bar.params18 : Go.Proofs.Tryz.f18.params = #[38] := by kernel_rfl
theorem Bar.params19 : Go.Proofs.Tryz.f19.params = #[23, 38] := by kernel_rfl
theorem Bar.params20 : Go.Proofs.Tryz.f20.params = #[] := by kernel_rfl
theorem Bar.params21 : Go.Proofs.Tryz.f21.params = #[92, 2] := by kernel_rfl
theorem Bar.params25 : Go.Proofs.Tryz.f25.params = #[27, 38] := by kernel_rfl
theorem Bar.params27 : Go.Proofs.Tryz.f27.params = #[3, 31, 79, 79] := by kernel_rfl
theorem Bar.params28 : Go.Proofs.Tryz.f28.params = #[27, 38, 3] := by kernel_rfl
theorem Bar.params29 : Go.Proofs.Tryz.f29.params = #[28, 28] := by kernel_rfl
theorem Bar.params30 : Go.Proofs.Tryz.f30.params = #[28] := by kernel_rfl
theorem Bar.params31 : Go.Proofs.Tryz.f31.params = #[29] := by kernel_rfl
theorem Bar.params32 : Go.Proofs.Tryz.f32.params = #[3, 31] := by kernel_rfl
theorem Bar.params33 : Go.Proofs.Tryz.f33.params = #[28, 28] := by kernel_rfl
theorem Bar.params34 : Go.Proofs.Tryz.f34.params = #[28, 3] := by kernel_rfl
theorem Bar.params35 : Go.Proofs.Tryz.f35.params = #[3] := by kernel_rfl
theorem Bar.params36 : Go.Proofs.Tryz.f36.params = #[28] := by kernel_rfl
theorem Bar.params37 : Go.Proofs.Tryz.f37.params = #[3, 3] := by kernel_rfl
theorem Bar.params38 : Go.Proofs.Tryz.f38.params = #[23, 38] := by kernel_rfl
theorem Bar.params39 : Go.Proofs.Tryz.f39.params = #[94, 2] := by kernel_rfl
theorem Bar.params46 : Go.Proofs.Tryz.f46.params = #[133, 68] := by kernel_rfl
theorem Bar.params47 : Go.Proofs.Tryz.f47.params = #[133, 68] := by kernel_rfl
theorem Bar.params49 : Go.Proofs.Tryz.f49.params = #[133] := by kernel_rfl
theorem Bar.params50 : Go.Proofs.Tryz.f50.params = #[133, 68] := by kernel_rfl
theorem Bar.params53 : Go.Proofs.Tryz.f53.params = #[3, 38] := by kernel_rfl
theorem Bar.params54 : Go.Proofs.Tryz.f54.params = #[3, 38] := by kernel_rfl
theorem Bar.params57 : Go.Proofs.Tryz.f57.params = #[133, 68, 68] := by kernel_rfl
theorem Bar.params60 : Go.Proofs.Tryz.f60.params = #[3, 31] := by kernel_rfl
theorem Bar.params61 : Go.Proofs.Tryz.f61.params = #[3, 79] := by kernel_rfl
theorem Bar.params62 : Go.Proofs.Tryz.f62.params = #[119, 122] := by kernel_rfl
theorem Bar.params63 : Go.Proofs.Tryz.f63.params = #[3, 31] := by kernel_rfl
theorem Bar.params64 : Go.Proofs.Tryz.f64.params = #[3, 38, 3, 3] := by kernel_rfl
theorem Bar.params65 : Go.Proofs.Tryz.f65.params = #[28, 28, 125] := by kernel_rfl
theorem Bar.params66 : Go.Proofs.Tryz.f66.params = #[29, 29] := by kernel_rfl
theorem Bar.params67 : Go.Proofs.Tryz.f67.params = #[28] := by kernel_rfl
theorem Bar.params68 : Go.Proofs.Tryz.f68.params = #[] := by kernel_rfl
theorem Bar.params69 : Go.Proofs.Tryz.f69.params = #[29] := by kernel_rfl
theorem Bar.params70 : Go.Proofs.Tryz.f70.params = #[29, 29] := by kernel_rfl
theorem Bar.params71 : Go.Proofs.Tryz.f71.params = #[28, 127] := by kernel_rfl
theorem Bar.params72 : Go.Proofs.Tryz.f72.params = #[29] := by kernel_rfl
theorem Bar.params73 : Go.Proofs.Tryz.f73.params = #[29, 3] := by kernel_rfl
theorem Bar.params74 : Go.Proofs.Tryz.f74.params = #[28, 3] := by kernel_rfl
theorem Bar.params75 : Go.Proofs.Tryz.f75.params = #[3] := by kernel_rfl
theorem Bar.params76 : Go.Proofs.Tryz.f76.params = #[102, 102] := by kernel_rfl
theorem Bar.params81 : Go.Proofs.Tryz.f81.params = #[3, 38] := by kernel_rfl
theorem Bar.params82 : Go.Proofs.Tryz.f82.params = #[3, 38] := by kernel_rfl
theorem Bar.params83 : Go.Proofs.Tryz.f83.params = #[140] := by kernel_rfl
theorem Bar.params85 : Go.Proofs.Tryz.f85.params = #[3] := by kernel_rfl
theorem Bar.params86 : Go.Proofs.Tryz.f86.params = #[122] := by kernel_rfl
theorem Bar.params87 : Go.Proofs.Tryz.f87.params = #[122] := by kernel_rfl
theorem Bar.params88 : Go.Proofs.Tryz.f88.params = #[119, 79] := by kernel_rfl
theorem Bar.params89 : Go.Proofs.Tryz.f89.params = #[3, 3] := by kernel_rfl
theorem Bar.params90 : Go.Proofs.Tryz.f90.params = #[3, 38] := by kernel_rfl
theorem Bar.params91 : Go.Proofs.Tryz.f91.params = #[68] := by kernel_rfl
theorem Bar.params92 : Go.Proofs.Tryz.f92.params = #[29] := by kernel_rfl
theorem Bar.params93 : Go.Proofs.Tryz.f93.params = #[29, 3] := by kernel_rfl
theorem Bar.params94 : Go.Proofs.Tryz.f94.params = #[29, 3] := by kernel_rfl
theorem Bar.params95 : Go.Proofs.Tryz.f95.params = #[29, 3] := by kernel_rfl
theorem Bar.params96 : Go.Proofs.Tryz.f96.params = #[3] := by kernel_rfl
theorem Bar.params97 : Go.Proofs.Tryz.f97.params = #[151] := by kernel_rfl
theorem Bar.params98 : Go.Proofs.Tryz.f98.params = #[147, 79] := by kernel_rfl
theorem Bar.params99 : Go.Proofs.Tryz.f99.params = #[29, 3] := by kernel_rfl
theorem Bar.params100 : Go.Proofs.Tryz.f100.params = #[29] := by kernel_rfl
theorem Bar.params101 : Go.Proofs.Tryz.f101.params = #[29, 29] := by kernel_rfl
theorem Bar.params102 : Go.Proofs.Tryz.f102.params = #[3] := by kernel_rfl
theorem Bar.params103 : Go.Proofs.Tryz.f103.params = #[29] := by kernel_rfl
theorem Bar.params104 : Go.Proofs.Tryz.f104.params = #[29] := by kernel_rfl
theorem Bar.params105 : Go.Proofs.Tryz.f105.params = #[29] := by kernel_rfl
theorem Bar.params106 : Go.Proofs.Tryz.f106.params = #[29] := by kernel_rfl
@[simp] theorem Bar.stoodInHeld7 : (barP Tryz.prog).stoodInHeld 7 = Bool.false := by kernel_rfl
@[simp] theorem Bar.stoodInHeld8 : (barP Tryz.prog).stoodInHeld 8 = Bool.false := by kernel_rfl
@[simp] theorem Bar.stoodInHeld13 : (barP Tryz.prog).stoodInHeld 13 = Bool.true := by kernel_rfl
@[simp] theorem Bar.stoodInHeld14 : (barP Tryz.prog).stoodInHeld 14 = Bool.true := by kernel_rfl
@[simp] theorem Bar.stoodInHeld18 : (barP Tryz.prog).stoodInHeld 18 = Bool.true := by kernel_rfl
@[simp] theorem Bar.stoodInHeld19 : (barP Tryz.prog).stoodInHeld 19 = Bool.true := by kernel_rfl
@[simp] theorem Bar.stoodInHeld26 : (barP Tryz.prog).stoodInHeld 26 = Bool.false := by kernel_rfl
@[simp] theorem Bar.stoodInHeld27 : (barP Tryz.prog).stoodInHeld 27 = Bool.false := by kernel_rfl
@[simp] theorem Bar.stoodInHeld32 : (barP Tryz.prog).stoodInHeld 32 = Bool.false := by kernel_rfl
@[simp] theorem Bar.stoodInHeld33 : (barP Tryz.prog).stoodInHeld 33 = Bool.false := by kernel_rfl
@[simp] theorem Bar.stoodInHeld37 : (barP Tryz.prog).stoodInHeld 37 = Bool.false := by kernel_rfl
@[simp] theorem Bar.stoodInHeld38 : (barP Tryz.prog).stoodInHeld 38 = Bool.false := by kernel_rfl
@[simp] theorem Bar.stoodInHeld39 : (barP Tryz.prog).stoodInHeld 39 = Bool.false := by kernel_rfl
@[simp] theorem Bar.stoodInHeld40 : (barP Tryz.prog).stoodInHeld 40 = Bool.false := by kernel_rfl
@[simp] theorem Bar.stoodInHeld42 : (barP Tryz.prog).stoodInHeld 42 = Bool.false := by kernel_rfl
@[simp] theorem Bar.stoodInHeld43 : (barP Tryz.prog).stoodInHeld 43 = Bool.false := by kernel_rfl
@[simp] theorem Bar.stoodInHeld60 : (barP Tryz.prog).stoodInHeld 60 = Bool.false := by kernel_rfl
@[simp] theorem Bar.stoodInHeld61 : (barP Tryz.prog).stoodInHeld 61 = Bool.false := by kernel_rfl
@[simp] theorem Bar.stoodInHeld62 : (barP Tryz.prog).stoodInHeld 62 = Bool.false := by kernel_rfl
@[simp] theorem Bar.stoodInHeld63 : (barP Tryz.prog).stoodInHeld 63 = Bool.false := by kernel_rfl
@[simp] theorem Bar.stoodInHeld64 : (barP Tryz.prog).stoodInHeld 64 = Bool.false := by kernel_rfl
@[simp] theorem Bar.stoodInHeld67 : (barP Tryz.prog).stoodInHeld 67 = Bool.false := by kernel_rfl
@[simp] theorem Bar.stoodInHeld69 : (barP Tryz.prog).stoodInHeld 69 = Bool.false := by kernel_rfl
@[simp] theorem Bar.stoodInHeld70 : (barP Tryz.prog).stoodInHeld 70 = Bool.false := by kernel_rfl
@[simp] theorem Bar.stoodInHeld72 : (barP Tryz.prog).stoodInHeld 72 = Bool.false := by kernel_rfl
@[simp] theorem Bar.stoodInHeld73 : (barP Tryz.prog).stoodInHeld 73 = Bool.false := by kernel_rfl
@[simp] theorem Bar.stoodInHeld78 : (barP Tryz.prog).stoodInHeld 78 = Bool.false := by kernel_rfl
@[simp] theorem Bar.stoodInHeld79 : (barP Tryz.prog).stoodInHeld 79 = Bool.false := by kernel_rfl
@[simp] theorem Bar.stoodInHeld121 : (barP Tryz.prog).stoodInHeld 121 = Bool.false := by kernel_rfl
@[simp] theorem Bar.stoodInHeld122 : (barP Tryz.prog).stoodInHeld 122 = Bool.false := by kernel_rfl
@[simp] theorem Bar.stoodInHeld146 : (barP Tryz.prog).stoodInHeld 146 = Bool.false := by kernel_rfl
@[simp] theorem Bar.stoodInHeld147 : (barP Tryz.prog).stoodInHeld 147 = Bool.false := by kernel_rfl
@[simp] theorem Bar.stoodInHeld157 : (barP Tryz.prog).stoodInHeld 157 = Bool.true := by kernel_rfl
@[simp] theorem Bar.stoodInHeld158 : (barP Tryz.prog).stoodInHeld 158 = Bool.true := by kernel_rfl
@[simp] theorem Bar.stoodInHeld160 : (barP Tryz.prog).stoodInHeld 160 = Bool.true := by kernel_rfl
@[simp] theorem Bar.stoodInHeld161 : (barP Tryz.prog).stoodInHeld 161 = Bool.true := by kernel_rfl
@[simp] theorem Bar.stoodInHeld168 : (barP Tryz.prog).stoodInHeld 168 = Bool.true := by kernel_rfl
@[simp] theorem Bar.stoodInHeld169 : (barP Tryz.prog).stoodInHeld 169 = Bool.true := by kernel_rfl
theorem Bar.underlying0 : (barP Tryz.prog).underlying 0 = Option.some (Go.TypeDesc.tuple #[]) := (under_bar _).trans Tryz.underlying0
theorem Bar.underlying1 : (barP Tryz.prog).underlying 1 = Option.some (Go.TypeDesc.func #[] #[] Bool.false) := (under_bar _).trans Tryz.underlying1
theorem Bar.underlying2 : (barP Tryz.prog).underlying 2 = Option.some (Go.TypeDesc.int Go.IntKind.i64) := (under_bar _).trans Tryz.underlying2
theorem Bar.underlying3 : (barP Tryz.prog).underlying 3 = Option.some (Go.TypeDesc.int Go.IntKind.i64) := (under_bar _).trans Tryz.underlying3
theorem Bar.underlying4 : (barP Tryz.prog).underlying 4 = Option.some Go.TypeDesc.bool := (under_bar _).trans Tryz.underlying4
theorem Bar.underlying5 : (barP Tryz.prog).underlying 5 = Option.some (Go.TypeDesc.int Go.IntKind.u8) := (under_bar _).trans Tryz.underlying5
theorem Bar.underlying6 : (barP Tryz.prog).underlying 6 = Option.some (Go.TypeDesc.int Go.IntKind.u8) := (under_bar _).trans Tryz.underlying6
theorem Bar.underlying7 : (barP Tryz.prog).underlying 7 = Option.some (Go.TypeDesc.struct #[{ name := "x", type := 2, offset := 0, embedded := Bool.false, tag := "", pkgPath := "runtime", byteOffset := 0 }, { name := "y", type := 3, offset := 1, embedded := Bool.false, tag := "", pkgPath := "runtime", byteOffset := 8 }, { name := "signed", type := 4, offset := 2, embedded := Bool.false, tag := "", pkgPath := "runtime", byteOffset := 16 }, { name := "code", type := 6, offset := 3, embedded := Bool.false, tag := "", pkgPath := "runtime", byteOffset := 17 }]) := (under_bar _).trans Tryz.underlying7
theorem Bar.underlying8 : (barP Tryz.prog).underlying 8 = Option.some (Go.TypeDesc.struct #[{ name := "x", type := 2, offset := 0, embedded := Bool.false, tag := "", pkgPath := "runtime", byteOffset := 0 }, { name := "y", type := 3, offset := 1, embedded := Bool.false, tag := "", pkgPath := "runtime", byteOffset := 8 }, { name := "signed", type := 4, offset := 2, embedded := Bool.false, tag := "", pkgPath := "runtime", byteOffset := 16 }, { name := "code", type := 6, offset := 3, embedded := Bool.false, tag := "", pkgPath := "runtime", byteOffset := 17 }]) := (under_bar _).trans Tryz.underlying8
theorem Bar.underlying9 : (barP Tryz.prog).underlying 9 = Option.some Go.TypeDesc.string := (under_bar _).trans Tryz.underlying9
theorem Bar.underlying10 : (barP Tryz.prog).underlying 10 = Option.some Go.TypeDesc.string := (under_bar _).trans Tryz.underlying10
theorem Bar.underlying11 : (barP Tryz.prog).underlying 11 = Option.some Go.TypeDesc.string := (under_bar _).trans Tryz.underlying11
theorem Bar.underlying12 : (barP Tryz.prog).underlying 12 = Option.some (Go.TypeDesc.int Go.IntKind.u64) := (under_bar _).trans Tryz.underlying12
theorem Bar.underlying13 : (barP Tryz.prog).underlying 13 = Option.some (Go.TypeDesc.struct #[{ name := "msg", type := 9, offset := 0, embedded := Bool.false, tag := "", pkgPath := "runtime", byteOffset := 0 }, { name := "addr", type := 12, offset := 1, embedded := Bool.false, tag := "", pkgPath := "runtime", byteOffset := 16 }]) := (under_bar _).trans Tryz.underlying13
theorem Bar.underlying14 : (barP Tryz.prog).underlying 14 = Option.some (Go.TypeDesc.struct #[{ name := "msg", type := 9, offset := 0, embedded := Bool.false, tag := "", pkgPath := "runtime", byteOffset := 0 }, { name := "addr", type := 12, offset := 1, embedded := Bool.false, tag := "", pkgPath := "runtime", byteOffset := 16 }]) := (under_bar _).trans Tryz.underlying14
theorem Bar.underlying15 : (barP Tryz.prog).underlying 15 = Option.some (Go.TypeDesc.pointer 158) := (under_bar _).trans Tryz.underlying15
theorem Bar.underlying16 : (barP Tryz.prog).underlying 16 = Option.some (Go.TypeDesc.pointer 161) := (under_bar _).trans Tryz.underlying16
theorem Bar.underlying17 : (barP Tryz.prog).underlying 17 = Option.some (Go.TypeDesc.pointer 169) := (under_bar _).trans Tryz.underlying17
theorem Bar.underlying18 : (barP Tryz.prog).underlying 18 = Option.some (Go.TypeDesc.struct #[{ name := "typ", type := 17, offset := 0, embedded := Bool.false, tag := "", pkgPath := "internal/runtime/maps", byteOffset := 0 }]) := (under_bar _).trans Tryz.underlying18
theorem Bar.underlying19 : (barP Tryz.prog).underlying 19 = Option.some (Go.TypeDesc.struct #[{ name := "typ", type := 17, offset := 0, embedded := Bool.false, tag := "", pkgPath := "internal/runtime/maps", byteOffset := 0 }]) := (under_bar _).trans Tryz.underlying19
theorem Bar.underlying20 : (barP Tryz.prog).underlying 20 = Option.some (Go.TypeDesc.interface #[]) := (under_bar _).trans Tryz.underlying20
theorem Bar.underlying21 : (barP Tryz.prog).underlying 21 = Option.some (Go.TypeDesc.int Go.IntKind.i32) := (under_bar _).trans Tryz.underlying21
theorem Bar.underlying22 : (barP Tryz.prog).underlying 22 = Option.some (Go.TypeDesc.slice 5) := (under_bar _).trans Tryz.underlying22
theorem Bar.underlying23 : (barP Tryz.prog).underlying 23 = Option.some (Go.TypeDesc.slice 38) := (under_bar _).trans Tryz.underlying23
theorem Bar.underlying24 : (barP Tryz.prog).underlying 24 = Option.some (Go.TypeDesc.func #[] #[4] Bool.false) := (under_bar _).trans Tryz.underlying24
theorem Bar.underlying25 : (barP Tryz.prog).underlying 25 = Option.some (Go.TypeDesc.slice 28) := (under_bar _).trans Tryz.underlying25
theorem Bar.underlying26 : (barP Tryz.prog).underlying 26 = Option.some (Go.TypeDesc.struct #[{ name := "N", type := 3, offset := 0, embedded := Bool.false, tag := "", pkgPath := "", byteOffset := 0 }, { name := "Cells", type := 25, offset := 1, embedded := Bool.false, tag := "", pkgPath := "", byteOffset := 8 }]) := (under_bar _).trans Tryz.underlying26
theorem Bar.underlying27 : (barP Tryz.prog).underlying 27 = Option.some (Go.TypeDesc.struct #[{ name := "N", type := 3, offset := 0, embedded := Bool.false, tag := "", pkgPath := "", byteOffset := 0 }, { name := "Cells", type := 25, offset := 1, embedded := Bool.false, tag := "", pkgPath := "", byteOffset := 8 }]) := (under_bar _).trans Tryz.underlying27
theorem Bar.underlying28 : (barP Tryz.prog).underlying 28 = Option.some (Go.TypeDesc.complex Go.FloatKind.f64) := (under_bar _).trans Tryz.underlying28
theorem Bar.underlying29 : (barP Tryz.prog).underlying 29 = Option.some (Go.TypeDesc.float Go.FloatKind.f64) := (under_bar _).trans Tryz.underlying29
theorem Bar.underlying30 : (barP Tryz.prog).underlying 30 = Option.some (Go.TypeDesc.int Go.IntKind.i8) := (under_bar _).trans Tryz.underlying30
theorem Bar.underlying31 : (barP Tryz.prog).underlying 31 = Option.some (Go.TypeDesc.slice 40) := (under_bar _).trans Tryz.underlying31
theorem Bar.underlying32 : (barP Tryz.prog).underlying 32 = Option.some (Go.TypeDesc.struct #[{ name := "N", type := 3, offset := 0, embedded := Bool.false, tag := "", pkgPath := "", byteOffset := 0 }, { name := "Projs", type := 31, offset := 1, embedded := Bool.false, tag := "", pkgPath := "", byteOffset := 8 }]) := (under_bar _).trans Tryz.underlying32
theorem Bar.underlying33 : (barP Tryz.prog).underlying 33 = Option.some (Go.TypeDesc.struct #[{ name := "N", type := 3, offset := 0, embedded := Bool.false, tag := "", pkgPath := "", byteOffset := 0 }, { name := "Projs", type := 31, offset := 1, embedded := Bool.false, tag := "", pkgPath := "", byteOffset := 8 }]) := (under_bar _).trans Tryz.underlying33
theorem Bar.underlying34 : (barP Tryz.prog).underlying 34 = Option.some (Go.TypeDesc.int Go.IntKind.i64) := (under_bar _).trans Tryz.underlying34
theorem Bar.underlying35 : (barP Tryz.prog).underlying 35 = Option.some (Go.TypeDesc.tuple #[33, 34]) := (under_bar _).trans Tryz.underlying35
theorem Bar.underlying36 : (barP Tryz.prog).underlying 36 = Option.some (Go.TypeDesc.func #[27, 23, 3] #[33, 34] Bool.false) := (under_bar _).trans Tryz.underlying36
theorem Bar.underlying37 : (barP Tryz.prog).underlying 37 = Option.some (Go.TypeDesc.struct #[{ name := "P", type := 3, offset := 0, embedded := Bool.false, tag := "", pkgPath := "", byteOffset := 0 }, { name := "Q", type := 3, offset := 1, embedded := Bool.false, tag := "", pkgPath := "", byteOffset := 8 }]) := (under_bar _).trans Tryz.underlying37
theorem Bar.underlying38 : (barP Tryz.prog).underlying 38 = Option.some (Go.TypeDesc.struct #[{ name := "P", type := 3, offset := 0, embedded := Bool.false, tag := "", pkgPath := "", byteOffset := 0 }, { name := "Q", type := 3, offset := 1, embedded := Bool.false, tag := "", pkgPath := "", byteOffset := 8 }]) := (under_bar _).trans Tryz.underlying38
theorem Bar.underlying39 : (barP Tryz.prog).underlying 39 = Option.some (Go.TypeDesc.struct #[{ name := "Dir", type := 38, offset := 0, embedded := Bool.false, tag := "", pkgPath := "", byteOffset := 0 }, { name := "Bins", type := 25, offset := 2, embedded := Bool.false, tag := "", pkgPath := "", byteOffset := 16 }]) := (under_bar _).trans Tryz.underlying39
theorem Bar.underlying40 : (barP Tryz.prog).underlying 40 = Option.some (Go.TypeDesc.struct #[{ name := "Dir", type := 38, offset := 0, embedded := Bool.false, tag := "", pkgPath := "", byteOffset := 0 }, { name := "Bins", type := 25, offset := 2, embedded := Bool.false, tag := "", pkgPath := "", byteOffset := 16 }]) := (under_bar _).trans Tryz.underlying40
theorem Bar.underlying41 : (barP Tryz.prog).underlying 41 = Option.some (Go.TypeDesc.slice 29) := (under_bar _).trans Tryz.underlying41
theorem Bar.underlying42 : (barP Tryz.prog).underlying 42 = Option.some (Go.TypeDesc.struct #[{ name := "Field", type := 27, offset := 0, embedded := Bool.false, tag := "", pkgPath := "", byteOffset := 0 }, { name := "Sizes", type := 41, offset := 2, embedded := Bool.false, tag := "", pkgPath := "", byteOffset := 32 }]) := (under_bar _).trans Tryz.underlying42
theorem Bar.underlying43 : (barP Tryz.prog).underlying 43 = Option.some (Go.TypeDesc.struct #[{ name := "Field", type := 27, offset := 0, embedded := Bool.false, tag := "", pkgPath := "", byteOffset := 0 }, { name := "Sizes", type := 41, offset := 2, embedded := Bool.false, tag := "", pkgPath := "", byteOffset := 32 }]) := (under_bar _).trans Tryz.underlying43
theorem Bar.underlying44 : (barP Tryz.prog).underlying 44 = Option.some (Go.TypeDesc.tuple #[43, 34]) := (under_bar _).trans Tryz.underlying44
theorem Bar.underlying45 : (barP Tryz.prog).underlying 45 = Option.some (Go.TypeDesc.func #[27, 31, 3, 3] #[43, 34] Bool.false) := (under_bar _).trans Tryz.underlying45
theorem Bar.underlying46 : (barP Tryz.prog).underlying 46 = Option.some (Go.TypeDesc.tuple #[31, 34]) := (under_bar _).trans Tryz.underlying46
theorem Bar.underlying47 : (barP Tryz.prog).underlying 47 = Option.some (Go.TypeDesc.func #[27, 31] #[31, 34] Bool.false) := (under_bar _).trans Tryz.underlying47
theorem Bar.underlying48 : (barP Tryz.prog).underlying 48 = Option.some (Go.TypeDesc.func #[31] #[29] Bool.false) := (under_bar _).trans Tryz.underlying48
theorem Bar.underlying49 : (barP Tryz.prog).underlying 49 = Option.some (Go.TypeDesc.func #[22, 22, 23] #[4] Bool.false) := (under_bar _).trans Tryz.underlying49
theorem Bar.underlying50 : (barP Tryz.prog).underlying 50 = Option.some (Go.TypeDesc.func #[27] #[34] Bool.false) := (under_bar _).trans Tryz.underlying50
theorem Bar.underlying51 : (barP Tryz.prog).underlying 51 = Option.some (Go.TypeDesc.func #[23] #[34] Bool.false) := (under_bar _).trans Tryz.underlying51
theorem Bar.underlying52 : (barP Tryz.prog).underlying 52 = Option.some (Go.TypeDesc.func #[27, 23, 3] #[31] Bool.false) := (under_bar _).trans Tryz.underlying52
theorem Bar.underlying53 : (barP Tryz.prog).underlying 53 = Option.some (Go.TypeDesc.func #[27, 31] #[34] Bool.false) := (under_bar _).trans Tryz.underlying53
theorem Bar.underlying54 : (barP Tryz.prog).underlying 54 = Option.some (Go.TypeDesc.func #[25] #[25] Bool.false) := (under_bar _).trans Tryz.underlying54
theorem Bar.underlying55 : (barP Tryz.prog).underlying 55 = Option.some (Go.TypeDesc.func #[27, 31] #[31] Bool.false) := (under_bar _).trans Tryz.underlying55
theorem Bar.underlying56 : (barP Tryz.prog).underlying 56 = Option.some (Go.TypeDesc.func #[27, 31, 3] #[] Bool.false) := (under_bar _).trans Tryz.underlying56
theorem Bar.underlying57 : (barP Tryz.prog).underlying 57 = Option.some (Go.TypeDesc.func #[27] #[4] Bool.false) := (under_bar _).trans Tryz.underlying57
theorem Bar.underlying58 : (barP Tryz.prog).underlying 58 = Option.some (Go.TypeDesc.func #[38] #[34] Bool.false) := (under_bar _).trans Tryz.underlying58
theorem Bar.underlying59 : (barP Tryz.prog).underlying 59 = Option.some (Go.TypeDesc.func #[23, 38] #[4] Bool.false) := (under_bar _).trans Tryz.underlying59
theorem Bar.underlying60 : (barP Tryz.prog).underlying 60 = Option.some (Go.TypeDesc.struct #[]) := (under_bar _).trans Tryz.underlying60
theorem Bar.underlying61 : (barP Tryz.prog).underlying 61 = Option.some (Go.TypeDesc.struct #[]) := (under_bar _).trans Tryz.underlying61
theorem Bar.underlying62 : (barP Tryz.prog).underlying 62 = Option.some (Go.TypeDesc.struct #[]) := (under_bar _).trans Tryz.underlying62
theorem Bar.underlying63 : (barP Tryz.prog).underlying 63 = Option.some (Go.TypeDesc.struct #[{ name := "_", type := 61, offset := 0, embedded := Bool.false, tag := "", pkgPath := "sync/atomic", byteOffset := 0 }, { name := "_", type := 62, offset := 0, embedded := Bool.false, tag := "", pkgPath := "sync/atomic", byteOffset := 0 }, { name := "v", type := 2, offset := 0, embedded := Bool.false, tag := "", pkgPath := "sync/atomic", byteOffset := 0 }]) := (under_bar _).trans Tryz.underlying63
theorem Bar.underlying64 : (barP Tryz.prog).underlying 64 = Option.some (Go.TypeDesc.struct #[{ name := "_", type := 61, offset := 0, embedded := Bool.false, tag := "", pkgPath := "sync/atomic", byteOffset := 0 }, { name := "_", type := 62, offset := 0, embedded := Bool.false, tag := "", pkgPath := "sync/atomic", byteOffset := 0 }, { name := "v", type := 2, offset := 0, embedded := Bool.false, tag := "", pkgPath := "sync/atomic", byteOffset := 0 }]) := (under_bar _).trans Tryz.underlying64
theorem Bar.underlying65 : (barP Tryz.prog).underlying 65 = Option.some (Go.TypeDesc.func #[2] #[2] Bool.false) := (under_bar _).trans Tryz.underlying65
theorem Bar.underlying66 : (barP Tryz.prog).underlying 66 = Option.some (Go.TypeDesc.func #[] #[3] Bool.false) := (under_bar _).trans Tryz.underlying66
theorem Bar.underlying67 : (barP Tryz.prog).underlying 67 = Option.some (Go.TypeDesc.struct #[]) := (under_bar _).trans Tryz.underlying67
theorem Bar.underlying68 : (barP Tryz.prog).underlying 68 = Option.some (Go.TypeDesc.int Go.IntKind.u64) := (under_bar _).trans Tryz.underlying68
theorem Bar.underlying69 : (barP Tryz.prog).underlying 69 = Option.some (Go.TypeDesc.struct #[{ name := "_", type := 61, offset := 0, embedded := Bool.false, tag := "", pkgPath := "sync/atomic", byteOffset := 0 }, { name := "_", type := 62, offset := 0, embedded := Bool.false, tag := "", pkgPath := "sync/atomic", byteOffset := 0 }, { name := "v", type := 68, offset := 0, embedded := Bool.false, tag := "", pkgPath := "sync/atomic", byteOffset := 0 }]) := (under_bar _).trans Tryz.underlying69
theorem Bar.underlying70 : (barP Tryz.prog).underlying 70 = Option.some (Go.TypeDesc.struct #[{ name := "_", type := 61, offset := 0, embedded := Bool.false, tag := "", pkgPath := "sync/atomic", byteOffset := 0 }, { name := "_", type := 62, offset := 0, embedded := Bool.false, tag := "", pkgPath := "sync/atomic", byteOffset := 0 }, { name := "v", type := 68, offset := 0, embedded := Bool.false, tag := "", pkgPath := "sync/atomic", byteOffset := 0 }]) := (under_bar _).trans Tryz.underlying70
theorem Bar.underlying71 : (barP Tryz.prog).underlying 71 = Option.some (Go.TypeDesc.int Go.IntKind.u32) := (under_bar _).trans Tryz.underlying71
theorem Bar.underlying72 : (barP Tryz.prog).underlying 72 = Option.some (Go.TypeDesc.struct #[{ name := "noCopy", type := 67, offset := 0, embedded := Bool.false, tag := "", pkgPath := "sync", byteOffset := 0 }, { name := "state", type := 70, offset := 0, embedded := Bool.false, tag := "", pkgPath := "sync", byteOffset := 0 }, { name := "sema", type := 71, offset := 1, embedded := Bool.false, tag := "", pkgPath := "sync", byteOffset := 8 }]) := (under_bar _).trans Tryz.underlying72
theorem Bar.underlying73 : (barP Tryz.prog).underlying 73 = Option.some (Go.TypeDesc.struct #[{ name := "noCopy", type := 67, offset := 0, embedded := Bool.false, tag := "", pkgPath := "sync", byteOffset := 0 }, { name := "state", type := 70, offset := 0, embedded := Bool.false, tag := "", pkgPath := "sync", byteOffset := 0 }, { name := "sema", type := 71, offset := 1, embedded := Bool.false, tag := "", pkgPath := "sync", byteOffset := 8 }]) := (under_bar _).trans Tryz.underlying73
theorem Bar.underlying74 : (barP Tryz.prog).underlying 74 = Option.some (Go.TypeDesc.func #[3] #[] Bool.false) := (under_bar _).trans Tryz.underlying74
theorem Bar.underlying75 : (barP Tryz.prog).underlying 75 = Option.some (Go.TypeDesc.func #[27, 38] #[40] Bool.false) := (under_bar _).trans Tryz.underlying75
theorem Bar.underlying76 : (barP Tryz.prog).underlying 76 = Option.some (Go.TypeDesc.tuple #[25, 34]) := (under_bar _).trans Tryz.underlying76
theorem Bar.underlying77 : (barP Tryz.prog).underlying 77 = Option.some (Go.TypeDesc.func #[3, 31, 79, 79] #[25, 34] Bool.false) := (under_bar _).trans Tryz.underlying77
theorem Bar.underlying78 : (barP Tryz.prog).underlying 78 = Option.some (Go.TypeDesc.struct #[{ name := "X", type := 3, offset := 0, embedded := Bool.false, tag := "", pkgPath := "", byteOffset := 0 }, { name := "Y", type := 3, offset := 1, embedded := Bool.false, tag := "", pkgPath := "", byteOffset := 8 }]) := (under_bar _).trans Tryz.underlying78
theorem Bar.underlying79 : (barP Tryz.prog).underlying 79 = Option.some (Go.TypeDesc.struct #[{ name := "X", type := 3, offset := 0, embedded := Bool.false, tag := "", pkgPath := "", byteOffset := 0 }, { name := "Y", type := 3, offset := 1, embedded := Bool.false, tag := "", pkgPath := "", byteOffset := 8 }]) := (under_bar _).trans Tryz.underlying79
theorem Bar.underlying80 : (barP Tryz.prog).underlying 80 = Option.some (Go.TypeDesc.func #[27, 38, 3] #[25] Bool.false) := (under_bar _).trans Tryz.underlying80
theorem Bar.underlying81 : (barP Tryz.prog).underlying 81 = Option.some (Go.TypeDesc.func #[28, 28] #[28] Bool.false) := (under_bar _).trans Tryz.underlying81
theorem Bar.underlying82 : (barP Tryz.prog).underlying 82 = Option.some (Go.TypeDesc.func #[28] #[29] Bool.false) := (under_bar _).trans Tryz.underlying82
theorem Bar.underlying83 : (barP Tryz.prog).underlying 83 = Option.some (Go.TypeDesc.func #[29] #[4] Bool.false) := (under_bar _).trans Tryz.underlying83
theorem Bar.underlying84 : (barP Tryz.prog).underlying 84 = Option.some (Go.TypeDesc.tuple #[27, 34]) := (under_bar _).trans Tryz.underlying84
theorem Bar.underlying85 : (barP Tryz.prog).underlying 85 = Option.some (Go.TypeDesc.func #[3, 31] #[27, 34] Bool.false) := (under_bar _).trans Tryz.underlying85
theorem Bar.underlying86 : (barP Tryz.prog).underlying 86 = Option.some (Go.TypeDesc.func #[28, 3] #[28] Bool.false) := (under_bar _).trans Tryz.underlying86
theorem Bar.underlying87 : (barP Tryz.prog).underlying 87 = Option.some (Go.TypeDesc.func #[3] #[4] Bool.false) := (under_bar _).trans Tryz.underlying87
theorem Bar.underlying88 : (barP Tryz.prog).underlying 88 = Option.some (Go.TypeDesc.func #[28] #[4] Bool.false) := (under_bar _).trans Tryz.underlying88
theorem Bar.underlying89 : (barP Tryz.prog).underlying 89 = Option.some (Go.TypeDesc.tuple #[38, 34]) := (under_bar _).trans Tryz.underlying89
theorem Bar.underlying90 : (barP Tryz.prog).underlying 90 = Option.some (Go.TypeDesc.func #[3, 3] #[38, 34] Bool.false) := (under_bar _).trans Tryz.underlying90
theorem Bar.underlying91 : (barP Tryz.prog).underlying 91 = Option.some (Go.TypeDesc.func #[23, 38] #[3] Bool.false) := (under_bar _).trans Tryz.underlying91
theorem Bar.underlying92 : (barP Tryz.prog).underlying 92 = Option.some (Go.TypeDesc.pointer 64) := (under_bar _).trans Tryz.underlying92
theorem Bar.underlying93 : (barP Tryz.prog).underlying 93 = Option.some (Go.TypeDesc.func #[94, 2] #[2] Bool.false) := (under_bar _).trans Tryz.underlying93
theorem Bar.underlying94 : (barP Tryz.prog).underlying 94 = Option.some (Go.TypeDesc.pointer 2) := (under_bar _).trans Tryz.underlying94
theorem Bar.underlying95 : (barP Tryz.prog).underlying 95 = Option.some (Go.TypeDesc.pointer 73) := (under_bar _).trans Tryz.underlying95
theorem Bar.underlying96 : (barP Tryz.prog).underlying 96 = Option.some (Go.TypeDesc.func #[97] #[] Bool.false) := (under_bar _).trans Tryz.underlying96
theorem Bar.underlying97 : (barP Tryz.prog).underlying 97 = Option.some Go.TypeDesc.unsafePointer := (under_bar _).trans Tryz.underlying97
theorem Bar.underlying98 : (barP Tryz.prog).underlying 98 = Option.some (Go.TypeDesc.int Go.IntKind.i64) := (under_bar _).trans Tryz.underlying98
theorem Bar.underlying99 : (barP Tryz.prog).underlying 99 = Option.some (Go.TypeDesc.func #[95] #[98] Bool.false) := (under_bar _).trans Tryz.underlying99
theorem Bar.underlying100 : (barP Tryz.prog).underlying 100 = Option.some (Go.TypeDesc.func #[9] #[] Bool.false) := (under_bar _).trans Tryz.underlying100
theorem Bar.underlying101 : (barP Tryz.prog).underlying 101 = Option.some (Go.TypeDesc.func #[68] #[68] Bool.false) := (under_bar _).trans Tryz.underlying101
theorem Bar.underlying102 : (barP Tryz.prog).underlying 102 = Option.some (Go.TypeDesc.int Go.IntKind.u64) := (under_bar _).trans Tryz.underlying102
theorem Bar.underlying103 : (barP Tryz.prog).underlying 103 = Option.some (Go.TypeDesc.pointer 71) := (under_bar _).trans Tryz.underlying103
theorem Bar.underlying104 : (barP Tryz.prog).underlying 104 = Option.some (Go.TypeDesc.func #[] #[68] Bool.false) := (under_bar _).trans Tryz.underlying104
theorem Bar.underlying105 : (barP Tryz.prog).underlying 105 = Option.some (Go.TypeDesc.func #[68] #[] Bool.false) := (under_bar _).trans Tryz.underlying105
theorem Bar.underlying106 : (barP Tryz.prog).underlying 106 = Option.some (Go.TypeDesc.func #[95] #[] Bool.false) := (under_bar _).trans Tryz.underlying106
theorem Bar.underlying107 : (barP Tryz.prog).underlying 107 = Option.some (Go.TypeDesc.func #[103, 4, 3] #[] Bool.false) := (under_bar _).trans Tryz.underlying107
theorem Bar.underlying108 : (barP Tryz.prog).underlying 108 = Option.some (Go.TypeDesc.tuple #[3, 34]) := (under_bar _).trans Tryz.underlying108
theorem Bar.underlying109 : (barP Tryz.prog).underlying 109 = Option.some (Go.TypeDesc.func #[3, 38] #[3, 34] Bool.false) := (under_bar _).trans Tryz.underlying109
theorem Bar.underlying110 : (barP Tryz.prog).underlying 110 = Option.some (Go.TypeDesc.func #[140] #[] Bool.false) := (under_bar _).trans Tryz.underlying110
theorem Bar.underlying111 : (barP Tryz.prog).underlying 111 = Option.some (Go.TypeDesc.func #[140] #[] Bool.false) := (under_bar _).trans Tryz.underlying111
theorem Bar.underlying112 : (barP Tryz.prog).underlying 112 = Option.some (Go.TypeDesc.func #[3, 38] #[111] Bool.false) := (under_bar _).trans Tryz.underlying112
theorem Bar.underlying113 : (barP Tryz.prog).underlying 113 = Option.some (Go.TypeDesc.func #[95] #[4] Bool.false) := (under_bar _).trans Tryz.underlying113
theorem Bar.underlying114 : (barP Tryz.prog).underlying 114 = Option.some (Go.TypeDesc.func #[68, 68] #[4] Bool.false) := (under_bar _).trans Tryz.underlying114
theorem Bar.underlying115 : (barP Tryz.prog).underlying 115 = Option.some (Go.TypeDesc.func #[103, 4] #[] Bool.false) := (under_bar _).trans Tryz.underlying115
theorem Bar.underlying116 : (barP Tryz.prog).underlying 116 = Option.some (Go.TypeDesc.func #[3, 31] #[34] Bool.false) := (under_bar _).trans Tryz.underlying116
theorem Bar.underlying117 : (barP Tryz.prog).underlying 117 = Option.some (Go.TypeDesc.func #[3, 79] #[4] Bool.false) := (under_bar _).trans Tryz.underlying117
theorem Bar.underlying118 : (barP Tryz.prog).underlying 118 = Option.some (Go.TypeDesc.func #[119, 122] #[25] Bool.false) := (under_bar _).trans Tryz.underlying118
theorem Bar.underlying119 : (barP Tryz.prog).underlying 119 = Option.some (Go.TypeDesc.slice 147) := (under_bar _).trans Tryz.underlying119
theorem Bar.underlying120 : (barP Tryz.prog).underlying 120 = Option.some (Go.TypeDesc.func #[3, 31] #[119] Bool.false) := (under_bar _).trans Tryz.underlying120
theorem Bar.underlying121 : (barP Tryz.prog).underlying 121 = Option.some (Go.TypeDesc.struct #[{ name := "from", type := 79, offset := 0, embedded := Bool.false, tag := "", pkgPath := "penumbra/back", byteOffset := 0 }, { name := "to", type := 79, offset := 2, embedded := Bool.false, tag := "", pkgPath := "penumbra/back", byteOffset := 16 }]) := (under_bar _).trans Tryz.underlying121
theorem Bar.underlying122 : (barP Tryz.prog).underlying 122 = Option.some (Go.TypeDesc.struct #[{ name := "from", type := 79, offset := 0, embedded := Bool.false, tag := "", pkgPath := "penumbra/back", byteOffset := 0 }, { name := "to", type := 79, offset := 2, embedded := Bool.false, tag := "", pkgPath := "penumbra/back", byteOffset := 16 }]) := (under_bar _).trans Tryz.underlying122
theorem Bar.underlying123 : (barP Tryz.prog).underlying 123 = Option.some (Go.TypeDesc.func #[3, 38, 3, 3] #[3, 34] Bool.false) := (under_bar _).trans Tryz.underlying123
theorem Bar.underlying124 : (barP Tryz.prog).underlying 124 = Option.some (Go.TypeDesc.func #[28, 28, 125] #[28] Bool.false) := (under_bar _).trans Tryz.underlying124
theorem Bar.underlying125 : (barP Tryz.prog).underlying 125 = Option.some (Go.TypeDesc.func #[29, 29] #[29] Bool.false) := (under_bar _).trans Tryz.underlying125
theorem Bar.underlying126 : (barP Tryz.prog).underlying 126 = Option.some (Go.TypeDesc.func #[] #[29] Bool.false) := (under_bar _).trans Tryz.underlying126
theorem Bar.underlying127 : (barP Tryz.prog).underlying 127 = Option.some (Go.TypeDesc.func #[29] #[29] Bool.false) := (under_bar _).trans Tryz.underlying127
theorem Bar.underlying128 : (barP Tryz.prog).underlying 128 = Option.some (Go.TypeDesc.func #[28, 127] #[28] Bool.false) := (under_bar _).trans Tryz.underlying128
theorem Bar.underlying129 : (barP Tryz.prog).underlying 129 = Option.some (Go.TypeDesc.func #[29, 3] #[29] Bool.false) := (under_bar _).trans Tryz.underlying129
theorem Bar.underlying130 : (barP Tryz.prog).underlying 130 = Option.some (Go.TypeDesc.func #[28, 3] #[4] Bool.false) := (under_bar _).trans Tryz.underlying130
theorem Bar.underlying131 : (barP Tryz.prog).underlying 131 = Option.some (Go.TypeDesc.func #[3] #[102] Bool.false) := (under_bar _).trans Tryz.underlying131
theorem Bar.underlying132 : (barP Tryz.prog).underlying 132 = Option.some (Go.TypeDesc.func #[102, 102] #[102] Bool.false) := (under_bar _).trans Tryz.underlying132
theorem Bar.underlying133 : (barP Tryz.prog).underlying 133 = Option.some (Go.TypeDesc.pointer 70) := (under_bar _).trans Tryz.underlying133
theorem Bar.underlying134 : (barP Tryz.prog).underlying 134 = Option.some (Go.TypeDesc.func #[135, 68] #[68] Bool.false) := (under_bar _).trans Tryz.underlying134
theorem Bar.underlying135 : (barP Tryz.prog).underlying 135 = Option.some (Go.TypeDesc.pointer 68) := (under_bar _).trans Tryz.underlying135
theorem Bar.underlying136 : (barP Tryz.prog).underlying 136 = Option.some (Go.TypeDesc.func #[135] #[68] Bool.false) := (under_bar _).trans Tryz.underlying136
theorem Bar.underlying137 : (barP Tryz.prog).underlying 137 = Option.some (Go.TypeDesc.func #[135, 68] #[] Bool.false) := (under_bar _).trans Tryz.underlying137
theorem Bar.underlying138 : (barP Tryz.prog).underlying 138 = Option.some (Go.TypeDesc.func #[3, 38] #[34] Bool.false) := (under_bar _).trans Tryz.underlying138
theorem Bar.underlying139 : (barP Tryz.prog).underlying 139 = Option.some (Go.TypeDesc.func #[3, 38] #[3] Bool.false) := (under_bar _).trans Tryz.underlying139
theorem Bar.underlying140 : (barP Tryz.prog).underlying 140 = Option.some (Go.TypeDesc.func #[3, 3] #[4] Bool.false) := (under_bar _).trans Tryz.underlying140
theorem Bar.underlying141 : (barP Tryz.prog).underlying 141 = Option.some (Go.TypeDesc.func #[135, 68, 68] #[4] Bool.false) := (under_bar _).trans Tryz.underlying141
theorem Bar.underlying142 : (barP Tryz.prog).underlying 142 = Option.some (Go.TypeDesc.func #[151] #[] Bool.false) := (under_bar _).trans Tryz.underlying142
theorem Bar.underlying143 : (barP Tryz.prog).underlying 143 = Option.some (Go.TypeDesc.func #[151] #[] Bool.false) := (under_bar _).trans Tryz.underlying143
theorem Bar.underlying144 : (barP Tryz.prog).underlying 144 = Option.some (Go.TypeDesc.func #[] #[143] Bool.false) := (under_bar _).trans Tryz.underlying144
theorem Bar.underlying145 : (barP Tryz.prog).underlying 145 = Option.some (Go.TypeDesc.func #[119, 79] #[28] Bool.false) := (under_bar _).trans Tryz.underlying145
theorem Bar.underlying146 : (barP Tryz.prog).underlying 146 = Option.some (Go.TypeDesc.struct #[{ name := "Proj", type := 40, offset := 0, embedded := Bool.true, tag := "", pkgPath := "", byteOffset := 0 }, { name := "first", type := 3, offset := 3, embedded := Bool.false, tag := "", pkgPath := "penumbra/back", byteOffset := 40 }]) := (under_bar _).trans Tryz.underlying146
theorem Bar.underlying147 : (barP Tryz.prog).underlying 147 = Option.some (Go.TypeDesc.struct #[{ name := "Proj", type := 40, offset := 0, embedded := Bool.true, tag := "", pkgPath := "", byteOffset := 0 }, { name := "first", type := 3, offset := 3, embedded := Bool.false, tag := "", pkgPath := "penumbra/back", byteOffset := 40 }]) := (under_bar _).trans Tryz.underlying147
theorem Bar.underlying148 : (barP Tryz.prog).underlying 148 = Option.some (Go.TypeDesc.func #[68] #[29] Bool.false) := (under_bar _).trans Tryz.underlying148
theorem Bar.underlying149 : (barP Tryz.prog).underlying 149 = Option.some (Go.TypeDesc.func #[29] #[68] Bool.false) := (under_bar _).trans Tryz.underlying149
theorem Bar.underlying150 : (barP Tryz.prog).underlying 150 = Option.some (Go.TypeDesc.func #[29, 3] #[4] Bool.false) := (under_bar _).trans Tryz.underlying150
theorem Bar.underlying151 : (barP Tryz.prog).underlying 151 = Option.some (Go.TypeDesc.func #[79] #[4] Bool.false) := (under_bar _).trans Tryz.underlying151
theorem Bar.underlying152 : (barP Tryz.prog).underlying 152 = Option.some (Go.TypeDesc.func #[79] #[28] Bool.false) := (under_bar _).trans Tryz.underlying152
theorem Bar.underlying153 : (barP Tryz.prog).underlying 153 = Option.some (Go.TypeDesc.tuple #[29, 3]) := (under_bar _).trans Tryz.underlying153
theorem Bar.underlying154 : (barP Tryz.prog).underlying 154 = Option.some (Go.TypeDesc.func #[29] #[29, 3] Bool.false) := (under_bar _).trans Tryz.underlying154
theorem Bar.underlying155 : (barP Tryz.prog).underlying 155 = Option.some (Go.TypeDesc.func #[3] #[29] Bool.false) := (under_bar _).trans Tryz.underlying155
theorem Bar.underlying156 : (barP Tryz.prog).underlying 156 = Option.some (Go.TypeDesc.func #[] #[9] Bool.false) := (under_bar _).trans Tryz.underlying156
theorem Bar.underlying157 : (barP Tryz.prog).underlying 157 = Option.some (Go.TypeDesc.struct #[{ name := "_interface", type := 17, offset := 0, embedded := Bool.false, tag := "", pkgPath := "runtime", byteOffset := 0 }, { name := "concrete", type := 17, offset := 1, embedded := Bool.false, tag := "", pkgPath := "runtime", byteOffset := 8 }, { name := "asserted", type := 17, offset := 2, embedded := Bool.false, tag := "", pkgPath := "runtime", byteOffset := 16 }, { name := "missingMethod", type := 9, offset := 3, embedded := Bool.false, tag := "", pkgPath := "runtime", byteOffset := 24 }]) := (under_bar _).trans Tryz.underlying157
theorem Bar.underlying158 : (barP Tryz.prog).underlying 158 = Option.some (Go.TypeDesc.struct #[{ name := "_interface", type := 17, offset := 0, embedded := Bool.false, tag := "", pkgPath := "runtime", byteOffset := 0 }, { name := "concrete", type := 17, offset := 1, embedded := Bool.false, tag := "", pkgPath := "runtime", byteOffset := 8 }, { name := "asserted", type := 17, offset := 2, embedded := Bool.false, tag := "", pkgPath := "runtime", byteOffset := 16 }, { name := "missingMethod", type := 9, offset := 3, embedded := Bool.false, tag := "", pkgPath := "runtime", byteOffset := 24 }]) := (under_bar _).trans Tryz.underlying158
theorem Bar.underlying159 : (barP Tryz.prog).underlying 159 = Option.some (Go.TypeDesc.array 0 16) := (under_bar _).trans Tryz.underlying159
theorem Bar.underlying160 : (barP Tryz.prog).underlying 160 = Option.some (Go.TypeDesc.struct #[{ name := "_", type := 159, offset := 0, embedded := Bool.false, tag := "", pkgPath := "runtime", byteOffset := 0 }]) := (under_bar _).trans Tryz.underlying160
theorem Bar.underlying161 : (barP Tryz.prog).underlying 161 = Option.some (Go.TypeDesc.struct #[{ name := "_", type := 159, offset := 0, embedded := Bool.false, tag := "", pkgPath := "runtime", byteOffset := 0 }]) := (under_bar _).trans Tryz.underlying161
theorem Bar.underlying162 : (barP Tryz.prog).underlying 162 = Option.some (Go.TypeDesc.int Go.IntKind.u8) := (under_bar _).trans Tryz.underlying162
theorem Bar.underlying163 : (barP Tryz.prog).underlying 163 = Option.some (Go.TypeDesc.int Go.IntKind.u8) := (under_bar _).trans Tryz.underlying163
theorem Bar.underlying164 : (barP Tryz.prog).underlying 164 = Option.some (Go.TypeDesc.func #[97, 97] #[4] Bool.false) := (under_bar _).trans Tryz.underlying164
theorem Bar.underlying165 : (barP Tryz.prog).underlying 165 = Option.some (Go.TypeDesc.pointer 5) := (under_bar _).trans Tryz.underlying165
theorem Bar.underlying166 : (barP Tryz.prog).underlying 166 = Option.some (Go.TypeDesc.int Go.IntKind.i32) := (under_bar _).trans Tryz.underlying166
theorem Bar.underlying167 : (barP Tryz.prog).underlying 167 = Option.some (Go.TypeDesc.int Go.IntKind.i32) := (under_bar _).trans Tryz.underlying167
theorem Bar.underlying168 : (barP Tryz.prog).underlying 168 = Option.some (Go.TypeDesc.struct #[{ name := "Size_", type := 12, offset := 0, embedded := Bool.false, tag := "", pkgPath := "", byteOffset := 0 }, { name := "PtrBytes", type := 12, offset := 1, embedded := Bool.false, tag := "", pkgPath := "", byteOffset := 8 }, { name := "Hash", type := 71, offset := 2, embedded := Bool.false, tag := "", pkgPath := "", byteOffset := 16 }, { name := "TFlag", type := 162, offset := 3, embedded := Bool.false, tag := "", pkgPath := "", byteOffset := 20 }, { name := "Align_", type := 5, offset := 4, embedded := Bool.false, tag := "", pkgPath := "", byteOffset := 21 }, { name := "FieldAlign_", type := 5, offset := 5, embedded := Bool.false, tag := "", pkgPath := "", byteOffset := 22 }, { name := "Kind_", type := 163, offset := 6, embedded := Bool.false, tag := "", pkgPath := "", byteOffset := 23 }, { name := "Equal", type := 164, offset := 7, embedded := Bool.false, tag := "", pkgPath := "", byteOffset := 24 }, { name := "GCData", type := 165, offset := 8, embedded := Bool.false, tag := "", pkgPath := "", byteOffset := 32 }, { name := "Str", type := 166, offset := 9, embedded := Bool.false, tag := "", pkgPath := "", byteOffset := 40 }, { name := "PtrToThis", type := 167, offset := 10, embedded := Bool.false, tag := "", pkgPath := "", byteOffset := 44 }]) := (under_bar _).trans Tryz.underlying168
theorem Bar.underlying169 : (barP Tryz.prog).underlying 169 = Option.some (Go.TypeDesc.struct #[{ name := "Size_", type := 12, offset := 0, embedded := Bool.false, tag := "", pkgPath := "", byteOffset := 0 }, { name := "PtrBytes", type := 12, offset := 1, embedded := Bool.false, tag := "", pkgPath := "", byteOffset := 8 }, { name := "Hash", type := 71, offset := 2, embedded := Bool.false, tag := "", pkgPath := "", byteOffset := 16 }, { name := "TFlag", type := 162, offset := 3, embedded := Bool.false, tag := "", pkgPath := "", byteOffset := 20 }, { name := "Align_", type := 5, offset := 4, embedded := Bool.false, tag := "", pkgPath := "", byteOffset := 21 }, { name := "FieldAlign_", type := 5, offset := 5, embedded := Bool.false, tag := "", pkgPath := "", byteOffset := 22 }, { name := "Kind_", type := 163, offset := 6, embedded := Bool.false, tag := "", pkgPath := "", byteOffset := 23 }, { name := "Equal", type := 164, offset := 7, embedded := Bool.false, tag := "", pkgPath := "", byteOffset := 24 }, { name := "GCData", type := 165, offset := 8, embedded := Bool.false, tag := "", pkgPath := "", byteOffset := 32 }, { name := "Str", type := 166, offset := 9, embedded := Bool.false, tag := "", pkgPath := "", byteOffset := 40 }, { name := "PtrToThis", type := 167, offset := 10, embedded := Bool.false, tag := "", pkgPath := "", byteOffset := 44 }]) := (under_bar _).trans Tryz.underlying169
theorem Bar.underlying170 : (barP Tryz.prog).underlying 170 = Option.some (Go.TypeDesc.func #[] #[2] Bool.false) := (under_bar _).trans Tryz.underlying170
end Go.Proofs.YtfnbcpeipoobkaaGreat
