/- The barred program. (Laid by program: sp.py.) -/
import Derived.Test.YthbghcebcahlnaaM13
import Derived.Test.YthbghcebcahlnaaChecked
import Derived.KernelRfl
set_option linter.unusedSectionVars false
namespace Go.Proofs.Ythbghcebcahlnaa
open Go

/-- Which functions are barred. -/
def barMask : List Bool := [true, true, false, false, false, false, false, false, false, false, false, false, false, false, false, true, false, false, false, false, false, false, false, false, false, false, false, true, true, true, false, true, false, false, false, false, false, false, false, false, false, false, false, true, true, true, true, true, true, false, false, true, false, false, true, true, false, true, true, false, true, true, false, false, false, false, false, false, false, false, false, false, false, false, false, false, false, true, true, true, true, false, false, true, false, false, false, false, false, false, false, false, false, false, false, false, false, false, true, true, true, true, true, true, true, true, true, true, true, true, true, true, true, true, true]
/-- The functions, some of them barred. -/
def barL (P : Program) : List Func := barMask.zipWith (fun b f => if b then stub f else f) P.funcs.toList
def barF (P : Program) : Array Func := (barL P).toArray
/-- The barred program. -/
def barP (P : Program) : Program := bar P (barF P)
theorem Bar.prog_eq : barP Try.prog = bar Try.prog (barF Try.prog) := rfl
theorem Bar.same : bar Try.prog (barF Try.prog) = barP Try.prog := rfl
theorem Bar.again : bar (barP Try.prog) (barF Try.prog) = barP Try.prog := rfl
theorem Bar.list_eq : barL Try.prog = [stub Try.f0, stub Try.f1, Try.f2, Try.f3, Try.f4, Try.f5, Try.f6, Try.f7, Try.f8, Try.f9, Try.f10, Try.f11, Try.f12, Try.f13, Try.f14, stub Try.f15, Try.f16, Try.f17, Try.f18, Try.f19, Try.f20, Try.f21, Try.f22, Try.f23, Try.f24, Try.f25, Try.f26, stub Try.f27, stub Try.f28, stub Try.f29, Try.f30, stub Try.f31, Try.f32, Try.f33, Try.f34, Try.f35, Try.f36, Try.f37, Try.f38, Try.f39, Try.f40, Try.f41, Try.f42, stub Try.f43, stub Try.f44, stub Try.f45, stub Try.f46, stub Try.f47, stub Try.f48, Try.f49, Try.f50, stub Try.f51, Try.f52, Try.f53, stub Try.f54, stub Try.f55, Try.f56, stub Try.f57, stub Try.f58, Try.f59, stub Try.f60, stub Try.f61, Try.f62, Try.f63, Try.f64, Try.f65, Try.f66, Try.f67, Try.f68, Try.f69, Try.f70, Try.f71, Try.f72, Try.f73, Try.f74, Try.f75, Try.f76, stub Try.f77, stub Try.f78, stub Try.f79, stub Try.f80, Try.f81, Try.f82, stub Try.f83, Try.f84, Try.f85, Try.f86, Try.f87, Try.f88, Try.f89, Try.f90, Try.f91, Try.f92, Try.f93, Try.f94, Try.f95, Try.f96, Try.f97, stub Try.f98, stub Try.f99, stub Try.f100, stub Try.f101, stub Try.f102, stub Try.f103, stub Try.f104, stub Try.f105, stub Try.f106, stub Try.f107, stub Try.f108, stub Try.f109, stub Try.f110, stub Try.f111, stub Try.f112, stub Try.f113, stub Try.f114] := by kernel_rfl
theorem Bar.plain_eq : Try.prog.funcs.toList = [Try.f0, Try.f1, Try.f2, Try.f3, Try.f4, Try.f5, Try.f6, Try.f7, Try.f8, Try.f9, Try.f10, Try.f11, Try.f12, Try.f13, Try.f14, Try.f15, Try.f16, Try.f17, Try.f18, Try.f19, Try.f20, Try.f21, Try.f22, Try.f23, Try.f24, Try.f25, Try.f26, Try.f27, Try.f28, Try.f29, Try.f30, Try.f31, Try.f32, Try.f33, Try.f34, Try.f35, Try.f36, Try.f37, Try.f38, Try.f39, Try.f40, Try.f41, Try.f42, Try.f43, Try.f44, Try.f45, Try.f46, Try.f47, Try.f48, Try.f49, Try.f50, Try.f51, Try.f52, Try.f53, Try.f54, Try.f55, Try.f56, Try.f57, Try.f58, Try.f59, Try.f60, Try.f61, Try.f62, Try.f63, Try.f64, Try.f65, Try.f66, Try.f67, Try.f68, Try.f69, Try.f70, Try.f71, Try.f72, Try.f73, Try.f74, Try.f75, Try.f76, Try.f77, Try.f78, Try.f79, Try.f80, Try.f81, Try.f82, Try.f83, Try.f84, Try.f85, Try.f86, Try.f87, Try.f88, Try.f89, Try.f90, Try.f91, Try.f92, Try.f93, Try.f94, Try.f95, Try.f96, Try.f97, Try.f98, Try.f99, Try.f100, Try.f101, Try.f102, Try.f103, Try.f104, Try.f105, Try.f106, Try.f107, Try.f108, Try.f109, Try.f110, Try.f111, Try.f112, Try.f113, Try.f114] := by kernel_rfl
@[simp] theorem Bar.types_ : (barP Try.prog).types = Try.prog.types := types_bar
@[simp] theorem Bar.globals_ : (barP Try.prog).globals = Try.prog.globals := globals_bar
@[simp] theorem Bar.main_ : (barP Try.prog).main = Try.prog.main := main_bar
@[simp] theorem Bar.inits_ : (barP Try.prog).inits = Try.prog.inits := inits_bar
@[simp] theorem Bar.depth_ : (barP Try.prog).depth = Try.prog.depth := depth_bar
@[simp] theorem Bar.rt_ : (barP Try.prog).rt = { Try.prog.rt with panicNilError := Try.prog.types.size } := rt_bar
@[simp] theorem Bar.underlying_ (t : TypeId) : (barP Try.prog).underlying t = Try.prog.underlying t := under_bar t
@[simp] theorem Bar.cellsOf_ (t : TypeId) : (barP Try.prog).cellsOf t = Try.prog.cellsOf t := cells_bar t
@[simp] theorem Bar.bytesOf_ (t : TypeId) : (barP Try.prog).bytesOf t = Try.prog.bytesOf t := bytes_bar t
@[simp] theorem Bar.info_ (t : TypeId) : (barP Try.prog).info? t = Try.prog.info? t := info_bar t
@[simp] theorem Bar.typeInfo_ (t : TypeId) (w : World) : (typeInfo t).run (barP Try.prog) w = (typeInfo t).run Try.prog w := typeInfo_bar t w
@[simp] theorem Bar.runUnderlying_ (t : TypeId) (w : World) : (underlying t).run (barP Try.prog) w = (underlying t).run Try.prog w := runUnderlying_bar t w
@[simp] theorem Bar.sizeOf_ (t : TypeId) (w : World) : (sizeOf t).run (barP Try.prog) w = (sizeOf t).run Try.prog w := sizeOf_bar t w
@[simp] theorem Bar.isAgg_ (t : TypeId) (w : World) : (isAgg t).run (barP Try.prog) w = (isAgg t).run Try.prog w := isAgg_bar t w
@[simp] theorem Bar.zeroValue_ (t : TypeId) (w : World) : (zeroValue t).run (barP Try.prog) w = (zeroValue t).run Try.prog w := zeroValue_bar t w
@[simp] theorem Bar.eqGuardType_ (d : Nat) (t : TypeId) : (barP Try.prog).eqGuardType d t = Try.prog.eqGuardType d t := eqGuardType_bar d t
@[simp] theorem Bar.func2 : (barP Try.prog).funcs[2]? = some Try.f2 := by kernel_rfl
@[simp] theorem Bar.func3 : (barP Try.prog).funcs[3]? = some Try.f3 := by kernel_rfl
@[simp] theorem Bar.func4 : (barP Try.prog).funcs[4]? = some Try.f4 := by kernel_rfl
@[simp] theorem Bar.func5 : (barP Try.prog).funcs[5]? = some Try.f5 := by kernel_rfl
@[simp] theorem Bar.func6 : (barP Try.prog).funcs[6]? = some Try.f6 := by kernel_rfl
@[simp] theorem Bar.func7 : (barP Try.prog).funcs[7]? = some Try.f7 := by kernel_rfl
@[simp] theorem Bar.func8 : (barP Try.prog).funcs[8]? = some Try.f8 := by kernel_rfl
@[simp] theorem Bar.func9 : (barP Try.prog).funcs[9]? = some Try.f9 := by kernel_rfl
@[simp] theorem Bar.func10 : (barP Try.prog).funcs[10]? = some Try.f10 := by kernel_rfl
@[simp] theorem Bar.func11 : (barP Try.prog).funcs[11]? = some Try.f11 := by kernel_rfl
@[simp] theorem Bar.func12 : (barP Try.prog).funcs[12]? = some Try.f12 := by kernel_rfl
@[simp] theorem Bar.func13 : (barP Try.prog).funcs[13]? = some Try.f13 := by kernel_rfl
@[simp] theorem Bar.func14 : (barP Try.prog).funcs[14]? = some Try.f14 := by kernel_rfl
@[simp] theorem Bar.func16 : (barP Try.prog).funcs[16]? = some Try.f16 := by kernel_rfl
@[simp] theorem Bar.func17 : (barP Try.prog).funcs[17]? = some Try.f17 := by kernel_rfl
@[simp] theorem Bar.func18 : (barP Try.prog).funcs[18]? = some Try.f18 := by kernel_rfl
@[simp] theorem Bar.func19 : (barP Try.prog).funcs[19]? = some Try.f19 := by kernel_rfl
@[simp] theorem Bar.func20 : (barP Try.prog).funcs[20]? = some Try.f20 := by kernel_rfl
@[simp] theorem Bar.func21 : (barP Try.prog).funcs[21]? = some Try.f21 := by kernel_rfl
@[simp] theorem Bar.func22 : (barP Try.prog).funcs[22]? = some Try.f22 := by kernel_rfl
@[simp] theorem Bar.func23 : (barP Try.prog).funcs[23]? = some Try.f23 := by kernel_rfl
@[simp] theorem Bar.func24 : (barP Try.prog).funcs[24]? = some Try.f24 := by kernel_rfl
@[simp] theorem Bar.func25 : (barP Try.prog).funcs[25]? = some Try.f25 := by kernel_rfl
@[simp] theorem Bar.func26 : (barP Try.prog).funcs[26]? = some Try.f26 := by kernel_rfl
@[simp] theorem Bar.func30 : (barP Try.prog).funcs[30]? = some Try.f30 := by kernel_rfl
@[simp] theorem Bar.func32 : (barP Try.prog).funcs[32]? = some Try.f32 := by kernel_rfl
@[simp] theorem Bar.func33 : (barP Try.prog).funcs[33]? = some Try.f33 := by kernel_rfl
@[simp] theorem Bar.func34 : (barP Try.prog).funcs[34]? = some Try.f34 := by kernel_rfl
@[simp] theorem Bar.func35 : (barP Try.prog).funcs[35]? = some Try.f35 := by kernel_rfl
@[simp] theorem Bar.func36 : (barP Try.prog).funcs[36]? = some Try.f36 := by kernel_rfl
@[simp] theorem Bar.func37 : (barP Try.prog).funcs[37]? = some Try.f37 := by kernel_rfl
@[simp] theorem Bar.func38 : (barP Try.prog).funcs[38]? = some Try.f38 := by kernel_rfl
@[simp] theorem Bar.func39 : (barP Try.prog).funcs[39]? = some Try.f39 := by kernel_rfl
@[simp] theorem Bar.func40 : (barP Try.prog).funcs[40]? = some Try.f40 := by kernel_rfl
@[simp] theorem Bar.func41 : (barP Try.prog).funcs[41]? = some Try.f41 := by kernel_rfl
@[simp] theorem Bar.func42 : (barP Try.prog).funcs[42]? = some Try.f42 := by kernel_rfl
@[simp] theorem Bar.func49 : (barP Try.prog).funcs[49]? = some Try.f49 := by kernel_rfl
@[simp] theorem Bar.func50 : (barP Try.prog).funcs[50]? = some Try.f50 := by kernel_rfl
@[simp] theorem Bar.func52 : (barP Try.prog).funcs[52]? = some Try.f52 := by kernel_rfl
@[simp] theorem Bar.func53 : (barP Try.prog).funcs[53]? = some Try.f53 := by kernel_rfl
@[simp] theorem Bar.func56 : (barP Try.prog).funcs[56]? = some Try.f56 := by kernel_rfl
@[simp] theorem Bar.func59 : (barP Try.prog).funcs[59]? = some Try.f59 := by kernel_rfl
@[simp] theorem Bar.func62 : (barP Try.prog).funcs[62]? = some Try.f62 := by kernel_rfl
@[simp] theorem Bar.func63 : (barP Try.prog).funcs[63]? = some Try.f63 := by kernel_rfl
@[simp] theorem Bar.func64 : (barP Try.prog).funcs[64]? = some Try.f64 := by kernel_rfl
@[simp] theorem Bar.func65 : (barP Try.prog).funcs[65]? = some Try.f65 := by kernel_rfl
@[simp] theorem Bar.func66 : (barP Try.prog).funcs[66]? = some Try.f66 := by kernel_rfl
@[simp] theorem Bar.func67 : (barP Try.prog).funcs[67]? = some Try.f67 := by kernel_rfl
@[simp] theorem Bar.func68 : (barP Try.prog).funcs[68]? = some Try.f68 := by kernel_rfl
@[simp] theorem Bar.func69 : (barP Try.prog).funcs[69]? = some Try.f69 := by kernel_rfl
@[simp] theorem Bar.func70 : (barP Try.prog).funcs[70]? = some Try.f70 := by kernel_rfl
@[simp] theorem Bar.func71 : (barP Try.prog).funcs[71]? = some Try.f71 := by kernel_rfl
@[simp] theorem Bar.func72 : (barP Try.prog).funcs[72]? = some Try.f72 := by kernel_rfl
@[simp] theorem Bar.func73 : (barP Try.prog).funcs[73]? = some Try.f73 := by kernel_rfl
@[simp] theorem Bar.func74 : (barP Try.prog).funcs[74]? = some Try.f74 := by kernel_rfl
@[simp] theorem Bar.func75 : (barP Try.prog).funcs[75]? = some Try.f75 := by kernel_rfl
@[simp] theorem Bar.func76 : (barP Try.prog).funcs[76]? = some Try.f76 := by kernel_rfl
@[simp] theorem Bar.func81 : (barP Try.prog).funcs[81]? = some Try.f81 := by kernel_rfl
@[simp] theorem Bar.func82 : (barP Try.prog).funcs[82]? = some Try.f82 := by kernel_rfl
@[simp] theorem Bar.func84 : (barP Try.prog).funcs[84]? = some Try.f84 := by kernel_rfl
@[simp] theorem Bar.func85 : (barP Try.prog).funcs[85]? = some Try.f85 := by kernel_rfl
@[simp] theorem Bar.func86 : (barP Try.prog).funcs[86]? = some Try.f86 := by kernel_rfl
@[simp] theorem Bar.func87 : (barP Try.prog).funcs[87]? = some Try.f87 := by kernel_rfl
@[simp] theorem Bar.func88 : (barP Try.prog).funcs[88]? = some Try.f88 := by kernel_rfl
@[simp] theorem Bar.func89 : (barP Try.prog).funcs[89]? = some Try.f89 := by kernel_rfl
@[simp] theorem Bar.func90 : (barP Try.prog).funcs[90]? = some Try.f90 := by kernel_rfl
@[simp] theorem Bar.func91 : (barP Try.prog).funcs[91]? = some Try.f91 := by kernel_rfl
@[simp] theorem Bar.func92 : (barP Try.prog).funcs[92]? = some Try.f92 := by kernel_rfl
@[simp] theorem Bar.func93 : (barP Try.prog).funcs[93]? = some Try.f93 := by kernel_rfl
@[simp] theorem Bar.func94 : (barP Try.prog).funcs[94]? = some Try.f94 := by kernel_rfl
@[simp] theorem Bar.func95 : (barP Try.prog).funcs[95]? = some Try.f95 := by kernel_rfl
@[simp] theorem Bar.func96 : (barP Try.prog).funcs[96]? = some Try.f96 := by kernel_rfl
@[simp] theorem Bar.func97 : (barP Try.prog).funcs[97]? = some Try.f97 := by kernel_rfl
@[simp] theorem Bar.call2 (args : Array Value) (w : World) : (callFunc 2 args).run (barP Try.prog) w = .ok (.enter 2 args) w := by kernel_rfl
@[simp] theorem Bar.call3 (args : Array Value) (w : World) : (callFunc 3 args).run (barP Try.prog) w = .ok (.enter 3 args) w := by kernel_rfl
@[simp] theorem Bar.call4 (args : Array Value) (w : World) : (callFunc 4 args).run (barP Try.prog) w = .ok (.enter 4 args) w := by kernel_rfl
@[simp] theorem Bar.call5 (args : Array Value) (w : World) : (callFunc 5 args).run (barP Try.prog) w = .ok (.enter 5 args) w := by kernel_rfl
@[simp] theorem Bar.call6 (args : Array Value) (w : World) : (callFunc 6 args).run (barP Try.prog) w = .ok (.enter 6 args) w := by kernel_rfl
@[simp] theorem Bar.call7 (args : Array Value) (w : World) : (callFunc 7 args).run (barP Try.prog) w = .ok (.enter 7 args) w := by kernel_rfl
@[simp] theorem Bar.call8 (args : Array Value) (w : World) : (callFunc 8 args).run (barP Try.prog) w = .ok (.enter 8 args) w := by kernel_rfl
@[simp] theorem Bar.call9 (args : Array Value) (w : World) : (callFunc 9 args).run (barP Try.prog) w = .ok (.enter 9 args) w := by kernel_rfl
@[simp] theorem Bar.call10 (args : Array Value) (w : World) : (callFunc 10 args).run (barP Try.prog) w = .ok (.enter 10 args) w := by kernel_rfl
@[simp] theorem Bar.call11 (args : Array Value) (w : World) : (callFunc 11 args).run (barP Try.prog) w = .ok (.enter 11 args) w := by kernel_rfl
@[simp] theorem Bar.call12 (args : Array Value) (w : World) : (callFunc 12 args).run (barP Try.prog) w = .ok (.enter 12 args) w := by kernel_rfl
@[simp] theorem Bar.call13 (args : Array Value) (w : World) : (callFunc 13 args).run (barP Try.prog) w = .ok (.enter 13 args) w := by kernel_rfl
@[simp] theorem Bar.call14 (args : Array Value) (w : World) : (callFunc 14 args).run (barP Try.prog) w = .ok (.enter 14 args) w := by kernel_rfl
@[simp] theorem Bar.call16 (args : Array Value) (w : World) : (callFunc 16 args).run (barP Try.prog) w = .ok (.enter 16 args) w := by kernel_rfl
@[simp] theorem Bar.call17 (args : Array Value) (w : World) : (callFunc 17 args).run (barP Try.prog) w = .ok (.enter 17 args) w := by kernel_rfl
@[simp] theorem Bar.call18 (args : Array Value) (w : World) : (callFunc 18 args).run (barP Try.prog) w = .ok (.enter 18 args) w := by kernel_rfl
@[simp] theorem Bar.call19 (args : Array Value) (w : World) : (callFunc 19 args).run (barP Try.prog) w = .ok (.enter 19 args) w := by kernel_rfl
@[simp] theorem Bar.call20 (args : Array Value) (w : World) : (callFunc 20 args).run (barP Try.prog) w = .ok (.enter 20 args) w := by kernel_rfl
@[simp] theorem Bar.call21 (args : Array Value) (w : World) : (callFunc 21 args).run (barP Try.prog) w = .ok (.enter 21 args) w := by kernel_rfl
@[simp] theorem Bar.call22 (args : Array Value) (w : World) : (callFunc 22 args).run (barP Try.prog) w = .ok (.enter 22 args) w := by kernel_rfl
@[simp] theorem Bar.call23 (args : Array Value) (w : World) : (callFunc 23 args).run (barP Try.prog) w = .ok (.enter 23 args) w := by kernel_rfl
@[simp] theorem Bar.call24 (args : Array Value) (w : World) : (callFunc 24 args).run (barP Try.prog) w = .ok (.enter 24 args) w := by kernel_rfl
@[simp] theorem Bar.call25 (args : Array Value) (w : World) : (callFunc 25 args).run (barP Try.prog) w = .ok (.enter 25 args) w := by kernel_rfl
@[simp] theorem Bar.call26 (args : Array Value) (w : World) : (callFunc 26 args).run (barP Try.prog) w = .ok (.enter 26 args) w := by kernel_rfl
@[simp] theorem Bar.call30 (args : Array Value) (w : World) : (callFunc 30 args).run (barP Try.prog) w = .ok (.enter 30 args) w := by kernel_rfl
@[simp] theorem Bar.call32 (args : Array Value) (w : World) : (callFunc 32 args).run (barP Try.prog) w = .ok (.enter 32 args) w := by kernel_rfl
@[simp] theorem Bar.call33 (args : Array Value) (w : World) : (callFunc 33 args).run (barP Try.prog) w = .ok (.enter 33 args) w := by kernel_rfl
@[simp] theorem Bar.call34 (args : Array Value) (w : World) : (callFunc 34 args).run (barP Try.prog) w = .ok (.enter 34 args) w := by kernel_rfl
@[simp] theorem Bar.call35 (args : Array Value) (w : World) : (callFunc 35 args).run (barP Try.prog) w = .ok (.enter 35 args) w := by kernel_rfl
@[simp] theorem Bar.call36 (args : Array Value) (w : World) : (callFunc 36 args).run (barP Try.prog) w = .ok (.enter 36 args) w := by kernel_rfl
@[simp] theorem Bar.call37 (args : Array Value) (w : World) : (callFunc 37 args).run (barP Try.prog) w = .ok (.enter 37 args) w := by kernel_rfl
@[simp] theorem Bar.call38 (args : Array Value) (w : World) : (callFunc 38 args).run (barP Try.prog) w = .ok (.enter 38 args) w := by kernel_rfl
@[simp] theorem Bar.call39 (args : Array Value) (w : World) : (callFunc 39 args).run (barP Try.prog) w = .ok (.enter 39 args) w := by kernel_rfl
@[simp] theorem Bar.call40 (args : Array Value) (w : World) : (callFunc 40 args).run (barP Try.prog) w = .ok (.enter 40 args) w := by kernel_rfl
@[simp] theorem Bar.call41 (args : Array Value) (w : World) : (callFunc 41 args).run (barP Try.prog) w = .ok (.enter 41 args) w := by kernel_rfl
@[simp] theorem Bar.call49 (args : Array Value) (w : World) : (callFunc 49 args).run (barP Try.prog) w = .ok (.enter 49 args) w := by kernel_rfl
@[simp] theorem Bar.call50 (args : Array Value) (w : World) : (callFunc 50 args).run (barP Try.prog) w = .ok (.enter 50 args) w := by kernel_rfl
@[simp] theorem Bar.call52 (args : Array Value) (w : World) : (callFunc 52 args).run (barP Try.prog) w = .ok (.enter 52 args) w := by kernel_rfl
@[simp] theorem Bar.call53 (args : Array Value) (w : World) : (callFunc 53 args).run (barP Try.prog) w = .ok (.enter 53 args) w := by kernel_rfl
@[simp] theorem Bar.call56 (args : Array Value) (w : World) : (callFunc 56 args).run (barP Try.prog) w = .ok (.enter 56 args) w := by kernel_rfl
@[simp] theorem Bar.call59 (args : Array Value) (w : World) : (callFunc 59 args).run (barP Try.prog) w = .ok (.enter 59 args) w := by kernel_rfl
@[simp] theorem Bar.call62 (args : Array Value) (w : World) : (callFunc 62 args).run (barP Try.prog) w = .ok (.enter 62 args) w := by kernel_rfl
@[simp] theorem Bar.call63 (args : Array Value) (w : World) : (callFunc 63 args).run (barP Try.prog) w = .ok (.enter 63 args) w := by kernel_rfl
@[simp] theorem Bar.call64 (args : Array Value) (w : World) : (callFunc 64 args).run (barP Try.prog) w = .ok (.enter 64 args) w := by kernel_rfl
@[simp] theorem Bar.call65 (args : Array Value) (w : World) : (callFunc 65 args).run (barP Try.prog) w = .ok (.enter 65 args) w := by kernel_rfl
@[simp] theorem Bar.call66 (args : Array Value) (w : World) : (callFunc 66 args).run (barP Try.prog) w = .ok (.enter 66 args) w := by kernel_rfl
@[simp] theorem Bar.call67 (args : Array Value) (w : World) : (callFunc 67 args).run (barP Try.prog) w = .ok (.enter 67 args) w := by kernel_rfl
@[simp] theorem Bar.call68 (args : Array Value) (w : World) : (callFunc 68 args).run (barP Try.prog) w = .ok (.enter 68 args) w := by kernel_rfl
@[simp] theorem Bar.call69 (args : Array Value) (w : World) : (callFunc 69 args).run (barP Try.prog) w = .ok (.enter 69 args) w := by kernel_rfl
@[simp] theorem Bar.call70 (args : Array Value) (w : World) : (callFunc 70 args).run (barP Try.prog) w = .ok (.enter 70 args) w := by kernel_rfl
@[simp] theorem Bar.call71 (args : Array Value) (w : World) : (callFunc 71 args).run (barP Try.prog) w = .ok (.enter 71 args) w := by kernel_rfl
@[simp] theorem Bar.call72 (args : Array Value) (w : World) : (callFunc 72 args).run (barP Try.prog) w = .ok (.enter 72 args) w := by kernel_rfl
@[simp] theorem Bar.call73 (args : Array Value) (w : World) : (callFunc 73 args).run (barP Try.prog) w = .ok (.enter 73 args) w := by kernel_rfl
@[simp] theorem Bar.call74 (args : Array Value) (w : World) : (callFunc 74 args).run (barP Try.prog) w = .ok (.enter 74 args) w := by kernel_rfl
@[simp] theorem Bar.call75 (args : Array Value) (w : World) : (callFunc 75 args).run (barP Try.prog) w = .ok (.enter 75 args) w := by kernel_rfl
@[simp] theorem Bar.call76 (args : Array Value) (w : World) : (callFunc 76 args).run (barP Try.prog) w = .ok (.enter 76 args) w := by kernel_rfl
@[simp] theorem Bar.call81 (args : Array Value) (w : World) : (callFunc 81 args).run (barP Try.prog) w = .ok (.enter 81 args) w := by kernel_rfl
@[simp] theorem Bar.call82 (args : Array Value) (w : World) : (callFunc 82 args).run (barP Try.prog) w = .ok (.enter 82 args) w := by kernel_rfl
@[simp] theorem Bar.call84 (args : Array Value) (w : World) : (callFunc 84 args).run (barP Try.prog) w = .ok (.enter 84 args) w := by kernel_rfl
@[simp] theorem Bar.call85 (args : Array Value) (w : World) : (callFunc 85 args).run (barP Try.prog) w = .ok (.enter 85 args) w := by kernel_rfl
@[simp] theorem Bar.call86 (args : Array Value) (w : World) : (callFunc 86 args).run (barP Try.prog) w = .ok (.enter 86 args) w := by kernel_rfl
@[simp] theorem Bar.call87 (args : Array Value) (w : World) : (callFunc 87 args).run (barP Try.prog) w = .ok (.enter 87 args) w := by kernel_rfl
@[simp] theorem Bar.call88 (args : Array Value) (w : World) : (callFunc 88 args).run (barP Try.prog) w = .ok (.enter 88 args) w := by kernel_rfl
@[simp] theorem Bar.call89 (args : Array Value) (w : World) : (callFunc 89 args).run (barP Try.prog) w = .ok (.enter 89 args) w := by kernel_rfl
@[simp] theorem Bar.call90 (args : Array Value) (w : World) : (callFunc 90 args).run (barP Try.prog) w = .ok (.enter 90 args) w := by kernel_rfl
@[simp] theorem Bar.call91 (args : Array Value) (w : World) : (callFunc 91 args).run (barP Try.prog) w = .ok (.enter 91 args) w := by kernel_rfl
@[simp] theorem Bar.call92 (args : Array Value) (w : World) : (callFunc 92 args).run (barP Try.prog) w = .ok (.enter 92 args) w := by kernel_rfl
@[simp] theorem Bar.call96 (args : Array Value) (w : World) : (callFunc 96 args).run (barP Try.prog) w = .ok (.enter 96 args) w := by kernel_rfl
@[simp] theorem Bar.call97 (args : Array Value) (w : World) : (callFunc 97 args).run (barP Try.prog) w = .ok (.enter 97 args) w := by kernel_rfl
theorem Bar.ntmps2 : Go.Proofs.Try.f2.ntmps = 1 := by kernel_rfl
theorem Bar.ntmps3 : Go.Proofs.Try.f3.ntmps = 142 := by kernel_rfl
theorem Bar.ntmps4 : Go.Proofs.Try.f4.ntmps = 183 := by kernel_rfl
theorem Bar.ntmps5 : Go.Proofs.Try.f5.ntmps = 62 := by kernel_rfl
theorem Bar.ntmps6 : Go.Proofs.Try.f6.ntmps = 50 := by kernel_rfl
theorem Bar.ntmps7 : Go.Proofs.Try.f7.ntmps = 36 := by kernel_rfl
theorem Bar.ntmps8 : Go.Proofs.Try.f8.ntmps = 17 := by kernel_rfl
theorem Bar.ntmps9 : Go.Proofs.Try.f9.ntmps = 38 := by kernel_rfl
theorem Bar.ntmps10 : Go.Proofs.Try.f10.ntmps = 55 := by kernel_rfl
theorem Bar.ntmps11 : Go.Proofs.Try.f11.ntmps = 28 := by kernel_rfl
theorem Bar.ntmps12 : Go.Proofs.Try.f12.ntmps = 26 := by kernel_rfl
theorem Bar.ntmps13 : Go.Proofs.Try.f13.ntmps = 6 := by kernel_rfl
theorem Bar.ntmps14 : Go.Proofs.Try.f14.ntmps = 27 := by kernel_rfl
theorem Bar.ntmps16 : Go.Proofs.Try.f16.ntmps = 9 := by kernel_rfl
theorem Bar.ntmps17 : Go.Proofs.Try.f17.ntmps = 48 := by kernel_rfl
theorem Bar.ntmps18 : Go.Proofs.Try.f18.ntmps = 57 := by kernel_rfl
theorem Bar.ntmps19 : Go.Proofs.Try.f19.ntmps = 8 := by kernel_rfl
theorem Bar.ntmps20 : Go.Proofs.Try.f20.ntmps = 42 := by kernel_rfl
theorem Bar.ntmps21 : Go.Proofs.Try.f21.ntmps = 69 := by kernel_rfl
theorem Bar.ntmps22 : Go.Proofs.Try.f22.ntmps = 31 := by kernel_rfl
theorem Bar.ntmps23 : Go.Proofs.Try.f23.ntmps = 20 := by kernel_rfl
theorem Bar.ntmps24 : Go.Proofs.Try.f24.ntmps = 9 := by kernel_rfl
theorem Bar.ntmps25 : Go.Proofs.Try.f25.ntmps = 4 := by kernel_rfl
theorem Bar.ntmps26 : Go.Proofs.Try.f26.ntmps = 10 := by kernel_rfl
theorem Bar.ntmps30 : Go.Proofs.Try.f30.ntmps = 39 := by kernel_rfl
theorem Bar.ntmps32 : Go.Proofs.Try.f32.ntmps = 30 := by kernel_rfl
theorem Bar.ntmps33 : Go.Proofs.Try.f33.ntmps = 22 := by kernel_rfl
theorem Bar.ntmps34 : Go.Proofs.Try.f34.ntmps = 16 := by kernel_rfl
theorem Bar.ntmps35 : Go.Proofs.Try.f35.ntmps = 6 := by kernel_rfl
theorem Bar.ntmps36 : Go.Proofs.Try.f36.ntmps = 35 := by kernel_rfl
theorem Bar.ntmps37 : Go.Proofs.Try.f37.ntmps = 42 := by kernel_rfl
theorem Bar.ntmps38 : Go.Proofs.Try.f38.ntmps = 9 := by kernel_rfl
theorem Bar.ntmps39 : Go.Proofs.Try.f39.ntmps = 5 := by kernel_rfl
theorem Bar.ntmps40 : Go.Proofs.Try.f40.ntmps = 56 := by kernel_rfl
theorem Bar.ntmps41 : Go.Proofs.Try.f41.ntmps = 19 := by kernel_rfl
theorem Bar.ntmps42 : Go.Proofs.Try.f42.ntmps = 2 := by kernel_rfl
theorem Bar.ntmps49 : Go.Proofs.Try.f49.ntmps = 10 := by kernel_rfl
theorem Bar.ntmps50 : Go.Proofs.Try.f50.ntmps = 10 := by kernel_rfl
theorem Bar.ntmps52 : Go.Proofs.Try.f52.ntmps = 7 := by kernel_rfl
theorem Bar.ntmps53 : Go.Proofs.Try.f53.ntmps = 9 := by kernel_rfl
theorem Bar.ntmps56 : Go.Proofs.Try.f56.ntmps = 6 := by kernel_rfl
theorem Bar.ntmps59 : Go.Proofs.Try.f59.ntmps = 13 := by kernel_rfl
theorem Bar.ntmps62 : Go.Proofs.Try.f62.ntmps = 17 := by kernel_rfl
theorem Bar.ntmps63 : Go.Proofs.Try.f63.ntmps = 51 := by kernel_rfl
theorem Bar.ntmps64 : Go.Proofs.Try.f64.ntmps = 9 := by kernel_rfl
theorem Bar.ntmps65 : Go.Proofs.Try.f65.ntmps = 9 := by kernel_rfl
theorem Bar.ntmps66 : Go.Proofs.Try.f66.ntmps = 10 := by kernel_rfl
theorem Bar.ntmps67 : Go.Proofs.Try.f67.ntmps = 18 := by kernel_rfl
theorem Bar.ntmps68 : Go.Proofs.Try.f68.ntmps = 9 := by kernel_rfl
theorem Bar.ntmps69 : Go.Proofs.Try.f69.ntmps = 16 := by kernel_rfl
theorem Bar.ntmps70 : Go.Proofs.Try.f70.ntmps = 15 := by kernel_rfl
theorem Bar.ntmps71 : Go.Proofs.Try.f71.ntmps = 103 := by kernel_rfl
theorem Bar.ntmps72 : Go.Proofs.Try.f72.ntmps = 22 := by kernel_rfl
theorem Bar.ntmps73 : Go.Proofs.Try.f73.ntmps = 11 := by kernel_rfl
theorem Bar.ntmps74 : Go.Proofs.Try.f74.ntmps = 43 := by kernel_rfl
theorem Bar.ntmps75 : Go.Proofs.Try.f75.ntmps = 10 := by kernel_rfl
theorem Bar.ntmps76 : Go.Proofs.Try.f76.ntmps = 12 := by kernel_rfl
theorem Bar.ntmps81 : Go.Proofs.Try.f81.ntmps = 43 := by kernel_rfl
theorem Bar.ntmps82 : Go.Proofs.Try.f82.ntmps = 40 := by kernel_rfl
theorem Bar.ntmps84 : Go.Proofs.Try.f84.ntmps = 19 := by kernel_rfl
theorem Bar.ntmps85 : Go.Proofs.Try.f85.ntmps = 9 := by kernel_rfl
theorem Bar.ntmps86 : Go.Proofs.Try.f86.ntmps = 19 := by kernel_rfl
theorem Bar.ntmps87 : Go.Proofs.Try.f87.ntmps = 27 := by kernel_rfl
theorem Bar.ntmps88 : Go.Proofs.Try.f88.ntmps = 23 := by kernel_rfl
theorem Bar.ntmps89 : Go.Proofs.Try.f89.ntmps = 12 := by kernel_rfl
theorem Bar.ntmps90 : Go.Proofs.Try.f90.ntmps = 7 := by kernel_rfl
theorem Bar.ntmps91 : Go.Proofs.Try.f91.ntmps = 7 := by kernel_rfl
theorem Bar.ntmps92 : Go.Proofs.Try.f92.ntmps = 7 := by kernel_rfl
theorem Bar.ntmps93 : Go.Proofs.Try.f93.ntmps = 1 := by kernel_rfl
theorem Bar.ntmps94 : Go.Proofs.Try.f94.ntmps = 1 := by kernel_rfl
theorem Bar.ntmps95 : Go.Proofs.Try.f95.ntmps = 1 := by kernel_rfl
theorem Bar.ntmps96 : Go.Proofs.Try.f96.ntmps = 26 := by kernel_rfl
theorem Bar.ntmps97 : Go.Proofs.Try.f97.ntmps = 13 := by kernel_rfl
theorem Bar.params2 : Go.Proofs.Try.f2.params = #[] := by kernel_rfl
theorem Bar.params3 : Go.Proofs.Try.f3.params = #[22, 23, 22] := by kernel_rfl
theorem Bar.params4 : Go.Proofs.Try.f4.params = #[22, 23, 3] := by kernel_rfl
theorem Bar.params5 : Go.Proofs.Try.f5.params = #[] := by kernel_rfl
theorem Bar.params6 : Go.Proofs.Try.f6.params = #[22] := by kernel_rfl
theorem Bar.params7 : Go.Proofs.Try.f7.params = #[27, 23, 3] := by kernel_rfl
theorem Bar.params8 : Go.Proofs.Try.f8.params = #[3] := by kernel_rfl
theorem Bar.params9 : Go.Proofs.Try.f9.params = #[3, 29, 35, 35] := by kernel_rfl
theorem Bar.params10 : Go.Proofs.Try.f10.params = #[35, 35, 35, 35] := by kernel_rfl
theorem Bar.params11 : Go.Proofs.Try.f11.params = #[35, 35] := by kernel_rfl
theorem Bar.params12 : Go.Proofs.Try.f12.params = #[35, 35] := by kernel_rfl
theorem Bar.params13 : Go.Proofs.Try.f13.params = #[27] := by kernel_rfl
theorem Bar.params14 : Go.Proofs.Try.f14.params = #[23] := by kernel_rfl
theorem Bar.params16 : Go.Proofs.Try.f16.params = #[3] := by kernel_rfl
theorem Bar.params17 : Go.Proofs.Try.f17.params = #[35, 3] := by kernel_rfl
theorem Bar.params18 : Go.Proofs.Try.f18.params = #[3, 29, 35, 35] := by kernel_rfl
theorem Bar.params19 : Go.Proofs.Try.f19.params = #[35] := by kernel_rfl
theorem Bar.params20 : Go.Proofs.Try.f20.params = #[59, 35, 35] := by kernel_rfl
theorem Bar.params21 : Go.Proofs.Try.f21.params = #[3, 29] := by kernel_rfl
theorem Bar.params22 : Go.Proofs.Try.f22.params = #[27] := by kernel_rfl
theorem Bar.params23 : Go.Proofs.Try.f23.params = #[47] := by kernel_rfl
theorem Bar.params24 : Go.Proofs.Try.f24.params = #[23, 47] := by kernel_rfl
theorem Bar.params25 : Go.Proofs.Try.f25.params = #[] := by kernel_rfl
theorem Bar.params26 : Go.Proofs.Try.f26.params = #[99, 2] := by kernel_rfl
theorem Bar.params30 : Go.Proofs.Try.f30.params = #[27, 47] := by kernel_rfl
theorem Bar.params32 : Go.Proofs.Try.f32.params = #[43, 43] := by kernel_rfl
theorem Bar.params33 : Go.Proofs.Try.f33.params = #[3, 124] := by kernel_rfl
theorem Bar.params34 : Go.Proofs.Try.f34.params = #[3, 47] := by kernel_rfl
theorem Bar.params35 : Go.Proofs.Try.f35.params = #[25] := by kernel_rfl
theorem Bar.params36 : Go.Proofs.Try.f36.params = #[59, 35, 35] := by kernel_rfl
theorem Bar.params37 : Go.Proofs.Try.f37.params = #[3, 47, 3] := by kernel_rfl
theorem Bar.params38 : Go.Proofs.Try.f38.params = #[3] := by kernel_rfl
theorem Bar.params39 : Go.Proofs.Try.f39.params = #[39] := by kernel_rfl
theorem Bar.params40 : Go.Proofs.Try.f40.params = #[3, 3] := by kernel_rfl
theorem Bar.params41 : Go.Proofs.Try.f41.params = #[23, 47] := by kernel_rfl
theorem Bar.params42 : Go.Proofs.Try.f42.params = #[101, 2] := by kernel_rfl
theorem Bar.params49 : Go.Proofs.Try.f49.params = #[135, 72] := by kernel_rfl
theorem Bar.params50 : Go.Proofs.Try.f50.params = #[135, 72] := by kernel_rfl
theorem Bar.params52 : Go.Proofs.Try.f52.params = #[135] := by kernel_rfl
theorem Bar.params53 : Go.Proofs.Try.f53.params = #[135, 72] := by kernel_rfl
theorem Bar.params56 : Go.Proofs.Try.f56.params = #[3, 47] := by kernel_rfl
theorem Bar.params59 : Go.Proofs.Try.f59.params = #[135, 72, 72] := by kernel_rfl
theorem Bar.params62 : Go.Proofs.Try.f62.params = #[75, 75] := by kernel_rfl
theorem Bar.params63 : Go.Proofs.Try.f63.params = #[72, 72] := by kernel_rfl
theorem Bar.params64 : Go.Proofs.Try.f64.params = #[35, 54] := by kernel_rfl
theorem Bar.params65 : Go.Proofs.Try.f65.params = #[3] := by kernel_rfl
theorem Bar.params66 : Go.Proofs.Try.f66.params = #[3, 47] := by kernel_rfl
theorem Bar.params67 : Go.Proofs.Try.f67.params = #[3, 47] := by kernel_rfl
theorem Bar.params68 : Go.Proofs.Try.f68.params = #[25, 95] := by kernel_rfl
theorem Bar.params69 : Go.Proofs.Try.f69.params = #[39] := by kernel_rfl
theorem Bar.params70 : Go.Proofs.Try.f70.params = #[39, 3] := by kernel_rfl
theorem Bar.params71 : Go.Proofs.Try.f71.params = #[94, 35, 35] := by kernel_rfl
theorem Bar.params72 : Go.Proofs.Try.f72.params = #[3, 3] := by kernel_rfl
theorem Bar.params73 : Go.Proofs.Try.f73.params = #[3, 47] := by kernel_rfl
theorem Bar.params74 : Go.Proofs.Try.f74.params = #[3, 47, 3] := by kernel_rfl
theorem Bar.params75 : Go.Proofs.Try.f75.params = #[3] := by kernel_rfl
theorem Bar.params76 : Go.Proofs.Try.f76.params = #[43, 43] := by kernel_rfl
theorem Bar.params81 : Go.Proofs.Try.f81.params = #[140] := by kernel_rfl
theorem Bar.params82 : Go.Proofs.Try.f82.params = #[3, 47, 3, 3] := by kernel_rfl
theorem Bar.params84 : Go.Proofs.Try.f84.params = #[35, 54] := by kernel_rfl
theorem Bar.params85 : Go.Proofs.Try.f85.params = #[3] := by kernel_rfl
theorem Bar.params86 : Go.Proofs.Try.f86.params = #[25, 95] := by kernel_rfl
theorem Bar.params87 : Go.Proofs.Try.f87.params = #[38, 3] := by kernel_rfl
theorem Bar.params88 : Go.Proofs.Try.f88.params = #[94, 35] := by kernel_rfl
theorem Bar.params89 : Go.Proofs.Try.f89.params = #[3, 3] := by kernel_rfl
theorem Bar.params90 : Go.Proofs.Try.f90.params = #[38] := by kernel_rfl
theorem Bar.params91 : Go.Proofs.Try.f91.params = #[38] := by kernel_rfl
theorem Bar.params92 : Go.Proofs.Try.f92.params = #[38] := by kernel_rfl
theorem Bar.params93 : Go.Proofs.Try.f93.params = #[38] := by kernel_rfl
theorem Bar.params94 : Go.Proofs.Try.f94.params = #[72] := by kernel_rfl
theorem Bar.params95 : Go.Proofs.Try.f95.params = #[38] := by kernel_rfl
theorem Bar.params96 : Go.Proofs.Try.f96.params = #[38] := by kernel_rfl
theorem Bar.params97 : Go.Proofs.Try.f97.params = #[38, 38] := by kernel_rfl
@[simp] theorem Bar.stoodInHeld7 : (barP Try.prog).stoodInHeld 7 = Bool.false := by kernel_rfl
@[simp] theorem Bar.stoodInHeld8 : (barP Try.prog).stoodInHeld 8 = Bool.false := by kernel_rfl
@[simp] theorem Bar.stoodInHeld13 : (barP Try.prog).stoodInHeld 13 = Bool.true := by kernel_rfl
@[simp] theorem Bar.stoodInHeld14 : (barP Try.prog).stoodInHeld 14 = Bool.true := by kernel_rfl
@[simp] theorem Bar.stoodInHeld18 : (barP Try.prog).stoodInHeld 18 = Bool.true := by kernel_rfl
@[simp] theorem Bar.stoodInHeld19 : (barP Try.prog).stoodInHeld 19 = Bool.true := by kernel_rfl
@[simp] theorem Bar.stoodInHeld26 : (barP Try.prog).stoodInHeld 26 = Bool.false := by kernel_rfl
@[simp] theorem Bar.stoodInHeld27 : (barP Try.prog).stoodInHeld 27 = Bool.false := by kernel_rfl
@[simp] theorem Bar.stoodInHeld30 : (barP Try.prog).stoodInHeld 30 = Bool.false := by kernel_rfl
@[simp] theorem Bar.stoodInHeld31 : (barP Try.prog).stoodInHeld 31 = Bool.false := by kernel_rfl
@[simp] theorem Bar.stoodInHeld46 : (barP Try.prog).stoodInHeld 46 = Bool.false := by kernel_rfl
@[simp] theorem Bar.stoodInHeld47 : (barP Try.prog).stoodInHeld 47 = Bool.false := by kernel_rfl
@[simp] theorem Bar.stoodInHeld48 : (barP Try.prog).stoodInHeld 48 = Bool.false := by kernel_rfl
@[simp] theorem Bar.stoodInHeld49 : (barP Try.prog).stoodInHeld 49 = Bool.false := by kernel_rfl
@[simp] theorem Bar.stoodInHeld64 : (barP Try.prog).stoodInHeld 64 = Bool.false := by kernel_rfl
@[simp] theorem Bar.stoodInHeld65 : (barP Try.prog).stoodInHeld 65 = Bool.false := by kernel_rfl
@[simp] theorem Bar.stoodInHeld66 : (barP Try.prog).stoodInHeld 66 = Bool.false := by kernel_rfl
@[simp] theorem Bar.stoodInHeld67 : (barP Try.prog).stoodInHeld 67 = Bool.false := by kernel_rfl
@[simp] theorem Bar.stoodInHeld68 : (barP Try.prog).stoodInHeld 68 = Bool.false := by kernel_rfl
@[simp] theorem Bar.stoodInHeld71 : (barP Try.prog).stoodInHeld 71 = Bool.false := by kernel_rfl
@[simp] theorem Bar.stoodInHeld73 : (barP Try.prog).stoodInHeld 73 = Bool.false := by kernel_rfl
@[simp] theorem Bar.stoodInHeld74 : (barP Try.prog).stoodInHeld 74 = Bool.false := by kernel_rfl
@[simp] theorem Bar.stoodInHeld76 : (barP Try.prog).stoodInHeld 76 = Bool.false := by kernel_rfl
@[simp] theorem Bar.stoodInHeld77 : (barP Try.prog).stoodInHeld 77 = Bool.false := by kernel_rfl
@[simp] theorem Bar.stoodInHeld91 : (barP Try.prog).stoodInHeld 91 = Bool.false := by kernel_rfl
@[simp] theorem Bar.stoodInHeld92 : (barP Try.prog).stoodInHeld 92 = Bool.false := by kernel_rfl
@[simp] theorem Bar.stoodInHeld93 : (barP Try.prog).stoodInHeld 93 = Bool.false := by kernel_rfl
@[simp] theorem Bar.stoodInHeld94 : (barP Try.prog).stoodInHeld 94 = Bool.false := by kernel_rfl
@[simp] theorem Bar.stoodInHeld153 : (barP Try.prog).stoodInHeld 153 = Bool.true := by kernel_rfl
@[simp] theorem Bar.stoodInHeld154 : (barP Try.prog).stoodInHeld 154 = Bool.true := by kernel_rfl
@[simp] theorem Bar.stoodInHeld156 : (barP Try.prog).stoodInHeld 156 = Bool.true := by kernel_rfl
@[simp] theorem Bar.stoodInHeld157 : (barP Try.prog).stoodInHeld 157 = Bool.true := by kernel_rfl
@[simp] theorem Bar.stoodInHeld164 : (barP Try.prog).stoodInHeld 164 = Bool.true := by kernel_rfl
@[simp] theorem Bar.stoodInHeld165 : (barP Try.prog).stoodInHeld 165 = Bool.true := by kernel_rfl
theorem Bar.underlying0 : (barP Try.prog).underlying 0 = Option.some (Go.TypeDesc.tuple #[]) := (under_bar _).trans Try.underlying0
theorem Bar.underlying1 : (barP Try.prog).underlying 1 = Option.some (Go.TypeDesc.func #[] #[] Bool.false) := (under_bar _).trans Try.underlying1
theorem Bar.underlying2 : (barP Try.prog).underlying 2 = Option.some (Go.TypeDesc.int Go.IntKind.i64) := (under_bar _).trans Try.underlying2
theorem Bar.underlying3 : (barP Try.prog).underlying 3 = Option.some (Go.TypeDesc.int Go.IntKind.i64) := (under_bar _).trans Try.underlying3
theorem Bar.underlying4 : (barP Try.prog).underlying 4 = Option.some Go.TypeDesc.bool := (under_bar _).trans Try.underlying4
theorem Bar.underlying5 : (barP Try.prog).underlying 5 = Option.some (Go.TypeDesc.int Go.IntKind.u8) := (under_bar _).trans Try.underlying5
theorem Bar.underlying6 : (barP Try.prog).underlying 6 = Option.some (Go.TypeDesc.int Go.IntKind.u8) := (under_bar _).trans Try.underlying6
theorem Bar.underlying7 : (barP Try.prog).underlying 7 = Option.some (Go.TypeDesc.struct #[{ name := "x", type := 2, offset := 0, embedded := Bool.false, tag := "", pkgPath := "runtime", byteOffset := 0 }, { name := "y", type := 3, offset := 1, embedded := Bool.false, tag := "", pkgPath := "runtime", byteOffset := 8 }, { name := "signed", type := 4, offset := 2, embedded := Bool.false, tag := "", pkgPath := "runtime", byteOffset := 16 }, { name := "code", type := 6, offset := 3, embedded := Bool.false, tag := "", pkgPath := "runtime", byteOffset := 17 }]) := (under_bar _).trans Try.underlying7
theorem Bar.underlying8 : (barP Try.prog).underlying 8 = Option.some (Go.TypeDesc.struct #[{ name := "x", type := 2, offset := 0, embedded := Bool.false, tag := "", pkgPath := "runtime", byteOffset := 0 }, { name := "y", type := 3, offset := 1, embedded := Bool.false, tag := "", pkgPath := "runtime", byteOffset := 8 }, { name := "signed", type := 4, offset := 2, embedded := Bool.false, tag := "", pkgPath := "runtime", byteOffset := 16 }, { name := "code", type := 6, offset := 3, embedded := Bool.false, tag := "", pkgPath := "runtime", byteOffset := 17 }]) := (under_bar _).trans Try.underlying8
theorem Bar.underlying9 : (barP Try.prog).underlying 9 = Option.some Go.TypeDesc.string := (under_bar _).trans Try.underlying9
theorem Bar.underlying10 : (barP Try.prog).underlying 10 = Option.some Go.TypeDesc.string := (under_bar _).trans Try.underlying10
theorem Bar.underlying11 : (barP Try.prog).underlying 11 = Option.some Go.TypeDesc.string := (under_bar _).trans Try.underlying11
theorem Bar.underlying12 : (barP Try.prog).underlying 12 = Option.some (Go.TypeDesc.int Go.IntKind.u64) := (under_bar _).trans Try.underlying12
theorem Bar.underlying13 : (barP Try.prog).underlying 13 = Option.some (Go.TypeDesc.struct #[{ name := "msg", type := 9, offset := 0, embedded := Bool.false, tag := "", pkgPath := "runtime", byteOffset := 0 }, { name := "addr", type := 12, offset := 1, embedded := Bool.false, tag := "", pkgPath := "runtime", byteOffset := 16 }]) := (under_bar _).trans Try.underlying13
theorem Bar.underlying14 : (barP Try.prog).underlying 14 = Option.some (Go.TypeDesc.struct #[{ name := "msg", type := 9, offset := 0, embedded := Bool.false, tag := "", pkgPath := "runtime", byteOffset := 0 }, { name := "addr", type := 12, offset := 1, embedded := Bool.false, tag := "", pkgPath := "runtime", byteOffset := 16 }]) := (under_bar _).trans Try.underlying14
theorem Bar.underlying15 : (barP Try.prog).underlying 15 = Option.some (Go.TypeDesc.pointer 154) := (under_bar _).trans Try.underlying15
theorem Bar.underlying16 : (barP Try.prog).underlying 16 = Option.some (Go.TypeDesc.pointer 157) := (under_bar _).trans Try.underlying16
theorem Bar.underlying17 : (barP Try.prog).underlying 17 = Option.some (Go.TypeDesc.pointer 165) := (under_bar _).trans Try.underlying17
theorem Bar.underlying18 : (barP Try.prog).underlying 18 = Option.some (Go.TypeDesc.struct #[{ name := "typ", type := 17, offset := 0, embedded := Bool.false, tag := "", pkgPath := "internal/runtime/maps", byteOffset := 0 }]) := (under_bar _).trans Try.underlying18
theorem Bar.underlying19 : (barP Try.prog).underlying 19 = Option.some (Go.TypeDesc.struct #[{ name := "typ", type := 17, offset := 0, embedded := Bool.false, tag := "", pkgPath := "internal/runtime/maps", byteOffset := 0 }]) := (under_bar _).trans Try.underlying19
theorem Bar.underlying20 : (barP Try.prog).underlying 20 = Option.some (Go.TypeDesc.interface #[]) := (under_bar _).trans Try.underlying20
theorem Bar.underlying21 : (barP Try.prog).underlying 21 = Option.some (Go.TypeDesc.int Go.IntKind.i32) := (under_bar _).trans Try.underlying21
theorem Bar.underlying22 : (barP Try.prog).underlying 22 = Option.some (Go.TypeDesc.slice 5) := (under_bar _).trans Try.underlying22
theorem Bar.underlying23 : (barP Try.prog).underlying 23 = Option.some (Go.TypeDesc.slice 47) := (under_bar _).trans Try.underlying23
theorem Bar.underlying24 : (barP Try.prog).underlying 24 = Option.some (Go.TypeDesc.func #[] #[4] Bool.false) := (under_bar _).trans Try.underlying24
theorem Bar.underlying25 : (barP Try.prog).underlying 25 = Option.some (Go.TypeDesc.slice 39) := (under_bar _).trans Try.underlying25
theorem Bar.underlying26 : (barP Try.prog).underlying 26 = Option.some (Go.TypeDesc.struct #[{ name := "N", type := 3, offset := 0, embedded := Bool.false, tag := "", pkgPath := "", byteOffset := 0 }, { name := "Cells", type := 25, offset := 1, embedded := Bool.false, tag := "", pkgPath := "", byteOffset := 8 }]) := (under_bar _).trans Try.underlying26
theorem Bar.underlying27 : (barP Try.prog).underlying 27 = Option.some (Go.TypeDesc.struct #[{ name := "N", type := 3, offset := 0, embedded := Bool.false, tag := "", pkgPath := "", byteOffset := 0 }, { name := "Cells", type := 25, offset := 1, embedded := Bool.false, tag := "", pkgPath := "", byteOffset := 8 }]) := (under_bar _).trans Try.underlying27
theorem Bar.underlying28 : (barP Try.prog).underlying 28 = Option.some (Go.TypeDesc.func #[22] #[27] Bool.false) := (under_bar _).trans Try.underlying28
theorem Bar.underlying29 : (barP Try.prog).underlying 29 = Option.some (Go.TypeDesc.slice 49) := (under_bar _).trans Try.underlying29
theorem Bar.underlying30 : (barP Try.prog).underlying 30 = Option.some (Go.TypeDesc.struct #[{ name := "N", type := 3, offset := 0, embedded := Bool.false, tag := "", pkgPath := "", byteOffset := 0 }, { name := "Projs", type := 29, offset := 1, embedded := Bool.false, tag := "", pkgPath := "", byteOffset := 8 }]) := (under_bar _).trans Try.underlying30
theorem Bar.underlying31 : (barP Try.prog).underlying 31 = Option.some (Go.TypeDesc.struct #[{ name := "N", type := 3, offset := 0, embedded := Bool.false, tag := "", pkgPath := "", byteOffset := 0 }, { name := "Projs", type := 29, offset := 1, embedded := Bool.false, tag := "", pkgPath := "", byteOffset := 8 }]) := (under_bar _).trans Try.underlying31
theorem Bar.underlying32 : (barP Try.prog).underlying 32 = Option.some (Go.TypeDesc.int Go.IntKind.i64) := (under_bar _).trans Try.underlying32
theorem Bar.underlying33 : (barP Try.prog).underlying 33 = Option.some (Go.TypeDesc.tuple #[31, 32]) := (under_bar _).trans Try.underlying33
theorem Bar.underlying34 : (barP Try.prog).underlying 34 = Option.some (Go.TypeDesc.func #[27, 23, 3] #[31, 32] Bool.false) := (under_bar _).trans Try.underlying34
theorem Bar.underlying35 : (barP Try.prog).underlying 35 = Option.some (Go.TypeDesc.slice 3) := (under_bar _).trans Try.underlying35
theorem Bar.underlying36 : (barP Try.prog).underlying 36 = Option.some (Go.TypeDesc.tuple #[35, 35, 32]) := (under_bar _).trans Try.underlying36
theorem Bar.underlying37 : (barP Try.prog).underlying 37 = Option.some (Go.TypeDesc.func #[3] #[35, 35, 32] Bool.false) := (under_bar _).trans Try.underlying37
theorem Bar.underlying38 : (barP Try.prog).underlying 38 = Option.some (Go.TypeDesc.float Go.FloatKind.f64) := (under_bar _).trans Try.underlying38
theorem Bar.underlying39 : (barP Try.prog).underlying 39 = Option.some (Go.TypeDesc.complex Go.FloatKind.f64) := (under_bar _).trans Try.underlying39
theorem Bar.underlying40 : (barP Try.prog).underlying 40 = Option.some (Go.TypeDesc.func #[3, 29, 35, 35] #[35, 35, 32] Bool.false) := (under_bar _).trans Try.underlying40
theorem Bar.underlying41 : (barP Try.prog).underlying 41 = Option.some (Go.TypeDesc.func #[35, 35, 35, 35] #[4] Bool.false) := (under_bar _).trans Try.underlying41
theorem Bar.underlying42 : (barP Try.prog).underlying 42 = Option.some (Go.TypeDesc.func #[22, 23, 22] #[4] Bool.false) := (under_bar _).trans Try.underlying42
theorem Bar.underlying43 : (barP Try.prog).underlying 43 = Option.some (Go.TypeDesc.int Go.IntKind.u64) := (under_bar _).trans Try.underlying43
theorem Bar.underlying44 : (barP Try.prog).underlying 44 = Option.some (Go.TypeDesc.func #[35, 35] #[3] Bool.false) := (under_bar _).trans Try.underlying44
theorem Bar.underlying45 : (barP Try.prog).underlying 45 = Option.some (Go.TypeDesc.func #[35, 35] #[4] Bool.false) := (under_bar _).trans Try.underlying45
theorem Bar.underlying46 : (barP Try.prog).underlying 46 = Option.some (Go.TypeDesc.struct #[{ name := "P", type := 3, offset := 0, embedded := Bool.false, tag := "", pkgPath := "", byteOffset := 0 }, { name := "Q", type := 3, offset := 1, embedded := Bool.false, tag := "", pkgPath := "", byteOffset := 8 }]) := (under_bar _).trans Try.underlying46
theorem Bar.underlying47 : (barP Try.prog).underlying 47 = Option.some (Go.TypeDesc.struct #[{ name := "P", type := 3, offset := 0, embedded := Bool.false, tag := "", pkgPath := "", byteOffset := 0 }, { name := "Q", type := 3, offset := 1, embedded := Bool.false, tag := "", pkgPath := "", byteOffset := 8 }]) := (under_bar _).trans Try.underlying47
theorem Bar.underlying48 : (barP Try.prog).underlying 48 = Option.some (Go.TypeDesc.struct #[{ name := "Dir", type := 47, offset := 0, embedded := Bool.false, tag := "", pkgPath := "", byteOffset := 0 }, { name := "Bins", type := 25, offset := 2, embedded := Bool.false, tag := "", pkgPath := "", byteOffset := 16 }]) := (under_bar _).trans Try.underlying48
theorem Bar.underlying49 : (barP Try.prog).underlying 49 = Option.some (Go.TypeDesc.struct #[{ name := "Dir", type := 47, offset := 0, embedded := Bool.false, tag := "", pkgPath := "", byteOffset := 0 }, { name := "Bins", type := 25, offset := 2, embedded := Bool.false, tag := "", pkgPath := "", byteOffset := 16 }]) := (under_bar _).trans Try.underlying49
theorem Bar.underlying50 : (barP Try.prog).underlying 50 = Option.some (Go.TypeDesc.func #[22, 23, 3] #[4] Bool.false) := (under_bar _).trans Try.underlying50
theorem Bar.underlying51 : (barP Try.prog).underlying 51 = Option.some (Go.TypeDesc.func #[27] #[32] Bool.false) := (under_bar _).trans Try.underlying51
theorem Bar.underlying52 : (barP Try.prog).underlying 52 = Option.some (Go.TypeDesc.func #[23] #[32] Bool.false) := (under_bar _).trans Try.underlying52
theorem Bar.underlying53 : (barP Try.prog).underlying 53 = Option.some (Go.TypeDesc.func #[27, 23, 3] #[29] Bool.false) := (under_bar _).trans Try.underlying53
theorem Bar.underlying54 : (barP Try.prog).underlying 54 = Option.some (Go.TypeDesc.func #[3] #[4] Bool.false) := (under_bar _).trans Try.underlying54
theorem Bar.underlying55 : (barP Try.prog).underlying 55 = Option.some (Go.TypeDesc.func #[35, 3] #[35] Bool.false) := (under_bar _).trans Try.underlying55
theorem Bar.underlying56 : (barP Try.prog).underlying 56 = Option.some (Go.TypeDesc.func #[3, 29, 35, 35] #[32] Bool.false) := (under_bar _).trans Try.underlying56
theorem Bar.underlying57 : (barP Try.prog).underlying 57 = Option.some (Go.TypeDesc.func #[35] #[35] Bool.false) := (under_bar _).trans Try.underlying57
theorem Bar.underlying58 : (barP Try.prog).underlying 58 = Option.some (Go.TypeDesc.func #[59, 35, 35] #[32] Bool.false) := (under_bar _).trans Try.underlying58
theorem Bar.underlying59 : (barP Try.prog).underlying 59 = Option.some (Go.TypeDesc.slice 94) := (under_bar _).trans Try.underlying59
theorem Bar.underlying60 : (barP Try.prog).underlying 60 = Option.some (Go.TypeDesc.func #[3, 29] #[59] Bool.false) := (under_bar _).trans Try.underlying60
theorem Bar.underlying61 : (barP Try.prog).underlying 61 = Option.some (Go.TypeDesc.func #[27] #[4] Bool.false) := (under_bar _).trans Try.underlying61
theorem Bar.underlying62 : (barP Try.prog).underlying 62 = Option.some (Go.TypeDesc.func #[47] #[32] Bool.false) := (under_bar _).trans Try.underlying62
theorem Bar.underlying63 : (barP Try.prog).underlying 63 = Option.some (Go.TypeDesc.func #[23, 47] #[4] Bool.false) := (under_bar _).trans Try.underlying63
theorem Bar.underlying64 : (barP Try.prog).underlying 64 = Option.some (Go.TypeDesc.struct #[]) := (under_bar _).trans Try.underlying64
theorem Bar.underlying65 : (barP Try.prog).underlying 65 = Option.some (Go.TypeDesc.struct #[]) := (under_bar _).trans Try.underlying65
theorem Bar.underlying66 : (barP Try.prog).underlying 66 = Option.some (Go.TypeDesc.struct #[]) := (under_bar _).trans Try.underlying66
theorem Bar.underlying67 : (barP Try.prog).underlying 67 = Option.some (Go.TypeDesc.struct #[{ name := "_", type := 65, offset := 0, embedded := Bool.false, tag := "", pkgPath := "sync/atomic", byteOffset := 0 }, { name := "_", type := 66, offset := 0, embedded := Bool.false, tag := "", pkgPath := "sync/atomic", byteOffset := 0 }, { name := "v", type := 2, offset := 0, embedded := Bool.false, tag := "", pkgPath := "sync/atomic", byteOffset := 0 }]) := (under_bar _).trans Try.underlying67
theorem Bar.underlying68 : (barP Try.prog).underlying 68 = Option.some (Go.TypeDesc.struct #[{ name := "_", type := 65, offset := 0, embedded := Bool.false, tag := "", pkgPath := "sync/atomic", byteOffset := 0 }, { name := "_", type := 66, offset := 0, embedded := Bool.false, tag := "", pkgPath := "sync/atomic", byteOffset := 0 }, { name := "v", type := 2, offset := 0, embedded := Bool.false, tag := "", pkgPath := "sync/atomic", byteOffset := 0 }]) := (under_bar _).trans Try.underlying68
theorem Bar.underlying69 : (barP Try.prog).underlying 69 = Option.some (Go.TypeDesc.func #[2] #[2] Bool.false) := (under_bar _).trans Try.underlying69
theorem Bar.underlying70 : (barP Try.prog).underlying 70 = Option.some (Go.TypeDesc.func #[] #[3] Bool.false) := (under_bar _).trans Try.underlying70
theorem Bar.underlying71 : (barP Try.prog).underlying 71 = Option.some (Go.TypeDesc.struct #[]) := (under_bar _).trans Try.underlying71
theorem Bar.underlying72 : (barP Try.prog).underlying 72 = Option.some (Go.TypeDesc.int Go.IntKind.u64) := (under_bar _).trans Try.underlying72
theorem Bar.underlying73 : (barP Try.prog).underlying 73 = Option.some (Go.TypeDesc.struct #[{ name := "_", type := 65, offset := 0, embedded := Bool.false, tag := "", pkgPath := "sync/atomic", byteOffset := 0 }, { name := "_", type := 66, offset := 0, embedded := Bool.false, tag := "", pkgPath := "sync/atomic", byteOffset := 0 }, { name := "v", type := 72, offset := 0, embedded := Bool.false, tag := "", pkgPath := "sync/atomic", byteOffset := 0 }]) := (under_bar _).trans Try.underlying73
theorem Bar.underlying74 : (barP Try.prog).underlying 74 = Option.some (Go.TypeDesc.struct #[{ name := "_", type := 65, offset := 0, embedded := Bool.false, tag := "", pkgPath := "sync/atomic", byteOffset := 0 }, { name := "_", type := 66, offset := 0, embedded := Bool.false, tag := "", pkgPath := "sync/atomic", byteOffset := 0 }, { name := "v", type := 72, offset := 0, embedded := Bool.false, tag := "", pkgPath := "sync/atomic", byteOffset := 0 }]) := (under_bar _).trans Try.underlying74
theorem Bar.underlying75 : (barP Try.prog).underlying 75 = Option.some (Go.TypeDesc.int Go.IntKind.u32) := (under_bar _).trans Try.underlying75
theorem Bar.underlying76 : (barP Try.prog).underlying 76 = Option.some (Go.TypeDesc.struct #[{ name := "noCopy", type := 71, offset := 0, embedded := Bool.false, tag := "", pkgPath := "sync", byteOffset := 0 }, { name := "state", type := 74, offset := 0, embedded := Bool.false, tag := "", pkgPath := "sync", byteOffset := 0 }, { name := "sema", type := 75, offset := 1, embedded := Bool.false, tag := "", pkgPath := "sync", byteOffset := 8 }]) := (under_bar _).trans Try.underlying76
theorem Bar.underlying77 : (barP Try.prog).underlying 77 = Option.some (Go.TypeDesc.struct #[{ name := "noCopy", type := 71, offset := 0, embedded := Bool.false, tag := "", pkgPath := "sync", byteOffset := 0 }, { name := "state", type := 74, offset := 0, embedded := Bool.false, tag := "", pkgPath := "sync", byteOffset := 0 }, { name := "sema", type := 75, offset := 1, embedded := Bool.false, tag := "", pkgPath := "sync", byteOffset := 8 }]) := (under_bar _).trans Try.underlying77
theorem Bar.underlying78 : (barP Try.prog).underlying 78 = Option.some (Go.TypeDesc.func #[3] #[] Bool.false) := (under_bar _).trans Try.underlying78
theorem Bar.underlying79 : (barP Try.prog).underlying 79 = Option.some (Go.TypeDesc.func #[27, 47] #[49] Bool.false) := (under_bar _).trans Try.underlying79
theorem Bar.underlying80 : (barP Try.prog).underlying 80 = Option.some (Go.TypeDesc.tuple #[43, 43]) := (under_bar _).trans Try.underlying80
theorem Bar.underlying81 : (barP Try.prog).underlying 81 = Option.some (Go.TypeDesc.func #[43, 43] #[43, 43] Bool.false) := (under_bar _).trans Try.underlying81
theorem Bar.underlying82 : (barP Try.prog).underlying 82 = Option.some (Go.TypeDesc.func #[3, 124] #[4] Bool.true) := (under_bar _).trans Try.underlying82
theorem Bar.underlying83 : (barP Try.prog).underlying 83 = Option.some (Go.TypeDesc.tuple #[3, 32]) := (under_bar _).trans Try.underlying83
theorem Bar.underlying84 : (barP Try.prog).underlying 84 = Option.some (Go.TypeDesc.func #[3, 47] #[3, 32] Bool.false) := (under_bar _).trans Try.underlying84
theorem Bar.underlying85 : (barP Try.prog).underlying 85 = Option.some (Go.TypeDesc.func #[25] #[4] Bool.false) := (under_bar _).trans Try.underlying85
theorem Bar.underlying86 : (barP Try.prog).underlying 86 = Option.some (Go.TypeDesc.tuple #[4, 32]) := (under_bar _).trans Try.underlying86
theorem Bar.underlying87 : (barP Try.prog).underlying 87 = Option.some (Go.TypeDesc.func #[59, 35, 35] #[4, 32] Bool.false) := (under_bar _).trans Try.underlying87
theorem Bar.underlying88 : (barP Try.prog).underlying 88 = Option.some (Go.TypeDesc.slice 92) := (under_bar _).trans Try.underlying88
theorem Bar.underlying89 : (barP Try.prog).underlying 89 = Option.some (Go.TypeDesc.tuple #[88, 32]) := (under_bar _).trans Try.underlying89
theorem Bar.underlying90 : (barP Try.prog).underlying 90 = Option.some (Go.TypeDesc.func #[3, 47, 3] #[88, 32] Bool.false) := (under_bar _).trans Try.underlying90
theorem Bar.underlying91 : (barP Try.prog).underlying 91 = Option.some (Go.TypeDesc.struct #[{ name := "X", type := 3, offset := 0, embedded := Bool.false, tag := "", pkgPath := "", byteOffset := 0 }, { name := "Y", type := 3, offset := 1, embedded := Bool.false, tag := "", pkgPath := "", byteOffset := 8 }]) := (under_bar _).trans Try.underlying91
theorem Bar.underlying92 : (barP Try.prog).underlying 92 = Option.some (Go.TypeDesc.struct #[{ name := "X", type := 3, offset := 0, embedded := Bool.false, tag := "", pkgPath := "", byteOffset := 0 }, { name := "Y", type := 3, offset := 1, embedded := Bool.false, tag := "", pkgPath := "", byteOffset := 8 }]) := (under_bar _).trans Try.underlying92
theorem Bar.underlying93 : (barP Try.prog).underlying 93 = Option.some (Go.TypeDesc.struct #[{ name := "places", type := 35, offset := 0, embedded := Bool.false, tag := "", pkgPath := "penumbra/bound", byteOffset := 0 }, { name := "bin", type := 3, offset := 1, embedded := Bool.false, tag := "", pkgPath := "penumbra/bound", byteOffset := 24 }]) := (under_bar _).trans Try.underlying93
theorem Bar.underlying94 : (barP Try.prog).underlying 94 = Option.some (Go.TypeDesc.struct #[{ name := "places", type := 35, offset := 0, embedded := Bool.false, tag := "", pkgPath := "penumbra/bound", byteOffset := 0 }, { name := "bin", type := 3, offset := 1, embedded := Bool.false, tag := "", pkgPath := "penumbra/bound", byteOffset := 24 }]) := (under_bar _).trans Try.underlying94
theorem Bar.underlying95 : (barP Try.prog).underlying 95 = Option.some (Go.TypeDesc.func #[39] #[4] Bool.false) := (under_bar _).trans Try.underlying95
theorem Bar.underlying96 : (barP Try.prog).underlying 96 = Option.some (Go.TypeDesc.tuple #[47, 32]) := (under_bar _).trans Try.underlying96
theorem Bar.underlying97 : (barP Try.prog).underlying 97 = Option.some (Go.TypeDesc.func #[3, 3] #[47, 32] Bool.false) := (under_bar _).trans Try.underlying97
theorem Bar.underlying98 : (barP Try.prog).underlying 98 = Option.some (Go.TypeDesc.func #[23, 47] #[3] Bool.false) := (under_bar _).trans Try.underlying98
theorem Bar.underlying99 : (barP Try.prog).underlying 99 = Option.some (Go.TypeDesc.pointer 68) := (under_bar _).trans Try.underlying99
theorem Bar.underlying100 : (barP Try.prog).underlying 100 = Option.some (Go.TypeDesc.func #[101, 2] #[2] Bool.false) := (under_bar _).trans Try.underlying100
theorem Bar.underlying101 : (barP Try.prog).underlying 101 = Option.some (Go.TypeDesc.pointer 2) := (under_bar _).trans Try.underlying101
theorem Bar.underlying102 : (barP Try.prog).underlying 102 = Option.some (Go.TypeDesc.pointer 77) := (under_bar _).trans Try.underlying102
theorem Bar.underlying103 : (barP Try.prog).underlying 103 = Option.some (Go.TypeDesc.func #[104] #[] Bool.false) := (under_bar _).trans Try.underlying103
theorem Bar.underlying104 : (barP Try.prog).underlying 104 = Option.some Go.TypeDesc.unsafePointer := (under_bar _).trans Try.underlying104
theorem Bar.underlying105 : (barP Try.prog).underlying 105 = Option.some (Go.TypeDesc.int Go.IntKind.i64) := (under_bar _).trans Try.underlying105
theorem Bar.underlying106 : (barP Try.prog).underlying 106 = Option.some (Go.TypeDesc.func #[102] #[105] Bool.false) := (under_bar _).trans Try.underlying106
theorem Bar.underlying107 : (barP Try.prog).underlying 107 = Option.some (Go.TypeDesc.func #[9] #[] Bool.false) := (under_bar _).trans Try.underlying107
theorem Bar.underlying108 : (barP Try.prog).underlying 108 = Option.some (Go.TypeDesc.func #[72] #[72] Bool.false) := (under_bar _).trans Try.underlying108
theorem Bar.underlying109 : (barP Try.prog).underlying 109 = Option.some (Go.TypeDesc.pointer 75) := (under_bar _).trans Try.underlying109
theorem Bar.underlying110 : (barP Try.prog).underlying 110 = Option.some (Go.TypeDesc.func #[] #[72] Bool.false) := (under_bar _).trans Try.underlying110
theorem Bar.underlying111 : (barP Try.prog).underlying 111 = Option.some (Go.TypeDesc.func #[72] #[] Bool.false) := (under_bar _).trans Try.underlying111
theorem Bar.underlying112 : (barP Try.prog).underlying 112 = Option.some (Go.TypeDesc.func #[102] #[] Bool.false) := (under_bar _).trans Try.underlying112
theorem Bar.underlying113 : (barP Try.prog).underlying 113 = Option.some (Go.TypeDesc.func #[109, 4, 3] #[] Bool.false) := (under_bar _).trans Try.underlying113
theorem Bar.underlying114 : (barP Try.prog).underlying 114 = Option.some (Go.TypeDesc.func #[140] #[] Bool.false) := (under_bar _).trans Try.underlying114
theorem Bar.underlying115 : (barP Try.prog).underlying 115 = Option.some (Go.TypeDesc.func #[140] #[] Bool.false) := (under_bar _).trans Try.underlying115
theorem Bar.underlying116 : (barP Try.prog).underlying 116 = Option.some (Go.TypeDesc.func #[3, 47] #[115] Bool.false) := (under_bar _).trans Try.underlying116
theorem Bar.underlying117 : (barP Try.prog).underlying 117 = Option.some (Go.TypeDesc.func #[102] #[4] Bool.false) := (under_bar _).trans Try.underlying117
theorem Bar.underlying118 : (barP Try.prog).underlying 118 = Option.some (Go.TypeDesc.func #[72, 72] #[4] Bool.false) := (under_bar _).trans Try.underlying118
theorem Bar.underlying119 : (barP Try.prog).underlying 119 = Option.some (Go.TypeDesc.func #[109, 4] #[] Bool.false) := (under_bar _).trans Try.underlying119
theorem Bar.underlying120 : (barP Try.prog).underlying 120 = Option.some (Go.TypeDesc.tuple #[75, 75]) := (under_bar _).trans Try.underlying120
theorem Bar.underlying121 : (barP Try.prog).underlying 121 = Option.some (Go.TypeDesc.func #[75, 75] #[75, 75] Bool.false) := (under_bar _).trans Try.underlying121
theorem Bar.underlying122 : (barP Try.prog).underlying 122 = Option.some (Go.TypeDesc.tuple #[72, 72]) := (under_bar _).trans Try.underlying122
theorem Bar.underlying123 : (barP Try.prog).underlying 123 = Option.some (Go.TypeDesc.func #[72, 72] #[72, 72] Bool.false) := (under_bar _).trans Try.underlying123
theorem Bar.underlying124 : (barP Try.prog).underlying 124 = Option.some (Go.TypeDesc.slice 35) := (under_bar _).trans Try.underlying124
theorem Bar.underlying125 : (barP Try.prog).underlying 125 = Option.some (Go.TypeDesc.func #[35, 54] #[4] Bool.false) := (under_bar _).trans Try.underlying125
theorem Bar.underlying126 : (barP Try.prog).underlying 126 = Option.some (Go.TypeDesc.func #[3, 47] #[32] Bool.false) := (under_bar _).trans Try.underlying126
theorem Bar.underlying127 : (barP Try.prog).underlying 127 = Option.some (Go.TypeDesc.func #[3, 47] #[3] Bool.false) := (under_bar _).trans Try.underlying127
theorem Bar.underlying128 : (barP Try.prog).underlying 128 = Option.some (Go.TypeDesc.func #[25, 95] #[4] Bool.false) := (under_bar _).trans Try.underlying128
theorem Bar.underlying129 : (barP Try.prog).underlying 129 = Option.some (Go.TypeDesc.func #[39, 3] #[4] Bool.false) := (under_bar _).trans Try.underlying129
theorem Bar.underlying130 : (barP Try.prog).underlying 130 = Option.some (Go.TypeDesc.func #[35, 35] #[4, 32] Bool.false) := (under_bar _).trans Try.underlying130
theorem Bar.underlying131 : (barP Try.prog).underlying 131 = Option.some (Go.TypeDesc.func #[3, 3] #[88] Bool.false) := (under_bar _).trans Try.underlying131
theorem Bar.underlying132 : (barP Try.prog).underlying 132 = Option.some (Go.TypeDesc.func #[3, 47, 3] #[88] Bool.false) := (under_bar _).trans Try.underlying132
theorem Bar.underlying133 : (barP Try.prog).underlying 133 = Option.some (Go.TypeDesc.func #[3] #[43] Bool.false) := (under_bar _).trans Try.underlying133
theorem Bar.underlying134 : (barP Try.prog).underlying 134 = Option.some (Go.TypeDesc.func #[43, 43] #[43] Bool.false) := (under_bar _).trans Try.underlying134
theorem Bar.underlying135 : (barP Try.prog).underlying 135 = Option.some (Go.TypeDesc.pointer 74) := (under_bar _).trans Try.underlying135
theorem Bar.underlying136 : (barP Try.prog).underlying 136 = Option.some (Go.TypeDesc.func #[137, 72] #[72] Bool.false) := (under_bar _).trans Try.underlying136
theorem Bar.underlying137 : (barP Try.prog).underlying 137 = Option.some (Go.TypeDesc.pointer 72) := (under_bar _).trans Try.underlying137
theorem Bar.underlying138 : (barP Try.prog).underlying 138 = Option.some (Go.TypeDesc.func #[137] #[72] Bool.false) := (under_bar _).trans Try.underlying138
theorem Bar.underlying139 : (barP Try.prog).underlying 139 = Option.some (Go.TypeDesc.func #[137, 72] #[] Bool.false) := (under_bar _).trans Try.underlying139
theorem Bar.underlying140 : (barP Try.prog).underlying 140 = Option.some (Go.TypeDesc.func #[3, 3] #[4] Bool.false) := (under_bar _).trans Try.underlying140
theorem Bar.underlying141 : (barP Try.prog).underlying 141 = Option.some (Go.TypeDesc.func #[3, 47, 3, 3] #[3, 32] Bool.false) := (under_bar _).trans Try.underlying141
theorem Bar.underlying142 : (barP Try.prog).underlying 142 = Option.some (Go.TypeDesc.func #[137, 72, 72] #[4] Bool.false) := (under_bar _).trans Try.underlying142
theorem Bar.underlying143 : (barP Try.prog).underlying 143 = Option.some (Go.TypeDesc.func #[35, 54] #[3] Bool.false) := (under_bar _).trans Try.underlying143
theorem Bar.underlying144 : (barP Try.prog).underlying 144 = Option.some (Go.TypeDesc.func #[25, 95] #[3] Bool.false) := (under_bar _).trans Try.underlying144
theorem Bar.underlying145 : (barP Try.prog).underlying 145 = Option.some (Go.TypeDesc.func #[38, 3] #[4] Bool.false) := (under_bar _).trans Try.underlying145
theorem Bar.underlying146 : (barP Try.prog).underlying 146 = Option.some (Go.TypeDesc.func #[35] #[3] Bool.false) := (under_bar _).trans Try.underlying146
theorem Bar.underlying147 : (barP Try.prog).underlying 147 = Option.some (Go.TypeDesc.func #[38] #[4] Bool.false) := (under_bar _).trans Try.underlying147
theorem Bar.underlying148 : (barP Try.prog).underlying 148 = Option.some (Go.TypeDesc.func #[38] #[38] Bool.false) := (under_bar _).trans Try.underlying148
theorem Bar.underlying149 : (barP Try.prog).underlying 149 = Option.some (Go.TypeDesc.func #[38] #[72] Bool.false) := (under_bar _).trans Try.underlying149
theorem Bar.underlying150 : (barP Try.prog).underlying 150 = Option.some (Go.TypeDesc.func #[72] #[38] Bool.false) := (under_bar _).trans Try.underlying150
theorem Bar.underlying151 : (barP Try.prog).underlying 151 = Option.some (Go.TypeDesc.func #[38, 38] #[38] Bool.false) := (under_bar _).trans Try.underlying151
theorem Bar.underlying152 : (barP Try.prog).underlying 152 = Option.some (Go.TypeDesc.func #[] #[9] Bool.false) := (under_bar _).trans Try.underlying152
theorem Bar.underlying153 : (barP Try.prog).underlying 153 = Option.some (Go.TypeDesc.struct #[{ name := "_interface", type := 17, offset := 0, embedded := Bool.false, tag := "", pkgPath := "runtime", byteOffset := 0 }, { name := "concrete", type := 17, offset := 1, embedded := Bool.false, tag := "", pkgPath := "runtime", byteOffset := 8 }, { name := "asserted", type := 17, offset := 2, embedded := Bool.false, tag := "", pkgPath := "runtime", byteOffset := 16 }, { name := "missingMethod", type := 9, offset := 3, embedded := Bool.false, tag := "", pkgPath := "runtime", byteOffset := 24 }]) := (under_bar _).trans Try.underlying153
theorem Bar.underlying154 : (barP Try.prog).underlying 154 = Option.some (Go.TypeDesc.struct #[{ name := "_interface", type := 17, offset := 0, embedded := Bool.false, tag := "", pkgPath := "runtime", byteOffset := 0 }, { name := "concrete", type := 17, offset := 1, embedded := Bool.false, tag := "", pkgPath := "runtime", byteOffset := 8 }, { name := "asserted", type := 17, offset := 2, embedded := Bool.false, tag := "", pkgPath := "runtime", byteOffset := 16 }, { name := "missingMethod", type := 9, offset := 3, embedded := Bool.false, tag := "", pkgPath := "runtime", byteOffset := 24 }]) := (under_bar _).trans Try.underlying154
theorem Bar.underlying155 : (barP Try.prog).underlying 155 = Option.some (Go.TypeDesc.array 0 16) := (under_bar _).trans Try.underlying155
theorem Bar.underlying156 : (barP Try.prog).underlying 156 = Option.some (Go.TypeDesc.struct #[{ name := "_", type := 155, offset := 0, embedded := Bool.false, tag := "", pkgPath := "runtime", byteOffset := 0 }]) := (under_bar _).trans Try.underlying156
theorem Bar.underlying157 : (barP Try.prog).underlying 157 = Option.some (Go.TypeDesc.struct #[{ name := "_", type := 155, offset := 0, embedded := Bool.false, tag := "", pkgPath := "runtime", byteOffset := 0 }]) := (under_bar _).trans Try.underlying157
theorem Bar.underlying158 : (barP Try.prog).underlying 158 = Option.some (Go.TypeDesc.int Go.IntKind.u8) := (under_bar _).trans Try.underlying158
theorem Bar.underlying159 : (barP Try.prog).underlying 159 = Option.some (Go.TypeDesc.int Go.IntKind.u8) := (under_bar _).trans Try.underlying159
theorem Bar.underlying160 : (barP Try.prog).underlying 160 = Option.some (Go.TypeDesc.func #[104, 104] #[4] Bool.false) := (under_bar _).trans Try.underlying160
theorem Bar.underlying161 : (barP Try.prog).underlying 161 = Option.some (Go.TypeDesc.pointer 5) := (under_bar _).trans Try.underlying161
theorem Bar.underlying162 : (barP Try.prog).underlying 162 = Option.some (Go.TypeDesc.int Go.IntKind.i32) := (under_bar _).trans Try.underlying162
theorem Bar.underlying163 : (barP Try.prog).underlying 163 = Option.some (Go.TypeDesc.int Go.IntKind.i32) := (under_bar _).trans Try.underlying163
theorem Bar.underlying164 : (barP Try.prog).underlying 164 = Option.some (Go.TypeDesc.struct #[{ name := "Size_", type := 12, offset := 0, embedded := Bool.false, tag := "", pkgPath := "", byteOffset := 0 }, { name := "PtrBytes", type := 12, offset := 1, embedded := Bool.false, tag := "", pkgPath := "", byteOffset := 8 }, { name := "Hash", type := 75, offset := 2, embedded := Bool.false, tag := "", pkgPath := "", byteOffset := 16 }, { name := "TFlag", type := 158, offset := 3, embedded := Bool.false, tag := "", pkgPath := "", byteOffset := 20 }, { name := "Align_", type := 5, offset := 4, embedded := Bool.false, tag := "", pkgPath := "", byteOffset := 21 }, { name := "FieldAlign_", type := 5, offset := 5, embedded := Bool.false, tag := "", pkgPath := "", byteOffset := 22 }, { name := "Kind_", type := 159, offset := 6, embedded := Bool.false, tag := "", pkgPath := "", byteOffset := 23 }, { name := "Equal", type := 160, offset := 7, embedded := Bool.false, tag := "", pkgPath := "", byteOffset := 24 }, { name := "GCData", type := 161, offset := 8, embedded := Bool.false, tag := "", pkgPath := "", byteOffset := 32 }, { name := "Str", type := 162, offset := 9, embedded := Bool.false, tag := "", pkgPath := "", byteOffset := 40 }, { name := "PtrToThis", type := 163, offset := 10, embedded := Bool.false, tag := "", pkgPath := "", byteOffset := 44 }]) := (under_bar _).trans Try.underlying164
theorem Bar.underlying165 : (barP Try.prog).underlying 165 = Option.some (Go.TypeDesc.struct #[{ name := "Size_", type := 12, offset := 0, embedded := Bool.false, tag := "", pkgPath := "", byteOffset := 0 }, { name := "PtrBytes", type := 12, offset := 1, embedded := Bool.false, tag := "", pkgPath := "", byteOffset := 8 }, { name := "Hash", type := 75, offset := 2, embedded := Bool.false, tag := "", pkgPath := "", byteOffset := 16 }, { name := "TFlag", type := 158, offset := 3, embedded := Bool.false, tag := "", pkgPath := "", byteOffset := 20 }, { name := "Align_", type := 5, offset := 4, embedded := Bool.false, tag := "", pkgPath := "", byteOffset := 21 }, { name := "FieldAlign_", type := 5, offset := 5, embedded := Bool.false, tag := "", pkgPath := "", byteOffset := 22 }, { name := "Kind_", type := 159, offset := 6, embedded := Bool.false, tag := "", pkgPath := "", byteOffset := 23 }, { name := "Equal", type := 160, offset := 7, embedded := Bool.false, tag := "", pkgPath := "", byteOffset := 24 }, { name := "GCData", type := 161, offset := 8, embedded := Bool.false, tag := "", pkgPath := "", byteOffset := 32 }, { name := "Str", type := 162, offset := 9, embedded := Bool.false, tag := "", pkgPath := "", byteOffset := 40 }, { name := "PtrToThis", type := 163, offset := 10, embedded := Bool.false, tag := "", pkgPath := "", byteOffset := 44 }]) := (under_bar _).trans Try.underlying165
theorem Bar.underlying166 : (barP Try.prog).underlying 166 = Option.some (Go.TypeDesc.func #[] #[2] Bool.false) := (under_bar _).trans Try.underlying166
end Go.Proofs.Ythbghcebcahlnaa
