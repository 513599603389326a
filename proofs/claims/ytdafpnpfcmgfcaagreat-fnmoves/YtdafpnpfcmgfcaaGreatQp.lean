/- The program, the functions that go refused: what the lone pieces run in. -/
import Derived.Test.YtdafpnpfcmgfcaaGreatChecked
import Derived.Test.YtdafpnpfcmgfcaaGreatKI
namespace Go.Proofs.YtdafpnpfcmgfcaaGreat
open Go
noncomputable def Qry.g0 : Func := { Tryz.f0 with body := some (.refuse "") }
noncomputable def Qry.g1 : Func := { Tryz.f1 with body := some (.refuse "") }
noncomputable def Qry.g2 : Func := { Tryz.f2 with body := some (.refuse "") }
noncomputable def Qry.g41 : Func := { Tryz.f41 with body := some (.refuse "") }
noncomputable def Qry.g56 : Func := { Tryz.f56 with body := some (.refuse "") }
noncomputable def Qry.g57 : Func := { Tryz.f57 with body := some (.refuse "") }
noncomputable def Qry.g58 : Func := { Tryz.f58 with body := some (.refuse "") }
noncomputable def Qry.g59 : Func := { Tryz.f59 with body := some (.refuse "") }
noncomputable def Qry.g60 : Func := { Tryz.f60 with body := some (.refuse "") }
noncomputable def Qry.g61 : Func := { Tryz.f61 with body := some (.refuse "") }
noncomputable def Qry.g76 : Func := { Tryz.f76 with body := some (.refuse "") }
noncomputable def Qry.g77 : Func := { Tryz.f77 with body := some (.refuse "") }
noncomputable def Qry.g78 : Func := { Tryz.f78 with body := some (.refuse "") }
noncomputable def Qry.g79 : Func := { Tryz.f79 with body := some (.refuse "") }
noncomputable def Qry.g80 : Func := { Tryz.f80 with body := some (.refuse "") }
noncomputable def Qry.g81 : Func := { Tryz.f81 with body := some (.refuse "") }
noncomputable def Qry.g82 : Func := { Tryz.f82 with body := some (.refuse "") }
noncomputable def Qry.g83 : Func := { Tryz.f83 with body := some (.refuse "") }
noncomputable def Qry.g84 : Func := { Tryz.f84 with body := some (.refuse "") }
noncomputable def Qry.g85 : Func := { Tryz.f85 with body := some (.refuse "") }
noncomputable def Qry.g86 : Func := { Tryz.f86 with body := some (.refuse "") }
noncomputable def Qry.g87 : Func := { Tryz.f87 with body := some (.refuse "") }
noncomputable def Qry.g88 : Func := { Tryz.f88 with body := some (.refuse "") }
noncomputable def Qry.g89 : Func := { Tryz.f89 with body := some (.refuse "") }
noncomputable def Qry.g90 : Func := { Tryz.f90 with body := some (.refuse "") }
noncomputable def Qry.g91 : Func := { Tryz.f91 with body := some (.refuse "") }
noncomputable def Qry.g92 : Func := { Tryz.f92 with body := some (.refuse "") }
noncomputable def Qry.g93 : Func := { Tryz.f93 with body := some (.refuse "") }
noncomputable def Qry.g94 : Func := { Tryz.f94 with body := some (.refuse "") }
noncomputable def Qry.g95 : Func := { Tryz.f95 with body := some (.refuse "") }
noncomputable def Qry.g101 : Func := { Tryz.f101 with body := some (.refuse "") }
noncomputable def Qry.g102 : Func := { Tryz.f102 with body := some (.refuse "") }
noncomputable def Qry.g103 : Func := { Tryz.f103 with body := some (.refuse "") }
noncomputable def Qry.g104 : Func := { Tryz.f104 with body := some (.refuse "") }
noncomputable def Qry.g105 : Func := { Tryz.f105 with body := some (.refuse "") }
noncomputable def Qry.g108 : Func := { Tryz.f108 with body := some (.refuse "") }
noncomputable def Qry.g109 : Func := { Tryz.f109 with body := some (.refuse "") }
noncomputable def Qry.g110 : Func := { Tryz.f110 with body := some (.refuse "") }
noncomputable def Qry.g111 : Func := { Tryz.f111 with body := some (.refuse "") }
noncomputable def Qry.g112 : Func := { Tryz.f112 with body := some (.refuse "") }
noncomputable def Qry.g113 : Func := { Tryz.f113 with body := some (.refuse "") }
noncomputable def Qry.g114 : Func := { Tryz.f114 with body := some (.refuse "") }
noncomputable def Qry.g115 : Func := { Tryz.f115 with body := some (.refuse "") }
noncomputable def Qry.g116 : Func := { Tryz.f116 with body := some (.refuse "") }
noncomputable def Qry.g117 : Func := { Tryz.f117 with body := some (.refuse "") }
noncomputable def Qry.g118 : Func := { Tryz.f118 with body := some (.refuse "") }
noncomputable def Qry.g119 : Func := { Tryz.f119 with body := some (.refuse "") }
noncomputable def Qry.g120 : Func := { Tryz.f120 with body := some (.refuse "") }
noncomputable def Qry.g121 : Func := { Tryz.f121 with body := some (.refuse "") }
noncomputable def Qry.g122 : Func := { Tryz.f122 with body := some (.refuse "") }
noncomputable def Qry.g123 : Func := { Tryz.f123 with body := some (.refuse "") }
noncomputable def Qry.funcs : Array Func := #[Qry.g0, Qry.g1, Qry.g2, Tryz.f3, Tryz.f4, Tryz.f5, Tryz.f6, Tryz.f7, Tryz.f8, Tryz.f9, Tryz.f10, Tryz.f11, Tryz.f12, Tryz.f13, Tryz.f14, Tryz.f15, Tryz.f16, Tryz.f17, Tryz.f18, Tryz.f19, Tryz.f20, Tryz.f21, Tryz.f22, Tryz.f23, Tryz.f24, Tryz.f25, Tryz.f26, Tryz.f27, Tryz.f28, Tryz.f29, Tryz.f30, Tryz.f31, Tryz.f32, Tryz.f33, Tryz.f34, Tryz.f35, Tryz.f36, Tryz.f37, Tryz.f38, Tryz.f39, Tryz.f40, Qry.g41, Tryz.f42, Tryz.f43, Tryz.f44, Tryz.f45, Tryz.f46, Tryz.f47, Tryz.f48, Tryz.f49, Tryz.f50, Tryz.f51, Tryz.f52, Tryz.f53, Tryz.f54, Tryz.f55, Qry.g56, Qry.g57, Qry.g58, Qry.g59, Qry.g60, Qry.g61, Tryz.f62, Tryz.f63, Tryz.f64, Tryz.f65, Tryz.f66, Tryz.f67, Tryz.f68, Tryz.f69, Tryz.f70, Tryz.f71, Tryz.f72, Tryz.f73, Tryz.f74, Tryz.f75, Qry.g76, Qry.g77, Qry.g78, Qry.g79, Qry.g80, Qry.g81, Qry.g82, Qry.g83, Qry.g84, Qry.g85, Qry.g86, Qry.g87, Qry.g88, Qry.g89, Qry.g90, Qry.g91, Qry.g92, Qry.g93, Qry.g94, Qry.g95, Tryz.f96, Tryz.f97, Tryz.f98, Tryz.f99, Tryz.f100, Qry.g101, Qry.g102, Qry.g103, Qry.g104, Qry.g105, Tryz.f106, Tryz.f107, Qry.g108, Qry.g109, Qry.g110, Qry.g111, Qry.g112, Qry.g113, Qry.g114, Qry.g115, Qry.g116, Qry.g117, Qry.g118, Qry.g119, Qry.g120, Qry.g121, Qry.g122, Qry.g123]
noncomputable def Qry.prog : Program := { toTables := Tryz.progTables, funcs := Qry.funcs }
@[simp] theorem Qry.func3 : Qry.prog.funcs[3]? = some Tryz.f3 := by kernel_rfl
@[simp] theorem Qry.call3 (args : Array Value) (w : World) : (callFunc 3 args).run Qry.prog w = .ok (.enter 3 args) w := by kernel_rfl
@[simp] theorem Qry.func4 : Qry.prog.funcs[4]? = some Tryz.f4 := by kernel_rfl
@[simp] theorem Qry.call4 (args : Array Value) (w : World) : (callFunc 4 args).run Qry.prog w = .ok (.enter 4 args) w := by kernel_rfl
@[simp] theorem Qry.func5 : Qry.prog.funcs[5]? = some Tryz.f5 := by kernel_rfl
@[simp] theorem Qry.call5 (args : Array Value) (w : World) : (callFunc 5 args).run Qry.prog w = .ok (.enter 5 args) w := by kernel_rfl
@[simp] theorem Qry.func6 : Qry.prog.funcs[6]? = some Tryz.f6 := by kernel_rfl
@[simp] theorem Qry.call6 (args : Array Value) (w : World) : (callFunc 6 args).run Qry.prog w = .ok (.enter 6 args) w := by kernel_rfl
@[simp] theorem Qry.func7 : Qry.prog.funcs[7]? = some Tryz.f7 := by kernel_rfl
@[simp] theorem Qry.call7 (args : Array Value) (w : World) : (callFunc 7 args).run Qry.prog w = .ok (.enter 7 args) w := by kernel_rfl
@[simp] theorem Qry.func8 : Qry.prog.funcs[8]? = some Tryz.f8 := by kernel_rfl
@[simp] theorem Qry.call8 (args : Array Value) (w : World) : (callFunc 8 args).run Qry.prog w = .ok (.enter 8 args) w := by kernel_rfl
@[simp] theorem Qry.func9 : Qry.prog.funcs[9]? = some Tryz.f9 := by kernel_rfl
@[simp] theorem Qry.call9 (args : Array Value) (w : World) : (callFunc 9 args).run Qry.prog w = .ok (.enter 9 args) w := by kernel_rfl
@[simp] theorem Qry.func10 : Qry.prog.funcs[10]? = some Tryz.f10 := by kernel_rfl
@[simp] theorem Qry.call10 (args : Array Value) (w : World) : (callFunc 10 args).run Qry.prog w = .ok (.enter 10 args) w := by kernel_rfl
@[simp] theorem Qry.func11 : Qry.prog.funcs[11]? = some Tryz.f11 := by kernel_rfl
@[simp] theorem Qry.call11 (args : Array Value) (w : World) : (callFunc 11 args).run Qry.prog w = .ok (.enter 11 args) w := by kernel_rfl
@[simp] theorem Qry.func12 : Qry.prog.funcs[12]? = some Tryz.f12 := by kernel_rfl
@[simp] theorem Qry.call12 (args : Array Value) (w : World) : (callFunc 12 args).run Qry.prog w = .ok (.enter 12 args) w := by kernel_rfl
@[simp] theorem Qry.func13 : Qry.prog.funcs[13]? = some Tryz.f13 := by kernel_rfl
@[simp] theorem Qry.call13 (args : Array Value) (w : World) : (callFunc 13 args).run Qry.prog w = .ok (.enter 13 args) w := by kernel_rfl
@[simp] theorem Qry.func14 : Qry.prog.funcs[14]? = some Tryz.f14 := by kernel_rfl
@[simp] theorem Qry.call14 (args : Array Value) (w : World) : (callFunc 14 args).run Qry.prog w = .ok (.enter 14 args) w := by kernel_rfl
@[simp] theorem Qry.func15 : Qry.prog.funcs[15]? = some Tryz.f15 := by kernel_rfl
@[simp] theorem Qry.call15 (args : Array Value) (w : World) : (callFunc 15 args).run Qry.prog w = .ok (.enter 15 args) w := by kernel_rfl
@[simp] theorem Qry.func16 : Qry.prog.funcs[16]? = some Tryz.f16 := by kernel_rfl
@[simp] theorem Qry.call16 (args : Array Value) (w : World) : (callFunc 16 args).run Qry.prog w = .ok (.enter 16 args) w := by kernel_rfl
@[simp] theorem Qry.func17 : Qry.prog.funcs[17]? = some Tryz.f17 := by kernel_rfl
@[simp] theorem Qry.call17 (args : Array Value) (w : World) : (callFunc 17 args).run Qry.prog w = .ok (.enter 17 args) w := by kernel_rfl
@[simp] theorem Qry.func18 : Qry.prog.funcs[18]? = some Tryz.f18 := by kernel_rfl
@[simp] theorem Qry.call18 (args : Array Value) (w : World) : (callFunc 18 args).run Qry.prog w = .ok (.enter 18 args) w := by kernel_rfl
@[simp] theorem Qry.func19 : Qry.prog.funcs[19]? = some Tryz.f19 := by kernel_rfl
@[simp] theorem Qry.call19 (args : Array Value) (w : World) : (callFunc 19 args).run Qry.prog w = .ok (.enter 19 args) w := by kernel_rfl
@[simp] theorem Qry.func20 : Qry.prog.funcs[20]? = some Tryz.f20 := by kernel_rfl
@[simp] theorem Qry.call20 (args : Array Value) (w : World) : (callFunc 20 args).run Qry.prog w = .ok (.enter 20 args) w := by kernel_rfl
@[simp] theorem Qry.func21 : Qry.prog.funcs[21]? = some Tryz.f21 := by kernel_rfl
@[simp] theorem Qry.call21 (args : Array Value) (w : World) : (callFunc 21 args).run Qry.prog w = .ok (.enter 21 args) w := by kernel_rfl
@[simp] theorem Qry.func22 : Qry.prog.funcs[22]? = some Tryz.f22 := by kernel_rfl
@[simp] theorem Qry.call22 (args : Array Value) (w : World) : (callFunc 22 args).run Qry.prog w = .ok (.enter 22 args) w := by kernel_rfl
@[simp] theorem Qry.func23 : Qry.prog.funcs[23]? = some Tryz.f23 := by kernel_rfl
@[simp] theorem Qry.call23 (args : Array Value) (w : World) : (callFunc 23 args).run Qry.prog w = .ok (.enter 23 args) w := by kernel_rfl
@[simp] theorem Qry.func24 : Qry.prog.funcs[24]? = some Tryz.f24 := by kernel_rfl
@[simp] theorem Qry.call24 (args : Array Value) (w : World) : (callFunc 24 args).run Qry.prog w = .ok (.enter 24 args) w := by kernel_rfl
@[simp] theorem Qry.func25 : Qry.prog.funcs[25]? = some Tryz.f25 := by kernel_rfl
@[simp] theorem Qry.call25 (args : Array Value) (w : World) : (callFunc 25 args).run Qry.prog w = .ok (.enter 25 args) w := by kernel_rfl
@[simp] theorem Qry.func26 : Qry.prog.funcs[26]? = some Tryz.f26 := by kernel_rfl
@[simp] theorem Qry.call26 (args : Array Value) (w : World) : (callFunc 26 args).run Qry.prog w = .ok (.enter 26 args) w := by kernel_rfl
@[simp] theorem Qry.func27 : Qry.prog.funcs[27]? = some Tryz.f27 := by kernel_rfl
@[simp] theorem Qry.call27 (args : Array Value) (w : World) : (callFunc 27 args).run Qry.prog w = .ok (.enter 27 args) w := by kernel_rfl
@[simp] theorem Qry.func28 : Qry.prog.funcs[28]? = some Tryz.f28 := by kernel_rfl
@[simp] theorem Qry.call28 (args : Array Value) (w : World) : (callFunc 28 args).run Qry.prog w = .ok (.enter 28 args) w := by kernel_rfl
@[simp] theorem Qry.func29 : Qry.prog.funcs[29]? = some Tryz.f29 := by kernel_rfl
@[simp] theorem Qry.call29 (args : Array Value) (w : World) : (callFunc 29 args).run Qry.prog w = .ok (.enter 29 args) w := by kernel_rfl
@[simp] theorem Qry.func30 : Qry.prog.funcs[30]? = some Tryz.f30 := by kernel_rfl
@[simp] theorem Qry.call30 (args : Array Value) (w : World) : (callFunc 30 args).run Qry.prog w = .ok (.enter 30 args) w := by kernel_rfl
@[simp] theorem Qry.func31 : Qry.prog.funcs[31]? = some Tryz.f31 := by kernel_rfl
@[simp] theorem Qry.call31 (args : Array Value) (w : World) : (callFunc 31 args).run Qry.prog w = .ok (.enter 31 args) w := by kernel_rfl
@[simp] theorem Qry.func32 : Qry.prog.funcs[32]? = some Tryz.f32 := by kernel_rfl
@[simp] theorem Qry.call32 (args : Array Value) (w : World) : (callFunc 32 args).run Qry.prog w = .ok (.enter 32 args) w := by kernel_rfl
@[simp] theorem Qry.func33 : Qry.prog.funcs[33]? = some Tryz.f33 := by kernel_rfl
@[simp] theorem Qry.call33 (args : Array Value) (w : World) : (callFunc 33 args).run Qry.prog w = .ok (.enter 33 args) w := by kernel_rfl
@[simp] theorem Qry.func34 : Qry.prog.funcs[34]? = some Tryz.f34 := by kernel_rfl
@[simp] theorem Qry.call34 (args : Array Value) (w : World) : (callFunc 34 args).run Qry.prog w = .ok (.enter 34 args) w := by kernel_rfl
@[simp] theorem Qry.func35 : Qry.prog.funcs[35]? = some Tryz.f35 := by kernel_rfl
@[simp] theorem Qry.call35 (args : Array Value) (w : World) : (callFunc 35 args).run Qry.prog w = .ok (.enter 35 args) w := by kernel_rfl
@[simp] theorem Qry.func36 : Qry.prog.funcs[36]? = some Tryz.f36 := by kernel_rfl
@[simp] theorem Qry.call36 (args : Array Value) (w : World) : (callFunc 36 args).run Qry.prog w = .ok (.enter 36 args) w := by kernel_rfl
@[simp] theorem Qry.func37 : Qry.prog.funcs[37]? = some Tryz.f37 := by kernel_rfl
@[simp] theorem Qry.call37 (args : Array Value) (w : World) : (callFunc 37 args).run Qry.prog w = .ok (.enter 37 args) w := by kernel_rfl
@[simp] theorem Qry.func38 : Qry.prog.funcs[38]? = some Tryz.f38 := by kernel_rfl
@[simp] theorem Qry.call38 (args : Array Value) (w : World) : (callFunc 38 args).run Qry.prog w = .ok (.enter 38 args) w := by kernel_rfl
@[simp] theorem Qry.func39 : Qry.prog.funcs[39]? = some Tryz.f39 := by kernel_rfl
@[simp] theorem Qry.call39 (args : Array Value) (w : World) : (callFunc 39 args).run Qry.prog w = .ok (.enter 39 args) w := by kernel_rfl
@[simp] theorem Qry.func40 : Qry.prog.funcs[40]? = some Tryz.f40 := by kernel_rfl
@[simp] theorem Qry.call40 (args : Array Value) (w : World) : (callFunc 40 args).run Qry.prog w = .ok (.enter 40 args) w := by kernel_rfl
@[simp] theorem Qry.func42 : Qry.prog.funcs[42]? = some Tryz.f42 := by kernel_rfl
@[simp] theorem Qry.call42 (args : Array Value) (w : World) : (callFunc 42 args).run Qry.prog w = .ok (.enter 42 args) w := by kernel_rfl
@[simp] theorem Qry.func43 : Qry.prog.funcs[43]? = some Tryz.f43 := by kernel_rfl
@[simp] theorem Qry.call43 (args : Array Value) (w : World) : (callFunc 43 args).run Qry.prog w = .ok (.enter 43 args) w := by kernel_rfl
@[simp] theorem Qry.func44 : Qry.prog.funcs[44]? = some Tryz.f44 := by kernel_rfl
@[simp] theorem Qry.call44 (args : Array Value) (w : World) : (callFunc 44 args).run Qry.prog w = .ok (.enter 44 args) w := by kernel_rfl
@[simp] theorem Qry.func45 : Qry.prog.funcs[45]? = some Tryz.f45 := by kernel_rfl
@[simp] theorem Qry.call45 (args : Array Value) (w : World) : (callFunc 45 args).run Qry.prog w = .ok (.enter 45 args) w := by kernel_rfl
@[simp] theorem Qry.func46 : Qry.prog.funcs[46]? = some Tryz.f46 := by kernel_rfl
@[simp] theorem Qry.call46 (args : Array Value) (w : World) : (callFunc 46 args).run Qry.prog w = .ok (.enter 46 args) w := by kernel_rfl
@[simp] theorem Qry.func47 : Qry.prog.funcs[47]? = some Tryz.f47 := by kernel_rfl
@[simp] theorem Qry.call47 (args : Array Value) (w : World) : (callFunc 47 args).run Qry.prog w = .ok (.enter 47 args) w := by kernel_rfl
@[simp] theorem Qry.func48 : Qry.prog.funcs[48]? = some Tryz.f48 := by kernel_rfl
@[simp] theorem Qry.call48 (args : Array Value) (w : World) : (callFunc 48 args).run Qry.prog w = .ok (.enter 48 args) w := by kernel_rfl
@[simp] theorem Qry.func49 : Qry.prog.funcs[49]? = some Tryz.f49 := by kernel_rfl
@[simp] theorem Qry.call49 (args : Array Value) (w : World) : (callFunc 49 args).run Qry.prog w = .ok (.enter 49 args) w := by kernel_rfl
@[simp] theorem Qry.func50 : Qry.prog.funcs[50]? = some Tryz.f50 := by kernel_rfl
@[simp] theorem Qry.call50 (args : Array Value) (w : World) : (callFunc 50 args).run Qry.prog w = .ok (.enter 50 args) w := by kernel_rfl
@[simp] theorem Qry.func51 : Qry.prog.funcs[51]? = some Tryz.f51 := by kernel_rfl
@[simp] theorem Qry.call51 (args : Array Value) (w : World) : (callFunc 51 args).run Qry.prog w = .ok (.enter 51 args) w := by kernel_rfl
@[simp] theorem Qry.func52 : Qry.prog.funcs[52]? = some Tryz.f52 := by kernel_rfl
@[simp] theorem Qry.call52 (args : Array Value) (w : World) : (callFunc 52 args).run Qry.prog w = .ok (.enter 52 args) w := by kernel_rfl
@[simp] theorem Qry.func53 : Qry.prog.funcs[53]? = some Tryz.f53 := by kernel_rfl
@[simp] theorem Qry.call53 (args : Array Value) (w : World) : (callFunc 53 args).run Qry.prog w = .ok (.enter 53 args) w := by kernel_rfl
@[simp] theorem Qry.func54 : Qry.prog.funcs[54]? = some Tryz.f54 := by kernel_rfl
@[simp] theorem Qry.call54 (args : Array Value) (w : World) : (callFunc 54 args).run Qry.prog w = .ok (.enter 54 args) w := by kernel_rfl
@[simp] theorem Qry.func55 : Qry.prog.funcs[55]? = some Tryz.f55 := by kernel_rfl
@[simp] theorem Qry.call55 (args : Array Value) (w : World) : (callFunc 55 args).run Qry.prog w = .ok (.enter 55 args) w := by kernel_rfl
@[simp] theorem Qry.func62 : Qry.prog.funcs[62]? = some Tryz.f62 := by kernel_rfl
@[simp] theorem Qry.call62 (args : Array Value) (w : World) : (callFunc 62 args).run Qry.prog w = .ok (.enter 62 args) w := by kernel_rfl
@[simp] theorem Qry.func63 : Qry.prog.funcs[63]? = some Tryz.f63 := by kernel_rfl
@[simp] theorem Qry.call63 (args : Array Value) (w : World) : (callFunc 63 args).run Qry.prog w = .ok (.enter 63 args) w := by kernel_rfl
@[simp] theorem Qry.func64 : Qry.prog.funcs[64]? = some Tryz.f64 := by kernel_rfl
@[simp] theorem Qry.call64 (args : Array Value) (w : World) : (callFunc 64 args).run Qry.prog w = .ok (.enter 64 args) w := by kernel_rfl
@[simp] theorem Qry.func65 : Qry.prog.funcs[65]? = some Tryz.f65 := by kernel_rfl
@[simp] theorem Qry.call65 (args : Array Value) (w : World) : (callFunc 65 args).run Qry.prog w = .ok (.enter 65 args) w := by kernel_rfl
@[simp] theorem Qry.func66 : Qry.prog.funcs[66]? = some Tryz.f66 := by kernel_rfl
@[simp] theorem Qry.call66 (args : Array Value) (w : World) : (callFunc 66 args).run Qry.prog w = .ok (.enter 66 args) w := by kernel_rfl
@[simp] theorem Qry.func67 : Qry.prog.funcs[67]? = some Tryz.f67 := by kernel_rfl
@[simp] theorem Qry.call67 (args : Array Value) (w : World) : (callFunc 67 args).run Qry.prog w = .ok (.enter 67 args) w := by kernel_rfl
@[simp] theorem Qry.func68 : Qry.prog.funcs[68]? = some Tryz.f68 := by kernel_rfl
@[simp] theorem Qry.call68 (args : Array Value) (w : World) : (callFunc 68 args).run Qry.prog w = .ok (.enter 68 args) w := by kernel_rfl
@[simp] theorem Qry.func69 : Qry.prog.funcs[69]? = some Tryz.f69 := by kernel_rfl
@[simp] theorem Qry.call69 (args : Array Value) (w : World) : (callFunc 69 args).run Qry.prog w = .ok (.enter 69 args) w := by kernel_rfl
@[simp] theorem Qry.func70 : Qry.prog.funcs[70]? = some Tryz.f70 := by kernel_rfl
@[simp] theorem Qry.call70 (args : Array Value) (w : World) : (callFunc 70 args).run Qry.prog w = .ok (.enter 70 args) w := by kernel_rfl
@[simp] theorem Qry.func71 : Qry.prog.funcs[71]? = some Tryz.f71 := by kernel_rfl
@[simp] theorem Qry.call71 (args : Array Value) (w : World) : (callFunc 71 args).run Qry.prog w = .ok (.enter 71 args) w := by kernel_rfl
@[simp] theorem Qry.func72 : Qry.prog.funcs[72]? = some Tryz.f72 := by kernel_rfl
@[simp] theorem Qry.call72 (args : Array Value) (w : World) : (callFunc 72 args).run Qry.prog w = .ok (.enter 72 args) w := by kernel_rfl
@[simp] theorem Qry.func73 : Qry.prog.funcs[73]? = some Tryz.f73 := by kernel_rfl
@[simp] theorem Qry.call73 (args : Array Value) (w : World) : (callFunc 73 args).run Qry.prog w = .ok (.enter 73 args) w := by kernel_rfl
@[simp] theorem Qry.func74 : Qry.prog.funcs[74]? = some Tryz.f74 := by kernel_rfl
@[simp] theorem Qry.call74 (args : Array Value) (w : World) : (callFunc 74 args).run Qry.prog w = .ok (.enter 74 args) w := by kernel_rfl
@[simp] theorem Qry.func75 : Qry.prog.funcs[75]? = some Tryz.f75 := by kernel_rfl
@[simp] theorem Qry.call75 (args : Array Value) (w : World) : (callFunc 75 args).run Qry.prog w = .ok (.enter 75 args) w := by kernel_rfl
@[simp] theorem Qry.func96 : Qry.prog.funcs[96]? = some Tryz.f96 := by kernel_rfl
@[simp] theorem Qry.call96 (args : Array Value) (w : World) : (callFunc 96 args).run Qry.prog w = .ok (.enter 96 args) w := by kernel_rfl
@[simp] theorem Qry.func97 : Qry.prog.funcs[97]? = some Tryz.f97 := by kernel_rfl
@[simp] theorem Qry.call97 (args : Array Value) (w : World) : (callFunc 97 args).run Qry.prog w = .ok (.enter 97 args) w := by kernel_rfl
@[simp] theorem Qry.func98 : Qry.prog.funcs[98]? = some Tryz.f98 := by kernel_rfl
@[simp] theorem Qry.call98 (args : Array Value) (w : World) : (callFunc 98 args).run Qry.prog w = .ok (.enter 98 args) w := by kernel_rfl
@[simp] theorem Qry.func99 : Qry.prog.funcs[99]? = some Tryz.f99 := by kernel_rfl
@[simp] theorem Qry.call99 (args : Array Value) (w : World) : (callFunc 99 args).run Qry.prog w = .ok (.enter 99 args) w := by kernel_rfl
@[simp] theorem Qry.func100 : Qry.prog.funcs[100]? = some Tryz.f100 := by kernel_rfl
@[simp] theorem Qry.call100 (args : Array Value) (w : World) : (callFunc 100 args).run Qry.prog w = .ok (.enter 100 args) w := by kernel_rfl
@[simp] theorem Qry.func106 : Qry.prog.funcs[106]? = some Tryz.f106 := by kernel_rfl
@[simp] theorem Qry.call106 (args : Array Value) (w : World) : (callFunc 106 args).run Qry.prog w = .ok (.enter 106 args) w := by kernel_rfl
@[simp] theorem Qry.func107 : Qry.prog.funcs[107]? = some Tryz.f107 := by kernel_rfl
@[simp] theorem Qry.call107 (args : Array Value) (w : World) : (callFunc 107 args).run Qry.prog w = .ok (.enter 107 args) w := by kernel_rfl
@[simp] theorem Qry.run_underlying (t : TypeId) (w : World) : (Go.underlying t).run Qry.prog w = (Go.underlying t).run Tryz.prog w := same_run_underlying t w
@[simp] theorem Qry.run_typeInfo (t : TypeId) (w : World) : (Go.typeInfo t).run Qry.prog w = (Go.typeInfo t).run Tryz.prog w := same_run_typeInfo t w
@[simp] theorem Qry.run_sizeOf (t : TypeId) (w : World) : (Go.sizeOf t).run Qry.prog w = (Go.sizeOf t).run Tryz.prog w := same_run_sizeOf t w
@[simp] theorem Qry.run_isAgg (t : TypeId) (w : World) : (Go.isAgg t).run Qry.prog w = (Go.isAgg t).run Tryz.prog w := same_run_isAgg t w
@[simp] theorem Qry.run_zeroValue (t : TypeId) (w : World) : (Go.zeroValue t).run Qry.prog w = (Go.zeroValue t).run Tryz.prog w := same_run_zeroValue t w
@[simp] theorem Qry.underlying (t : TypeId) : Qry.prog.underlying t = Tryz.prog.underlying t := same_underlying t
@[simp] theorem Qry.tables : Qry.prog.toTables = Tryz.prog.toTables := rfl
theorem uQ {t : TypeId} {d : TypeDesc} (h : Tryz.prog.underlying t = some d) : Qry.prog.underlying t = some d := (Qry.underlying t).trans h
theorem Qry.stubL : StubL Qry.funcs.toList Tryz.funcs.toList := .stub (.stub (.stub (.same (.same (.same (.same (.same (.same (.same (.same (.same (.same (.same (.same (.same (.same (.same (.same (.same (.same (.same (.same (.same (.same (.same (.same (.same (.same (.same (.same (.same (.same (.same (.same (.same (.same (.same (.same (.same (.same (.stub (.same (.same (.same (.same (.same (.same (.same (.same (.same (.same (.same (.same (.same (.same (.stub (.stub (.stub (.stub (.stub (.stub (.same (.same (.same (.same (.same (.same (.same (.same (.same (.same (.same (.same (.same (.same (.stub (.stub (.stub (.stub (.stub (.stub (.stub (.stub (.stub (.stub (.stub (.stub (.stub (.stub (.stub (.stub (.stub (.stub (.stub (.stub (.same (.same (.same (.same (.same (.stub (.stub (.stub (.stub (.stub (.same (.same (.stub (.stub (.stub (.stub (.stub (.stub (.stub (.stub (.stub (.stub (.stub (.stub (.stub (.stub (.stub (.stub (.nil))))))))))))))))))))))))))))))))))))))))))))))))))))))))))))))))))))))))))))))))))))))))))))))))))))))))))))))))))))))))))))
theorem Qry.bodied : Qry.funcs.all (fun fn => !fn.body.isNone && !(fn.name == "runtime.NumGoroutine")) = true := by kernel_rfl
theorem Qry.code : Qry.funcs.all (fun fn => match fn.body with | some c => okCode Tryz.prog c | none => true) = true := by kernel_rfl
theorem tamed : Tamed Qry.prog Tryz.prog := tamed_of rfl Qry.stubL Qry.bodied Qry.code (by kernel_rfl)
end Go.Proofs.YtdafpnpfcmgfcaaGreat
