/- The program, the functions that go refused: what the lone pieces run in. -/
import Derived.Test.YtdafpnpfcmgfcaaGreatDoorChecked
import Derived.Test.YtdafpnpfcmgfcaaGreatDoorKe15
namespace Go.Proofs.YtdafpnpfcmgfcaaGreatDoor
open Go
noncomputable def Qry.g0 : Func := { Tryz.f0 with body := some (.refuse "") }
noncomputable def Qry.g1 : Func := { Tryz.f1 with body := some (.refuse "") }
noncomputable def Qry.g2 : Func := { Tryz.f2 with body := some (.refuse "") }
noncomputable def Qry.g89 : Func := { Tryz.f89 with body := some (.refuse "") }
noncomputable def Qry.g113 : Func := { Tryz.f113 with body := some (.refuse "") }
noncomputable def Qry.g114 : Func := { Tryz.f114 with body := some (.refuse "") }
noncomputable def Qry.g115 : Func := { Tryz.f115 with body := some (.refuse "") }
noncomputable def Qry.g116 : Func := { Tryz.f116 with body := some (.refuse "") }
noncomputable def Qry.g117 : Func := { Tryz.f117 with body := some (.refuse "") }
noncomputable def Qry.g118 : Func := { Tryz.f118 with body := some (.refuse "") }
noncomputable def Qry.g129 : Func := { Tryz.f129 with body := some (.refuse "") }
noncomputable def Qry.g130 : Func := { Tryz.f130 with body := some (.refuse "") }
noncomputable def Qry.g131 : Func := { Tryz.f131 with body := some (.refuse "") }
noncomputable def Qry.g132 : Func := { Tryz.f132 with body := some (.refuse "") }
noncomputable def Qry.g133 : Func := { Tryz.f133 with body := some (.refuse "") }
noncomputable def Qry.g134 : Func := { Tryz.f134 with body := some (.refuse "") }
noncomputable def Qry.g135 : Func := { Tryz.f135 with body := some (.refuse "") }
noncomputable def Qry.g136 : Func := { Tryz.f136 with body := some (.refuse "") }
noncomputable def Qry.g137 : Func := { Tryz.f137 with body := some (.refuse "") }
noncomputable def Qry.g138 : Func := { Tryz.f138 with body := some (.refuse "") }
noncomputable def Qry.g139 : Func := { Tryz.f139 with body := some (.refuse "") }
noncomputable def Qry.g140 : Func := { Tryz.f140 with body := some (.refuse "") }
noncomputable def Qry.g141 : Func := { Tryz.f141 with body := some (.refuse "") }
noncomputable def Qry.g142 : Func := { Tryz.f142 with body := some (.refuse "") }
noncomputable def Qry.g143 : Func := { Tryz.f143 with body := some (.refuse "") }
noncomputable def Qry.g144 : Func := { Tryz.f144 with body := some (.refuse "") }
noncomputable def Qry.g145 : Func := { Tryz.f145 with body := some (.refuse "") }
noncomputable def Qry.g146 : Func := { Tryz.f146 with body := some (.refuse "") }
noncomputable def Qry.g147 : Func := { Tryz.f147 with body := some (.refuse "") }
noncomputable def Qry.g148 : Func := { Tryz.f148 with body := some (.refuse "") }
noncomputable def Qry.g152 : Func := { Tryz.f152 with body := some (.refuse "") }
noncomputable def Qry.g153 : Func := { Tryz.f153 with body := some (.refuse "") }
noncomputable def Qry.g154 : Func := { Tryz.f154 with body := some (.refuse "") }
noncomputable def Qry.g155 : Func := { Tryz.f155 with body := some (.refuse "") }
noncomputable def Qry.g156 : Func := { Tryz.f156 with body := some (.refuse "") }
noncomputable def Qry.g159 : Func := { Tryz.f159 with body := some (.refuse "") }
noncomputable def Qry.g160 : Func := { Tryz.f160 with body := some (.refuse "") }
noncomputable def Qry.g161 : Func := { Tryz.f161 with body := some (.refuse "") }
noncomputable def Qry.g162 : Func := { Tryz.f162 with body := some (.refuse "") }
noncomputable def Qry.g163 : Func := { Tryz.f163 with body := some (.refuse "") }
noncomputable def Qry.g164 : Func := { Tryz.f164 with body := some (.refuse "") }
noncomputable def Qry.g165 : Func := { Tryz.f165 with body := some (.refuse "") }
noncomputable def Qry.g166 : Func := { Tryz.f166 with body := some (.refuse "") }
noncomputable def Qry.g167 : Func := { Tryz.f167 with body := some (.refuse "") }
noncomputable def Qry.g168 : Func := { Tryz.f168 with body := some (.refuse "") }
noncomputable def Qry.g169 : Func := { Tryz.f169 with body := some (.refuse "") }
noncomputable def Qry.g170 : Func := { Tryz.f170 with body := some (.refuse "") }
noncomputable def Qry.g171 : Func := { Tryz.f171 with body := some (.refuse "") }
noncomputable def Qry.g172 : Func := { Tryz.f172 with body := some (.refuse "") }
noncomputable def Qry.g174 : Func := { Tryz.f174 with body := some (.refuse "") }
noncomputable def Qry.g175 : Func := { Tryz.f175 with body := some (.refuse "") }
noncomputable def Qry.g183 : Func := { Tryz.f183 with body := some (.refuse "") }
noncomputable def Qry.g184 : Func := { Tryz.f184 with body := some (.refuse "") }
noncomputable def Qry.g185 : Func := { Tryz.f185 with body := some (.refuse "") }
noncomputable def Qry.g186 : Func := { Tryz.f186 with body := some (.refuse "") }
noncomputable def Qry.g187 : Func := { Tryz.f187 with body := some (.refuse "") }
noncomputable def Qry.g189 : Func := { Tryz.f189 with body := some (.refuse "") }
noncomputable def Qry.g191 : Func := { Tryz.f191 with body := some (.refuse "") }
noncomputable def Qry.g194 : Func := { Tryz.f194 with body := some (.refuse "") }
noncomputable def Qry.g195 : Func := { Tryz.f195 with body := some (.refuse "") }
noncomputable def Qry.g196 : Func := { Tryz.f196 with body := some (.refuse "") }
noncomputable def Qry.g197 : Func := { Tryz.f197 with body := some (.refuse "") }
noncomputable def Qry.g198 : Func := { Tryz.f198 with body := some (.refuse "") }
noncomputable def Qry.g199 : Func := { Tryz.f199 with body := some (.refuse "") }
noncomputable def Qry.g200 : Func := { Tryz.f200 with body := some (.refuse "") }
noncomputable def Qry.g201 : Func := { Tryz.f201 with body := some (.refuse "") }
noncomputable def Qry.g202 : Func := { Tryz.f202 with body := some (.refuse "") }
noncomputable def Qry.g203 : Func := { Tryz.f203 with body := some (.refuse "") }
noncomputable def Qry.g204 : Func := { Tryz.f204 with body := some (.refuse "") }
noncomputable def Qry.funcs : Array Func := #[Qry.g0, Qry.g1, Qry.g2, Tryz.f3, Tryz.f4, Tryz.f5, Tryz.f6, Tryz.f7, Tryz.f8, Tryz.f9, Tryz.f10, Tryz.f11, Tryz.f12, Tryz.f13, Tryz.f14, Tryz.f15, Tryz.f16, Tryz.f17, Tryz.f18, Tryz.f19, Tryz.f20, Tryz.f21, Tryz.f22, Tryz.f23, Tryz.f24, Tryz.f25, Tryz.f26, Tryz.f27, Tryz.f28, Tryz.f29, Tryz.f30, Tryz.f31, Tryz.f32, Tryz.f33, Tryz.f34, Tryz.f35, Tryz.f36, Tryz.f37, Tryz.f38, Tryz.f39, Tryz.f40, Tryz.f41, Tryz.f42, Tryz.f43, Tryz.f44, Tryz.f45, Tryz.f46, Tryz.f47, Tryz.f48, Tryz.f49, Tryz.f50, Tryz.f51, Tryz.f52, Tryz.f53, Tryz.f54, Tryz.f55, Tryz.f56, Tryz.f57, Tryz.f58, Tryz.f59, Tryz.f60, Tryz.f61, Tryz.f62, Tryz.f63, Tryz.f64, Tryz.f65, Tryz.f66, Tryz.f67, Tryz.f68, Tryz.f69, Tryz.f70, Tryz.f71, Tryz.f72, Tryz.f73, Tryz.f74, Tryz.f75, Tryz.f76, Tryz.f77, Tryz.f78, Tryz.f79, Tryz.f80, Tryz.f81, Tryz.f82, Tryz.f83, Tryz.f84, Tryz.f85, Tryz.f86, Tryz.f87, Tryz.f88, Qry.g89, Tryz.f90, Tryz.f91, Tryz.f92, Tryz.f93, Tryz.f94, Tryz.f95, Tryz.f96, Tryz.f97, Tryz.f98, Tryz.f99, Tryz.f100, Tryz.f101, Tryz.f102, Tryz.f103, Tryz.f104, Tryz.f105, Tryz.f106, Tryz.f107, Tryz.f108, Tryz.f109, Tryz.f110, Tryz.f111, Tryz.f112, Qry.g113, Qry.g114, Qry.g115, Qry.g116, Qry.g117, Qry.g118, Tryz.f119, Tryz.f120, Tryz.f121, Tryz.f122, Tryz.f123, Tryz.f124, Tryz.f125, Tryz.f126, Tryz.f127, Tryz.f128, Qry.g129, Qry.g130, Qry.g131, Qry.g132, Qry.g133, Qry.g134, Qry.g135, Qry.g136, Qry.g137, Qry.g138, Qry.g139, Qry.g140, Qry.g141, Qry.g142, Qry.g143, Qry.g144, Qry.g145, Qry.g146, Qry.g147, Qry.g148, Tryz.f149, Tryz.f150, Tryz.f151, Qry.g152, Qry.g153, Qry.g154, Qry.g155, Qry.g156, Tryz.f157, Tryz.f158, Qry.g159, Qry.g160, Qry.g161, Qry.g162, Qry.g163, Qry.g164, Qry.g165, Qry.g166, Qry.g167, Qry.g168, Qry.g169, Qry.g170, Qry.g171, Qry.g172, Tryz.f173, Qry.g174, Qry.g175, Tryz.f176, Tryz.f177, Tryz.f178, Tryz.f179, Tryz.f180, Tryz.f181, Tryz.f182, Qry.g183, Qry.g184, Qry.g185, Qry.g186, Qry.g187, Tryz.f188, Qry.g189, Tryz.f190, Qry.g191, Tryz.f192, Tryz.f193, Qry.g194, Qry.g195, Qry.g196, Qry.g197, Qry.g198, Qry.g199, Qry.g200, Qry.g201, Qry.g202, Qry.g203, Qry.g204]
noncomputable def Qry.prog : Program := { toTables := Tryz.progTables, funcs := Qry.funcs }
@[simp] theorem Qry.func7 : Qry.prog.funcs[7]? = some Tryz.f7 := by kernel_rfl
@[simp] theorem Qry.call7 (args : Array Value) (w : World) : (callFunc 7 args).run Qry.prog w = .ok (.enter 7 args) w := by kernel_rfl
@[simp] theorem Qry.func8 : Qry.prog.funcs[8]? = some Tryz.f8 := by kernel_rfl
@[simp] theorem Qry.call8 (args : Array Value) (w : World) : (callFunc 8 args).run Qry.prog w = .ok (.enter 8 args) w := by kernel_rfl
@[simp] theorem Qry.func9 : Qry.prog.funcs[9]? = some Tryz.f9 := by kernel_rfl
@[simp] theorem Qry.call9 (args : Array Value) (w : World) : (callFunc 9 args).run Qry.prog w = .ok (.enter 9 args) w := by kernel_rfl
@[simp] theorem Qry.func10 : Qry.prog.funcs[10]? = some Tryz.f10 := by kernel_rfl
@[simp] theorem Qry.call10 (args : Array Value) (w : World) : (callFunc 10 args).run Qry.prog w = .ok (.enter 10 args) w := by kernel_rfl
@[simp] theorem Qry.func11 : Qry.prog.funcs[11]? = some Tryz.f11 := by kernel_rfl
@[simp] theorem Qry.call11 (args : Array Value) (w : World) : (callFunc 11 args).run Qry.prog w = .ok (.enter 11 args) w := by kernel_rfl
@[simp] theorem Qry.func12 : Qry.prog.funcs[12]? = some Tryz.f12 := by kernel_rfl
@[simp] theorem Qry.call12 (args : Array Value) (w : World) : (callFunc 12 args).run Qry.prog w = .ok (.enter 12 args) w := by kernel_rfl
@[simp] theorem Qry.func13 : Qry.prog.funcs[13]? = some Tryz.f13 := by kernel_rfl
@[simp] theorem Qry.call13 (args : Array Value) (w : World) : (callFunc 13 args).run Qry.prog w = .ok (.enter 13 args) w := by kernel_rfl
@[simp] theorem Qry.func14 : Qry.prog.funcs[14]? = some Tryz.f14 := by kernel_rfl
@[simp] theorem Qry.call14 (args : Array Value) (w : World) : (callFunc 14 args).run Qry.prog w = .ok (.enter 14 args) w := by kernel_rfl
@[simp] theorem Qry.func15 : Qry.prog.funcs[15]? = some Tryz.f15 := by kernel_rfl
@[simp] theorem Qry.call15 (args : Array Value) (w : World) : (callFunc 15 args).run Qry.prog w = .ok (.enter 15 args) w := by kernel_rfl
@[simp] theorem Qry.func16 : Qry.prog.funcs[16]? = some Tryz.f16 := by kernel_rfl
@[simp] theorem Qry.call16 (args : Array Value) (w : World) : (callFunc 16 args).run Qry.prog w = .ok (.enter 16 args) w := by kernel_rfl
@[simp] theorem Qry.func17 : Qry.prog.funcs[17]? = some Tryz.f17 := by kernel_rfl
@[simp] theorem Qry.call17 (args : Array Value) (w : World) : (callFunc 17 args).run Qry.prog w = .ok (.enter 17 args) w := by kernel_rfl
@[simp] theorem Qry.func18 : Qry.prog.funcs[18]? = some Tryz.f18 := by kernel_rfl
@[simp] theorem Qry.call18 (args : Array Value) (w : World) : (callFunc 18 args).run Qry.prog w = .ok (.enter 18 args) w := by kernel_rfl
@[simp] theorem Qry.func21 : Qry.prog.funcs[21]? = some Tryz.f21 := by kernel_rfl
@[simp] theorem Qry.call21 (args : Array Value) (w : World) : (callFunc 21 args).run Qry.prog w = .ok (.enter 21 args) w := by kernel_rfl
@[simp] theorem Qry.func24 : Qry.prog.funcs[24]? = some Tryz.f24 := by kernel_rfl
@[simp] theorem Qry.call24 (args : Array Value) (w : World) : (callFunc 24 args).run Qry.prog w = .ok (.enter 24 args) w := by kernel_rfl
@[simp] theorem Qry.func38 : Qry.prog.funcs[38]? = some Tryz.f38 := by kernel_rfl
@[simp] theorem Qry.call38 (args : Array Value) (w : World) : (callFunc 38 args).run Qry.prog w = .ok (.enter 38 args) w := by kernel_rfl
@[simp] theorem Qry.func39 : Qry.prog.funcs[39]? = some Tryz.f39 := by kernel_rfl
@[simp] theorem Qry.call39 (args : Array Value) (w : World) : (callFunc 39 args).run Qry.prog w = .ok (.enter 39 args) w := by kernel_rfl
@[simp] theorem Qry.func40 : Qry.prog.funcs[40]? = some Tryz.f40 := by kernel_rfl
@[simp] theorem Qry.call40 (args : Array Value) (w : World) : (callFunc 40 args).run Qry.prog w = .ok (.enter 40 args) w := by kernel_rfl
@[simp] theorem Qry.func41 : Qry.prog.funcs[41]? = some Tryz.f41 := by kernel_rfl
@[simp] theorem Qry.call41 (args : Array Value) (w : World) : (callFunc 41 args).run Qry.prog w = .ok (.enter 41 args) w := by kernel_rfl
@[simp] theorem Qry.func42 : Qry.prog.funcs[42]? = some Tryz.f42 := by kernel_rfl
@[simp] theorem Qry.call42 (args : Array Value) (w : World) : (callFunc 42 args).run Qry.prog w = .ok (.enter 42 args) w := by kernel_rfl
@[simp] theorem Qry.func43 : Qry.prog.funcs[43]? = some Tryz.f43 := by kernel_rfl
@[simp] theorem Qry.call43 (args : Array Value) (w : World) : (callFunc 43 args).run Qry.prog w = .ok (.enter 43 args) w := by kernel_rfl
@[simp] theorem Qry.func44 : Qry.prog.funcs[44]? = some Tryz.f44 := by kernel_rfl
@[simp] theorem Qry.call44 (args : Array Value) (w : World) : (callFunc 44 args).run Qry.prog w = .ok (.enter 44 args) w := by kernel_rfl
@[simp] theorem Qry.func45 : Qry.prog.funcs[45]? = some Tryz.f45 := by kernel_rfl
@[simp] theorem Qry.call45 (args : Array Value) (w : World) : (callFunc 45 args).run Qry.prog w = .ok (.enter 45 args) w := by kernel_rfl
@[simp] theorem Qry.func46 : Qry.prog.funcs[46]? = some Tryz.f46 := by kernel_rfl
@[simp] theorem Qry.call46 (args : Array Value) (w : World) : (callFunc 46 args).run Qry.prog w = .ok (.enter 46 args) w := by kernel_rfl
@[simp] theorem Qry.func47 : Qry.prog.funcs[47]? = some Tryz.f47 := by kernel_rfl
@[simp] theorem Qry.call47 (args : Array Value) (w : World) : (callFunc 47 args).run Qry.prog w = .ok (.enter 47 args) w := by kernel_rfl
@[simp] theorem Qry.func48 : Qry.prog.funcs[48]? = some Tryz.f48 := by kernel_rfl
@[simp] theorem Qry.call48 (args : Array Value) (w : World) : (callFunc 48 args).run Qry.prog w = .ok (.enter 48 args) w := by kernel_rfl
@[simp] theorem Qry.func49 : Qry.prog.funcs[49]? = some Tryz.f49 := by kernel_rfl
@[simp] theorem Qry.call49 (args : Array Value) (w : World) : (callFunc 49 args).run Qry.prog w = .ok (.enter 49 args) w := by kernel_rfl
@[simp] theorem Qry.func50 : Qry.prog.funcs[50]? = some Tryz.f50 := by kernel_rfl
@[simp] theorem Qry.call50 (args : Array Value) (w : World) : (callFunc 50 args).run Qry.prog w = .ok (.enter 50 args) w := by kernel_rfl
@[simp] theorem Qry.func51 : Qry.prog.funcs[51]? = some Tryz.f51 := by kernel_rfl
@[simp] theorem Qry.call51 (args : Array Value) (w : World) : (callFunc 51 args).run Qry.prog w = .ok (.enter 51 args) w := by kernel_rfl
@[simp] theorem Qry.func52 : Qry.prog.funcs[52]? = some Tryz.f52 := by kernel_rfl
@[simp] theorem Qry.call52 (args : Array Value) (w : World) : (callFunc 52 args).run Qry.prog w = .ok (.enter 52 args) w := by kernel_rfl
@[simp] theorem Qry.func53 : Qry.prog.funcs[53]? = some Tryz.f53 := by kernel_rfl
@[simp] theorem Qry.call53 (args : Array Value) (w : World) : (callFunc 53 args).run Qry.prog w = .ok (.enter 53 args) w := by kernel_rfl
@[simp] theorem Qry.func54 : Qry.prog.funcs[54]? = some Tryz.f54 := by kernel_rfl
@[simp] theorem Qry.call54 (args : Array Value) (w : World) : (callFunc 54 args).run Qry.prog w = .ok (.enter 54 args) w := by kernel_rfl
@[simp] theorem Qry.func55 : Qry.prog.funcs[55]? = some Tryz.f55 := by kernel_rfl
@[simp] theorem Qry.call55 (args : Array Value) (w : World) : (callFunc 55 args).run Qry.prog w = .ok (.enter 55 args) w := by kernel_rfl
@[simp] theorem Qry.func56 : Qry.prog.funcs[56]? = some Tryz.f56 := by kernel_rfl
@[simp] theorem Qry.call56 (args : Array Value) (w : World) : (callFunc 56 args).run Qry.prog w = .ok (.enter 56 args) w := by kernel_rfl
@[simp] theorem Qry.func57 : Qry.prog.funcs[57]? = some Tryz.f57 := by kernel_rfl
@[simp] theorem Qry.call57 (args : Array Value) (w : World) : (callFunc 57 args).run Qry.prog w = .ok (.enter 57 args) w := by kernel_rfl
@[simp] theorem Qry.func58 : Qry.prog.funcs[58]? = some Tryz.f58 := by kernel_rfl
@[simp] theorem Qry.call58 (args : Array Value) (w : World) : (callFunc 58 args).run Qry.prog w = .ok (.enter 58 args) w := by kernel_rfl
@[simp] theorem Qry.func59 : Qry.prog.funcs[59]? = some Tryz.f59 := by kernel_rfl
@[simp] theorem Qry.call59 (args : Array Value) (w : World) : (callFunc 59 args).run Qry.prog w = .ok (.enter 59 args) w := by kernel_rfl
@[simp] theorem Qry.func60 : Qry.prog.funcs[60]? = some Tryz.f60 := by kernel_rfl
@[simp] theorem Qry.call60 (args : Array Value) (w : World) : (callFunc 60 args).run Qry.prog w = .ok (.enter 60 args) w := by kernel_rfl
@[simp] theorem Qry.func61 : Qry.prog.funcs[61]? = some Tryz.f61 := by kernel_rfl
@[simp] theorem Qry.call61 (args : Array Value) (w : World) : (callFunc 61 args).run Qry.prog w = .ok (.enter 61 args) w := by kernel_rfl
@[simp] theorem Qry.func63 : Qry.prog.funcs[63]? = some Tryz.f63 := by kernel_rfl
@[simp] theorem Qry.call63 (args : Array Value) (w : World) : (callFunc 63 args).run Qry.prog w = .ok (.enter 63 args) w := by kernel_rfl
@[simp] theorem Qry.func64 : Qry.prog.funcs[64]? = some Tryz.f64 := by kernel_rfl
@[simp] theorem Qry.call64 (args : Array Value) (w : World) : (callFunc 64 args).run Qry.prog w = .ok (.enter 64 args) w := by kernel_rfl
@[simp] theorem Qry.func68 : Qry.prog.funcs[68]? = some Tryz.f68 := by kernel_rfl
@[simp] theorem Qry.call68 (args : Array Value) (w : World) : (callFunc 68 args).run Qry.prog w = .ok (.enter 68 args) w := by kernel_rfl
@[simp] theorem Qry.func69 : Qry.prog.funcs[69]? = some Tryz.f69 := by kernel_rfl
@[simp] theorem Qry.call69 (args : Array Value) (w : World) : (callFunc 69 args).run Qry.prog w = .ok (.enter 69 args) w := by kernel_rfl
@[simp] theorem Qry.func77 : Qry.prog.funcs[77]? = some Tryz.f77 := by kernel_rfl
@[simp] theorem Qry.call77 (args : Array Value) (w : World) : (callFunc 77 args).run Qry.prog w = .ok (.enter 77 args) w := by kernel_rfl
@[simp] theorem Qry.func78 : Qry.prog.funcs[78]? = some Tryz.f78 := by kernel_rfl
@[simp] theorem Qry.call78 (args : Array Value) (w : World) : (callFunc 78 args).run Qry.prog w = .ok (.enter 78 args) w := by kernel_rfl
@[simp] theorem Qry.func79 : Qry.prog.funcs[79]? = some Tryz.f79 := by kernel_rfl
@[simp] theorem Qry.call79 (args : Array Value) (w : World) : (callFunc 79 args).run Qry.prog w = .ok (.enter 79 args) w := by kernel_rfl
@[simp] theorem Qry.func80 : Qry.prog.funcs[80]? = some Tryz.f80 := by kernel_rfl
@[simp] theorem Qry.call80 (args : Array Value) (w : World) : (callFunc 80 args).run Qry.prog w = .ok (.enter 80 args) w := by kernel_rfl
@[simp] theorem Qry.func81 : Qry.prog.funcs[81]? = some Tryz.f81 := by kernel_rfl
@[simp] theorem Qry.call81 (args : Array Value) (w : World) : (callFunc 81 args).run Qry.prog w = .ok (.enter 81 args) w := by kernel_rfl
@[simp] theorem Qry.func82 : Qry.prog.funcs[82]? = some Tryz.f82 := by kernel_rfl
@[simp] theorem Qry.call82 (args : Array Value) (w : World) : (callFunc 82 args).run Qry.prog w = .ok (.enter 82 args) w := by kernel_rfl
@[simp] theorem Qry.func83 : Qry.prog.funcs[83]? = some Tryz.f83 := by kernel_rfl
@[simp] theorem Qry.call83 (args : Array Value) (w : World) : (callFunc 83 args).run Qry.prog w = .ok (.enter 83 args) w := by kernel_rfl
@[simp] theorem Qry.func84 : Qry.prog.funcs[84]? = some Tryz.f84 := by kernel_rfl
@[simp] theorem Qry.call84 (args : Array Value) (w : World) : (callFunc 84 args).run Qry.prog w = .ok (.enter 84 args) w := by kernel_rfl
@[simp] theorem Qry.func85 : Qry.prog.funcs[85]? = some Tryz.f85 := by kernel_rfl
@[simp] theorem Qry.call85 (args : Array Value) (w : World) : (callFunc 85 args).run Qry.prog w = .ok (.enter 85 args) w := by kernel_rfl
@[simp] theorem Qry.func86 : Qry.prog.funcs[86]? = some Tryz.f86 := by kernel_rfl
@[simp] theorem Qry.call86 (args : Array Value) (w : World) : (callFunc 86 args).run Qry.prog w = .ok (.enter 86 args) w := by kernel_rfl
@[simp] theorem Qry.func87 : Qry.prog.funcs[87]? = some Tryz.f87 := by kernel_rfl
@[simp] theorem Qry.call87 (args : Array Value) (w : World) : (callFunc 87 args).run Qry.prog w = .ok (.enter 87 args) w := by kernel_rfl
@[simp] theorem Qry.func88 : Qry.prog.funcs[88]? = some Tryz.f88 := by kernel_rfl
@[simp] theorem Qry.call88 (args : Array Value) (w : World) : (callFunc 88 args).run Qry.prog w = .ok (.enter 88 args) w := by kernel_rfl
@[simp] theorem Qry.func90 : Qry.prog.funcs[90]? = some Tryz.f90 := by kernel_rfl
@[simp] theorem Qry.call90 (args : Array Value) (w : World) : (callFunc 90 args).run Qry.prog w = .ok (.enter 90 args) w := by kernel_rfl
@[simp] theorem Qry.func91 : Qry.prog.funcs[91]? = some Tryz.f91 := by kernel_rfl
@[simp] theorem Qry.call91 (args : Array Value) (w : World) : (callFunc 91 args).run Qry.prog w = .ok (.enter 91 args) w := by kernel_rfl
@[simp] theorem Qry.func92 : Qry.prog.funcs[92]? = some Tryz.f92 := by kernel_rfl
@[simp] theorem Qry.call92 (args : Array Value) (w : World) : (callFunc 92 args).run Qry.prog w = .ok (.enter 92 args) w := by kernel_rfl
@[simp] theorem Qry.func98 : Qry.prog.funcs[98]? = some Tryz.f98 := by kernel_rfl
@[simp] theorem Qry.func99 : Qry.prog.funcs[99]? = some Tryz.f99 := by kernel_rfl
@[simp] theorem Qry.func100 : Qry.prog.funcs[100]? = some Tryz.f100 := by kernel_rfl
@[simp] theorem Qry.func101 : Qry.prog.funcs[101]? = some Tryz.f101 := by kernel_rfl
@[simp] theorem Qry.call101 (args : Array Value) (w : World) : (callFunc 101 args).run Qry.prog w = .ok (.enter 101 args) w := by kernel_rfl
@[simp] theorem Qry.func102 : Qry.prog.funcs[102]? = some Tryz.f102 := by kernel_rfl
@[simp] theorem Qry.call102 (args : Array Value) (w : World) : (callFunc 102 args).run Qry.prog w = .ok (.enter 102 args) w := by kernel_rfl
@[simp] theorem Qry.func103 : Qry.prog.funcs[103]? = some Tryz.f103 := by kernel_rfl
@[simp] theorem Qry.call103 (args : Array Value) (w : World) : (callFunc 103 args).run Qry.prog w = .ok (.enter 103 args) w := by kernel_rfl
@[simp] theorem Qry.func104 : Qry.prog.funcs[104]? = some Tryz.f104 := by kernel_rfl
@[simp] theorem Qry.call104 (args : Array Value) (w : World) : (callFunc 104 args).run Qry.prog w = .ok (.enter 104 args) w := by kernel_rfl
@[simp] theorem Qry.func105 : Qry.prog.funcs[105]? = some Tryz.f105 := by kernel_rfl
@[simp] theorem Qry.call105 (args : Array Value) (w : World) : (callFunc 105 args).run Qry.prog w = .ok (.enter 105 args) w := by kernel_rfl
@[simp] theorem Qry.func106 : Qry.prog.funcs[106]? = some Tryz.f106 := by kernel_rfl
@[simp] theorem Qry.call106 (args : Array Value) (w : World) : (callFunc 106 args).run Qry.prog w = .ok (.enter 106 args) w := by kernel_rfl
@[simp] theorem Qry.func107 : Qry.prog.funcs[107]? = some Tryz.f107 := by kernel_rfl
@[simp] theorem Qry.call107 (args : Array Value) (w : World) : (callFunc 107 args).run Qry.prog w = .ok (.enter 107 args) w := by kernel_rfl
@[simp] theorem Qry.func108 : Qry.prog.funcs[108]? = some Tryz.f108 := by kernel_rfl
@[simp] theorem Qry.call108 (args : Array Value) (w : World) : (callFunc 108 args).run Qry.prog w = .ok (.enter 108 args) w := by kernel_rfl
@[simp] theorem Qry.func109 : Qry.prog.funcs[109]? = some Tryz.f109 := by kernel_rfl
@[simp] theorem Qry.call109 (args : Array Value) (w : World) : (callFunc 109 args).run Qry.prog w = .ok (.enter 109 args) w := by kernel_rfl
@[simp] theorem Qry.func110 : Qry.prog.funcs[110]? = some Tryz.f110 := by kernel_rfl
@[simp] theorem Qry.call110 (args : Array Value) (w : World) : (callFunc 110 args).run Qry.prog w = .ok (.enter 110 args) w := by kernel_rfl
@[simp] theorem Qry.func111 : Qry.prog.funcs[111]? = some Tryz.f111 := by kernel_rfl
@[simp] theorem Qry.func112 : Qry.prog.funcs[112]? = some Tryz.f112 := by kernel_rfl
@[simp] theorem Qry.call112 (args : Array Value) (w : World) : (callFunc 112 args).run Qry.prog w = .ok (.enter 112 args) w := by kernel_rfl
@[simp] theorem Qry.func121 : Qry.prog.funcs[121]? = some Tryz.f121 := by kernel_rfl
@[simp] theorem Qry.func122 : Qry.prog.funcs[122]? = some Tryz.f122 := by kernel_rfl
@[simp] theorem Qry.func123 : Qry.prog.funcs[123]? = some Tryz.f123 := by kernel_rfl
@[simp] theorem Qry.func124 : Qry.prog.funcs[124]? = some Tryz.f124 := by kernel_rfl
@[simp] theorem Qry.call124 (args : Array Value) (w : World) : (callFunc 124 args).run Qry.prog w = .ok (.enter 124 args) w := by kernel_rfl
@[simp] theorem Qry.func125 : Qry.prog.funcs[125]? = some Tryz.f125 := by kernel_rfl
@[simp] theorem Qry.func127 : Qry.prog.funcs[127]? = some Tryz.f127 := by kernel_rfl
@[simp] theorem Qry.call127 (args : Array Value) (w : World) : (callFunc 127 args).run Qry.prog w = .ok (.enter 127 args) w := by kernel_rfl
@[simp] theorem Qry.func128 : Qry.prog.funcs[128]? = some Tryz.f128 := by kernel_rfl
@[simp] theorem Qry.call128 (args : Array Value) (w : World) : (callFunc 128 args).run Qry.prog w = .ok (.enter 128 args) w := by kernel_rfl
@[simp] theorem Qry.func149 : Qry.prog.funcs[149]? = some Tryz.f149 := by kernel_rfl
@[simp] theorem Qry.call149 (args : Array Value) (w : World) : (callFunc 149 args).run Qry.prog w = .ok (.enter 149 args) w := by kernel_rfl
@[simp] theorem Qry.func150 : Qry.prog.funcs[150]? = some Tryz.f150 := by kernel_rfl
@[simp] theorem Qry.call150 (args : Array Value) (w : World) : (callFunc 150 args).run Qry.prog w = .ok (.enter 150 args) w := by kernel_rfl
@[simp] theorem Qry.func157 : Qry.prog.funcs[157]? = some Tryz.f157 := by kernel_rfl
@[simp] theorem Qry.call157 (args : Array Value) (w : World) : (callFunc 157 args).run Qry.prog w = .ok (.enter 157 args) w := by kernel_rfl
@[simp] theorem Qry.func173 : Qry.prog.funcs[173]? = some Tryz.f173 := by kernel_rfl
@[simp] theorem Qry.func176 : Qry.prog.funcs[176]? = some Tryz.f176 := by kernel_rfl
@[simp] theorem Qry.call176 (args : Array Value) (w : World) : (callFunc 176 args).run Qry.prog w = .ok (.enter 176 args) w := by kernel_rfl
@[simp] theorem Qry.func177 : Qry.prog.funcs[177]? = some Tryz.f177 := by kernel_rfl
@[simp] theorem Qry.call177 (args : Array Value) (w : World) : (callFunc 177 args).run Qry.prog w = .ok (.enter 177 args) w := by kernel_rfl
@[simp] theorem Qry.func178 : Qry.prog.funcs[178]? = some Tryz.f178 := by kernel_rfl
@[simp] theorem Qry.call178 (args : Array Value) (w : World) : (callFunc 178 args).run Qry.prog w = .ok (.enter 178 args) w := by kernel_rfl
@[simp] theorem Qry.func179 : Qry.prog.funcs[179]? = some Tryz.f179 := by kernel_rfl
@[simp] theorem Qry.call179 (args : Array Value) (w : World) : (callFunc 179 args).run Qry.prog w = .ok (.enter 179 args) w := by kernel_rfl
@[simp] theorem Qry.func180 : Qry.prog.funcs[180]? = some Tryz.f180 := by kernel_rfl
@[simp] theorem Qry.call180 (args : Array Value) (w : World) : (callFunc 180 args).run Qry.prog w = .ok (.enter 180 args) w := by kernel_rfl
@[simp] theorem Qry.func181 : Qry.prog.funcs[181]? = some Tryz.f181 := by kernel_rfl
@[simp] theorem Qry.call181 (args : Array Value) (w : World) : (callFunc 181 args).run Qry.prog w = .ok (.enter 181 args) w := by kernel_rfl
@[simp] theorem Qry.func182 : Qry.prog.funcs[182]? = some Tryz.f182 := by kernel_rfl
@[simp] theorem Qry.call182 (args : Array Value) (w : World) : (callFunc 182 args).run Qry.prog w = .ok (.enter 182 args) w := by kernel_rfl
@[simp] theorem Qry.func188 : Qry.prog.funcs[188]? = some Tryz.f188 := by kernel_rfl
@[simp] theorem Qry.call188 (args : Array Value) (w : World) : (callFunc 188 args).run Qry.prog w = .ok (.enter 188 args) w := by kernel_rfl
@[simp] theorem Qry.func190 : Qry.prog.funcs[190]? = some Tryz.f190 := by kernel_rfl
@[simp] theorem Qry.func192 : Qry.prog.funcs[192]? = some Tryz.f192 := by kernel_rfl
@[simp] theorem Qry.func193 : Qry.prog.funcs[193]? = some Tryz.f193 := by kernel_rfl
@[simp] theorem Qry.run_underlying (t : TypeId) (w : World) : (Go.underlying t).run Qry.prog w = (Go.underlying t).run Tryz.prog w := same_run_underlying t w
@[simp] theorem Qry.run_typeInfo (t : TypeId) (w : World) : (Go.typeInfo t).run Qry.prog w = (Go.typeInfo t).run Tryz.prog w := same_run_typeInfo t w
@[simp] theorem Qry.run_sizeOf (t : TypeId) (w : World) : (Go.sizeOf t).run Qry.prog w = (Go.sizeOf t).run Tryz.prog w := same_run_sizeOf t w
@[simp] theorem Qry.run_isAgg (t : TypeId) (w : World) : (Go.isAgg t).run Qry.prog w = (Go.isAgg t).run Tryz.prog w := same_run_isAgg t w
@[simp] theorem Qry.run_zeroValue (t : TypeId) (w : World) : (Go.zeroValue t).run Qry.prog w = (Go.zeroValue t).run Tryz.prog w := same_run_zeroValue t w
@[simp] theorem Qry.underlying (t : TypeId) : Qry.prog.underlying t = Tryz.prog.underlying t := same_underlying t
@[simp] theorem Qry.tables : Qry.prog.toTables = Tryz.prog.toTables := rfl
theorem uQ {t : TypeId} {d : TypeDesc} (h : Tryz.prog.underlying t = some d) : Qry.prog.underlying t = some d := (Qry.underlying t).trans h
theorem Qry.stubL : StubL Qry.funcs.toList Tryz.funcs.toList := .stub (.stub (.stub (.same (.same (.same (.same (.same (.same (.same (.same (.same (.same (.same (.same (.same (.same (.same (.same (.same (.same (.same (.same (.same (.same (.same (.same (.same (.same (.same (.same (.same (.same (.same (.same (.same (.same (.same (.same (.same (.same (.same (.same (.same (.same (.same (.same (.same (.same (.same (.same (.same (.same (.same (.same (.same (.same (.same (.same (.same (.same (.same (.same (.same (.same (.same (.same (.same (.same (.same (.same (.same (.same (.same (.same (.same (.same (.same (.same (.same (.same (.same (.same (.same (.same (.same (.same (.same (.same (.stub (.same (.same (.same (.same (.same (.same (.same (.same (.same (.same (.same (.same (.same (.same (.same (.same (.same (.same (.same (.same (.same (.same (.same (.stub (.stub (.stub (.stub (.stub (.stub (.same (.same (.same (.same (.same (.same (.same (.same (.same (.same (.stub (.stub (.stub (.stub (.stub (.stub (.stub (.stub (.stub (.stub (.stub (.stub (.stub (.stub (.stub (.stub (.stub (.stub (.stub (.stub (.same (.same (.same (.stub (.stub (.stub (.stub (.stub (.same (.same (.stub (.stub (.stub (.stub (.stub (.stub (.stub (.stub (.stub (.stub (.stub (.stub (.stub (.stub (.same (.stub (.stub (.same (.same (.same (.same (.same (.same (.same (.stub (.stub (.stub (.stub (.stub (.same (.stub (.same (.stub (.same (.same (.stub (.stub (.stub (.stub (.stub (.stub (.stub (.stub (.stub (.stub (.stub (.nil)))))))))))))))))))))))))))))))))))))))))))))))))))))))))))))))))))))))))))))))))))))))))))))))))))))))))))))))))))))))))))))))))))))))))))))))))))))))))))))))))))))))))))))))))))))))))))))))))))))))))))))
theorem Qry.bodied : Qry.funcs.all (fun fn => (!fn.body.isNone || tameExt fn) && !(fn.name == "runtime.NumGoroutine")) = true := by kernel_rfl
theorem Qry.code : Qry.funcs.all (fun fn => match fn.body with | some c => okCode Tryz.prog c | none => true) = true := by kernel_rfl
theorem tamed : Tamed Qry.prog Tryz.prog := tamed_of rfl Qry.stubL Qry.bodied Qry.code (by kernel_rfl)
end Go.Proofs.YtdafpnpfcmgfcaaGreatDoor
