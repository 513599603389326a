/- The program, the functions that go refused: what the lone pieces run in. -/
import Derived.Test.YtdafpnpfcmgfcabChecked
import Derived.Test.YtdafpnpfcmgfcabLift18
namespace Go.Proofs.Ytdafpnpfcmgfcab
open Go
noncomputable def Qry.g0 : Func := { Try.f0 with body := some (.refuse "") }
noncomputable def Qry.g1 : Func := { Try.f1 with body := some (.refuse "") }
noncomputable def Qry.g2 : Func := { Try.f2 with body := some (.refuse "") }
noncomputable def Qry.g45 : Func := { Try.f45 with body := some (.refuse "") }
noncomputable def Qry.g52 : Func := { Try.f52 with body := some (.refuse "") }
noncomputable def Qry.g53 : Func := { Try.f53 with body := some (.refuse "") }
noncomputable def Qry.g54 : Func := { Try.f54 with body := some (.refuse "") }
noncomputable def Qry.g55 : Func := { Try.f55 with body := some (.refuse "") }
noncomputable def Qry.g56 : Func := { Try.f56 with body := some (.refuse "") }
noncomputable def Qry.g57 : Func := { Try.f57 with body := some (.refuse "") }
noncomputable def Qry.g62 : Func := { Try.f62 with body := some (.refuse "") }
noncomputable def Qry.g63 : Func := { Try.f63 with body := some (.refuse "") }
noncomputable def Qry.g64 : Func := { Try.f64 with body := some (.refuse "") }
noncomputable def Qry.g65 : Func := { Try.f65 with body := some (.refuse "") }
noncomputable def Qry.g66 : Func := { Try.f66 with body := some (.refuse "") }
noncomputable def Qry.g67 : Func := { Try.f67 with body := some (.refuse "") }
noncomputable def Qry.g68 : Func := { Try.f68 with body := some (.refuse "") }
noncomputable def Qry.g69 : Func := { Try.f69 with body := some (.refuse "") }
noncomputable def Qry.g70 : Func := { Try.f70 with body := some (.refuse "") }
noncomputable def Qry.g71 : Func := { Try.f71 with body := some (.refuse "") }
noncomputable def Qry.g72 : Func := { Try.f72 with body := some (.refuse "") }
noncomputable def Qry.g73 : Func := { Try.f73 with body := some (.refuse "") }
noncomputable def Qry.g74 : Func := { Try.f74 with body := some (.refuse "") }
noncomputable def Qry.g75 : Func := { Try.f75 with body := some (.refuse "") }
noncomputable def Qry.g76 : Func := { Try.f76 with body := some (.refuse "") }
noncomputable def Qry.g77 : Func := { Try.f77 with body := some (.refuse "") }
noncomputable def Qry.g78 : Func := { Try.f78 with body := some (.refuse "") }
noncomputable def Qry.g79 : Func := { Try.f79 with body := some (.refuse "") }
noncomputable def Qry.g80 : Func := { Try.f80 with body := some (.refuse "") }
noncomputable def Qry.g81 : Func := { Try.f81 with body := some (.refuse "") }
noncomputable def Qry.g84 : Func := { Try.f84 with body := some (.refuse "") }
noncomputable def Qry.g85 : Func := { Try.f85 with body := some (.refuse "") }
noncomputable def Qry.g86 : Func := { Try.f86 with body := some (.refuse "") }
noncomputable def Qry.g87 : Func := { Try.f87 with body := some (.refuse "") }
noncomputable def Qry.g88 : Func := { Try.f88 with body := some (.refuse "") }
noncomputable def Qry.g89 : Func := { Try.f89 with body := some (.refuse "") }
noncomputable def Qry.g90 : Func := { Try.f90 with body := some (.refuse "") }
noncomputable def Qry.g91 : Func := { Try.f91 with body := some (.refuse "") }
noncomputable def Qry.g92 : Func := { Try.f92 with body := some (.refuse "") }
noncomputable def Qry.g93 : Func := { Try.f93 with body := some (.refuse "") }
noncomputable def Qry.g94 : Func := { Try.f94 with body := some (.refuse "") }
noncomputable def Qry.g95 : Func := { Try.f95 with body := some (.refuse "") }
noncomputable def Qry.g96 : Func := { Try.f96 with body := some (.refuse "") }
noncomputable def Qry.g97 : Func := { Try.f97 with body := some (.refuse "") }
noncomputable def Qry.g98 : Func := { Try.f98 with body := some (.refuse "") }
noncomputable def Qry.g99 : Func := { Try.f99 with body := some (.refuse "") }
noncomputable def Qry.g100 : Func := { Try.f100 with body := some (.refuse "") }
noncomputable def Qry.g101 : Func := { Try.f101 with body := some (.refuse "") }
noncomputable def Qry.g102 : Func := { Try.f102 with body := some (.refuse "") }
noncomputable def Qry.g103 : Func := { Try.f103 with body := some (.refuse "") }
noncomputable def Qry.g104 : Func := { Try.f104 with body := some (.refuse "") }
noncomputable def Qry.g105 : Func := { Try.f105 with body := some (.refuse "") }
noncomputable def Qry.funcs : Array Func := #[Qry.g0, Qry.g1, Qry.g2, Try.f3, Try.f4, Try.f5, Try.f6, Try.f7, Try.f8, Try.f9, Try.f10, Try.f11, Try.f12, Try.f13, Try.f14, Try.f15, Try.f16, Try.f17, Try.f18, Try.f19, Try.f20, Try.f21, Try.f22, Try.f23, Try.f24, Try.f25, Try.f26, Try.f27, Try.f28, Try.f29, Try.f30, Try.f31, Try.f32, Try.f33, Try.f34, Try.f35, Try.f36, Try.f37, Try.f38, Try.f39, Try.f40, Try.f41, Try.f42, Try.f43, Try.f44, Qry.g45, Try.f46, Try.f47, Try.f48, Try.f49, Try.f50, Try.f51, Qry.g52, Qry.g53, Qry.g54, Qry.g55, Qry.g56, Qry.g57, Try.f58, Try.f59, Try.f60, Try.f61, Qry.g62, Qry.g63, Qry.g64, Qry.g65, Qry.g66, Qry.g67, Qry.g68, Qry.g69, Qry.g70, Qry.g71, Qry.g72, Qry.g73, Qry.g74, Qry.g75, Qry.g76, Qry.g77, Qry.g78, Qry.g79, Qry.g80, Qry.g81, Try.f82, Try.f83, Qry.g84, Qry.g85, Qry.g86, Qry.g87, Qry.g88, Qry.g89, Qry.g90, Qry.g91, Qry.g92, Qry.g93, Qry.g94, Qry.g95, Qry.g96, Qry.g97, Qry.g98, Qry.g99, Qry.g100, Qry.g101, Qry.g102, Qry.g103, Qry.g104, Qry.g105]
noncomputable def Qry.prog : Program := { toTables := Try.progTables, funcs := Qry.funcs }
@[simp] theorem Qry.func3 : Qry.prog.funcs[3]? = some Try.f3 := rfl
@[simp] theorem Qry.call3 (args : Array Value) (w : World) : (callFunc 3 args).run Qry.prog w = .ok (.enter 3 args) w := rfl
@[simp] theorem Qry.func4 : Qry.prog.funcs[4]? = some Try.f4 := rfl
@[simp] theorem Qry.call4 (args : Array Value) (w : World) : (callFunc 4 args).run Qry.prog w = .ok (.enter 4 args) w := rfl
@[simp] theorem Qry.func5 : Qry.prog.funcs[5]? = some Try.f5 := rfl
@[simp] theorem Qry.call5 (args : Array Value) (w : World) : (callFunc 5 args).run Qry.prog w = .ok (.enter 5 args) w := rfl
@[simp] theorem Qry.func6 : Qry.prog.funcs[6]? = some Try.f6 := rfl
@[simp] theorem Qry.call6 (args : Array Value) (w : World) : (callFunc 6 args).run Qry.prog w = .ok (.enter 6 args) w := rfl
@[simp] theorem Qry.func7 : Qry.prog.funcs[7]? = some Try.f7 := rfl
@[simp] theorem Qry.call7 (args : Array Value) (w : World) : (callFunc 7 args).run Qry.prog w = .ok (.enter 7 args) w := rfl
@[simp] theorem Qry.func8 : Qry.prog.funcs[8]? = some Try.f8 := rfl
@[simp] theorem Qry.call8 (args : Array Value) (w : World) : (callFunc 8 args).run Qry.prog w = .ok (.enter 8 args) w := rfl
@[simp] theorem Qry.func9 : Qry.prog.funcs[9]? = some Try.f9 := rfl
@[simp] theorem Qry.call9 (args : Array Value) (w : World) : (callFunc 9 args).run Qry.prog w = .ok (.enter 9 args) w := rfl
@[simp] theorem Qry.func10 : Qry.prog.funcs[10]? = some Try.f10 := rfl
@[simp] theorem Qry.call10 (args : Array Value) (w : World) : (callFunc 10 args).run Qry.prog w = .ok (.enter 10 args) w := rfl
@[simp] theorem Qry.func11 : Qry.prog.funcs[11]? = some Try.f11 := rfl
@[simp] theorem Qry.call11 (args : Array Value) (w : World) : (callFunc 11 args).run Qry.prog w = .ok (.enter 11 args) w := rfl
@[simp] theorem Qry.func12 : Qry.prog.funcs[12]? = some Try.f12 := rfl
@[simp] theorem Qry.call12 (args : Array Value) (w : World) : (callFunc 12 args).run Qry.prog w = .ok (.enter 12 args) w := rfl
@[simp] theorem Qry.func13 : Qry.prog.funcs[13]? = some Try.f13 := rfl
@[simp] theorem Qry.call13 (args : Array Value) (w : World) : (callFunc 13 args).run Qry.prog w = .ok (.enter 13 args) w := rfl
@[simp] theorem Qry.func14 : Qry.prog.funcs[14]? = some Try.f14 := rfl
@[simp] theorem Qry.call14 (args : Array Value) (w : World) : (callFunc 14 args).run Qry.prog w = .ok (.enter 14 args) w := rfl
@[simp] theorem Qry.func15 : Qry.prog.funcs[15]? = some Try.f15 := rfl
@[simp] theorem Qry.call15 (args : Array Value) (w : World) : (callFunc 15 args).run Qry.prog w = .ok (.enter 15 args) w := rfl
@[simp] theorem Qry.func16 : Qry.prog.funcs[16]? = some Try.f16 := rfl
@[simp] theorem Qry.call16 (args : Array Value) (w : World) : (callFunc 16 args).run Qry.prog w = .ok (.enter 16 args) w := rfl
@[simp] theorem Qry.func17 : Qry.prog.funcs[17]? = some Try.f17 := rfl
@[simp] theorem Qry.call17 (args : Array Value) (w : World) : (callFunc 17 args).run Qry.prog w = .ok (.enter 17 args) w := rfl
@[simp] theorem Qry.func18 : Qry.prog.funcs[18]? = some Try.f18 := rfl
@[simp] theorem Qry.call18 (args : Array Value) (w : World) : (callFunc 18 args).run Qry.prog w = .ok (.enter 18 args) w := rfl
@[simp] theorem Qry.func19 : Qry.prog.funcs[19]? = some Try.f19 := rfl
@[simp] theorem Qry.call19 (args : Array Value) (w : World) : (callFunc 19 args).run Qry.prog w = .ok (.enter 19 args) w := rfl
@[simp] theorem Qry.func20 : Qry.prog.funcs[20]? = some Try.f20 := rfl
@[simp] theorem Qry.call20 (args : Array Value) (w : World) : (callFunc 20 args).run Qry.prog w = .ok (.enter 20 args) w := rfl
@[simp] theorem Qry.func21 : Qry.prog.funcs[21]? = some Try.f21 := rfl
@[simp] theorem Qry.call21 (args : Array Value) (w : World) : (callFunc 21 args).run Qry.prog w = .ok (.enter 21 args) w := rfl
@[simp] theorem Qry.func22 : Qry.prog.funcs[22]? = some Try.f22 := rfl
@[simp] theorem Qry.call22 (args : Array Value) (w : World) : (callFunc 22 args).run Qry.prog w = .ok (.enter 22 args) w := rfl
@[simp] theorem Qry.func23 : Qry.prog.funcs[23]? = some Try.f23 := rfl
@[simp] theorem Qry.call23 (args : Array Value) (w : World) : (callFunc 23 args).run Qry.prog w = .ok (.enter 23 args) w := rfl
@[simp] theorem Qry.func24 : Qry.prog.funcs[24]? = some Try.f24 := rfl
@[simp] theorem Qry.call24 (args : Array Value) (w : World) : (callFunc 24 args).run Qry.prog w = .ok (.enter 24 args) w := rfl
@[simp] theorem Qry.func25 : Qry.prog.funcs[25]? = some Try.f25 := rfl
@[simp] theorem Qry.call25 (args : Array Value) (w : World) : (callFunc 25 args).run Qry.prog w = .ok (.enter 25 args) w := rfl
@[simp] theorem Qry.func26 : Qry.prog.funcs[26]? = some Try.f26 := rfl
@[simp] theorem Qry.call26 (args : Array Value) (w : World) : (callFunc 26 args).run Qry.prog w = .ok (.enter 26 args) w := rfl
@[simp] theorem Qry.func27 : Qry.prog.funcs[27]? = some Try.f27 := rfl
@[simp] theorem Qry.call27 (args : Array Value) (w : World) : (callFunc 27 args).run Qry.prog w = .ok (.enter 27 args) w := rfl
@[simp] theorem Qry.func28 : Qry.prog.funcs[28]? = some Try.f28 := rfl
@[simp] theorem Qry.call28 (args : Array Value) (w : World) : (callFunc 28 args).run Qry.prog w = .ok (.enter 28 args) w := rfl
@[simp] theorem Qry.func29 : Qry.prog.funcs[29]? = some Try.f29 := rfl
@[simp] theorem Qry.call29 (args : Array Value) (w : World) : (callFunc 29 args).run Qry.prog w = .ok (.enter 29 args) w := rfl
@[simp] theorem Qry.func30 : Qry.prog.funcs[30]? = some Try.f30 := rfl
@[simp] theorem Qry.call30 (args : Array Value) (w : World) : (callFunc 30 args).run Qry.prog w = .ok (.enter 30 args) w := rfl
@[simp] theorem Qry.func31 : Qry.prog.funcs[31]? = some Try.f31 := rfl
@[simp] theorem Qry.call31 (args : Array Value) (w : World) : (callFunc 31 args).run Qry.prog w = .ok (.enter 31 args) w := rfl
@[simp] theorem Qry.func32 : Qry.prog.funcs[32]? = some Try.f32 := rfl
@[simp] theorem Qry.call32 (args : Array Value) (w : World) : (callFunc 32 args).run Qry.prog w = .ok (.enter 32 args) w := rfl
@[simp] theorem Qry.func33 : Qry.prog.funcs[33]? = some Try.f33 := rfl
@[simp] theorem Qry.call33 (args : Array Value) (w : World) : (callFunc 33 args).run Qry.prog w = .ok (.enter 33 args) w := rfl
@[simp] theorem Qry.func34 : Qry.prog.funcs[34]? = some Try.f34 := rfl
@[simp] theorem Qry.call34 (args : Array Value) (w : World) : (callFunc 34 args).run Qry.prog w = .ok (.enter 34 args) w := rfl
@[simp] theorem Qry.func35 : Qry.prog.funcs[35]? = some Try.f35 := rfl
@[simp] theorem Qry.call35 (args : Array Value) (w : World) : (callFunc 35 args).run Qry.prog w = .ok (.enter 35 args) w := rfl
@[simp] theorem Qry.func36 : Qry.prog.funcs[36]? = some Try.f36 := rfl
@[simp] theorem Qry.call36 (args : Array Value) (w : World) : (callFunc 36 args).run Qry.prog w = .ok (.enter 36 args) w := rfl
@[simp] theorem Qry.func37 : Qry.prog.funcs[37]? = some Try.f37 := rfl
@[simp] theorem Qry.call37 (args : Array Value) (w : World) : (callFunc 37 args).run Qry.prog w = .ok (.enter 37 args) w := rfl
@[simp] theorem Qry.func38 : Qry.prog.funcs[38]? = some Try.f38 := rfl
@[simp] theorem Qry.call38 (args : Array Value) (w : World) : (callFunc 38 args).run Qry.prog w = .ok (.enter 38 args) w := rfl
@[simp] theorem Qry.func39 : Qry.prog.funcs[39]? = some Try.f39 := rfl
@[simp] theorem Qry.call39 (args : Array Value) (w : World) : (callFunc 39 args).run Qry.prog w = .ok (.enter 39 args) w := rfl
@[simp] theorem Qry.func40 : Qry.prog.funcs[40]? = some Try.f40 := rfl
@[simp] theorem Qry.call40 (args : Array Value) (w : World) : (callFunc 40 args).run Qry.prog w = .ok (.enter 40 args) w := rfl
@[simp] theorem Qry.func41 : Qry.prog.funcs[41]? = some Try.f41 := rfl
@[simp] theorem Qry.call41 (args : Array Value) (w : World) : (callFunc 41 args).run Qry.prog w = .ok (.enter 41 args) w := rfl
@[simp] theorem Qry.func42 : Qry.prog.funcs[42]? = some Try.f42 := rfl
@[simp] theorem Qry.call42 (args : Array Value) (w : World) : (callFunc 42 args).run Qry.prog w = .ok (.enter 42 args) w := rfl
@[simp] theorem Qry.func43 : Qry.prog.funcs[43]? = some Try.f43 := rfl
@[simp] theorem Qry.call43 (args : Array Value) (w : World) : (callFunc 43 args).run Qry.prog w = .ok (.enter 43 args) w := rfl
@[simp] theorem Qry.func44 : Qry.prog.funcs[44]? = some Try.f44 := rfl
@[simp] theorem Qry.call44 (args : Array Value) (w : World) : (callFunc 44 args).run Qry.prog w = .ok (.enter 44 args) w := rfl
@[simp] theorem Qry.func46 : Qry.prog.funcs[46]? = some Try.f46 := rfl
@[simp] theorem Qry.call46 (args : Array Value) (w : World) : (callFunc 46 args).run Qry.prog w = .ok (.enter 46 args) w := rfl
@[simp] theorem Qry.func47 : Qry.prog.funcs[47]? = some Try.f47 := rfl
@[simp] theorem Qry.call47 (args : Array Value) (w : World) : (callFunc 47 args).run Qry.prog w = .ok (.enter 47 args) w := rfl
@[simp] theorem Qry.func48 : Qry.prog.funcs[48]? = some Try.f48 := rfl
@[simp] theorem Qry.call48 (args : Array Value) (w : World) : (callFunc 48 args).run Qry.prog w = .ok (.enter 48 args) w := rfl
@[simp] theorem Qry.func49 : Qry.prog.funcs[49]? = some Try.f49 := rfl
@[simp] theorem Qry.call49 (args : Array Value) (w : World) : (callFunc 49 args).run Qry.prog w = .ok (.enter 49 args) w := rfl
@[simp] theorem Qry.func50 : Qry.prog.funcs[50]? = some Try.f50 := rfl
@[simp] theorem Qry.call50 (args : Array Value) (w : World) : (callFunc 50 args).run Qry.prog w = .ok (.enter 50 args) w := rfl
@[simp] theorem Qry.func51 : Qry.prog.funcs[51]? = some Try.f51 := rfl
@[simp] theorem Qry.call51 (args : Array Value) (w : World) : (callFunc 51 args).run Qry.prog w = .ok (.enter 51 args) w := rfl
@[simp] theorem Qry.func58 : Qry.prog.funcs[58]? = some Try.f58 := rfl
@[simp] theorem Qry.call58 (args : Array Value) (w : World) : (callFunc 58 args).run Qry.prog w = .ok (.enter 58 args) w := rfl
@[simp] theorem Qry.func59 : Qry.prog.funcs[59]? = some Try.f59 := rfl
@[simp] theorem Qry.call59 (args : Array Value) (w : World) : (callFunc 59 args).run Qry.prog w = .ok (.enter 59 args) w := rfl
@[simp] theorem Qry.func60 : Qry.prog.funcs[60]? = some Try.f60 := rfl
@[simp] theorem Qry.call60 (args : Array Value) (w : World) : (callFunc 60 args).run Qry.prog w = .ok (.enter 60 args) w := rfl
@[simp] theorem Qry.func61 : Qry.prog.funcs[61]? = some Try.f61 := rfl
@[simp] theorem Qry.call61 (args : Array Value) (w : World) : (callFunc 61 args).run Qry.prog w = .ok (.enter 61 args) w := rfl
@[simp] theorem Qry.func82 : Qry.prog.funcs[82]? = some Try.f82 := rfl
@[simp] theorem Qry.call82 (args : Array Value) (w : World) : (callFunc 82 args).run Qry.prog w = .ok (.enter 82 args) w := rfl
@[simp] theorem Qry.func83 : Qry.prog.funcs[83]? = some Try.f83 := rfl
@[simp] theorem Qry.call83 (args : Array Value) (w : World) : (callFunc 83 args).run Qry.prog w = .ok (.enter 83 args) w := rfl
@[simp] theorem Qry.run_underlying (t : TypeId) (w : World) : (Go.underlying t).run Qry.prog w = (Go.underlying t).run Try.prog w := same_run_underlying t w
@[simp] theorem Qry.run_typeInfo (t : TypeId) (w : World) : (Go.typeInfo t).run Qry.prog w = (Go.typeInfo t).run Try.prog w := same_run_typeInfo t w
@[simp] theorem Qry.run_sizeOf (t : TypeId) (w : World) : (Go.sizeOf t).run Qry.prog w = (Go.sizeOf t).run Try.prog w := same_run_sizeOf t w
@[simp] theorem Qry.run_isAgg (t : TypeId) (w : World) : (Go.isAgg t).run Qry.prog w = (Go.isAgg t).run Try.prog w := same_run_isAgg t w
@[simp] theorem Qry.run_zeroValue (t : TypeId) (w : World) : (Go.zeroValue t).run Qry.prog w = (Go.zeroValue t).run Try.prog w := same_run_zeroValue t w
@[simp] theorem Qry.underlying (t : TypeId) : Qry.prog.underlying t = Try.prog.underlying t := same_underlying t
@[simp] theorem Qry.tables : Qry.prog.toTables = Try.prog.toTables := rfl
theorem uQ {t : TypeId} {d : TypeDesc} (h : Try.prog.underlying t = some d) : Qry.prog.underlying t = some d := (Qry.underlying t).trans h
theorem Qry.stubL : StubL Qry.funcs.toList Try.funcs.toList := .stub (.stub (.stub (.same (.same (.same (.same (.same (.same (.same (.same (.same (.same (.same (.same (.same (.same (.same (.same (.same (.same (.same (.same (.same (.same (.same (.same (.same (.same (.same (.same (.same (.same (.same (.same (.same (.same (.same (.same (.same (.same (.same (.same (.same (.same (.stub (.same (.same (.same (.same (.same (.same (.stub (.stub (.stub (.stub (.stub (.stub (.same (.same (.same (.same (.stub (.stub (.stub (.stub (.stub (.stub (.stub (.stub (.stub (.stub (.stub (.stub (.stub (.stub (.stub (.stub (.stub (.stub (.stub (.stub (.same (.same (.stub (.stub (.stub (.stub (.stub (.stub (.stub (.stub (.stub (.stub (.stub (.stub (.stub (.stub (.stub (.stub (.stub (.stub (.stub (.stub (.stub (.stub (.nil))))))))))))))))))))))))))))))))))))))))))))))))))))))))))))))))))))))))))))))))))))))))))))))))))))))))))
theorem Qry.bodied : Qry.funcs.all (fun fn => !fn.body.isNone && !(fn.name == "runtime.NumGoroutine")) = true := by kernel_rfl
theorem Qry.code : Qry.funcs.all (fun fn => match fn.body with | some c => okCode Try.prog c | none => true) = true := by kernel_rfl
theorem tamed : Tamed Qry.prog Try.prog := tamed_of rfl Qry.stubL Qry.bodied Qry.code
end Go.Proofs.Ytdafpnpfcmgfcab
