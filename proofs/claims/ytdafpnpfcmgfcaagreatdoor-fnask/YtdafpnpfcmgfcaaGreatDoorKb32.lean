/- errors.As at a refusal that is wrapped once, and at nil. A wish answered: refusalOf, errors.As at nothing, answered, whatever the wish. The four of chapter 3, whole. What is held of the marks of a book. -/
import Derived.Test.YtdafpnpfcmgfcaaGreatDoorKb19
import Derived.LaidEql
import Derived.Stop.Asserts
import Derived.RowKitTokens
import Derived.Test.YtdafpnpfcmgfcaaGreatDoorKb31
import Derived.Test.YtdafpnpfcmgfcaaGreatDoorKb28
namespace Go.Proofs.YtdafpnpfcmgfcaaGreatDoor
section
open Go.RowKit Go.Extern.Stop Go.Stop Go.Extern
theorem as_nil (t : Value) (w : World) :
  Calls Qry.prog 78 #[.nilIface, t] w fun e w' => e = .returned (.bool false) ∧ w' = w := by
 go_enter Qry.func78, Tryz.ntmps78
 go_wp2
 go_ret
 exact ⟨rfl, rfl⟩
theorem asValueOfP (t : Addr) (w : World) : (ReflectliteValue.unpack (.iface 112 (.pointer (some t)))).run Qry.prog w
  = .ok (.agg #[.pointer (some ⟨1, 112, none⟩), .pointer (some ⟨w.heap.size, 0, none⟩), .int .u64 150]) (w.alloc (.cells #[.pointer (some t)] 112)) := by kernel_rfl
theorem asTypeP (a : Addr) (w : World) : (ReflectliteValue.methodAny (ReflectliteValue.valueError "reflectlite.Value.Type" 0) (fun t _ _ _ => ReflectliteType.toType t) #[.agg #[.pointer (some ⟨1, 112, none⟩), .pointer (some a), .int .u64 150]]).run Qry.prog w
  = .ok (.iface 176 (.agg #[.pointer (some ⟨1, 112, none⟩)])) w := by kernel_rfl
theorem asMethodKind (h : Value) (w : World) : (Go.method 348 176 (.agg #[h]) "Kind").run Qry.prog w = .ok (173, h) w := by kernel_rfl
theorem asKindP (w : World) : ((ReflectliteType.abiMethod fun t => (fun a : Nat => Value.int IntKind.u8 (a : Int)) <$> Rtype.kind t) #[.pointer (some ⟨1, 112, none⟩)]).run Qry.prog w = .ok (.int .u8 22) w := by kernel_rfl
theorem asKindR (w : World) : ((ReflectliteType.abiMethod fun t => (fun a : Nat => Value.int IntKind.u8 (a : Int)) <$> Rtype.kind t) #[.pointer (some ⟨1, 107, none⟩)]).run Qry.prog w = .ok (.int .u8 2) w := by kernel_rfl
theorem rlm (z : Sem Value) (f : TypeId → Addr → Nat → Nat → Sem Value) (v : Value) :
  ReflectliteValue.method z f #[v] = (do match ← ReflectliteValue.parts v with | none => z | some (t, a, fl) => f t a fl (fl % 32)) := rfl
theorem asPartsP (a : Addr) (w : World) : (ReflectliteValue.parts (.agg #[.pointer (some ⟨1, 112, none⟩), .pointer (some a), .int .u64 150])).run Qry.prog w = .ok (some (112, a, 150)) w := by kernel_rfl
theorem asIsNilP (a p : Addr) (W : World) (ha : W.cell? a = some (.pointer (some p))) :
  (ReflectliteValue.method (ReflectliteValue.valueError "reflectlite.Value.IsNil" 0) ReflectliteValue.isNil #[.agg #[.pointer (some ⟨1, 112, none⟩), .pointer (some a), .int .u64 150]]).run Qry.prog W = .ok (.bool false) W := by
 rw [rlm]
 simp only [Sem.run_bind, asPartsP, Result.andThen]
 simp [ReflectliteValue.isNil, loadVar, isAgg, underlying, (uQ Tryz.underlying112), ha, Result.andThen]
theorem asMethodElem (h : Value) (w : World) : (Go.method 348 176 (.agg #[h]) "Elem").run Qry.prog w = .ok (192, .agg #[h]) w := by kernel_rfl
theorem asMethodImplements (h : Value) (w : World) : (Go.method 348 176 (.agg #[h]) "Implements").run Qry.prog w = .ok (193, .agg #[h]) w := by kernel_rfl
theorem asMethodAssignableTo (h : Value) (w : World) : (Go.method 348 176 (.agg #[h]) "AssignableTo").run Qry.prog w = .ok (190, .agg #[h]) w := by kernel_rfl
theorem asElemP (w : World) : (ReflectliteType.method ReflectliteType.elem #[.agg #[.pointer (some ⟨1, 112, none⟩)]]).run Qry.prog w = .ok (.iface 176 (.agg #[.pointer (some ⟨1, 107, none⟩)])) w := by kernel_rfl
theorem asImplementsR (w : World) : (ReflectliteType.relation "Implements" ReflectliteType.implements_ #[.agg #[.pointer (some ⟨1, 107, none⟩)], .iface 176 (.agg #[.pointer (some ⟨1, 110, none⟩)])]).run Qry.prog w = .ok (.bool true) w := by kernel_rfl
theorem asTypeOfW (v : Value) (w : World) : (ReflectliteType.typeOf #[.iface 150 v]).run Qry.prog w = .ok (.iface 176 (.agg #[.pointer (some ⟨1, 150, none⟩)])) w := by kernel_rfl
theorem asTypeOfR (v : Value) (w : World) : (ReflectliteType.typeOf #[.iface 107 v]).run Qry.prog w = .ok (.iface 176 (.agg #[.pointer (some ⟨1, 107, none⟩)])) w := by kernel_rfl
theorem asAssignW (w : World) : (ReflectliteType.relation "AssignableTo" ReflectliteType.assignableTo #[.agg #[.pointer (some ⟨1, 150, none⟩)], .iface 176 (.agg #[.pointer (some ⟨1, 107, none⟩)])]).run Qry.prog w = .ok (.bool false) w := by kernel_rfl
theorem asAssignR (w : World) : (ReflectliteType.relation "AssignableTo" ReflectliteType.assignableTo #[.agg #[.pointer (some ⟨1, 107, none⟩)], .iface 176 (.agg #[.pointer (some ⟨1, 107, none⟩)])]).run Qry.prog w = .ok (.bool true) w := by kernel_rfl
theorem asLacksAs (v : Value) (xT : TypeId) (w : World) : (Instr.typeAssert (.iface 150 v) xT 181 true).run Qry.prog w = .ok (.tuple #[.nilIface, .bool false]) w := run_typeAssert_lacksB (uQ Tryz.underlying181) (by kernel_rfl) (by kernel_rfl) v xT w
theorem asHasUnwrap (v : Value) (xT : TypeId) (w : World) : (Instr.typeAssert (.iface 150 v) xT 184 true).run Qry.prog w = .ok (.tuple #[.iface 150 v, .bool true]) w := run_typeAssert_hasB (uQ Tryz.underlying184) (by kernel_rfl) v xT w
theorem asMethodUnwrap (v : Value) (w : World) : (Go.method 348 150 v "Unwrap").run Qry.prog w = .ok (188, v) w := by kernel_rfl
theorem asValueOfR (c : Int) (w : World) : (ReflectliteValue.unpack (.iface 107 (.int .i64 c))).run Qry.prog w
  = .ok (.agg #[.pointer (some ⟨1, 107, none⟩), .pointer (some ⟨w.heap.size, 0, none⟩), .int .u64 130]) (w.alloc (.cells #[.int .i64 c] 107)) := by kernel_rfl
theorem asElemOfP (w : World) : (Rtype.elem? 112).run Qry.prog w = .ok (some 107) w := by kernel_rfl
theorem asMkR (p : Addr) (w : World) : (ReflectliteValue.mk 107 p ReflectliteValue.flagAddr).run Qry.prog w = .ok (.agg #[.pointer (some ⟨1, 107, none⟩), .pointer (some p), .int .u64 386]) w := by kernel_rfl
theorem asElemV (a p : Addr) (W : World) (ha : W.cell? a = some (.pointer (some p))) :
  (ReflectliteValue.method (ReflectliteValue.valueError "reflectlite.Value.Elem" 0) ReflectliteValue.elem #[.agg #[.pointer (some ⟨1, 112, none⟩), .pointer (some a), .int .u64 150]]).run Qry.prog W
   = .ok (.agg #[.pointer (some ⟨1, 107, none⟩), .pointer (some p), .int .u64 386]) W := by
 rw [rlm]
 simp only [Sem.run_bind, asPartsP, Result.andThen]
 simp [ReflectliteValue.elem, loadVar, isAgg, underlying, (uQ Tryz.underlying112), ha, Result.andThen, asElemOfP, asMkR]
theorem rls (v x : Value) : ReflectliteValue.set #[v, x] = (do
  let (some (dst, a, fl), some (src, b, _)) := (← ReflectliteValue.parts v, ← ReflectliteValue.parts x)
   | unsupported (.noEntry "extern/(internal/reflectlite.Value).Set.zeroValue")
  if fl / ReflectliteValue.flagAddr % 2 == 0 then unsupported (.noEntry "extern/(internal/reflectlite.Value).Set.unaddressable")
  let val ← loadVar src b
  if ← Rtype.directlyAssignable dst src then storeVar dst a val
  else if ← Rtype.implements dst src then
   if (← Rtype.kind src) == 20 then
    match val with
    | .nilIface => unsupported (.noEntry "extern/reflectlite: a nil value of one interface type handed on as a value of another")
    | _ => storeVar dst a val
   else storeVar dst a (.iface src val)
  else panicString ("reflectlite.Set: value of type " ++ (← Rtype.spelt src) ++ " is not assignable to type " ++ (← Rtype.spelt dst))
  pure (.tuple #[])) := rfl
theorem asPartsRa (a : Addr) (w : World) : (ReflectliteValue.parts (.agg #[.pointer (some ⟨1, 107, none⟩), .pointer (some a), .int .u64 386])).run Qry.prog w = .ok (some (107, a, 386)) w := by kernel_rfl
theorem asPartsR (a : Addr) (w : World) : (ReflectliteValue.parts (.agg #[.pointer (some ⟨1, 107, none⟩), .pointer (some a), .int .u64 130])).run Qry.prog w = .ok (some (107, a, 130)) w := by kernel_rfl
theorem asDirectR (w : World) : (Rtype.directlyAssignable 107 107).run Qry.prog w = .ok true w := by kernel_rfl
theorem asSetR (ta b : Addr) (c : Int) (old : Value) (W : World) (hb : W.cell? b = some (.int .i64 c)) (ht : W.cell? ta = some old) (hf : W.frozen? ta = false) :
  (ReflectliteValue.set #[.agg #[.pointer (some ⟨1, 107, none⟩), .pointer (some ta), .int .u64 386], .agg #[.pointer (some ⟨1, 107, none⟩), .pointer (some b), .int .u64 130]]).run Qry.prog W
   = .ok (.tuple #[]) (W.setCell ta (.int .i64 c)) := by
 rw [rls]
 simp only [Sem.run_bind, asPartsRa, asPartsR, Result.andThen]
 simp [ReflectliteValue.flagAddr, loadVar, isAgg, underlying, (uQ Tryz.underlying107), hb, Result.andThen, asDirectR, storeVar, Value.cells, storeCells, Addr.add]
 rw [run_store Qry.prog W ta _ _ (by rfl)]
 simp [ht, hf]
theorem unwrap_any (nm : ByteArray) (e : Value) (w : World) :
  Calls Qry.prog 188 #[.agg #[.string nm, e]] w fun ev w' => ev = .returned e ∧ w' = w.alloc (.cells #[.string nm, e] 150) := by
 go_enter Qry.func188, Tryz.ntmps188
 go_wp2
 go_ret
 exact ⟨rfl, rfl⟩
set_option maxRecDepth 100000 in
set_option maxHeartbeats 4000000 in
theorem as_code (nm : ByteArray) (c : Int) (t : Addr) (old : Value) (w : World) (hg : w.cell? ⟨0, 0, none⟩ = some (.iface 176 (.agg #[.pointer (some ⟨1, 110, none⟩)]))) (ht0 : w.cell? t = some old) (hf0 : w.frozen? t = false) :
  Calls Qry.prog 78 #[.iface 150 (.agg #[.string nm, .iface 107 (.int .i64 c)]), .iface 112 (.pointer (some t))] w fun ev w' => ev = .returned (.bool true) ∧ ∃ wz, Ext w wz ∧ w' = wz.setCell t (.int .i64 c) := by
 have h6 := @run_callFunc_extern Qry.prog 98 _ (fun args => ReflectliteValue.unpack (args.getD 0 (.tuple #[]))) Qry.func98 (by kernel_rfl) (by kernel_rfl) (by kernel_rfl) (by kernel_rfl)
 have h7 := @run_callFunc_extern Qry.prog 99 _ (ReflectliteValue.methodAny (ReflectliteValue.valueError "reflectlite.Value.Type" 0) (fun t _ _ _ => ReflectliteType.toType t)) Qry.func99 (by kernel_rfl) (by kernel_rfl) (by kernel_rfl) (by kernel_rfl)
 have h8 := @run_callFunc_extern Qry.prog 100 _ (ReflectliteValue.method (ReflectliteValue.valueError "reflectlite.Value.IsNil" 0) ReflectliteValue.isNil) Qry.func100 (by kernel_rfl) (by kernel_rfl) (by kernel_rfl) (by kernel_rfl)
 have h27 := @run_callFunc_extern Qry.prog 173 _ (ReflectliteType.abiMethod fun t => do pure (.int .u8 (← Rtype.kind t))) Qry.func173 (by kernel_rfl) (by kernel_rfl) (by kernel_rfl) (by kernel_rfl)
 have h37 := @run_callFunc_extern Qry.prog 192 _ (ReflectliteType.method ReflectliteType.elem) Qry.func192 (by kernel_rfl) (by kernel_rfl) (by kernel_rfl) (by kernel_rfl)
 have h38 := @run_callFunc_extern Qry.prog 193 _ (ReflectliteType.relation "Implements" ReflectliteType.implements_) Qry.func193 (by kernel_rfl) (by kernel_rfl) (by kernel_rfl) (by kernel_rfl)
 have h10 := @run_callFunc_extern Qry.prog 121 _ ReflectliteType.typeOf Qry.func121 (by kernel_rfl) (by kernel_rfl) (by kernel_rfl) (by kernel_rfl)
 have h35 := @run_callFunc_extern Qry.prog 190 _ (ReflectliteType.relation "AssignableTo" ReflectliteType.assignableTo) Qry.func190 (by kernel_rfl) (by kernel_rfl) (by kernel_rfl) (by kernel_rfl)
 have h11 := @run_callFunc_extern Qry.prog 122 _ (ReflectliteValue.method (ReflectliteValue.valueError "reflectlite.Value.Elem" 0) ReflectliteValue.elem) Qry.func122 (by kernel_rfl) (by kernel_rfl) (by kernel_rfl) (by kernel_rfl)
 have h12 := @run_callFunc_extern Qry.prog 123 _ ReflectliteValue.set Qry.func123 (by kernel_rfl) (by kernel_rfl) (by kernel_rfl) (by kernel_rfl)
 have tW := asTypeOfW
 have tR := asTypeOfR
 have mA := asMethodAssignableTo
 have aW := asAssignW
 have aR := asAssignR
 have vR := asValueOfR
 have f6 := asValueOfP
 have f7 := asTypeP
 have mK := asMethodKind
 have mE := asMethodElem
 have mI := asMethodImplements
 have mU := asMethodUnwrap
 have kP := asKindP
 have kR := asKindR
 have eP := asElemP
 have iR := asImplementsR
 have lA := asLacksAs
 have hU := asHasUnwrap
 have n8 := asIsNilP ⟨w.heap.size, 0, none⟩ t ((w.alloc (.cells #[.pointer (some t)] 112)).alloc (.cells #[.pointer (some ⟨1, 112, none⟩), .pointer (some ⟨w.heap.size, 0, none⟩), .int .u64 150] 138)) (by simp)
 have hlt : 0 < w.heap.size := cell_lt hg
 have hg2 : ((w.alloc (.cells #[.pointer (some t)] 112)).alloc (.cells #[.pointer (some ⟨1, 112, none⟩), .pointer (some ⟨w.heap.size, 0, none⟩), .int .u64 150] 138)).cell? ⟨0, 0, none⟩ = some (.iface 176 (.agg #[.pointer (some ⟨1, 110, none⟩)])) := by
  rw [World.cell?_alloc_lt _ _ ⟨0, 0, none⟩ (Nat.lt_of_lt_of_le hlt (by simp)), World.cell?_alloc_lt _ _ ⟨0, 0, none⟩ hlt]; exact hg
 have htl : t.block < w.heap.size := cell_lt ht0
 have el := asElemV ⟨w.heap.size, 0, none⟩ t (((w.alloc (.cells #[.pointer (some t)] 112)).alloc (.cells #[.pointer (some ⟨1, 112, none⟩), .pointer (some ⟨w.heap.size, 0, none⟩), .int .u64 150] 138)).alloc (.cells #[.pointer (some ⟨1, 112, none⟩), .pointer (some ⟨w.heap.size, 0, none⟩), .int .u64 150] 138)) (by rw [World.cell?_alloc_lt _ _ ⟨w.heap.size, 0, none⟩ (by simp; omega)]; simp)
 have el2 := asElemV ⟨w.heap.size, 0, none⟩ t ((((w.alloc (.cells #[.pointer (some t)] 112)).alloc (.cells #[.pointer (some ⟨1, 112, none⟩), .pointer (some ⟨w.heap.size, 0, none⟩), .int .u64 150] 138)).alloc (.cells #[.pointer (some ⟨1, 112, none⟩), .pointer (some ⟨w.heap.size, 0, none⟩), .int .u64 150] 138)).alloc (.cells #[.string nm, .iface 107 (.int .i64 c)] 150)) (by rw [World.cell?_alloc_lt _ _ ⟨w.heap.size, 0, none⟩ (by simp; omega), World.cell?_alloc_lt _ _ ⟨w.heap.size, 0, none⟩ (by simp; omega)]; simp)
 have hEx : Ext w (((((w.alloc (.cells #[.pointer (some t)] 112)).alloc (.cells #[.pointer (some ⟨1, 112, none⟩), .pointer (some ⟨w.heap.size, 0, none⟩), .int .u64 150] 138)).alloc (.cells #[.pointer (some ⟨1, 112, none⟩), .pointer (some ⟨w.heap.size, 0, none⟩), .int .u64 150] 138)).alloc (.cells #[.string nm, .iface 107 (.int .i64 c)] 150)).alloc (.cells #[.int .i64 c] 107)) := Ext.tr (ext_alloc _ _) (Ext.tr (ext_alloc _ _) (Ext.tr (ext_alloc _ _) (Ext.tr (ext_alloc _ _) (ext_alloc _ _))))
 have st := asSetR t ⟨w.heap.size + 1 + 1 + 1 + 1, 0, none⟩ c old (((((w.alloc (.cells #[.pointer (some t)] 112)).alloc (.cells #[.pointer (some ⟨1, 112, none⟩), .pointer (some ⟨w.heap.size, 0, none⟩), .int .u64 150] 138)).alloc (.cells #[.pointer (some ⟨1, 112, none⟩), .pointer (some ⟨w.heap.size, 0, none⟩), .int .u64 150] 138)).alloc (.cells #[.string nm, .iface 107 (.int .i64 c)] 150)).alloc (.cells #[.int .i64 c] 107))
  (by rw [World.cell?_alloc_at _ _ _ _ (by simp)]; rfl)
  (hEx.keep ht0)
  (by
   have e := hEx.frozen (p := t) htl
   rw [e]; exact hf0)
 have HEX := hid hEx
 clear hEx
 go_enter Qry.func78, Tryz.ntmps78
 go_wp2
 first
  | refine wp_loop_rounds 2 ?_
  | (go_enter Qry.func101, Tryz.ntmps101; go_wp2; refine wp_loop_rounds 2 ?_)
 rw [rounds_succ]
 go_wp2_with (go_at_call 188; refine (unwrap_any _ _ _).mono ?_; rintro e w' ⟨rfl, rfl⟩)
 rw [rounds_succ]
 go_wp2
 go_ret
 exact ⟨rfl, _, HEX.out, rfl⟩
end
section
open Go.RowKit
attribute [local go_sem] S_toList S_size S_get
def refV (n : Str) (c : Nat) : Value := if c = 0 then .nilIface else .iface 150 (.agg #[.string (S n), .iface 107 (.int .i64 (c : Int))])
theorem refV0 (n : Str) : refV n 0 = .nilIface := rfl
theorem refV_pos {n : Str} {c : Nat} (h : 0 < c) : refV n c = .iface 150 (.agg #[.string (S n), .iface 107 (.int .i64 (c : Int))]) := by unfold refV; rw [if_neg (by omega)]
theorem whyV_pos {c : Nat} (h : 0 < c) : whyV c = .iface 107 (.int .i64 (c : Int)) := by unfold whyV; rw [if_neg (by omega)]
set_option maxRecDepth 100000 in
set_option maxHeartbeats 1000000 in
theorem refusalOfA (V : Value) (b : Book) (n : Str) (c k : Nat) (a1 a2 : Option Addr) (c1 c2 : Nat) (w : World) (hb : BookAt w a1 a2 b) (hk : (if bookOk b = false then 1 else c) = k)
  (hW : ∀ w, (Go.method 348 75 V "loop.example/maltshare/impl.who").run Qry.prog w = .ok (176, .agg #[.string (S n)]) w)
  (hR : ∀ w, (Go.method 348 75 V "loop.example/maltshare/impl.refused").run Qry.prog w = .ok (179, V) w)
  (hC : bookOk b = true → ∀ w', Ext w w' → Calls Qry.prog 179 #[V, .agg #[.slice a1 b.things.length c1, .slice a2 b.batches.length c2]] w' fun e w2 => e = .returned (whyV c) ∧ Ext w' w2) :
  Calls Qry.prog 79 #[.agg #[.slice a1 b.things.length c1, .slice a2 b.batches.length c2], .iface 75 V] w fun e w' => e = .returned (refV n k) ∧ Ext w w' := by
 go_enter Qry.func79, Tryz.ntmps79
 go_wp2_with fail
 refine (implBookOk_any b _ _ _ _ _ (hb.ext (ext_alloc _ _))).mono ?_
 rintro e w1 ⟨rfl, hE1⟩
 have q0 := box_cell hE1 (i := 0) rfl
 have q1 := box_cell hE1 (i := 1) rfl
 have HE1 := hid (Ext.tr (ext_alloc _ _) hE1)
 clear hE1
 cases hok : bookOk b
 ·have HC : Hid (k = 1) := by show _ = _; rw [← hk, if_pos hok]
  clear hok hR hC hk
  go_wp2_with fail
  refine (who_any n _).mono ?_
  rintro e w2 ⟨rfl, hE2⟩
  have HE2 := hid (Ext.tr HE1.out hE2)
  clear hE2
  go_wp2_with fail
  go_ret
  exact ⟨by rw [HC.out]; rfl, HE2.out⟩
 ·have HC' : Hid (∀ w', Ext w w' → Calls Qry.prog 179 #[V, .agg #[.slice a1 b.things.length c1, .slice a2 b.batches.length c2]] w' fun e w2 => e = .returned (whyV c) ∧ Ext w' w2) := hC hok
  have HZ : Hid (k = c) := by show _ = _; rw [← hk, if_neg (by simp [hok])]
  clear hC hok hk
  go_wp2_with fail
  refine (HC'.out _ HE1.out).mono ?_
  rintro e w2 ⟨rfl, hE2⟩
  have HE2 := hid (Ext.tr HE1.out hE2)
  clear hE2
  rcases Nat.eq_zero_or_pos c with rfl | hc
  ·rw [whyV0 rfl]
   go_wp2_with fail
   go_ret
   exact ⟨by rw [HZ.out]; rfl, HE2.out⟩
  ·rw [whyV_pos hc]
   go_wp2_with fail
   refine (who_any n _).mono ?_
   rintro e w3 ⟨rfl, hE3⟩
   have HE3 := hid (Ext.tr HE2.out hE3)
   clear hE3
   go_wp2_with fail
   go_ret
   exact ⟨by rw [HZ.out, refV_pos hc]; rfl, HE3.out⟩
def OutA (w : World) (b : Book) (c : Nat) (e : Ending) (w' : World) : Prop := ∃ v1 v2 rs, e = .returned (.tuple #[.agg #[v1, v2], .int .i64 (c : Int)]) ∧ Ext w w' ∧ OB w' w.heap.size v1 v2 rs b
theorem OB.empty (w : World) (base : Nat) : OB w base (.slice none 0 0) (.slice none 0 0) [] emptyBook :=
 ⟨World.ownsRow_nil _ _ _ _, ⟨by simp [emptyBook], fun i hi => by simp [emptyBook] at hi⟩, World.ownsRow_nil _ _ _ _, ⟨rfl, fun i r x h => by simp at h⟩, ⟨List.Pairwise.nil, fun v hv => by simp [allV] at hv⟩⟩
set_option maxRecDepth 100000 in
set_option maxHeartbeats 2000000 in
theorem answered_any (W : Value) (b b0 B : Book) (n : Str) (c : Nat) (a1 a2 : Option Addr) (c1 c2 : Nat) (w : World) (hb : BookAt w a1 a2 b) (hB : (if c = 0 then b0 else if c = 1 then emptyBook else b) = B)
  (hg : w.cell? ⟨0, 0, none⟩ = some (.iface 176 (.agg #[.pointer (some ⟨1, 110, none⟩)])))
  (hR : ∀ w', Ext w w' → Calls Qry.prog 79 #[.agg #[.slice a1 b.things.length c1, .slice a2 b.batches.length c2], W] w' fun e w2 => e = .returned (refV n c) ∧ Ext w' w2)
  (hD : c = 0 → ∀ w', Ext w w' → Calls Qry.prog 80 #[.agg #[.slice a1 b.things.length c1, .slice a2 b.batches.length c2], W] w' fun e w2 => OutB w' b0 e w2) :
  Calls Qry.prog 43 #[.agg #[.slice a1 b.things.length c1, .slice a2 b.batches.length c2], W] w fun e w' => OutA w B c e w' := by
 have HB := hid hB
 have HD := hid hD
 clear hB hD
 have e3 : ∀ o1 o2 o3, Ext w (((w.alloc o1).alloc o2).alloc o3) := fun o1 o2 o3 => Ext.tr (ext_two w o1 o2) (ext_alloc _ _)
 go_enter Qry.func43, Tryz.ntmps43
 go_wp2_with fail
 refine (hR _ (e3 _ _ _)).mono ?_
 rintro e w1 ⟨rfl, hE1⟩
 have hE1' := Ext.tr (ext_alloc _ _) hE1
 have HRb : Hid (Rec w1 w.heap.size 26 [.slice a1 b.things.length c1, .slice a2 b.batches.length c2]) := (Rec.new w _ _).ext (Ext.tr (ext_alloc _ _) hE1')
 have q0 := box1of2 hE1' (i := 0) rfl
 have q1 := box1of2 hE1' (i := 1) rfl
 have HRr := hid (rec_second (l := [.slice none 0 0, .slice none 0 0]) hE1')
 have HRk : Hid (Rec w1 (w.heap.size + 2) 107 [.int .i64 0]) := by
  have h' := (Rec.new ((w.alloc (.cells #[.slice a1 b.things.length c1, .slice a2 b.batches.length c2] 26)).alloc (.cells #[.slice none 0 0, .slice none 0 0] 26)) 107 [.int .i64 0]).ext hE1
  have h2 : Rec w1 (w.heap.size + 2) 107 [.int .i64 0] := by simpa using h'
  exact h2
 have HE1 := hid (Ext.tr (e3 _ _ _) hE1)
 have hz1 : w.heap.size + 3 ≤ w1.heap.size := by have := hE1.size; simp at this; omega
 clear hE1 hE1' e3
 rcases Nat.eq_zero_or_pos c with rfl | hc
 ·have HB0 : Hid (B = b0) := by show _ = _; rw [← HB.out, if_pos rfl]
  have HD0 := hid (HD.out rfl)
  clear HD HB
  rw [refV0]
  go_wp2_with fail
  refine (as_nil _ _).mono ?_
  rintro e w2 ⟨rfl, rfl⟩
  go_wp2_with fail
  refine (HD0.out _ HE1.out).mono ?_
  rintro e w2 ⟨v1, v2, rs, rfl, hE2, hO2⟩
  have rr := HRr.out.ext hE2
  have HRR := hid rr
  have HO2 : Hid (OB w2 w.heap.size v1 v2 rs b0) := hO2.low (by omega)
  have HE2 := hid (Ext.tr HE1.out hE2)
  have t0 := rr.cell (i := 0) rfl
  have t1 := rr.cell (i := 1) rfl
  have g0 := rr.frozen 0
  have g1 := rr.frozen 1
  obtain ⟨x1, y1, rfl⟩ := own_sl hO2.ot
  obtain ⟨x2, y2, rfl⟩ := own_shape3 hO2.ob
  clear hE2 hO2 rr
  go_wp2_with fail
  refine bodyPost_ret (v := .tuple #[.agg #[.slice x1 b0.things.length y1, .slice x2 rs.length y2], .int .i64 ((0 : Nat) : Int)]) (by simp [results, Tryz.results43, go_sem, t0, t1]) rfl ⟨_, _, rs, rfl, ?_, ?_⟩
  ·exact (HE2.out.setCell (by simp) _).setCell (by simp) _
  ·rw [HB0.out]
   exact (HO2.out.stored HRR.out rfl rfl _ _).stored (HRR.out.set _ _) rfl rfl _ _
 ·rw [refV_pos hc]
  have hg1 := HE1.out.keep hg
  go_wp2_with fail
  refine (as_code (S n) (c : Int) ⟨w.heap.size + 2, 0, none⟩ _ _ hg1 (HRk.out.cell rfl) (HRk.out.frozen 0)).mono ?_
  rintro e w2 ⟨rfl, wz, hEz, hw2⟩
  have gk := gb_store wz (w.heap.size + 2) 0 (.int .i64 (c : Int))
  have HK2 : Hid (Rec w2 (w.heap.size + 2) 107 [.int .i64 (c : Int)]) := by rw [hw2]; exact (HRk.out.ext hEz).set 0 _
  have HR2 : Hid (Rec w2 (w.heap.size + 1) 26 [.slice none 0 0, .slice none 0 0]) := by rw [hw2]; exact (HRr.out.ext hEz).kept gk (fun e => by have := Option.some.inj e; omega)
  have HB2 : Hid (Rec w2 w.heap.size 26 [.slice a1 b.things.length c1, .slice a2 b.batches.length c2]) := by rw [hw2]; exact (HRb.out.ext hEz).kept gk (fun e => by have := Option.some.inj e; omega)
  have HE2 : Hid (Ext w w2) := by rw [hw2]; exact (Ext.tr HE1.out hEz).setCell (by simp) _
  have hz2 : w1.heap.size ≤ w2.heap.size := by rw [hw2]; have := hEz.size; have := gk.size; omega
  clear hw2 gk hEz q0 q1 HRk HRr HRb HE1 hg1 hR HD
  have k0 := HK2.out.cell (i := 0) rfl
  have t0 := HR2.out.cell (i := 0) rfl
  have t1 := HR2.out.cell (i := 1) rfl
  have g0 := HR2.out.frozen 0
  have g1 := HR2.out.frozen 1
  have b0' := HB2.out.cell (i := 0) rfl
  have b1' := HB2.out.cell (i := 1) rfl
  by_cases hc1 : c = 1
  ·subst hc1
   have HBe : Hid (B = emptyBook) := by show _ = _; rw [← HB.out]; rfl
   go_wp2_with fail
   refine wp_region_T (fun w' => w'.cell? ⟨w.heap.size + 2, 0, none⟩ = some (.int .i64 ((1 : Nat) : Int))) 3 (by kernel_rfl) k0 (fun hS => ?_)
   refine tk 0 hS ?_
   try simp only [List.set]
   refine tk 1 hS ?_
   try simp only [List.set]
   refine wpT_one 2 rfl (by kernel_rfl) rfl rfl (fun K hK => ?_)
   go_simp
   have gs1 := gb_store (w2.drewN 1) (w.heap.size + 1) 0 (.slice none 0 0)
   have gs2 := gb_store ((w2.drewN 1).setCell ⟨w.heap.size + 1, 0, none⟩ (.slice none 0 0)) (w.heap.size + 1) 1 (.slice none 0 0)
   have hk3 := ((HK2.out.ext (ext_drewN _ 1)).kept gs1 (fun e => by have := Option.some.inj e; omega)).kept gs2 (fun e => by have := Option.some.inj e; omega)
   have HE3 : Hid (Ext w ((w2.setCell ⟨w.heap.size + 1, 0, none⟩ (.slice none 0 0)).setCell ⟨w.heap.size + 1, 1, none⟩ (.slice none 0 0)).drew) := Ext.tr ((HE2.out.setCell (by simp) _).setCell (by simp) _) (ext_drewN _ 1)
   refine hK.out _ _ (hk3.cell rfl) (fun hS1 => ?_)
   clear hK hS
   have hS := hS1
   clear hS1
   try clear K
   try simp only [put_some, List.set]
   clear gs1 gs2 hk3
   refine wpT_last rfl (by kernel_rfl) (by kernel_rfl) rfl (fun K hK => ?_)
   go_simp
   refine hK.out _ _ ?_
   clear hK hS
   go_wp2_with fail
   refine bodyPost_ret (v := .tuple #[.agg #[.slice none 0 0, .slice none 0 0], .int .i64 ((1 : Nat) : Int)]) (by simp [results, Tryz.results43, go_sem, t0, t1]) rfl ⟨_, _, [], rfl, HE3.out, ?_⟩
   rw [HBe.out]
   exact OB.empty _ _
  ·have HBe : Hid (B = b) := by show _ = _; rw [← HB.out, if_neg (by omega), if_neg hc1]
   have hci : ¬ ((c : Int) = 1) := by omega
   have hat2 := hid (hb.ext HE2.out)
   clear HB hc1
   go_wp2_with fail
   refine wp_region_T (fun w' => w'.cell? ⟨w.heap.size + 2, 0, none⟩ = some (.int .i64 (c : Int)) ∧ w'.cell? ⟨w.heap.size, 0, none⟩ = some (.slice a1 b.things.length c1) ∧ w'.cell? ⟨w.heap.size, 1, none⟩ = some (.slice a2 b.batches.length c2)) 4 (by kernel_rfl) ⟨k0, b0', b1'⟩ (fun hS => ?_)
   refine tk 0 hS ?_
   try simp only [List.set]
   refine tk 2 hS ?_
   try simp only [List.set]
   refine wpT_one 1 rfl (by kernel_rfl) rfl rfl (fun K hK => ?_)
   go_simp
   refine (copiedBook_any b _ _ _ _ _ (hat2.out.ext (ext_drewN _ 1))).mono ?_
   rintro e w3 ⟨v1, v2, rs, rfl, hE3, hO3⟩
   have hrr := (HR2.out.ext (ext_drewN _ 1)).ext hE3
   have hkk := (HK2.out.ext (ext_drewN _ 1)).ext hE3
   have hbb := (HB2.out.ext (ext_drewN _ 1)).ext hE3
   have HO3 : Hid (OB w3 w.heap.size v1 v2 rs b) := hO3.low (by show w.heap.size ≤ w2.heap.size; omega)
   have HE3 := hid (Ext.tr HE2.out (Ext.tr (ext_drewN _ 1) hE3))
   obtain ⟨x1, y1, rfl⟩ := own_sl hO3.ot
   obtain ⟨x2, y2, rfl⟩ := own_shape3 hO3.ob
   go_wp2_with fail
   refine hK.out _ _ ⟨hE3.keep hS.1, hE3.keep hS.2.1, hE3.keep hS.2.2⟩ (fun hS1 => ?_)
   clear hK hS
   have hS := hS1
   clear hS1
   try clear K
   try simp only [put_some, List.set]
   have u0 := hrr.cell (i := 0) rfl
   have u1 := hrr.cell (i := 1) rfl
   have h0 := hrr.frozen 0
   have h1 := hrr.frozen 1
   have gs1 := gb_store w3 (w.heap.size + 1) 0 (.slice x1 b.things.length y1)
   have gs2 := gb_store (w3.setCell ⟨w.heap.size + 1, 0, none⟩ (.slice x1 b.things.length y1)) (w.heap.size + 1) 1 (.slice x2 rs.length y2)
   have hk3 := (hkk.kept gs1 (fun e => by have := Option.some.inj e; omega)).kept gs2 (fun e => by have := Option.some.inj e; omega)
   have hb3 := (hbb.kept gs1 (fun e => by have := Option.some.inj e; omega)).kept gs2 (fun e => by have := Option.some.inj e; omega)
   have HRR := hid hrr
   clear hE3 hO3 t0 t1 g0 g1 k0 b0' b1' hrr hkk hbb
   refine wpT_one 3 rfl (by kernel_rfl) rfl rfl (fun K hK => ?_)
   go_simp
   refine hK.out _ _ ⟨hk3.cell rfl, hb3.cell rfl, hb3.cell rfl⟩ (fun hS1 => ?_)
   clear hK hS
   have hS := hS1
   clear hS1
   try clear K
   try simp only [put_some, List.set]
   clear gs1 gs2 hk3 hb3
   refine wpT_last rfl (by kernel_rfl) (by kernel_rfl) rfl (fun K hK => ?_)
   go_simp
   refine hK.out _ _ ?_
   clear hK hS
   go_wp2_with fail
   refine bodyPost_ret (v := .tuple #[.agg #[.slice x1 b.things.length y1, .slice x2 rs.length y2], .int .i64 (c : Int)]) (by simp [results, Tryz.results43, go_sem, u0, u1]) rfl ⟨_, _, rs, rfl, ?_, ?_⟩
   ·exact (HE3.out.setCell (by simp) _).setCell (by simp) _
   ·rw [HBe.out]
    exact (HO3.out.stored HRR.out rfl rfl _ _).stored (HRR.out.set _ _) rfl rfl _ _
end
section
open Go.RowKit
attribute [local go_sem] S_toList S_size S_get
theorem ask_code (b : Book) (n : Str) (things : List Str) : (if bookOk b = false then 1 else askC b n things) = (askB b n things).2 := by
 unfold askB askC
 by_cases h : bookOk b = false
 ·rw [if_pos h, if_pos h]
 ·rw [if_neg h, if_neg h]
  by_cases h2 : hereB b n = false
  ·rw [if_pos h2, if_pos h2]
  ·rw [if_neg h2, if_neg h2]
   by_cases h3 : namesOk things (b.at (whereB b n)).needs = false
   ·rw [if_pos h3, if_pos h3]
   ·rw [if_neg h3, if_neg h3]
    by_cases h4 : takenB b (whereB b n) things = true
    ·rw [if_pos h4, if_pos h4]
    ·rw [if_neg h4, if_neg h4]
     by_cases h5 : safeB b = true ∧ safeB (giveB b (whereB b n) things) = false
     ·rw [if_pos h5, if_pos h5]
     ·rw [if_neg h5, if_neg h5]
theorem ask_book (b : Book) (n : Str) (things : List Str) : (if (askB b n things).2 = 0 then giveB b (whereB b n) things else if (askB b n things).2 = 1 then emptyBook else b) = (askB b n things).1 := by
 unfold askB
 by_cases h : bookOk b = false
 ·rw [if_pos h]; rfl
 ·rw [if_neg h]
  by_cases h2 : hereB b n = false
  ·rw [if_pos h2]; rfl
  ·rw [if_neg h2]
   by_cases h3 : namesOk things (b.at (whereB b n)).needs = false
   ·rw [if_pos h3]; rfl
   ·rw [if_neg h3]
    by_cases h4 : takenB b (whereB b n) things = true
    ·rw [if_pos h4]; rfl
    ·rw [if_neg h4]
     by_cases h5 : safeB b = true ∧ safeB (giveB b (whereB b n) things) = false
     ·rw [if_pos h5]; rfl
     ·rw [if_neg h5]; rfl
theorem ask_zero {b : Book} {n : Str} {things : List Str} (h : (askB b n things).2 = 0) : bookOk b = true ∧ hereB b n = true ∧ namesOk things (b.at (whereB b n)).needs = true := by
 cases hq : bookOk b
 ·unfold askB at h; rw [if_pos hq] at h; cases h
 ·cases hh : hereB b n
  ·unfold askB at h; rw [if_neg (by simp [hq]), if_pos hh] at h; cases h
  ·cases hn : namesOk things (b.at (whereB b n)).needs
   ·unfold askB at h; rw [if_neg (by simp [hq]), if_neg (by simp [hh]), if_pos hn] at h; cases h
   ·exact ⟨rfl, rfl, rfl⟩
set_option maxRecDepth 100000 in
set_option maxHeartbeats 1000000 in
theorem implAsk_any (b : Book) (n : Str) (things : List Str) (a1 a2 a3 : Option Addr) (c1 c2 c3 : Nat) (w : World) (hb : BookAt w a1 a2 b) (hn : StrsAt w a3 things)
  (hg : w.cell? ⟨0, 0, none⟩ = some (.iface 176 (.agg #[.pointer (some ⟨1, 110, none⟩)]))) :
  Calls Qry.prog 10 #[.agg #[.slice a1 b.things.length c1, .slice a2 b.batches.length c2], .string (S n), .slice a3 things.length c3] w fun e w' => OutA w (askB b n things).1 (askB b n things).2 e w' := by
 have hA : ∀ w', Ext w w' → Calls Qry.prog 43 #[.agg #[.slice a1 b.things.length c1, .slice a2 b.batches.length c2], .iface 75 (.agg #[.string (S n), .slice a3 things.length c3])] w' fun e w2 => OutA w' (askB b n things).1 (askB b n things).2 e w2 := fun w' hE =>
  answered_any _ b _ _ n _ a1 a2 c1 c2 w' (hb.ext hE) (ask_book b n things) (hE.keep hg)
   (fun w2 hE2 => refusalOfA _ b n _ _ a1 a2 c1 c2 w2 (hb.ext (Ext.tr hE hE2)) (ask_code b n things) (fun w => mWhoA _ _ w) (fun w => mRefA _ w) (fun hok w3 hE3 => askRef_any b n things a1 a2 a3 c1 c2 c3 w3 (hb.ext (Ext.tr hE (Ext.tr hE2 hE3))) (hn.ext (Ext.tr hE (Ext.tr hE2 hE3))) hok))
   (fun hz w2 hE2 => doneA_any b n things a1 a2 a3 c1 c2 c3 w2 (hb.ext (Ext.tr hE hE2)) (hn.ext (Ext.tr hE hE2)) (ask_zero hz).1 (ask_zero hz).2.1 (ask_zero hz).2.2)
 generalize (askB b n things).1 = B at *
 generalize (askB b n things).2 = c at *
 have HA := hid hA
 clear hA
 go_enter Qry.func10, Tryz.ntmps10
 go_wp2_with fail
 refine (HA.out _ (ext_two _ _ _)).mono ?_
 rintro e w1 ⟨v1, v2, rs, rfl, hE1, hO1⟩
 have rr := rec_second (l := [.slice none 0 0, .slice none 0 0]) hE1
 have HRR := hid rr
 have HO1 : Hid (OB w1 w.heap.size v1 v2 rs B) := hO1.low (by simp; omega)
 have HE1 := hid (Ext.tr (ext_two _ _ _) hE1)
 have t0 := rr.cell (i := 0) rfl
 have t1 := rr.cell (i := 1) rfl
 have g0 := rr.frozen 0
 have g1 := rr.frozen 1
 obtain ⟨x1, y1, rfl⟩ := own_sl hO1.ot
 obtain ⟨x2, y2, rfl⟩ := own_shape3 hO1.ob
 clear hE1 hO1 rr
 go_wp2_with fail
 refine bodyPost_ret (v := .tuple #[.agg #[.slice x1 B.things.length y1, .slice x2 rs.length y2], .int .i64 (c : Int)]) (by simp [results, Tryz.results10, go_sem, t0, t1]) rfl ⟨_, _, rs, rfl, ?_, ?_⟩
 ·exact (HE1.out.setCell (by simp) _).setCell (by simp) _
 ·exact (HO1.out.stored HRR.out rfl rfl _ _).stored (HRR.out.set _ _) rfl rfl _ _
end
section
open Go.RowKit
attribute [local go_sem] S_toList S_size S_get
end
end Go.Proofs.YtdafpnpfcmgfcaaGreatDoor
