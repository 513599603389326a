/- Why asking is refused. errors.As at a refusal that is wrapped once, and at nil. A wish answered: refusalOf, errors.As at nothing, answered, whatever the wish. -/
import Derived.Test.YtdafpnpfcmgfcaaGreatDoorEA
import Derived.Test.YtdafpnpfcmgfcaaGreatDoorRA
import Derived.Test.YtdafpnpfcmgfcaaGreatDoorWB
import Derived.LaidEql
import Derived.Stop.Asserts
import Derived.RowKitTokens
namespace Go.Proofs.YtdafpnpfcmgfcaaGreatDoor
open Go.RowKit
attribute [local go_sem] S_toList S_size S_get

theorem askC_1 {b : Book} {n : Str} {things : List Str} (h : hereB b n = false) : askC b n things = 3 := by unfold askC; rw [if_pos h]
theorem askC_2 {b : Book} {n : Str} {things : List Str} {k : Nat} (h : hereB b n = true) (hk : whereB b n = k) (h2 : namesOk things (nthB b.batches k).needs = false) : askC b n things = 2 := by
  subst hk; unfold askC; rw [if_neg (by simp [h]), if_pos (show namesOk things (b.at (whereB b n)).needs = false from h2)]
theorem askC_3 {b : Book} {n : Str} {things : List Str} {k : Nat} (h : hereB b n = true) (hk : whereB b n = k) (h2 : namesOk things (nthB b.batches k).needs = true) (h3 : takenB b k things = true) : askC b n things = 5 := by
  subst hk; unfold askC; rw [if_neg (by simp [h]), if_neg (by rw [show (b.at (whereB b n)).needs = (nthB b.batches (whereB b n)).needs from rfl, h2]; simp), if_pos h3]
theorem askC_4 {b : Book} {n : Str} {things : List Str} {k : Nat} (h : hereB b n = true) (hk : whereB b n = k) (h2 : namesOk things (nthB b.batches k).needs = true) (h3 : takenB b k things = false) :
    askC b n things = if safeB b = true ∧ safeB (giveB b k things) = false then 6 else 0 := by
  subst hk; unfold askC; rw [if_neg (by simp [h]), if_neg (by rw [show (b.at (whereB b n)).needs = (nthB b.batches (whereB b n)).needs from rfl, h2]; simp), if_neg (by simp [h3])]

set_option maxRecDepth 100000 in
set_option maxHeartbeats 2000000 in
theorem askRef_any (b : Book) (n : Str) (things : List Str) (a1 a2 a3 : Option Addr) (c1 c2 c3 : Nat) (w : World) (hb : BookAt w a1 a2 b) (hn : StrsAt w a3 things) (hok : bookOk b = true) :
    Calls Tryz.prog 179 #[.agg #[.string (S n), .slice a3 things.length c3], .agg #[.slice a1 b.things.length c1, .slice a2 b.batches.length c2]] w fun e w' => e = .returned (whyV (askC b n things)) ∧ Ext w w' := by
  go_enter Tryz.func179, Tryz.ntmps179
  go_wp2_with fail
  refine (placeOf_any b n _ _ _ _ _ (hb.ext (ext_two _ _ _)) hok).mono ?_
  rintro e w1 ⟨rfl, hE1⟩
  have p0 := box1of2 hE1 (i := 0) rfl
  have p1 := box1of2 hE1 (i := 1) rfl
  have q0 := box2of2 hE1 (i := 0) rfl
  have q1 := box2of2 hE1 (i := 1) rfl
  have HE := hid (Ext.tr (ext_two _ _ _) hE1)
  clear hE1
  cases hh : hereB b n
  · have HC : Hid (askC b n things = 3) := askC_1 hh
    clear hh
    go_wp2_with fail
    go_ret
    exact ⟨ret_why (k := 3) HC.out (by omega), HE.out⟩
  · have hk := where_lt hh
    have hw := ok_where hok hh
    rw [hw]
    have HH := hid hh
    clear hh hw
    generalize hke : whereB b n = k at *
    have HKE := hid hke
    clear hke
    obtain ⟨bb, oo, rfl, h0, x1, y1, x2, y2, d0, d1, d2, s1, s2⟩ := (hb.ext HE.out).2.2 k hk
    have h5 := ok_five hok
    clear h0 d0 d1
    go_wp2_with fail
    refine wp_region_T (fun w' => w'.cell? ⟨w.heap.size, 1, none⟩ = some (.slice a3 things.length c3) ∧ w'.cell? ⟨w.heap.size + 1, 1, none⟩ = some (.slice (some ⟨bb, oo, none⟩) b.batches.length c2) ∧ w'.cell? ⟨bb, oo + k * 3 + 2, none⟩ = some (.slice x2 (nthB b.batches k).needs.length y2)) 11 (by kernel_rfl) ⟨p1, q1, d2⟩ (fun hS => ?_)
    refine wpT_takeN 0 (v := ?_) rfl rfl (by kernel_rfl) (by kernel_rfl) (by kernel_rfl) (by kernel_rfl) (fun _ _ _ h => h) hS rfl (by intro w0 hw0; (try dsimp only at hw0); go_simp; try rfl) ?_
    try simp only [List.set]
    refine wpT_takeN 1 (v := ?_) rfl rfl (by kernel_rfl) (by kernel_rfl) (by kernel_rfl) (by kernel_rfl) (fun _ _ _ h => h) hS rfl (by intro w0 hw0; (try dsimp only at hw0); go_simp; try rfl) ?_
    try simp only [List.set]
    refine wpT_takeN 2 (v := ?_) rfl rfl (by kernel_rfl) (by kernel_rfl) (by kernel_rfl) (by kernel_rfl) (fun _ _ _ h => h) hS rfl (by intro w0 hw0; (try dsimp only at hw0); go_simp; try rfl) ?_
    try simp only [List.set]
    refine wpT_takeN 3 (v := ?_) rfl rfl (by kernel_rfl) (by kernel_rfl) (by kernel_rfl) (by kernel_rfl) (fun _ _ _ h => h) hS rfl (by intro w0 hw0; (try dsimp only at hw0); go_simp; try rfl) ?_
    try simp only [List.set]
    refine wpT_takeN 4 (v := ?_) rfl rfl (by kernel_rfl) (by kernel_rfl) (by kernel_rfl) (by kernel_rfl) (fun _ _ _ h => h) hS rfl (by intro w0 hw0; (try dsimp only at hw0); go_simp; try rfl) ?_
    try simp only [List.set]
    refine wpT_takeN 5 (v := ?_) rfl rfl (by kernel_rfl) (by kernel_rfl) (by kernel_rfl) (by kernel_rfl) (fun _ _ _ h => h) hS rfl (by intro w0 hw0; (try dsimp only at hw0); go_simp; try rfl) ?_
    try simp only [List.set]
    refine wpT_takeN 6 (v := ?_) rfl rfl (by kernel_rfl) (by kernel_rfl) (by kernel_rfl) (by kernel_rfl) (fun _ _ _ h => h) hS rfl (by intro w0 hw0; (try dsimp only at hw0); go_simp; try rfl) ?_
    try simp only [List.set]
    refine wpT_takeN 7 (v := ?_) rfl rfl (by kernel_rfl) (by kernel_rfl) (by kernel_rfl) (by kernel_rfl) (fun _ _ _ h => h) hS rfl (by intro w0 hw0; (try dsimp only at hw0); go_simp; try rfl) ?_
    try simp only [List.set]
    refine wpT_one 8 rfl (by kernel_rfl) rfl rfl (fun K hK => ?_)
    go_simp
    cases hp : namesOk things (nthB b.batches k).needs
    · have HC : Hid (askC b n things = 2) := askC_2 HH.out HKE.out hp
      refine (picked_v _ _ _ _ _ _ _ _ ((hn.ext HE.out).drewN 1) (s2.drewN 1) hp).mono ?_
      rintro e w3 ⟨rfl, j, hw3⟩
      have hE3 : Ext w1 w3 := by rw [hw3]; exact Ext.tr (ext_drewN _ 1) (ext_drewN _ _)
      have HE3 := hid (Ext.tr HE.out hE3)
      clear hw3
      go_wp2_with fail
      refine hK.out _ _ ⟨hE3.keep p1, hE3.keep q1, hE3.keep d2⟩ (fun hS1 => ?_)
      clear hK hS
      have hS := hS1
      clear hS1
      try clear K
      try simp only [put_some, List.set]
      refine wpT_takeN 9 (v := ?_) rfl rfl (by kernel_rfl) (by kernel_rfl) (by kernel_rfl) (by kernel_rfl) (fun _ _ _ h => h) hS rfl (by intro w0 hw0; (try dsimp only at hw0); go_simp; try rfl) ?_
      try simp only [List.set]
      refine wpT_takeN 10 (v := ?_) rfl rfl (by kernel_rfl) (by kernel_rfl) (by kernel_rfl) (by kernel_rfl) (fun _ _ _ h => h) hS rfl (by intro w0 hw0; (try dsimp only at hw0); go_simp; try rfl) ?_
      try simp only [List.set]
      refine wpT_done (by kernel_rfl) ?_ _
      clear hE3 hp
      go_wp2_with fail
      go_ret
      exact ⟨ret_why (k := 2) HC.out (by omega), HE3.out⟩
    · have HP := hid hp
      refine (picked_v _ _ _ _ _ _ _ _ ((hn.ext HE.out).drewN 1) (s2.drewN 1) hp).mono ?_
      rintro e w3 ⟨rfl, j, hw3⟩
      have hE3 : Ext w1 w3 := by rw [hw3]; exact Ext.tr (ext_drewN _ 1) (ext_drewN _ _)
      have HE3 := hid (Ext.tr HE.out hE3)
      clear hw3
      go_wp2_with fail
      refine hK.out _ _ ⟨hE3.keep p1, hE3.keep q1, hE3.keep d2⟩ (fun hS1 => ?_)
      clear hK hS
      have hS := hS1
      clear hS1
      try clear K
      try simp only [put_some, List.set]
      refine wpT_takeN 9 (v := ?_) rfl rfl (by kernel_rfl) (by kernel_rfl) (by kernel_rfl) (by kernel_rfl) (fun _ _ _ h => h) hS rfl (by intro w0 hw0; (try dsimp only at hw0); go_simp; try rfl) ?_
      try simp only [List.set]
      refine wpT_takeN 10 (v := ?_) rfl rfl (by kernel_rfl) (by kernel_rfl) (by kernel_rfl) (by kernel_rfl) (fun _ _ _ h => h) hS rfl (by intro w0 hw0; (try dsimp only at hw0); go_simp; try rfl) ?_
      try simp only [List.set]
      refine wpT_done (by kernel_rfl) ?_ _
      replace p0 := hE3.keep p0
      replace p1 := hE3.keep p1
      replace q0 := hE3.keep q0
      replace q1 := hE3.keep q1
      clear hE3 hp hS d2 s1 s2 HE
      go_wp2_with fail
      cases ht : takenB b k things
      · refine (hadBy_v b k things false _ _ _ _ _ _ _ (hb.ext HE3.out) (hn.ext HE3.out) hok hk ht).mono ?_
        rintro e w4 ⟨rfl, hE4⟩
        have HU := hid (askC_4 HH.out HKE.out HP.out ht)
        have HE4 := hid (Ext.tr HE3.out hE4)
        replace p0 := hE4.keep p0
        replace p1 := hE4.keep p1
        replace q0 := hE4.keep q0
        replace q1 := hE4.keep q1
        clear hE4 ht HE3
        go_wp2_with fail
        refine (implSafe_any b _ _ _ _ _ (hb.ext HE4.out)).mono ?_
        rintro e w5 ⟨rfl, hE5⟩
        have HE5 := hid (Ext.tr HE4.out hE5)
        replace p0 := hE5.keep p0
        replace p1 := hE5.keep p1
        replace q0 := hE5.keep q0
        replace q1 := hE5.keep q1
        clear hE5 HE4
        cases hs : safeB b
        · have HC : Hid (askC b n things = 0) := by show _ = _; rw [HU.out, hs]; simp
          clear hs
          go_wp2_with fail
          go_ret
          exact ⟨ret_why0 HC.out, HE5.out⟩
        · have HS := hid hs
          clear hs
          go_wp2_with fail
          refine (doneA_any b n things _ _ _ _ _ _ _ (hb.ext HE5.out) (hn.ext HE5.out) hok HH.out (by rw [HKE.out]; exact HP.out)).mono ?_
          rintro e w6 ⟨v1, v2, rs, rfl, hE6, hO6⟩
          have hgl : (giveB b (whereB b n) things).batches.length ≤ 2199023255552 := by
            show (b.batches.set _ _).length ≤ _
            rw [List.length_set]; omega
          obtain ⟨g1, g2, g3, g4, rfl, rfl, hat6⟩ := hO6.at hgl
          rw [HKE.out] at hat6
          have HAT6 := hid hat6
          have HE6 := hid (Ext.tr HE5.out hE6)
          clear hE6 hO6 hat6 hgl HE5
          rw [HKE.out]
          go_wp2_with fail
          refine (implSafe_any (giveB b k things) _ _ _ _ _ HAT6.out).mono ?_
          rintro e w7 ⟨rfl, hE7⟩
          have HE7 := hid (Ext.tr HE6.out hE7)
          clear hE7 HE6
          cases hg : safeB (giveB b k things)
          · have HC : Hid (askC b n things = 6) := by show _ = _; rw [HU.out, HS.out, hg]; simp
            clear hg
            go_wp2_with fail
            go_ret
            exact ⟨ret_why (k := 6) HC.out (by omega), HE7.out⟩
          · have HC : Hid (askC b n things = 0) := by show _ = _; rw [HU.out, HS.out, hg]; simp
            clear hg
            go_wp2_with fail
            go_ret
            exact ⟨ret_why0 HC.out, HE7.out⟩
      · have HC : Hid (askC b n things = 5) := askC_3 HH.out HKE.out HP.out ht
        refine (hadBy_v b k things true _ _ _ _ _ _ _ (hb.ext HE3.out) (hn.ext HE3.out) hok hk ht).mono ?_
        rintro e w4 ⟨rfl, hE4⟩
        have HE4 := hid (Ext.tr HE3.out hE4)
        clear hE4 ht
        go_wp2_with fail
        go_ret
        exact ⟨ret_why (k := 5) HC.out (by omega), HE4.out⟩
end Go.Proofs.YtdafpnpfcmgfcaaGreatDoor
namespace Go.Proofs.YtdafpnpfcmgfcaaGreatDoor
open Go.RowKit Go.Extern.Stop Go.Stop Go.Extern

theorem as_nil (t : Value) (w : World) :
    Calls Tryz.prog 78 #[.nilIface, t] w fun e w' => e = .returned (.bool false) ∧ w' = w := by
  go_enter Tryz.func78, Tryz.ntmps78
  go_wp2
  go_ret
  exact ⟨rfl, rfl⟩

theorem asValueOfP (t : Addr) (w : World) : (ReflectliteValue.unpack (.iface 112 (.pointer (some t)))).run Tryz.prog w
    = .ok (.agg #[.pointer (some ⟨1, 112, none⟩), .pointer (some ⟨w.heap.size, 0, none⟩), .int .u64 150]) (w.alloc (.cells #[.pointer (some t)] 112)) := by kernel_rfl
theorem asTypeP (a : Addr) (w : World) : (ReflectliteValue.methodAny (ReflectliteValue.valueError "reflectlite.Value.Type" 0) (fun t _ _ _ => ReflectliteType.toType t) #[.agg #[.pointer (some ⟨1, 112, none⟩), .pointer (some a), .int .u64 150]]).run Tryz.prog w
    = .ok (.iface 176 (.agg #[.pointer (some ⟨1, 112, none⟩)])) w := by kernel_rfl
theorem asMethodKind (h : Value) (w : World) : (Go.method 348 176 (.agg #[h]) "Kind").run Tryz.prog w = .ok (173, h) w := by kernel_rfl
theorem asKindP (w : World) : ((ReflectliteType.abiMethod fun t => (fun a : Nat => Value.int IntKind.u8 (a : Int)) <$> Rtype.kind t) #[.pointer (some ⟨1, 112, none⟩)]).run Tryz.prog w = .ok (.int .u8 22) w := by kernel_rfl
theorem asKindR (w : World) : ((ReflectliteType.abiMethod fun t => (fun a : Nat => Value.int IntKind.u8 (a : Int)) <$> Rtype.kind t) #[.pointer (some ⟨1, 107, none⟩)]).run Tryz.prog w = .ok (.int .u8 2) w := by kernel_rfl
theorem rlm (z : Sem Value) (f : TypeId → Addr → Nat → Nat → Sem Value) (v : Value) :
    ReflectliteValue.method z f #[v] = (do match ← ReflectliteValue.parts v with | none => z | some (t, a, fl) => f t a fl (fl % 32)) := rfl
theorem asPartsP (a : Addr) (w : World) : (ReflectliteValue.parts (.agg #[.pointer (some ⟨1, 112, none⟩), .pointer (some a), .int .u64 150])).run Tryz.prog w = .ok (some (112, a, 150)) w := by kernel_rfl
theorem asIsNilP (a p : Addr) (W : World) (ha : W.cell? a = some (.pointer (some p))) :
    (ReflectliteValue.method (ReflectliteValue.valueError "reflectlite.Value.IsNil" 0) ReflectliteValue.isNil #[.agg #[.pointer (some ⟨1, 112, none⟩), .pointer (some a), .int .u64 150]]).run Tryz.prog W = .ok (.bool false) W := by
  rw [rlm]
  simp only [Sem.run_bind, asPartsP, Result.andThen]
  simp [ReflectliteValue.isNil, loadVar, isAgg, underlying, Tryz.underlying112, ha, Result.andThen]
theorem asMethodElem (h : Value) (w : World) : (Go.method 348 176 (.agg #[h]) "Elem").run Tryz.prog w = .ok (192, .agg #[h]) w := by kernel_rfl
theorem asMethodImplements (h : Value) (w : World) : (Go.method 348 176 (.agg #[h]) "Implements").run Tryz.prog w = .ok (193, .agg #[h]) w := by kernel_rfl
theorem asMethodAssignableTo (h : Value) (w : World) : (Go.method 348 176 (.agg #[h]) "AssignableTo").run Tryz.prog w = .ok (190, .agg #[h]) w := by kernel_rfl
theorem asElemP (w : World) : (ReflectliteType.method ReflectliteType.elem #[.agg #[.pointer (some ⟨1, 112, none⟩)]]).run Tryz.prog w = .ok (.iface 176 (.agg #[.pointer (some ⟨1, 107, none⟩)])) w := by kernel_rfl
theorem asImplementsR (w : World) : (ReflectliteType.relation "Implements" ReflectliteType.implements_ #[.agg #[.pointer (some ⟨1, 107, none⟩)], .iface 176 (.agg #[.pointer (some ⟨1, 110, none⟩)])]).run Tryz.prog w = .ok (.bool true) w := by kernel_rfl
theorem asTypeOfW (v : Value) (w : World) : (ReflectliteType.typeOf #[.iface 150 v]).run Tryz.prog w = .ok (.iface 176 (.agg #[.pointer (some ⟨1, 150, none⟩)])) w := by kernel_rfl
theorem asTypeOfR (v : Value) (w : World) : (ReflectliteType.typeOf #[.iface 107 v]).run Tryz.prog w = .ok (.iface 176 (.agg #[.pointer (some ⟨1, 107, none⟩)])) w := by kernel_rfl
theorem asAssignW (w : World) : (ReflectliteType.relation "AssignableTo" ReflectliteType.assignableTo #[.agg #[.pointer (some ⟨1, 150, none⟩)], .iface 176 (.agg #[.pointer (some ⟨1, 107, none⟩)])]).run Tryz.prog w = .ok (.bool false) w := by kernel_rfl
theorem asAssignR (w : World) : (ReflectliteType.relation "AssignableTo" ReflectliteType.assignableTo #[.agg #[.pointer (some ⟨1, 107, none⟩)], .iface 176 (.agg #[.pointer (some ⟨1, 107, none⟩)])]).run Tryz.prog w = .ok (.bool true) w := by kernel_rfl
theorem asLacksAs (v : Value) (xT : TypeId) (w : World) : (Instr.typeAssert (.iface 150 v) xT 181 true).run Tryz.prog w = .ok (.tuple #[.nilIface, .bool false]) w := run_typeAssert_lacksB Tryz.underlying181 (by kernel_rfl) (by kernel_rfl) v xT w
theorem asHasUnwrap (v : Value) (xT : TypeId) (w : World) : (Instr.typeAssert (.iface 150 v) xT 184 true).run Tryz.prog w = .ok (.tuple #[.iface 150 v, .bool true]) w := run_typeAssert_hasB Tryz.underlying184 (by kernel_rfl) v xT w
theorem asMethodUnwrap (v : Value) (w : World) : (Go.method 348 150 v "Unwrap").run Tryz.prog w = .ok (188, v) w := by kernel_rfl
theorem asValueOfR (c : Int) (w : World) : (ReflectliteValue.unpack (.iface 107 (.int .i64 c))).run Tryz.prog w
    = .ok (.agg #[.pointer (some ⟨1, 107, none⟩), .pointer (some ⟨w.heap.size, 0, none⟩), .int .u64 130]) (w.alloc (.cells #[.int .i64 c] 107)) := by kernel_rfl
theorem asElemOfP (w : World) : (Rtype.elem? 112).run Tryz.prog w = .ok (some 107) w := by kernel_rfl
theorem asMkR (p : Addr) (w : World) : (ReflectliteValue.mk 107 p ReflectliteValue.flagAddr).run Tryz.prog w = .ok (.agg #[.pointer (some ⟨1, 107, none⟩), .pointer (some p), .int .u64 386]) w := by kernel_rfl
theorem asElemV (a p : Addr) (W : World) (ha : W.cell? a = some (.pointer (some p))) :
    (ReflectliteValue.method (ReflectliteValue.valueError "reflectlite.Value.Elem" 0) ReflectliteValue.elem #[.agg #[.pointer (some ⟨1, 112, none⟩), .pointer (some a), .int .u64 150]]).run Tryz.prog W
      = .ok (.agg #[.pointer (some ⟨1, 107, none⟩), .pointer (some p), .int .u64 386]) W := by
  rw [rlm]
  simp only [Sem.run_bind, asPartsP, Result.andThen]
  simp [ReflectliteValue.elem, loadVar, isAgg, underlying, Tryz.underlying112, ha, Result.andThen, asElemOfP, asMkR]
theorem rls (v x : Value) : ReflectliteValue.set #[v, x] = (do
    let (some (dst, a, fl), some (src, b, _)) := (← ReflectliteValue.parts v, ← ReflectliteValue.parts x)
      | unsupported (.noEntry "extern/(internal/reflectlite.Value).Set.zeroValue")
    if fl / ReflectliteValue.flagAddr % 2 == 0 then unsupported (.noEntry "extern/(internal/reflectlite.Value).Set.unaddressable")
    let val ← loadVar src b
    if ← Rtype.directlyAssignable dst src then storeVar dst a val
    else if ← Rtype.implements dst src then
      if (← Rtype.kind src) == 20 then
        match val with
        | .nilIface => unsupported (.noEntry "extern/reflectlite: a nil value of one interface type handed on as a value of another")
        | _ => storeVar dst a val
      else storeVar dst a (.iface src val)
    else panicString ("reflectlite.Set: value of type " ++ (← Rtype.spelt src) ++ " is not assignable to type " ++ (← Rtype.spelt dst))
    pure (.tuple #[])) := rfl
theorem asPartsRa (a : Addr) (w : World) : (ReflectliteValue.parts (.agg #[.pointer (some ⟨1, 107, none⟩), .pointer (some a), .int .u64 386])).run Tryz.prog w = .ok (some (107, a, 386)) w := by kernel_rfl
theorem asPartsR (a : Addr) (w : World) : (ReflectliteValue.parts (.agg #[.pointer (some ⟨1, 107, none⟩), .pointer (some a), .int .u64 130])).run Tryz.prog w = .ok (some (107, a, 130)) w := by kernel_rfl
theorem asDirectR (w : World) : (Rtype.directlyAssignable 107 107).run Tryz.prog w = .ok true w := by kernel_rfl
theorem asSetR (ta b : Addr) (c : Int) (old : Value) (W : World) (hb : W.cell? b = some (.int .i64 c)) (ht : W.cell? ta = some old) (hf : W.frozen? ta = false) :
    (ReflectliteValue.set #[.agg #[.pointer (some ⟨1, 107, none⟩), .pointer (some ta), .int .u64 386], .agg #[.pointer (some ⟨1, 107, none⟩), .pointer (some b), .int .u64 130]]).run Tryz.prog W
      = .ok (.tuple #[]) (W.setCell ta (.int .i64 c)) := by
  rw [rls]
  simp only [Sem.run_bind, asPartsRa, asPartsR, Result.andThen]
  simp [ReflectliteValue.flagAddr, loadVar, isAgg, underlying, Tryz.underlying107, hb, Result.andThen, asDirectR, storeVar, Value.cells, storeCells, Addr.add]
  rw [run_store Tryz.prog W ta _ _ (by rfl)]
  simp [ht, hf]

set_option maxRecDepth 100000 in
set_option maxHeartbeats 4000000 in
theorem as_code (nm : ByteArray) (c : Int) (t : Addr) (old : Value) (w : World) (hg : w.cell? ⟨0, 0, none⟩ = some (.iface 176 (.agg #[.pointer (some ⟨1, 110, none⟩)]))) (ht0 : w.cell? t = some old) (hf0 : w.frozen? t = false) :
    Calls Tryz.prog 78 #[.iface 150 (.agg #[.string nm, .iface 107 (.int .i64 c)]), .iface 112 (.pointer (some t))] w fun ev w' => ev = .returned (.bool true) ∧ ∃ wz, Ext w wz ∧ w' = wz.setCell t (.int .i64 c) := by
  have h6 := @run_callFunc_extern Tryz.prog 98 _ (fun args => ReflectliteValue.unpack (args.getD 0 (.tuple #[]))) Tryz.func98 (by kernel_rfl) (by kernel_rfl) (by kernel_rfl) (by kernel_rfl)
  have h7 := @run_callFunc_extern Tryz.prog 99 _ (ReflectliteValue.methodAny (ReflectliteValue.valueError "reflectlite.Value.Type" 0) (fun t _ _ _ => ReflectliteType.toType t)) Tryz.func99 (by kernel_rfl) (by kernel_rfl) (by kernel_rfl) (by kernel_rfl)
  have h8 := @run_callFunc_extern Tryz.prog 100 _ (ReflectliteValue.method (ReflectliteValue.valueError "reflectlite.Value.IsNil" 0) ReflectliteValue.isNil) Tryz.func100 (by kernel_rfl) (by kernel_rfl) (by kernel_rfl) (by kernel_rfl)
  have h27 := @run_callFunc_extern Tryz.prog 173 _ (ReflectliteType.abiMethod fun t => do pure (.int .u8 (← Rtype.kind t))) Tryz.func173 (by kernel_rfl) (by kernel_rfl) (by kernel_rfl) (by kernel_rfl)
  have h37 := @run_callFunc_extern Tryz.prog 192 _ (ReflectliteType.method ReflectliteType.elem) Tryz.func192 (by kernel_rfl) (by kernel_rfl) (by kernel_rfl) (by kernel_rfl)
  have h38 := @run_callFunc_extern Tryz.prog 193 _ (ReflectliteType.relation "Implements" ReflectliteType.implements_) Tryz.func193 (by kernel_rfl) (by kernel_rfl) (by kernel_rfl) (by kernel_rfl)
  have h10 := @run_callFunc_extern Tryz.prog 121 _ ReflectliteType.typeOf Tryz.func121 (by kernel_rfl) (by kernel_rfl) (by kernel_rfl) (by kernel_rfl)
  have h35 := @run_callFunc_extern Tryz.prog 190 _ (ReflectliteType.relation "AssignableTo" ReflectliteType.assignableTo) Tryz.func190 (by kernel_rfl) (by kernel_rfl) (by kernel_rfl) (by kernel_rfl)
  have h11 := @run_callFunc_extern Tryz.prog 122 _ (ReflectliteValue.method (ReflectliteValue.valueError "reflectlite.Value.Elem" 0) ReflectliteValue.elem) Tryz.func122 (by kernel_rfl) (by kernel_rfl) (by kernel_rfl) (by kernel_rfl)
  have h12 := @run_callFunc_extern Tryz.prog 123 _ ReflectliteValue.set Tryz.func123 (by kernel_rfl) (by kernel_rfl) (by kernel_rfl) (by kernel_rfl)
  have tW := asTypeOfW
  have tR := asTypeOfR
  have mA := asMethodAssignableTo
  have aW := asAssignW
  have aR := asAssignR
  have vR := asValueOfR
  have f6 := asValueOfP
  have f7 := asTypeP
  have mK := asMethodKind
  have mE := asMethodElem
  have mI := asMethodImplements
  have mU := asMethodUnwrap
  have kP := asKindP
  have kR := asKindR
  have eP := asElemP
  have iR := asImplementsR
  have lA := asLacksAs
  have hU := asHasUnwrap
  have n8 := asIsNilP ⟨w.heap.size, 0, none⟩ t ((w.alloc (.cells #[.pointer (some t)] 112)).alloc (.cells #[.pointer (some ⟨1, 112, none⟩), .pointer (some ⟨w.heap.size, 0, none⟩), .int .u64 150] 138)) (by simp)
  have hlt : 0 < w.heap.size := cell_lt hg
  have hg2 : ((w.alloc (.cells #[.pointer (some t)] 112)).alloc (.cells #[.pointer (some ⟨1, 112, none⟩), .pointer (some ⟨w.heap.size, 0, none⟩), .int .u64 150] 138)).cell? ⟨0, 0, none⟩ = some (.iface 176 (.agg #[.pointer (some ⟨1, 110, none⟩)])) := by
    rw [World.cell?_alloc_lt _ _ ⟨0, 0, none⟩ (Nat.lt_of_lt_of_le hlt (by simp)), World.cell?_alloc_lt _ _ ⟨0, 0, none⟩ hlt]; exact hg
  have htl : t.block < w.heap.size := cell_lt ht0
  have el := asElemV ⟨w.heap.size, 0, none⟩ t (((w.alloc (.cells #[.pointer (some t)] 112)).alloc (.cells #[.pointer (some ⟨1, 112, none⟩), .pointer (some ⟨w.heap.size, 0, none⟩), .int .u64 150] 138)).alloc (.cells #[.pointer (some ⟨1, 112, none⟩), .pointer (some ⟨w.heap.size, 0, none⟩), .int .u64 150] 138)) (by rw [World.cell?_alloc_lt _ _ ⟨w.heap.size, 0, none⟩ (by simp; omega)]; simp)
  have el2 := asElemV ⟨w.heap.size, 0, none⟩ t ((((w.alloc (.cells #[.pointer (some t)] 112)).alloc (.cells #[.pointer (some ⟨1, 112, none⟩), .pointer (some ⟨w.heap.size, 0, none⟩), .int .u64 150] 138)).alloc (.cells #[.pointer (some ⟨1, 112, none⟩), .pointer (some ⟨w.heap.size, 0, none⟩), .int .u64 150] 138)).alloc (.cells #[.string nm, .iface 107 (.int .i64 c)] 150)) (by rw [World.cell?_alloc_lt _ _ ⟨w.heap.size, 0, none⟩ (by simp; omega), World.cell?_alloc_lt _ _ ⟨w.heap.size, 0, none⟩ (by simp; omega)]; simp)
  have hEx : Ext w (((((w.alloc (.cells #[.pointer (some t)] 112)).alloc (.cells #[.pointer (some ⟨1, 112, none⟩), .pointer (some ⟨w.heap.size, 0, none⟩), .int .u64 150] 138)).alloc (.cells #[.pointer (some ⟨1, 112, none⟩), .pointer (some ⟨w.heap.size, 0, none⟩), .int .u64 150] 138)).alloc (.cells #[.string nm, .iface 107 (.int .i64 c)] 150)).alloc (.cells #[.int .i64 c] 107)) := Ext.tr (ext_alloc _ _) (Ext.tr (ext_alloc _ _) (Ext.tr (ext_alloc _ _) (Ext.tr (ext_alloc _ _) (ext_alloc _ _))))
  have st := asSetR t ⟨w.heap.size + 1 + 1 + 1 + 1, 0, none⟩ c old (((((w.alloc (.cells #[.pointer (some t)] 112)).alloc (.cells #[.pointer (some ⟨1, 112, none⟩), .pointer (some ⟨w.heap.size, 0, none⟩), .int .u64 150] 138)).alloc (.cells #[.pointer (some ⟨1, 112, none⟩), .pointer (some ⟨w.heap.size, 0, none⟩), .int .u64 150] 138)).alloc (.cells #[.string nm, .iface 107 (.int .i64 c)] 150)).alloc (.cells #[.int .i64 c] 107))
    (by rw [World.cell?_alloc_at _ _ _ _ (by simp)]; rfl)
    (hEx.keep ht0)
    (by
      have e := hEx.frozen (p := t) htl
      rw [e]; exact hf0)
  have HEX := hid hEx
  clear hEx
  go_enter Tryz.func78, Tryz.ntmps78
  go_wp2
  refine wp_loop_rounds 2 ?_
  rw [rounds_succ]
  go_wp2
  rw [rounds_succ]
  go_wp2
  go_ret
  exact ⟨rfl, _, HEX.out, rfl⟩
end Go.Proofs.YtdafpnpfcmgfcaaGreatDoor
namespace Go.Proofs.YtdafpnpfcmgfcaaGreatDoor
open Go.RowKit
attribute [local go_sem] S_toList S_size S_get

/-- Nothing, or who was refused, and why. -/
def refV (n : Str) (c : Nat) : Value := if c = 0 then .nilIface else .iface 150 (.agg #[.string (S n), .iface 107 (.int .i64 (c : Int))])
theorem refV0 (n : Str) : refV n 0 = .nilIface := rfl
theorem refV_pos {n : Str} {c : Nat} (h : 0 < c) : refV n c = .iface 150 (.agg #[.string (S n), .iface 107 (.int .i64 (c : Int))]) := by unfold refV; rw [if_neg (by omega)]
theorem whyV_pos {c : Nat} (h : 0 < c) : whyV c = .iface 107 (.int .i64 (c : Int)) := by unfold whyV; rw [if_neg (by omega)]

set_option maxRecDepth 100000 in
set_option maxHeartbeats 1000000 in
theorem refusalOfE (V : Value) (b : Book) (n : Str) (c k : Nat) (a1 a2 : Option Addr) (c1 c2 : Nat) (w : World) (hb : BookAt w a1 a2 b) (hk : (if bookOk b = false then 1 else c) = k)
    (hW : ∀ w, (Go.method 348 68 V "loop.example/maltshare/impl.who").run Tryz.prog w = .ok (176, .agg #[.string (S n)]) w)
    (hR : ∀ w, (Go.method 348 68 V "loop.example/maltshare/impl.refused").run Tryz.prog w = .ok (177, V) w)
    (hC : bookOk b = true → ∀ w', Ext w w' → Calls Tryz.prog 177 #[V, .agg #[.slice a1 b.things.length c1, .slice a2 b.batches.length c2]] w' fun e w2 => e = .returned (whyV c) ∧ Ext w' w2) :
    Calls Tryz.prog 79 #[.agg #[.slice a1 b.things.length c1, .slice a2 b.batches.length c2], .iface 68 V] w fun e w' => e = .returned (refV n k) ∧ Ext w w' := by
  go_enter Tryz.func79, Tryz.ntmps79
  go_wp2_with fail
  refine (implBookOk_any b _ _ _ _ _ (hb.ext (ext_alloc _ _))).mono ?_
  rintro e w1 ⟨rfl, hE1⟩
  have q0 := box_cell hE1 (i := 0) rfl
  have q1 := box_cell hE1 (i := 1) rfl
  have HE1 := hid (Ext.tr (ext_alloc _ _) hE1)
  clear hE1
  cases hok : bookOk b
  · have HC : Hid (k = 1) := by show _ = _; rw [← hk, if_pos hok]
    clear hok hR hC hk
    go_wp2_with fail
    refine (who_any n _).mono ?_
    rintro e w2 ⟨rfl, hE2⟩
    have HE2 := hid (Ext.tr HE1.out hE2)
    clear hE2
    go_wp2_with fail
    go_ret
    exact ⟨by rw [HC.out]; rfl, HE2.out⟩
  · have HC' : Hid (∀ w', Ext w w' → Calls Tryz.prog 177 #[V, .agg #[.slice a1 b.things.length c1, .slice a2 b.batches.length c2]] w' fun e w2 => e = .returned (whyV c) ∧ Ext w' w2) := hC hok
    have HZ : Hid (k = c) := by show _ = _; rw [← hk, if_neg (by simp [hok])]
    clear hC hok hk
    go_wp2_with fail
    refine (HC'.out _ HE1.out).mono ?_
    rintro e w2 ⟨rfl, hE2⟩
    have HE2 := hid (Ext.tr HE1.out hE2)
    clear hE2
    rcases Nat.eq_zero_or_pos c with rfl | hc
    · rw [whyV0 rfl]
      go_wp2_with fail
      go_ret
      exact ⟨by rw [HZ.out]; rfl, HE2.out⟩
    · rw [whyV_pos hc]
      go_wp2_with fail
      refine (who_any n _).mono ?_
      rintro e w3 ⟨rfl, hE3⟩
      have HE3 := hid (Ext.tr HE2.out hE3)
      clear hE3
      go_wp2_with fail
      go_ret
      exact ⟨by rw [HZ.out, refV_pos hc]; rfl, HE3.out⟩

set_option maxRecDepth 100000 in
set_option maxHeartbeats 1000000 in
theorem refusalOfA (V : Value) (b : Book) (n : Str) (c k : Nat) (a1 a2 : Option Addr) (c1 c2 : Nat) (w : World) (hb : BookAt w a1 a2 b) (hk : (if bookOk b = false then 1 else c) = k)
    (hW : ∀ w, (Go.method 348 75 V "loop.example/maltshare/impl.who").run Tryz.prog w = .ok (176, .agg #[.string (S n)]) w)
    (hR : ∀ w, (Go.method 348 75 V "loop.example/maltshare/impl.refused").run Tryz.prog w = .ok (179, V) w)
    (hC : bookOk b = true → ∀ w', Ext w w' → Calls Tryz.prog 179 #[V, .agg #[.slice a1 b.things.length c1, .slice a2 b.batches.length c2]] w' fun e w2 => e = .returned (whyV c) ∧ Ext w' w2) :
    Calls Tryz.prog 79 #[.agg #[.slice a1 b.things.length c1, .slice a2 b.batches.length c2], .iface 75 V] w fun e w' => e = .returned (refV n k) ∧ Ext w w' := by
  go_enter Tryz.func79, Tryz.ntmps79
  go_wp2_with fail
  refine (implBookOk_any b _ _ _ _ _ (hb.ext (ext_alloc _ _))).mono ?_
  rintro e w1 ⟨rfl, hE1⟩
  have q0 := box_cell hE1 (i := 0) rfl
  have q1 := box_cell hE1 (i := 1) rfl
  have HE1 := hid (Ext.tr (ext_alloc _ _) hE1)
  clear hE1
  cases hok : bookOk b
  · have HC : Hid (k = 1) := by show _ = _; rw [← hk, if_pos hok]
    clear hok hR hC hk
    go_wp2_with fail
    refine (who_any n _).mono ?_
    rintro e w2 ⟨rfl, hE2⟩
    have HE2 := hid (Ext.tr HE1.out hE2)
    clear hE2
    go_wp2_with fail
    go_ret
    exact ⟨by rw [HC.out]; rfl, HE2.out⟩
  · have HC' : Hid (∀ w', Ext w w' → Calls Tryz.prog 179 #[V, .agg #[.slice a1 b.things.length c1, .slice a2 b.batches.length c2]] w' fun e w2 => e = .returned (whyV c) ∧ Ext w' w2) := hC hok
    have HZ : Hid (k = c) := by show _ = _; rw [← hk, if_neg (by simp [hok])]
    clear hC hok hk
    go_wp2_with fail
    refine (HC'.out _ HE1.out).mono ?_
    rintro e w2 ⟨rfl, hE2⟩
    have HE2 := hid (Ext.tr HE1.out hE2)
    clear hE2
    rcases Nat.eq_zero_or_pos c with rfl | hc
    · rw [whyV0 rfl]
      go_wp2_with fail
      go_ret
      exact ⟨by rw [HZ.out]; rfl, HE2.out⟩
    · rw [whyV_pos hc]
      go_wp2_with fail
      refine (who_any n _).mono ?_
      rintro e w3 ⟨rfl, hE3⟩
      have HE3 := hid (Ext.tr HE2.out hE3)
      clear hE3
      go_wp2_with fail
      go_ret
      exact ⟨by rw [HZ.out, refV_pos hc]; rfl, HE3.out⟩

set_option maxRecDepth 100000 in
set_option maxHeartbeats 1000000 in
theorem refusalOfL (V : Value) (b : Book) (n : Str) (c k : Nat) (a1 a2 : Option Addr) (c1 c2 : Nat) (w : World) (hb : BookAt w a1 a2 b) (hk : (if bookOk b = false then 1 else c) = k)
    (hW : ∀ w, (Go.method 348 78 V "loop.example/maltshare/impl.who").run Tryz.prog w = .ok (176, .agg #[.string (S n)]) w)
    (hR : ∀ w, (Go.method 348 78 V "loop.example/maltshare/impl.refused").run Tryz.prog w = .ok (181, V) w)
    (hC : bookOk b = true → ∀ w', Ext w w' → Calls Tryz.prog 181 #[V, .agg #[.slice a1 b.things.length c1, .slice a2 b.batches.length c2]] w' fun e w2 => e = .returned (whyV c) ∧ Ext w' w2) :
    Calls Tryz.prog 79 #[.agg #[.slice a1 b.things.length c1, .slice a2 b.batches.length c2], .iface 78 V] w fun e w' => e = .returned (refV n k) ∧ Ext w w' := by
  go_enter Tryz.func79, Tryz.ntmps79
  go_wp2_with fail
  refine (implBookOk_any b _ _ _ _ _ (hb.ext (ext_alloc _ _))).mono ?_
  rintro e w1 ⟨rfl, hE1⟩
  have q0 := box_cell hE1 (i := 0) rfl
  have q1 := box_cell hE1 (i := 1) rfl
  have HE1 := hid (Ext.tr (ext_alloc _ _) hE1)
  clear hE1
  cases hok : bookOk b
  · have HC : Hid (k = 1) := by show _ = _; rw [← hk, if_pos hok]
    clear hok hR hC hk
    go_wp2_with fail
    refine (who_any n _).mono ?_
    rintro e w2 ⟨rfl, hE2⟩
    have HE2 := hid (Ext.tr HE1.out hE2)
    clear hE2
    go_wp2_with fail
    go_ret
    exact ⟨by rw [HC.out]; rfl, HE2.out⟩
  · have HC' : Hid (∀ w', Ext w w' → Calls Tryz.prog 181 #[V, .agg #[.slice a1 b.things.length c1, .slice a2 b.batches.length c2]] w' fun e w2 => e = .returned (whyV c) ∧ Ext w' w2) := hC hok
    have HZ : Hid (k = c) := by show _ = _; rw [← hk, if_neg (by simp [hok])]
    clear hC hok hk
    go_wp2_with fail
    refine (HC'.out _ HE1.out).mono ?_
    rintro e w2 ⟨rfl, hE2⟩
    have HE2 := hid (Ext.tr HE1.out hE2)
    clear hE2
    rcases Nat.eq_zero_or_pos c with rfl | hc
    · rw [whyV0 rfl]
      go_wp2_with fail
      go_ret
      exact ⟨by rw [HZ.out]; rfl, HE2.out⟩
    · rw [whyV_pos hc]
      go_wp2_with fail
      refine (who_any n _).mono ?_
      rintro e w3 ⟨rfl, hE3⟩
      have HE3 := hid (Ext.tr HE2.out hE3)
      clear hE3
      go_wp2_with fail
      go_ret
      exact ⟨by rw [HZ.out, refV_pos hc]; rfl, HE3.out⟩

set_option maxRecDepth 100000 in
set_option maxHeartbeats 1000000 in
theorem refusalOfG (V : Value) (b : Book) (n : Str) (c k : Nat) (a1 a2 : Option Addr) (c1 c2 : Nat) (w : World) (hb : BookAt w a1 a2 b) (hk : (if bookOk b = false then 1 else c) = k)
    (hW : ∀ w, (Go.method 348 80 V "loop.example/maltshare/impl.who").run Tryz.prog w = .ok (176, .agg #[.string (S n)]) w)
    (hR : ∀ w, (Go.method 348 80 V "loop.example/maltshare/impl.refused").run Tryz.prog w = .ok (182, V) w)
    (hC : bookOk b = true → ∀ w', Ext w w' → Calls Tryz.prog 182 #[V, .agg #[.slice a1 b.things.length c1, .slice a2 b.batches.length c2]] w' fun e w2 => e = .returned (whyV c) ∧ Ext w' w2) :
    Calls Tryz.prog 79 #[.agg #[.slice a1 b.things.length c1, .slice a2 b.batches.length c2], .iface 80 V] w fun e w' => e = .returned (refV n k) ∧ Ext w w' := by
  go_enter Tryz.func79, Tryz.ntmps79
  go_wp2_with fail
  refine (implBookOk_any b _ _ _ _ _ (hb.ext (ext_alloc _ _))).mono ?_
  rintro e w1 ⟨rfl, hE1⟩
  have q0 := box_cell hE1 (i := 0) rfl
  have q1 := box_cell hE1 (i := 1) rfl
  have HE1 := hid (Ext.tr (ext_alloc _ _) hE1)
  clear hE1
  cases hok : bookOk b
  · have HC : Hid (k = 1) := by show _ = _; rw [← hk, if_pos hok]
    clear hok hR hC hk
    go_wp2_with fail
    refine (who_any n _).mono ?_
    rintro e w2 ⟨rfl, hE2⟩
    have HE2 := hid (Ext.tr HE1.out hE2)
    clear hE2
    go_wp2_with fail
    go_ret
    exact ⟨by rw [HC.out]; rfl, HE2.out⟩
  · have HC' : Hid (∀ w', Ext w w' → Calls Tryz.prog 182 #[V, .agg #[.slice a1 b.things.length c1, .slice a2 b.batches.length c2]] w' fun e w2 => e = .returned (whyV c) ∧ Ext w' w2) := hC hok
    have HZ : Hid (k = c) := by show _ = _; rw [← hk, if_neg (by simp [hok])]
    clear hC hok hk
    go_wp2_with fail
    refine (HC'.out _ HE1.out).mono ?_
    rintro e w2 ⟨rfl, hE2⟩
    have HE2 := hid (Ext.tr HE1.out hE2)
    clear hE2
    rcases Nat.eq_zero_or_pos c with rfl | hc
    · rw [whyV0 rfl]
      go_wp2_with fail
      go_ret
      exact ⟨by rw [HZ.out]; rfl, HE2.out⟩
    · rw [whyV_pos hc]
      go_wp2_with fail
      refine (who_any n _).mono ?_
      rintro e w3 ⟨rfl, hE3⟩
      have HE3 := hid (Ext.tr HE2.out hE3)
      clear hE3
      go_wp2_with fail
      go_ret
      exact ⟨by rw [HZ.out, refV_pos hc]; rfl, HE3.out⟩

/-- The answer: a book of the call's own, and a code. -/
def OutA (w : World) (b : Book) (c : Nat) (e : Ending) (w' : World) : Prop := ∃ v1 v2 rs, e = .returned (.tuple #[.agg #[v1, v2], .int .i64 (c : Int)]) ∧ Ext w w' ∧ OB w' w.heap.size v1 v2 rs b
theorem OB.empty (w : World) (base : Nat) : OB w base (.slice none 0 0) (.slice none 0 0) [] emptyBook :=
  ⟨World.ownsRow_nil _ _ _ _, ⟨by simp [emptyBook], fun i hi => by simp [emptyBook] at hi⟩, World.ownsRow_nil _ _ _ _, ⟨rfl, fun i r x h => by simp at h⟩, ⟨List.Pairwise.nil, fun v hv => by simp [allV] at hv⟩⟩

set_option maxRecDepth 100000 in
set_option maxHeartbeats 2000000 in
theorem answered_any (W : Value) (b b0 B : Book) (n : Str) (c : Nat) (a1 a2 : Option Addr) (c1 c2 : Nat) (w : World) (hb : BookAt w a1 a2 b) (hB : (if c = 0 then b0 else if c = 1 then emptyBook else b) = B)
    (hg : w.cell? ⟨0, 0, none⟩ = some (.iface 176 (.agg #[.pointer (some ⟨1, 110, none⟩)])))
    (hR : ∀ w', Ext w w' → Calls Tryz.prog 79 #[.agg #[.slice a1 b.things.length c1, .slice a2 b.batches.length c2], W] w' fun e w2 => e = .returned (refV n c) ∧ Ext w' w2)
    (hD : c = 0 → ∀ w', Ext w w' → Calls Tryz.prog 80 #[.agg #[.slice a1 b.things.length c1, .slice a2 b.batches.length c2], W] w' fun e w2 => OutB w' b0 e w2) :
    Calls Tryz.prog 43 #[.agg #[.slice a1 b.things.length c1, .slice a2 b.batches.length c2], W] w fun e w' => OutA w B c e w' := by
  have HB := hid hB
  have HD := hid hD
  clear hB hD
  have e3 : ∀ o1 o2 o3, Ext w (((w.alloc o1).alloc o2).alloc o3) := fun o1 o2 o3 => Ext.tr (ext_two w o1 o2) (ext_alloc _ _)
  go_enter Tryz.func43, Tryz.ntmps43
  go_wp2_with fail
  refine (hR _ (e3 _ _ _)).mono ?_
  rintro e w1 ⟨rfl, hE1⟩
  have hE1' := Ext.tr (ext_alloc _ _) hE1
  have HRb : Hid (Rec w1 w.heap.size 26 [.slice a1 b.things.length c1, .slice a2 b.batches.length c2]) := (Rec.new w _ _).ext (Ext.tr (ext_alloc _ _) hE1')
  have q0 := box1of2 hE1' (i := 0) rfl
  have q1 := box1of2 hE1' (i := 1) rfl
  have HRr := hid (rec_second (l := [.slice none 0 0, .slice none 0 0]) hE1')
  have HRk : Hid (Rec w1 (w.heap.size + 2) 107 [.int .i64 0]) := by
    have h' := (Rec.new ((w.alloc (.cells #[.slice a1 b.things.length c1, .slice a2 b.batches.length c2] 26)).alloc (.cells #[.slice none 0 0, .slice none 0 0] 26)) 107 [.int .i64 0]).ext hE1
    have h2 : Rec w1 (w.heap.size + 2) 107 [.int .i64 0] := by simpa using h'
    exact h2
  have HE1 := hid (Ext.tr (e3 _ _ _) hE1)
  have hz1 : w.heap.size + 3 ≤ w1.heap.size := by have := hE1.size; simp at this; omega
  clear hE1 hE1' e3
  rcases Nat.eq_zero_or_pos c with rfl | hc
  · have HB0 : Hid (B = b0) := by show _ = _; rw [← HB.out, if_pos rfl]
    have HD0 := hid (HD.out rfl)
    clear HD HB
    rw [refV0]
    go_wp2_with fail
    refine (as_nil _ _).mono ?_
    rintro e w2 ⟨rfl, rfl⟩
    go_wp2_with fail
    refine (HD0.out _ HE1.out).mono ?_
    rintro e w2 ⟨v1, v2, rs, rfl, hE2, hO2⟩
    have rr := HRr.out.ext hE2
    have HRR := hid rr
    have HO2 : Hid (OB w2 w.heap.size v1 v2 rs b0) := hO2.low (by omega)
    have HE2 := hid (Ext.tr HE1.out hE2)
    have t0 := rr.cell (i := 0) rfl
    have t1 := rr.cell (i := 1) rfl
    have g0 := rr.frozen 0
    have g1 := rr.frozen 1
    obtain ⟨x1, y1, rfl⟩ := own_sl hO2.ot
    obtain ⟨x2, y2, rfl⟩ := own_shape3 hO2.ob
    clear hE2 hO2 rr
    go_wp2_with fail
    refine bodyPost_ret (v := .tuple #[.agg #[.slice x1 b0.things.length y1, .slice x2 rs.length y2], .int .i64 ((0 : Nat) : Int)]) (by simp [results, Tryz.results43, go_sem, t0, t1]) rfl ⟨_, _, rs, rfl, ?_, ?_⟩
    · exact (HE2.out.setCell (by simp) _).setCell (by simp) _
    · rw [HB0.out]
      exact (HO2.out.stored HRR.out rfl rfl _ _).stored (HRR.out.set _ _) rfl rfl _ _
  · rw [refV_pos hc]
    have hg1 := HE1.out.keep hg
    go_wp2_with fail
    refine (as_code (S n) (c : Int) ⟨w.heap.size + 2, 0, none⟩ _ _ hg1 (HRk.out.cell rfl) (HRk.out.frozen 0)).mono ?_
    rintro e w2 ⟨rfl, wz, hEz, hw2⟩
    have gk := gb_store wz (w.heap.size + 2) 0 (.int .i64 (c : Int))
    have HK2 : Hid (Rec w2 (w.heap.size + 2) 107 [.int .i64 (c : Int)]) := by rw [hw2]; exact (HRk.out.ext hEz).set 0 _
    have HR2 : Hid (Rec w2 (w.heap.size + 1) 26 [.slice none 0 0, .slice none 0 0]) := by rw [hw2]; exact (HRr.out.ext hEz).kept gk (fun e => by have := Option.some.inj e; omega)
    have HB2 : Hid (Rec w2 w.heap.size 26 [.slice a1 b.things.length c1, .slice a2 b.batches.length c2]) := by rw [hw2]; exact (HRb.out.ext hEz).kept gk (fun e => by have := Option.some.inj e; omega)
    have HE2 : Hid (Ext w w2) := by rw [hw2]; exact (Ext.tr HE1.out hEz).setCell (by simp) _
    have hz2 : w1.heap.size ≤ w2.heap.size := by rw [hw2]; have := hEz.size; have := gk.size; omega
    clear hw2 gk hEz q0 q1 HRk HRr HRb HE1 hg1 hR HD
    have k0 := HK2.out.cell (i := 0) rfl
    have t0 := HR2.out.cell (i := 0) rfl
    have t1 := HR2.out.cell (i := 1) rfl
    have g0 := HR2.out.frozen 0
    have g1 := HR2.out.frozen 1
    have b0' := HB2.out.cell (i := 0) rfl
    have b1' := HB2.out.cell (i := 1) rfl
    by_cases hc1 : c = 1
    · subst hc1
      have HBe : Hid (B = emptyBook) := by show _ = _; rw [← HB.out]; rfl
      go_wp2_with fail
      refine wp_region_T (fun w' => w'.cell? ⟨w.heap.size + 2, 0, none⟩ = some (.int .i64 ((1 : Nat) : Int))) 3 (by kernel_rfl) k0 (fun hS => ?_)
      refine wpT_take 0 (v := ?_) rfl rfl (by kernel_rfl) (by kernel_rfl) (by kernel_rfl) (by kernel_rfl) (fun _ _ _ h => h) hS rfl (by intro w0 hw0; (try dsimp only at hw0); go_simp; try rfl) ?_
      try simp only [List.set]
      refine wpT_take 1 (v := ?_) rfl rfl (by kernel_rfl) (by kernel_rfl) (by kernel_rfl) (by kernel_rfl) (fun _ _ _ h => h) hS rfl (by intro w0 hw0; (try dsimp only at hw0); go_simp; try rfl) ?_
      try simp only [List.set]
      refine wpT_one 2 rfl (by kernel_rfl) rfl rfl (fun K hK => ?_)
      go_simp
      have gs1 := gb_store (w2.drewN 1) (w.heap.size + 1) 0 (.slice none 0 0)
      have gs2 := gb_store ((w2.drewN 1).setCell ⟨w.heap.size + 1, 0, none⟩ (.slice none 0 0)) (w.heap.size + 1) 1 (.slice none 0 0)
      have hk3 := ((HK2.out.ext (ext_drewN _ 1)).kept gs1 (fun e => by have := Option.some.inj e; omega)).kept gs2 (fun e => by have := Option.some.inj e; omega)
      have HE3 : Hid (Ext w ((w2.setCell ⟨w.heap.size + 1, 0, none⟩ (.slice none 0 0)).setCell ⟨w.heap.size + 1, 1, none⟩ (.slice none 0 0)).drew) := Ext.tr ((HE2.out.setCell (by simp) _).setCell (by simp) _) (ext_drewN _ 1)
      refine hK.out _ _ (hk3.cell rfl) (fun hS1 => ?_)
      clear hK hS
      have hS := hS1
      clear hS1
      try clear K
      try simp only [put_some, List.set]
      clear gs1 gs2 hk3
      refine wpT_last rfl (by kernel_rfl) (by kernel_rfl) rfl (fun K hK => ?_)
      go_simp
      refine hK.out _ _ ?_
      clear hK hS
      go_wp2_with fail
      refine bodyPost_ret (v := .tuple #[.agg #[.slice none 0 0, .slice none 0 0], .int .i64 ((1 : Nat) : Int)]) (by simp [results, Tryz.results43, go_sem, t0, t1]) rfl ⟨_, _, [], rfl, HE3.out, ?_⟩
      rw [HBe.out]
      exact OB.empty _ _
    · have HBe : Hid (B = b) := by show _ = _; rw [← HB.out, if_neg (by omega), if_neg hc1]
      have hci : ¬ ((c : Int) = 1) := by omega
      have hat2 := hid (hb.ext HE2.out)
      clear HB hc1
      go_wp2_with fail
      refine wp_region_T (fun w' => w'.cell? ⟨w.heap.size + 2, 0, none⟩ = some (.int .i64 (c : Int)) ∧ w'.cell? ⟨w.heap.size, 0, none⟩ = some (.slice a1 b.things.length c1) ∧ w'.cell? ⟨w.heap.size, 1, none⟩ = some (.slice a2 b.batches.length c2)) 4 (by kernel_rfl) ⟨k0, b0', b1'⟩ (fun hS => ?_)
      refine wpT_take 0 (v := ?_) rfl rfl (by kernel_rfl) (by kernel_rfl) (by kernel_rfl) (by kernel_rfl) (fun _ _ _ h => h) hS rfl (by intro w0 hw0; (try dsimp only at hw0); go_simp; try rfl) ?_
      try simp only [List.set]
      refine wpT_take 2 (v := ?_) rfl rfl (by kernel_rfl) (by kernel_rfl) (by kernel_rfl) (by kernel_rfl) (fun _ _ _ h => h) hS rfl (by intro w0 hw0; (try dsimp only at hw0); go_simp; try rfl) ?_
      try simp only [List.set]
      refine wpT_one 1 rfl (by kernel_rfl) rfl rfl (fun K hK => ?_)
      go_simp
      refine (copiedBook_any b _ _ _ _ _ (hat2.out.ext (ext_drewN _ 1))).mono ?_
      rintro e w3 ⟨v1, v2, rs, rfl, hE3, hO3⟩
      have hrr := (HR2.out.ext (ext_drewN _ 1)).ext hE3
      have hkk := (HK2.out.ext (ext_drewN _ 1)).ext hE3
      have hbb := (HB2.out.ext (ext_drewN _ 1)).ext hE3
      have HO3 : Hid (OB w3 w.heap.size v1 v2 rs b) := hO3.low (by show w.heap.size ≤ w2.heap.size; omega)
      have HE3 := hid (Ext.tr HE2.out (Ext.tr (ext_drewN _ 1) hE3))
      obtain ⟨x1, y1, rfl⟩ := own_sl hO3.ot
      obtain ⟨x2, y2, rfl⟩ := own_shape3 hO3.ob
      go_wp2_with fail
      refine hK.out _ _ ⟨hE3.keep hS.1, hE3.keep hS.2.1, hE3.keep hS.2.2⟩ (fun hS1 => ?_)
      clear hK hS
      have hS := hS1
      clear hS1
      try clear K
      try simp only [put_some, List.set]
      have u0 := hrr.cell (i := 0) rfl
      have u1 := hrr.cell (i := 1) rfl
      have h0 := hrr.frozen 0
      have h1 := hrr.frozen 1
      have gs1 := gb_store w3 (w.heap.size + 1) 0 (.slice x1 b.things.length y1)
      have gs2 := gb_store (w3.setCell ⟨w.heap.size + 1, 0, none⟩ (.slice x1 b.things.length y1)) (w.heap.size + 1) 1 (.slice x2 rs.length y2)
      have hk3 := (hkk.kept gs1 (fun e => by have := Option.some.inj e; omega)).kept gs2 (fun e => by have := Option.some.inj e; omega)
      have hb3 := (hbb.kept gs1 (fun e => by have := Option.some.inj e; omega)).kept gs2 (fun e => by have := Option.some.inj e; omega)
      have HRR := hid hrr
      clear hE3 hO3 t0 t1 g0 g1 k0 b0' b1' hrr hkk hbb
      refine wpT_one 3 rfl (by kernel_rfl) rfl rfl (fun K hK => ?_)
      go_simp
      refine hK.out _ _ ⟨hk3.cell rfl, hb3.cell rfl, hb3.cell rfl⟩ (fun hS1 => ?_)
      clear hK hS
      have hS := hS1
      clear hS1
      try clear K
      try simp only [put_some, List.set]
      clear gs1 gs2 hk3 hb3
      refine wpT_last rfl (by kernel_rfl) (by kernel_rfl) rfl (fun K hK => ?_)
      go_simp
      refine hK.out _ _ ?_
      clear hK hS
      go_wp2_with fail
      refine bodyPost_ret (v := .tuple #[.agg #[.slice x1 b.things.length y1, .slice x2 rs.length y2], .int .i64 (c : Int)]) (by simp [results, Tryz.results43, go_sem, u0, u1]) rfl ⟨_, _, rs, rfl, ?_, ?_⟩
      · exact (HE3.out.setCell (by simp) _).setCell (by simp) _
      · rw [HBe.out]
        exact (HO3.out.stored HRR.out rfl rfl _ _).stored (HRR.out.set _ _) rfl rfl _ _
end Go.Proofs.YtdafpnpfcmgfcaaGreatDoor
