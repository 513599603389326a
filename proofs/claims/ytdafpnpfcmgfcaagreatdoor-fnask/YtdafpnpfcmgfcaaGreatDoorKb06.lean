/- Functions without a body that the model runs by its own words: those that errors.As and slices.Insert call are tame. A program with refused bodies, by reckoning. From the lone machine's steps to the way in company. -/
import Derived.Test.YtdafpnpfcmgfcaaGreatDoorKb05
import Derived.Laws.Externs
import Derived.RowKitTokens
import Derived.Conc.LoneCalls
namespace Go.Proofs.YtdafpnpfcmgfcaaGreatDoor
section
open Go Go.Extern Go.RowKit
section
variable {Q P : Program} {S : Sh}
theorem ownRow_same {F : Array Func} (c : String × TypeId) : Program.ownRow { P with funcs := F } c = P.ownRow c := rfl
theorem alike_same {F : Array Func} : ∀ (d : Nat) (t u : TypeId), Program.alikeButTags { P with funcs := F } d t u = P.alikeButTags d t u
 | 0, _, _ => rfl
 | d + 1, t, u => by
  simp only [Program.alikeButTags, alike_same d]
theorem packed_same {F : Array Func} (t : TypeId) : Program.packed { P with funcs := F } t = P.packed t := by
 simp only [Program.packed, Program.packedAs, ownRow_same, under_same, depth_same, alike_same]
 rfl
theorem mayEmbed_same {F : Array Func} (ms : Array (String × TypeId)) : Program.mayEmbedAPacks { P with funcs := F } ms = P.mayEmbedAPacks ms := rfl
theorem methodsOf_same {F : Array Func} : ∀ (d : Nat) (t : TypeId), Program.methodsOfAPack { P with funcs := F } d t = P.methodsOfAPack d t
 | 0, _ => rfl
 | d + 1, t => by
  simp only [Program.methodsOfAPack, packed_same, under_same, mayEmbed_same, methodsOf_same d]
theorem namesPacked_same {F : Array Func} : ∀ (d : Nat), Program.namesPacked { P with funcs := F } d = P.namesPacked d
 | 0 => rfl
 | d + 1 => by
  funext t
  show (Program.packed { P with funcs := F } t || _) = (P.packed t || _)
  rw [packed_same, namesPacked_same d]
  rfl
theorem arr {α : Type} {p : Array α → Prop} (h0 : p #[]) (h1 : ∀ a, p #[a]) (h2 : ∀ a b, p #[a, b]) (h3 : ∀ a b c l, p ⟨a :: b :: c :: l⟩) (xs : Array α) : p xs := by
 obtain ⟨l⟩ := xs
 match l with
 | [] => exact h0
 | [a] => exact h1 a
 | [a, b] => exact h2 a b
 | a :: b :: c :: l => exact h3 a b c l
theorem tm_noPack (hst : Stubbed Q P) {m : String} {t : TypeId} : Tm Q P S (Rtype.noPack m t) := by
 obtain ⟨F, rfl⟩ := hst.ex
 unfold Rtype.noPack
 refine t_prog (by simp only [packed_same]) ?_
 split
 ·exact tm_unsupported
 ·exact tm_pure
theorem tm_noPackMethods (hst : Stubbed Q P) {m : String} {t : TypeId} : Tm Q P S (Rtype.noPackMethods m t) := by
 obtain ⟨F, rfl⟩ := hst.ex
 unfold Rtype.noPackMethods
 refine t_prog (by simp only [methodsOf_same]) (t_prog (by simp only [depth_same]; rfl) ?_)
 split
 ·exact tm_unsupported
 ·exact tm_pure
theorem tm_noPackNamed (hst : Stubbed Q P) {m : String} {t : TypeId} : Tm Q P S (Rtype.noPackNamed m t) := by
 obtain ⟨F, rfl⟩ := hst.ex
 unfold Rtype.noPackNamed
 refine t_prog (by simp only [namesPacked_same]) (t_prog (by simp only [depth_same]; rfl) ?_)
 split
 ·exact tm_unsupported
 ·exact tm_pure
theorem tm_typeStr (hst : Stubbed Q P) {t : TypeId} : Tm Q P S (typeStr t) := by
 unfold typeStr
 refine tmb (tm_typeInfo hst) fun i => ?_
 dsimp only
 split
 ·exact tm_unsupported
 ·exact tm_pure
theorem tm_spelt (hst : Stubbed Q P) {t : TypeId} : Tm Q P S (Rtype.spelt t) := tmb (tm_noPackNamed hst) fun _ => tm_typeStr hst
theorem tm_cutType (hst : Stubbed Q P) {n : String} : Tm Q P S (cutType n) := by
 obtain ⟨F, rfl⟩ := hst.ex
 unfold cutType
 refine t_prog rfl ?_
 split
 ·exact tm_pure
 ·exact tm_stuck
theorem tm_handle (hst : Stubbed Q P) {t : TypeId} : Tm Q P S (Rtype.handle t) := by
 obtain ⟨F, rfl⟩ := hst.ex
 exact t_prog rfl tm_pure
theorem tm_ofHandle (hst : Stubbed Q P) {h : Value} : Tm Q P S (Rtype.ofHandle h) := by
 obtain ⟨F, rfl⟩ := hst.ex
 unfold Rtype.ofHandle
 refine t_prog (by rfl) ?_
 split
 ·exact tm_pure
 ·exact tm_stuck
theorem tm_panicString (hst : Stubbed Q P) {α : Type} {m : String} : Tm Q P S (panicString m : Sem α) := by
 obtain ⟨F, rfl⟩ := hst.ex
 exact t_prog rfl t_goPanic
theorem tm_under (hst : Stubbed Q P) {t : TypeId} : Tm Q P S (Rtype.under t) := by
 unfold Rtype.under
 refine tmb (tm_typeInfo hst) fun i => ?_
 split
 ·exact tmb (tm_typeInfo hst) fun _ => tm_pure
 ·exact tm_pure
theorem tm_kind (hst : Stubbed Q P) {t : TypeId} : Tm Q P S (Rtype.kind t) := by
 unfold Rtype.kind
 refine tmb (tm_under hst) fun r => ?_
 obtain ⟨_, i⟩ := r
 dsimp only
 split <;> first | exact tm_pure | exact tm_stuck
theorem tm_hasName (hst : Stubbed Q P) {t : TypeId} : Tm Q P S (Rtype.hasName t) := by
 unfold Rtype.hasName
 refine tmb (tm_typeInfo hst) fun i => ?_
 split <;> exact tm_pure
theorem tm_elem? (hst : Stubbed Q P) {t : TypeId} : Tm Q P S (Rtype.elem? t) := by
 unfold Rtype.elem?
 refine tmb (tm_under hst) fun i => ?_
 split <;> exact tm_pure
theorem tm_implements (hst : Stubbed Q P) {t u : TypeId} : Tm Q P S (Rtype.implements t u) := by
 unfold Rtype.implements
 refine tmb (tm_noPackMethods hst) fun _ => tmb (tm_noPackMethods hst) fun _ => tmb (tm_under hst) fun _ => tmb (tm_under hst) fun _ => ?_
 split
 ·exact tm_pure
 ·exact tmb (tm_typeInfo hst) fun _ => tm_pure
 ·exact tm_pure
theorem tm_directly (hst : Stubbed Q P) {t u : TypeId} : Tm Q P S (Rtype.directlyAssignable t u) := by
 have rest : Tm Q P S (do
   let (t1, ti) ← Rtype.under t
   let (v1, vi) ← Rtype.under u
   match ti.desc, vi.desc with
   | .chan _ e, .chan .both e' => pure (t1 == v1 || e == e')
   | _, _ => pure (t1 == v1)) := by
  refine tmb (tm_under hst) fun x => tmb (tm_under hst) fun y => ?_
  obtain ⟨a, b⟩ := x
  obtain ⟨c, d⟩ := y
  dsimp only
  split <;> exact tm_pure
 unfold Rtype.directlyAssignable
 split
 ·exact tm_pure
 ·refine tmb (tm_hasName hst) fun b => tmb (tm_hasName hst) fun c => ?_
  split
  ·exact tm_pure
  ·exact rest
theorem tm_toType (hst : Stubbed Q P) {t : TypeId} : Tm Q P S (ReflectliteType.toType t) := tmb (tm_cutType hst) fun _ => tmb (tm_handle hst) fun _ => tm_pure
theorem tm_ofRtype (hst : Stubbed Q P) {x : Value} : Tm Q P S (ReflectliteType.ofRtype x) := by
 cases x with
 | agg cs =>
  refine arr (p := fun cs => Tm Q P S (ReflectliteType.ofRtype (.agg cs))) tm_stuck (fun a => ?_) (fun _ _ => tm_stuck) (fun _ _ _ _ => tm_stuck) cs
  exact tmb (tm_ofHandle hst) fun _ => tmb (tm_noPack hst) fun _ => tm_pure
 | _ => exact tm_stuck
theorem tm_typeOf (hst : Stubbed Q P) {xs : Array Value} : Tm Q P S (ReflectliteType.typeOf xs) := by
 refine arr (p := fun xs => Tm Q P S (ReflectliteType.typeOf xs)) tm_stuck (fun a => ?_) (fun _ _ => tm_stuck) (fun _ _ _ _ => tm_stuck) xs
 cases a <;> first | exact tm_stuck | exact tm_toType hst | exact tm_pure
theorem tm_rElem (hst : Stubbed Q P) {xs : Array Value} : Tm Q P S (ReflectliteType.method ReflectliteType.elem xs) := by
 refine arr (p := fun xs => Tm Q P S (ReflectliteType.method ReflectliteType.elem xs)) tm_stuck (fun a => ?_) (fun _ _ => tm_stuck) (fun _ _ _ _ => tm_stuck) xs
 refine tmb (tm_ofRtype hst) fun t => ?_
 unfold ReflectliteType.elem
 refine tmb (tm_elem? hst) fun r => ?_
 cases r with
 | some e => exact tm_toType hst
 | none => exact tmb (tm_spelt hst) fun _ => tm_panicString hst
theorem tm_relation (hst : Stubbed Q P) {m : String} {f : TypeId → TypeId → Sem Bool} (hf : ∀ a b, Tm Q P S (f a b)) {xs : Array Value} : Tm Q P S (ReflectliteType.relation m f xs) := by
 refine arr (p := fun xs => Tm Q P S (ReflectliteType.relation m f xs)) tm_stuck (fun _ => tm_stuck) (fun a b => ?_) (fun _ _ _ _ => tm_stuck) xs
 cases b with
 | nilIface => exact tm_panicString hst
 | iface t v => exact tmb (tm_ofRtype hst) fun _ => tmb (tm_ofRtype hst) fun _ => tmb (hf _ _) fun _ => tm_pure
 | _ => exact tm_stuck
theorem tm_implements_ (hst : Stubbed Q P) {t u : TypeId} : Tm Q P S (ReflectliteType.implements_ t u) := by
 have rest : Tm Q P S (do
   Rtype.noPackMethods "Implements" u
   Rtype.noPack "Implements" t
   Rtype.implements t u) := tmb (tm_noPackMethods hst) fun _ => tmb (tm_noPack hst) fun _ => tm_implements hst
 unfold ReflectliteType.implements_
 refine tmb (tm_kind hst) fun k => ?_
 split
 ·exact tmb (tm_panicString hst) fun _ => rest
 ·exact rest
theorem tm_assignable (hst : Stubbed Q P) {t u : TypeId} : Tm Q P S (ReflectliteType.assignableTo t u) := by
 have rest : Tm Q P S (do pure ((← Rtype.directlyAssignable t u) || (← Rtype.implements t u))) := tmb (tm_directly hst) fun _ => tmb (tm_implements hst) fun _ => tm_pure
 unfold ReflectliteType.assignableTo
 split
 ·exact tmb (tm_noPackMethods hst) fun _ => tmb (tm_noPackMethods hst) fun _ => rest
 ·exact rest
theorem tm_abiKind (hst : Stubbed Q P) {xs : Array Value} : Tm Q P S (ReflectliteType.abiMethod (fun t => do pure (.int .u8 (← Rtype.kind t))) xs) := by
 refine arr (p := fun xs => Tm Q P S (ReflectliteType.abiMethod (fun t => do pure (.int .u8 (← Rtype.kind t))) xs)) tm_stuck (fun a => ?_) (fun _ _ => tm_stuck) (fun _ _ _ _ => tm_stuck) xs
 exact tmb (tm_ofHandle hst) fun _ => tmb (tm_noPack hst) fun _ => tmb (tm_kind hst) fun _ => tm_pure
theorem tm_mk (hst : Stubbed Q P) {t : TypeId} {a : Addr} {f : Nat} : Tm Q P S (ReflectliteValue.mk t a f) := tmb (tm_handle hst) fun _ => tmb (tm_kind hst) fun _ => tm_pure
theorem tm_unpack (hst : Stubbed Q P) {x : Value} : Tm Q P S (ReflectliteValue.unpack x) := by
 unfold ReflectliteValue.unpack
 split
 ·exact tm_pure
 ·exact tmb tm_newVar fun _ => tm_mk hst
 ·exact tm_stuck
theorem tm_elemOf (hst : Stubbed Q P) {t : TypeId} : Tm Q P S (elemOf t) := t_elemOf hst fun _ => trivial
theorem tm_valueError (hst : Stubbed Q P) {α : Type} {m : String} {k : Nat} : Tm Q P S (ReflectliteValue.valueError m k : Sem α) := tmb (tm_cutType hst) fun _ => tmb (tm_elemOf hst) fun _ => tmb tm_newVar fun _ => t_goPanic
theorem tm_partsAny (hst : Stubbed Q P) {x : Value} : Tm Q P S (ReflectliteValue.partsAny x) := by
 cases x with
 | agg cs =>
  refine arr (p := fun cs => Tm Q P S (ReflectliteValue.partsAny (.agg cs))) tm_stuck (fun _ => tm_stuck) (fun _ _ => tm_stuck) (fun a b c l => ?_) cs
  cases l with
  | cons _ _ => exact tm_stuck
  | nil =>
   have two : ∀ (f : Int), Tm Q P S (do pure (some (← Rtype.ofHandle a, (⟨0, 0, none⟩ : Addr), f.toNat))) := fun f => tmb (tm_ofHandle hst) fun _ => tm_pure
   cases c with
   | int k n =>
    cases k <;> first
     | exact tm_stuck
     | (cases b with
      | pointer p => cases p <;> cases n with
       | ofNat n => cases n <;> first | exact tm_pure | exact tmb (tm_ofHandle hst) fun _ => tm_pure | exact tm_stuck
       | negSucc n => first | exact tmb (tm_ofHandle hst) fun _ => tm_pure | exact tm_stuck
      | _ => cases n with
       | ofNat n => cases n <;> first | exact tm_pure | exact tm_stuck
       | negSucc n => exact tm_stuck)
   | _ => cases b with
    | pointer p => cases p <;> exact tm_stuck
    | _ => exact tm_stuck
 | _ => exact tm_stuck
theorem tm_parts (hst : Stubbed Q P) {x : Value} : Tm Q P S (ReflectliteValue.parts x) := by
 unfold ReflectliteValue.parts
 refine tmb (tm_partsAny hst) fun r => ?_
 split
 ·exact tmb (tm_noPack hst) fun _ => tm_pure
 ·exact tm_pure
theorem tm_vMethod (hst : Stubbed Q P) {z : Sem Value} {f : TypeId → Addr → Nat → Nat → Sem Value} (hz : Tm Q P S z) (hf : ∀ a b c d, Tm Q P S (f a b c d)) {xs : Array Value} : Tm Q P S (ReflectliteValue.method z f xs) := by
 refine arr (p := fun xs => Tm Q P S (ReflectliteValue.method z f xs)) tm_stuck (fun a => ?_) (fun _ _ => tm_stuck) (fun _ _ _ _ => tm_stuck) xs
 refine tmb (tm_parts hst) fun r => ?_
 cases r with
 | none => exact hz
 | some r => exact hf _ _ _ _
theorem tm_vMethodAny (hst : Stubbed Q P) {z : Sem Value} {f : TypeId → Addr → Nat → Nat → Sem Value} (hz : Tm Q P S z) (hf : ∀ a b c d, Tm Q P S (f a b c d)) {xs : Array Value} : Tm Q P S (ReflectliteValue.methodAny z f xs) := by
 refine arr (p := fun xs => Tm Q P S (ReflectliteValue.methodAny z f xs)) tm_stuck (fun a => ?_) (fun _ _ => tm_stuck) (fun _ _ _ _ => tm_stuck) xs
 refine tmb (tm_partsAny hst) fun r => ?_
 cases r with
 | none => exact hz
 | some r => exact hf _ _ _ _
theorem tm_isNil (hst : Stubbed Q P) {t : TypeId} {a : Addr} {x k : Nat} : Tm Q P S (ReflectliteValue.isNil t a x k) := by
 have rest : Tm Q P S (do
   match ← loadVar t a with
   | .chan none | .nilFunc | .nilIface | .map none | .pointer none | .slice none _ _ => pure (.bool true)
   | _ => pure (.bool false) : Sem Value) := by
  refine tmb (tm_loadVar hst) fun v => ?_
  split <;> exact tm_pure
 unfold ReflectliteValue.isNil
 dsimp only
 split
 ·exact tmb (tm_valueError hst) fun _ => rest
 ·exact rest
theorem tm_vElem (hst : Stubbed Q P) {t : TypeId} {a : Addr} {x k : Nat} : Tm Q P S (ReflectliteValue.elem t a x k) := by
 have rest : Tm Q P S (do
   match k, ← loadVar t a, ← Rtype.elem? t with
   | 20, i, _ => ReflectliteValue.unpack i
   | 22, .pointer none, _ => pure ReflectliteValue.zeroV
   | 22, .pointer (some p), some e => ReflectliteValue.mk e p ReflectliteValue.flagAddr
   | _, _, _ => ReflectliteValue.valueError "reflectlite.Value.Elem" k) := by
  refine tmb (tm_loadVar hst) fun v => tmb (tm_elem? hst) fun r => ?_
  split
  ·exact tm_unpack hst
  ·exact tm_pure
  ·exact tm_mk hst
  ·exact tm_valueError hst
 unfold ReflectliteValue.elem
 dsimp only
 split
 ·exact tmb (tm_valueError hst) fun _ => rest
 ·exact rest
theorem tm_set (hst : Stubbed Q P) {xs : Array Value} : Tm Q P S (ReflectliteValue.set xs) := by
 refine arr (p := fun xs => Tm Q P S (ReflectliteValue.set xs)) tm_stuck (fun _ => tm_stuck) (fun x y => ?_) (fun _ _ _ _ => tm_stuck) xs
 refine tmb (tm_parts hst) fun r => tmb (tm_parts hst) fun r' => ?_
 cases r with
 | none => exact tm_unsupported
 | some r =>
  cases r' with
  | none => exact tm_unsupported
  | some r' =>
   obtain ⟨dst, a, fl⟩ := r
   obtain ⟨src, b, fl'⟩ := r'
   dsimp only
   have rest : Tm Q P S (do
     let val ← loadVar src b
     if ← Rtype.directlyAssignable dst src then storeVar dst a val
     else if ← Rtype.implements dst src then
      if (← Rtype.kind src) == 20 then
       match val with
       | .nilIface => unsupported (.noEntry "extern/reflectlite: a nil value of one interface type handed on as a value of another")
       | _ => storeVar dst a val
      else storeVar dst a (.iface src val)
     else panicString ("reflectlite.Set: value of type " ++ (← Rtype.spelt src) ++ " is not assignable to type " ++ (← Rtype.spelt dst))
     pure (Value.tuple #[])) := by
    refine tmb (tm_loadVar hst) fun v => tmb (tm_directly hst) fun d => ?_
    dsimp only
    split
    ·exact tmb (tm_storeVar hst) fun _ => tm_pure
    ·refine tmb (tm_implements hst) fun i => ?_
     split
     ·refine tmb (tm_kind hst) fun k => ?_
      split
      ·split
       ·exact tmb tm_unsupported fun _ => tm_pure
       ·exact tmb (tm_storeVar hst) fun _ => tm_pure
      ·exact tmb (tm_storeVar hst) fun _ => tm_pure
     ·exact tmb (tm_spelt hst) fun _ => tmb (tm_spelt hst) fun _ => tmb (tm_panicString hst) fun _ => tm_pure
   split
   ·exact tmb tm_unsupported fun _ => rest
   ·exact rest
theorem t_shapeC {β : Type} {Z B : β → Prop} {r : Nat} {f : Option (TypeId × Nat) → Sem β} (h : ∀ x, Tame Q P S Z B (f x)) (h0 : S r → ∀ t n, f (some (t, 0)) = f (some (t, n))) : Tame Q P S Z B (shape r >>= f) :=
 ⟨h, (Classical.em (S r)).symm.imp id fun hs => .inr fun t n v es _ => congrArg (fun s => Sem.runT Q s v es) (show f (some (t, 0)) = f (some (t, n)) from h0 hs t n)⟩
theorem t_stringish {a : Addr} : Tame Q P S (fun _ => False) (fun b => S a.block → b = false) (stringish a) := by
 have e : stringish a = Sem.frozen a (fun b => if b = true then pure true else Sem.shape a.block (fun x => match x with | some (_, n) => Sem.frozen { block := a.block, off := n } Sem.pure | none => pure false)) := by
  unfold stringish
  show Sem.frozen a _ = Sem.frozen a _
  congr 1
 rw [e]
 intro b hb
 cases b
 ·refine ⟨fun x => ?_, (Classical.em (S a.block)).symm.imp id fun hs => .inr fun t n v es hv => ?_⟩
  ·cases x with
   | none => exact fun _ => rfl
   | some x => exact fun b hb => hb
  ·have h1 := hv { block := a.block, off := 0 } hs
   have h2 := hv { block := a.block, off := n } hs
   simp only [Sem.runT, h1, h2]
 ·exact fun hs => hb hs
theorem tm_mayBeOne {a b : Addr} : Tm Q P S (mayBeOne a b) := by
 unfold mayBeOne
 refine tb' t_stringish fun sa ha => tb' t_stringish fun sb hb => ?_
 have key : Tm Q P S (shape a.block >>= fun x => shape b.block >>= fun y => pure ((sa && sb) || (sa && (x matches some (_, 0))) || (sb && (y matches some (_, 0))))) := by
  refine t_shapeC (fun x => t_shapeC (fun y => tm_pure) fun hs t n => ?_) fun hs t n => ?_
  ·rw [hb hs]
   simp only [Bool.false_and, Bool.or_false]
  ·rw [ha hs]
   simp only [Bool.false_and, Bool.or_false]
 exact key
theorem tm_noView {a : Addr} : Tm Q P S (noView a) := t_noView trivial
theorem tm_overlaps (hst : Stubbed Q P) {ps rs : Array TypeId} {xs : Array Value} : Tm Q P S (SlicesOverlaps.overlaps ps rs xs) := by
 refine arr (p := fun xs => Tm Q P S (SlicesOverlaps.overlaps ps rs xs)) tm_stuck (fun _ => tm_stuck) (fun x y => ?_) (fun _ _ _ _ => tm_stuck) xs
 cases x with
 | slice a la ca =>
  cases y with
  | slice b lb cb =>
   unfold SlicesOverlaps.overlaps
   dsimp only
   split
   ·refine tmb (tm_underlying hst) fun d => ?_
    cases d
    case slice e =>
     refine tmb (tm_sizeOf hst) fun z => ?_
     cases a with
     | none => exact tm_pure
     | some a =>
      cases b with
      | none => exact tm_pure
      | some b =>
       have fin : Tm Q P S (pure (Value.bool (a.block == b.block && decide (a.off < b.off + lb * z) && decide (b.off < a.off + la * z))) : Sem Value) := tm_pure
       dsimp only
       split
       ·exact tm_pure
       ·refine tmb (t_frozen fun _ => trivial) fun fa => tmb (t_frozen fun _ => trivial) fun fb => ?_
        split
        ·exact tm_unsupported
        ·split
         ·refine tmb tm_noView fun _ => tmb tm_noView fun _ => tmb tm_mayBeOne fun m => ?_
          split
          ·exact tmb tm_choose fun _ => tm_pure
          ·exact tm_pure
         ·exact tm_pure
    all_goals exact tm_stuck
   ·exact tm_stuck
  | _ => exact tm_stuck
 | _ => exact tm_stuck
def tameNames : List String := ["internal/reflectlite.ValueOf", "(internal/reflectlite.Value).Type", "(internal/reflectlite.Value).IsNil", "(internal/reflectlite.Value).Elem", "(internal/reflectlite.Value).Set", "internal/reflectlite.TypeOf",
 "(internal/reflectlite.rtype).Elem", "(internal/reflectlite.rtype).Implements", "(internal/reflectlite.rtype).AssignableTo", "(*internal/abi.Type).Kind"]
def tameExt (fn : Func) : Bool := (Extern.findNext fn).isNone && (tameNames.contains fn.name || (fn.origin == "slices.overlaps" && (Extern.find { fn with origin := "" }).isNone))
theorem find_name {fn : Func} {n : String} {e : Array Value → Sem Value} (hn : fn.name = n) (h1 : allGenericRows.lookup n = none) (h2 : allTypedRows.lookup n = none) (h3 : allRows.lookup n = some e) : Extern.find fn = some e := by
 unfold Extern.find
 simp only [hn, h1, h2, h3, Option.map_none]
 rfl
theorem find_overlaps {fn : Func} (ho : fn.origin = "slices.overlaps") (hn : Extern.find { fn with origin := "" } = none) : Extern.find fn = some (SlicesOverlaps.overlaps fn.params fn.resultTypes) := by
 have h1 : allGenericRows.lookup "slices.overlaps" = none := by kernel_rfl
 have h2 : allTypedRows.lookup "slices.overlaps" = some SlicesOverlaps.overlaps := by kernel_rfl
 unfold Extern.find at hn ⊢
 dsimp only at hn ⊢
 rw [ho]
 generalize (Option.map (fun x => x fn.targs fn.params fn.resultTypes) (List.lookup fn.name allGenericRows) <|> Option.map (fun x => x fn.params fn.resultTypes) (List.lookup fn.name allTypedRows) <|> List.lookup fn.name allRows) = x at hn ⊢
 cases x with
 | some e => cases hn
 | none =>
  rw [h1, h2]
  rfl
theorem tameExt_ok (hst : Stubbed Q P) {fn : Func} (h : tameExt fn = true) : Extern.findNext fn = none ∧ ∃ e, Extern.find fn = some e ∧ ∀ (S : Sh) (args : Array Value), Tm Q P S (e args) := by
 simp only [tameExt, Bool.and_eq_true, Option.isNone_iff_eq_none, Bool.or_eq_true, beq_iff_eq] at h
 refine ⟨h.1, ?_⟩
 rcases h.2 with h | ⟨ho, hn⟩
 ·simp only [tameNames, List.contains_cons, List.contains_nil, Bool.or_false, Bool.or_eq_true, beq_iff_eq] at h
  rcases h with h | h | h | h | h | h | h | h | h | h
  ·exact ⟨_, find_name h (by kernel_rfl) (by kernel_rfl) (e := fun args => ReflectliteValue.unpack (args.getD 0 (.tuple #[]))) (by kernel_rfl), fun S args => tm_unpack hst⟩
  ·exact ⟨_, find_name h (by kernel_rfl) (by kernel_rfl) (e := ReflectliteValue.methodAny (ReflectliteValue.valueError "reflectlite.Value.Type" 0) fun t _ _ _ => ReflectliteType.toType t) (by kernel_rfl), fun S args => tm_vMethodAny hst (tm_valueError hst) fun _ _ _ _ => tm_toType hst⟩
  ·exact ⟨_, find_name h (by kernel_rfl) (by kernel_rfl) (e := ReflectliteValue.method (ReflectliteValue.valueError "reflectlite.Value.IsNil" 0) ReflectliteValue.isNil) (by kernel_rfl), fun S args => tm_vMethod hst (tm_valueError hst) fun _ _ _ _ => tm_isNil hst⟩
  ·exact ⟨_, find_name h (by kernel_rfl) (by kernel_rfl) (e := ReflectliteValue.method (ReflectliteValue.valueError "reflectlite.Value.Elem" 0) ReflectliteValue.elem) (by kernel_rfl), fun S args => tm_vMethod hst (tm_valueError hst) fun _ _ _ _ => tm_vElem hst⟩
  ·exact ⟨_, find_name h (by kernel_rfl) (by kernel_rfl) (e := ReflectliteValue.set) (by kernel_rfl), fun S args => tm_set hst⟩
  ·exact ⟨_, find_name h (by kernel_rfl) (by kernel_rfl) (e := ReflectliteType.typeOf) (by kernel_rfl), fun S args => tm_typeOf hst⟩
  ·exact ⟨_, find_name h (by kernel_rfl) (by kernel_rfl) (e := ReflectliteType.method ReflectliteType.elem) (by kernel_rfl), fun S args => tm_rElem hst⟩
  ·exact ⟨_, find_name h (by kernel_rfl) (by kernel_rfl) (e := ReflectliteType.relation "Implements" ReflectliteType.implements_) (by kernel_rfl), fun S args => tm_relation hst fun _ _ => tm_implements_ hst⟩
  ·exact ⟨_, find_name h (by kernel_rfl) (by kernel_rfl) (e := ReflectliteType.relation "AssignableTo" ReflectliteType.assignableTo) (by kernel_rfl), fun S args => tm_relation hst fun _ _ => tm_assignable hst⟩
  ·exact ⟨_, find_name h (by kernel_rfl) (by kernel_rfl) (e := ReflectliteType.abiMethod fun t => do pure (.int .u8 (← Rtype.kind t))) (by kernel_rfl), fun S args => tm_abiKind hst⟩
 ·exact ⟨_, find_overlaps ho hn, fun S args => tm_overlaps hst⟩
end
end
section
open Go
inductive StubL : List Func → List Func → Prop
 | nil : StubL [] []
 | same {f : Func} {l m : List Func} : StubL l m → StubL (f :: l) (f :: m)
 | stub {f : Func} {why : String} {l m : List Func} : StubL l m → StubL ({ f with body := some (.refuse why) } :: l) (f :: m)
theorem StubL.get {l m : List Func} (h : StubL l m) : l.length = m.length ∧ ∀ f : Nat, l[f]? = m[f]? ∨ ∃ (g : Func) (why : String), m[f]? = some g ∧ l[f]? = some { g with body := some (.refuse why) } := by
 induction h with
 | nil => exact ⟨rfl, fun _ => .inl rfl⟩
 | same _ ih =>
  refine ⟨by simp [ih.1], fun f => ?_⟩
  cases f with
  | zero => exact .inl rfl
  | succ f => simpa using ih.2 f
 | @stub g why _ _ _ ih =>
  refine ⟨by simp [ih.1], fun f => ?_⟩
  cases f with
  | zero => exact .inr ⟨g, why, rfl, rfl⟩
  | succ f => simpa using ih.2 f
theorem tamed_of {Q P : Program} (ht : Q.toTables = P.toTables) (hs : StubL Q.funcs.toList P.funcs.toList) (hb : Q.funcs.all (fun fn => (!fn.body.isNone || tameExt fn) && !(fn.name == "runtime.NumGoroutine")) = true)
  (hc : Q.funcs.all (fun fn => match fn.body with | some c => okCode P c | none => true) = true) (hp : (basic P 3 && basic P 4 && basic P 9) = true) : Tamed Q P := by
 obtain ⟨h1, h2⟩ := hs.get
 have st : Stubbed Q P := by
  refine ⟨?_, by simpa using h1, fun f => ?_⟩
  ·cases Q; cases P
   simp only [Program.mk.injEq] at ht ⊢
   exact ⟨ht, trivial⟩
  ·have := h2 f
   simpa using this
 refine ⟨st, fun f fn hf => ?_, fun f fn c hf hcd => ?_, by simpa [and_assoc] using hp⟩
 ·have := (Array.all_eq_true'.1 hb) fn (Array.mem_of_getElem? hf)
  simp only [Bool.and_eq_true, Bool.or_eq_true, Bool.not_eq_true'] at this
  exact ⟨this.2, fun hn => tameExt_ok st (this.1.resolve_left fun h => by rw [hn] at h; cases h)⟩
 ·have := (Array.all_eq_true'.1 hc) fn (Array.mem_of_getElem? hf)
  rw [hcd] at this
  exact this
section
variable {T : Tables} {F F1 : Array Func} (t : TypeId) (w : World)
theorem same_underlying : (Program.mk T F).underlying t = (Program.mk T F1).underlying t := rfl
theorem same_run_underlying : (Go.underlying t).run (Program.mk T F) w = (Go.underlying t).run (Program.mk T F1) w := by
 have e := same_underlying (T := T) (F := F) (F1 := F1) t
 cases h : (Program.mk T F1).underlying t with
 | none => rw [h] at e; simp [Go.underlying, e, h]
 | some d => rw [h] at e; simp [Go.underlying, e, h]
theorem same_run_typeInfo : (Go.typeInfo t).run (Program.mk T F) w = (Go.typeInfo t).run (Program.mk T F1) w := by
 cases h : (Program.mk T F1).info? t with
 | none => simp [Go.typeInfo, h]
 | some d => simp [Go.typeInfo, h]
theorem same_run_sizeOf : (Go.sizeOf t).run (Program.mk T F) w = (Go.sizeOf t).run (Program.mk T F1) w := by
 cases h : (Program.mk T F1).info? t with
 | none => simp [Go.sizeOf, Go.typeInfo, h]
 | some d => simp [Go.sizeOf, Go.typeInfo, h]
theorem same_run_isAgg : (Go.isAgg t).run (Program.mk T F) w = (Go.isAgg t).run (Program.mk T F1) w := by
 have e := same_underlying (T := T) (F := F) (F1 := F1) t
 cases h : (Program.mk T F1).underlying t with
 | none => rw [h] at e; simp [Go.isAgg, Go.underlying, e, h]
 | some d => rw [h] at e; cases d <;> simp [Go.isAgg, Go.underlying, e, h]
theorem same_run_zeroValue : (Go.zeroValue t).run (Program.mk T F) w = (Go.zeroValue t).run (Program.mk T F1) w := by
 cases h : (Program.mk T F1).info? t with
 | none => simp [Go.zeroValue, Go.typeInfo, h]
 | some d => cases hz : d.zero <;> simp [Go.zeroValue, Go.typeInfo, h, hz]
end
end
section
open Go Go.Conc
section
variable {Q P : Program} {S : Sh}
theorem step_solo_ended {a : Goroutine} {w w' : World} {o : Outcome} {es : Array Event} (hs : a.status = .running) (h : stepG Q true a w = .ended o w' es) : step Q (solo a w) = .ended o w' := by
 rw [step, stepT_solo hs]
 simp [runT, solo, Array.swapAt!, Array.swapAt, h]
theorem solo_inj {g g' : Goroutine} {w w' : World} (h : solo g w = solo g' w') : g = g' ∧ w = w' := by
 simp only [solo, Machine.mk.injEq] at h
 exact ⟨by simpa using h.2.1, h.1⟩
theorem Cp.same {v w : World} (h : Cp S v w) : Cp S v { w with tape := v.tape, drawn := v.drawn } := ⟨h.size, h.low, h.out, h.brk, h.os, h.output, h.mark, h.cold⟩
theorem rn_of_runN (hT : Tamed Q P) {Stop : Goroutine → World → Prop} : ∀ (n : Nat) (g : Goroutine) (v w : World) (g1 : Goroutine) (v1 : World), Ok P g → Cp S v w → runN Q n (solo (ext g) v) = .next (solo g1 v1) → Stop g1 v1 → Rn Q Stop n (ext g) v := by
 intro n
 induction n with
 | zero =>
  intro g v w g1 v1 _ _ hr hs
  simp only [runN] at hr
  obtain ⟨rfl, rfl⟩ := solo_inj (Stepped.next.inj hr)
  exact hs
 | succ n ih =>
  intro g v w g1 v1 hok hc hr hs
  obtain ⟨c, hstep⟩ := (kept (S := S) hT).step g { w with tape := v.tape, drawn := v.drawn } hok
  have hrun : (ext g).status = .running := hok.run
  rcases hstep v hc.same (fun i _ => rfl) with ⟨o, v', es, he⟩ | ⟨g', v2, es, he, hrest⟩
  ·exfalso
   simp only [runN, step_solo_ended hrun he] at hr
   cases hr
  ·have hst := step_solo_go hrun he
   simp only [runN, hst] at hr
   refine .inr ⟨g', v2, es, he, ?_⟩
   rcases hrest with hstub | ⟨gc, rfl, hok', _, _, w1, _, _, _, c1, _, _⟩
   ·cases n with
    | zero =>
     simp only [runN] at hr
     obtain ⟨rfl, rfl⟩ := solo_inj (Stepped.next.inj hr)
     exact hs
    | succ n =>
     exfalso
     obtain ⟨o, v', es', he'⟩ := stub_ends (Q := Q) hstub v2
     simp only [runN, step_solo_ended hstub.2.1 he'] at hr
     cases hr
   ·exact ih gc v2 w1 g1 v1 hok' c1 hr hs
def Came (b : Frame) (k : List Item) (cs : List Frame) : Exit → Act → Goroutine → Prop
 | .normal, a, g => g = G (b.at a k) cs
 | .exit id, a, g => ∃ k', exitTo id k = some k' ∧ g = G (b.at a k') cs
 | .ret, a, g => ∃ todo, g = G { b.at a todo with mode := .returning } cs
 | _, _, _ => False
def Willing (k : List Item) : Prop := ∀ why, k ≠ [.code (.refuse why)]
def Ways (k : List Item) : Exit → Prop
 | .normal => Willing k
 | .exit id => ∃ k', exitTo id k = some k' ∧ Willing k'
 | .ret => True
 | _ => False
theorem ext_G (fr : Frame) (cs : List Frame) : ext (G fr cs) = G fr (cs ++ [bottom]) := rfl
theorem came_ext {b : Frame} {k : List Item} {cs : List Frame} {e : Exit} {a : Act} {g : Goroutine} (h : Came b k (cs ++ [bottom]) e a (ext g)) : Came b k cs e a g := by
 cases e with
 | normal => exact ext_inj (h.trans (ext_G _ _).symm)
 | exit id => obtain ⟨k', h1, h2⟩ := h; exact ⟨k', h1, ext_inj (h2.trans (ext_G _ _).symm)⟩
 | ret => obtain ⟨todo, h⟩ := h; exact ⟨todo, ext_inj (h.trans (ext_G _ _).symm)⟩
 | _ => exact h.elim
theorem came_willing {b : Frame} {k : List Item} {cs : List Frame} {e : Exit} {a : Act} {g : Goroutine} (h : Came b k cs e a g) (hw : Ways k e) : ¬ Stub g := by
 rintro ⟨_, _, h2⟩
 cases e with
 | normal =>
  obtain rfl : g = G (b.at a k) cs := h
  rcases h2 with ⟨why, h2, _⟩ | ⟨ch, h2, _⟩
  ·exact hw why h2
  ·cases h2
 | exit id =>
  obtain ⟨k', h1, rfl⟩ := h
  obtain ⟨k2, h3, h4⟩ := hw
  rw [h1] at h3
  obtain rfl := Option.some.inj h3
  rcases h2 with ⟨why, h2, _⟩ | ⟨ch, h2, _⟩
  ·exact h4 why h2
  ·cases h2
 | ret =>
  obtain ⟨todo, rfl⟩ := h
  rcases h2 with ⟨why, _, h2⟩ | ⟨ch, h2, _⟩ <;> cases h2
 | _ => exact h.elim
theorem rb_arrives (hT : Tamed Q P) {b : Frame} {a : Act} {k todo : List Item} {cs : List Frame} {v w : World} {R : Exit → Act → World → Prop} (hb : b.kind = .normal) (ha : a.defers = []) (hk : ∀ i ∈ todo, okItem P i = true) (hcs : ∀ c ∈ cs, FrameOk P c)
  (hc : Cp S v w) (H : ∀ T, ∃ e a' v', R e a' v' ∧ Arrives Q (lone (b.at a todo) (cs ++ [bottom]) (World.re v 0 T)) b k (cs ++ [bottom]) e a' v') (hR : ∀ e a' v', R e a' v' → Ways k e) :
  Rb P S (fun g w => ∃ e a' v', Cp S v' w ∧ R e a' v' ∧ Came b k cs e a' g) (G (b.at a todo) cs) w := by
 have hok : Ok P (G (b.at a todo) cs) := ⟨rfl, rfl, ⟨hb, fun d hd => (by have hd' : d ∈ a.defers := hd; rw [ha] at hd'; cases hd'), hk⟩, hcs⟩
 have key := lift (Stop := fun g v' => ∃ e a', R e a' v' ∧ Came b k (cs ++ [bottom]) e a' g) (kept hT) (fun g v' hs ⟨e, a', hr, hcm⟩ => came_willing hcm (hR _ _ _ hr) hs) hc hok (fun T => ?_)
 ·refine Rb.trans key fun g w h => .stop fun w₁ h₁ => ?_
  obtain ⟨v', hc', e, a', hr, hcm⟩ := h w₁ h₁
  exact ⟨e, a', v', hc', hr, came_ext hcm⟩
 ·obtain ⟨e, a', v', hr, harr⟩ := H T
  have hw := hR _ _ _ hr
  have hc' : Cp S (World.re v 0 T) w := hc.re' 0 T
  rw [lone_eq_solo, ← ext_G] at harr
  cases e with
  | normal =>
   obtain ⟨n, hn⟩ := harr
   exact ⟨n, rn_of_runN hT n _ _ w _ _ hok hc' hn ⟨.normal, a', hr, rfl⟩⟩
  | exit id =>
   obtain ⟨k', h1, _⟩ := hw
   obtain ⟨n, hn⟩ := harr k' h1
   exact ⟨n, rn_of_runN hT n _ _ w _ _ hok hc' hn ⟨.exit id, a', hr, k', h1, rfl⟩⟩
  | ret =>
   obtain ⟨todo', n, hn⟩ := harr
   exact ⟨n, rn_of_runN hT n _ _ w _ _ hok hc' hn ⟨.ret, a', hr, todo', rfl⟩⟩
  | _ => exact hw.elim
theorem rb_wp (hT : Tamed Q P) {b : Frame} {a : Act} {c : Code} {k : List Item} {cs : List Frame} {v w : World} {R : Exit → Act → World → Prop} (hb : b.kind = .normal) (ha : a.defers = []) (hcd : okCode P c = true) (hk : ∀ i ∈ k, okItem P i = true) (hcs : ∀ c ∈ cs, FrameOk P c)
  (hc : Cp S v w) (H : ∀ T, c.wp Q R a (World.re v 0 T)) (hR : ∀ e a' v', R e a' v' → Ways k e) :
  Rb P S (fun g w => ∃ e a' v', Cp S v' w ∧ R e a' v' ∧ Came b k cs e a' g) (G (b.at a (.code c :: k)) cs) w :=
 rb_arrives hT hb ha (fun i hi => by
  rcases List.mem_cons.1 hi with rfl | hi
  ·exact hcd
  ·exact hk i hi) hcs hc (fun T => H T b k (cs ++ [bottom])) hR
end
end
end Go.Proofs.YtdafpnpfcmgfcaaGreatDoor
