/- The operations in use are tame. The operations in use are tame: places, maps, texts, lists. The operations in use are tame: lists that grow, calls; what is asked of an operation. -/
import Derived.Test.YtdafpnpfcmgfcaaGreatDoorKb03
namespace Go.Proofs.YtdafpnpfcmgfcaaGreatDoor
section
open Go
section
variable {Q P : Program} {S : Sh}
theorem eqGuardType_same {F : Array Func} : ∀ (d : Nat) (t : TypeId), Program.eqGuardType { P with funcs := F } d t = P.eqGuardType d t
 | 0, _ => rfl
 | d + 1, t => by
  simp only [Program.eqGuardType, under_same, eqGuardType_same d]
theorem tm_eqGuardIn (hst : Stubbed Q P) {n : Nat} {t : TypeId} {x y : Value} (hb : basic P t = true) : Tm Q P S (Op.eqGuardIn (n + 1) t x y) := by
 unfold Op.eqGuardIn
 refine tb (t_underlying hst fun d hd => ?_)
 rcases basic_cases hb with h | ⟨k, h⟩ | h
 all_goals
  rw [h] at hd
  obtain rfl := Option.some.inj hd
  exact tm_pure
theorem tm_eqGuard (hst : Stubbed Q P) {op : BinOp} {t : TypeId} {x y : Operand} {a b : Value} (hb : op = .eql ∨ op = .neq → basic P t = true) : Tm Q P S (eqGuard op t x y a b) := by
 have hst' := hst
 obtain ⟨F, rfl⟩ := hst.ex
 unfold eqGuard
 by_cases hop : op = .eql ∨ op = .neq
 case neg =>
  cases op <;> first | exact trivial | (simp at hop)
 have hb := hb hop
 have hg : ∀ (a b : Value) (u : Unsupported), (∀ g, u ≠ .initOrder g) → Tm { P with funcs := F } P S (do if ← Op.eqGuardIn Op.maxDepth t a b then unsupported u) := fun a b u hu => by
  refine tmb (tm_eqGuardIn (n := 9999) hst' hb) fun z => ?_
  split
  ·exact tm_unsupported hu
  ·exact trivial
 have main : Tm { P with funcs := F } P S (match a, b with
   | .nilIface, .nilIface => do
    if (x matches .const _) || (y matches .const _) then return
    if ← Op.eqGuardIn Op.maxDepth t a b then unsupported (.noEntry "binop/eql: two nil values of an interface type with methods, neither of them the literal nil")
   | .agg _, .agg _ => do
    if !(← program).eqGuardType (← program).depth t then return
    if ← Op.eqGuardIn Op.maxDepth t a b then unsupported (.noEntry "binop/eql: two nil values of an interface type with methods, in a part of a struct or an array")
   | _, _ => pure ()) := by
  split
  ·have hi : ∀ b : Bool, Tm { P with funcs := F } P S (if b = true then pure () else do if ← Op.eqGuardIn Op.maxDepth t .nilIface .nilIface then unsupported (.noEntry "binop/eql: two nil values of an interface type with methods, neither of them the literal nil")) := fun b => by
    cases b
    ·exact hg _ _ (.noEntry _) (by intro _ h; cases h)
    ·exact trivial
   exact hi _
  ·refine t_prog ?_ (t_prog ?_ ?_)
   ·simp only [eqGuardType_same]
   ·simp only [depth_same]
    rfl
   ·split
    ·exact trivial
    ·exact hg _ _ (.noEntry _) (by intro _ h; cases h)
  ·exact trivial
 rcases hop with rfl | rfl <;> exact main
theorem tm_binOp (hst : Stubbed Q P) {op : BinOp} {t : TypeId} {x y : Value} (hb : op = .eql ∨ op = .neq → basic P t = true) : Tm Q P S (binOp op t x y) := by
 unfold binOp
 split
 ·exact tm_shift hst
 ·exact tm_shift hst
 ·split
  ·exact tm_stuck
  ·split <;> first | exact tm_intArith | exact tm_intDiv hst | exact tm_intBits | exact tm_intCmp
 ·split
  ·exact tm_stuck
  ·split <;> first | exact tm_floatArith | exact tm_floatCmp
 ·split
  ·exact tm_stuck
  ·exact tm_complexOp
 ·exact tm_stringOp
 ·exact tmb (tm_equal hst (hb (.inl rfl))) fun _ => tm_pure
 ·exact tmb (tm_equal hst (hb (.inr rfl))) fun _ => tm_pure
 ·refine tmb (tm_underlying hst) fun d => ?_
  cases d <;> first | exact tm_movedPointer hst | exact tm_movedNumber hst
 all_goals first
  | exact tm_movedNumber hst
  | exact tmb tm_behindNumber fun _ => tmb tm_behindNumber fun _ => tm_addrSub hst
  | exact tmb tm_behindNumber fun _ => tmb tm_behindNumber fun _ => tm_addrCmp hst
  | exact tmb tm_behindNumber fun _ => tm_addrMod hst
  | exact trivial
  | exact tm_stuck
def okConv (p : Program) (s d : TypeId) : Bool := match p.underlying s, p.underlying d with
 | some (.int _), some (.int _) | some .string, some .string => true
 | some (.slice e), some .string => (match p.underlying e with | some (.int .u8) => true | _ => false)
 | _, _ => false
theorem tm_forIn {α β : Type} {f : α → β → Sem (ForInStep β)} (h : ∀ a b, Tm Q P S (f a b)) (xs : Array α) (b : β) : Tm Q P S (forIn xs b f) := by
 have key : ∀ (l : List α) (b : β), Tm Q P S (forIn l b f) := fun l => by
  induction l with
  | nil => exact fun b => by rw [List.forIn_nil]; exact tm_pure
  | cons a l ih =>
   intro b
   rw [List.forIn_cons]
   refine tmb (h a b) fun r => ?_
   cases r with
   | done b => exact tm_pure
   | yield b => exact ih b
 rw [← Array.forIn_toList]
 exact key _ b
theorem tm_bytesToString {x : Value} : Tm Q P S (Conv.bytesToString x) := by
 unfold Conv.bytesToString
 split
 ·exact tm_pure
 ·refine tmb (t_loadCells fun _ => trivial) fun cs => tmb (tm_forIn (fun c b => ?_) cs _) fun _ => tm_pure
  split
  ·exact tm_pure
  ·exact tm_stuck
 ·exact tm_stuck
theorem tm_convert (hst : Stubbed Q P) {s d : TypeId} {x : Value} (h : okConv P s d = true) : Tm Q P S (convert s d x) := by
 unfold convert
 refine tb (t_underlying hst fun d1 h1 => tb (t_underlying hst fun d2 h2 => ?_))
 unfold okConv at h
 rw [h1, h2] at h
 cases d1 <;> cases d2 <;> simp at h
 ·cases x with
  | pointer a => cases a <;> exact trivial
  | float s b => exact tm_floatToInt
  | _ => exact trivial
 ·cases x <;> exact trivial
 ·rename_i e
  have key : ∀ y, Tm Q P S (do
    match ← underlying e with
    | .int .u8 => Conv.bytesToString y
    | .int .i32 => Conv.runesToString y
    | _ => stuck "Convert: a slice of what to string?") := fun y => by
   refine tb (t_underlying hst fun d3 h3 => ?_)
   rw [h3] at h
   split at h
   ·rename_i h4
    obtain rfl := Option.some.inj h4
    exact tm_bytesToString
   ·cases h
  cases x <;> first | exact key _ | exact trivial
theorem tm_sureAddr {x : Value} : Tm Q P S (Instr.sureAddr x) := t_sureAddr fun _ => trivial
theorem tm_asIntOf {x : Value} : Tm Q P S (asIntOf x) := t_asIntOf fun _ => trivial
theorem tm_zeroValue (hst : Stubbed Q P) {t : TypeId} : Tm Q P S (zeroValue t) := t_zeroValue hst fun _ => trivial
theorem tm_sizeOf (hst : Stubbed Q P) {t : TypeId} : Tm Q P S (sizeOf t) := t_sizeOf hst fun _ _ => trivial
theorem tm_loadVar (hst : Stubbed Q P) {t : TypeId} {a : Addr} : Tm Q P S (loadVar t a) := t_loadVar hst fun _ => trivial
theorem tm_storeVar (hst : Stubbed Q P) {t : TypeId} {a : Addr} {x : Value} : Tm Q P S (storeVar t a x) := t_storeVar hst trivial
theorem tm_newRow {t : TypeId} {c : Array Value} : Tm Q P S (newRow t c) := t_newRow fun _ => trivial
theorem tm_newVar {t : TypeId} {x : Value} : Tm Q P S (newVar t x) := t_newVar fun _ => trivial
theorem tm_part (hst : Stubbed Q P) {t : TypeId} {cs : Array Value} {o : Nat} : Tm Q P S (part t cs o) := t_part hst fun _ => trivial
theorem tm_bounds {α : Type} (hst : Stubbed Q P) {k : IntKind} {x y : Int} {c : BoundsCode} : Tm Q P S (boundsPanic k x y c : Sem α) := t_boundsPanic hst
theorem tm_askRoom {n : Nat} : Tm Q P S (askRoom n) := t_askRoom trivial
theorem tm_loadCells {a : Addr} {n : Nat} : Tm Q P S (loadCells a n) := t_loadCells fun _ => trivial
theorem tm_storeCells {a : Addr} {vs : List Value} {i : Nat} : Tm Q P S (storeCells a vs i) := t_storeCells trivial _ _
theorem tm_alloc (hst : Stubbed Q P) {t : TypeId} : Tm Q P S (Instr.alloc t true (.tuple #[])) := tmb (tm_zeroValue hst) fun _ => tmb tm_newVar fun _ => tm_pure
theorem tm_box {t : TypeId} {x : Value} : Tm Q P S (Instr.box t x) := tmb tm_newVar fun _ => tm_pure
theorem tm_mapM {α β : Type} {f : α → Sem β} (h : ∀ a, Tm Q P S (f a)) (xs : Array α) : Tm Q P S (xs.mapM f) := by
 have key : ∀ l : List α, Tm Q P S (l.mapM f) := fun l => by
  induction l with
  | nil => rw [List.mapM_nil]; exact tm_pure
  | cons a l ih => rw [List.mapM_cons]; exact tmb (h a) fun _ => tmb ih fun _ => tm_pure
 rw [Array.mapM_eq_mapM_toList]
 exact tmb (key _) fun _ => tm_pure
theorem tm_build (hst : Stubbed Q P) {t : TypeId} {parts : Array (Nat × Value)} : Tm Q P S (Instr.build t parts) := by
 unfold Instr.build
 refine tmb (tm_zeroValue hst) fun z => tmb (tm_underlying hst) fun d => ?_
 cases d
 case struct fs =>
  refine tmb (tm_mapM (fun f => tmb (tm_sizeOf hst) fun _ => tm_pure) _) fun ps => ?_
  split
  ·exact tm_pure
  ·exact tm_stuck
 case array len e =>
  refine tmb (tm_sizeOf hst) fun n => ?_
  split
  ·exact tm_pure
  ·exact tm_stuck
 all_goals exact tm_stuck
theorem tm_buildSlice (hst : Stubbed Q P) {t : TypeId} {n : Nat} {parts : Array (Nat × Value)} : Tm Q P S (Instr.buildSlice t n parts) := by
 unfold Instr.buildSlice
 refine tmb (tm_underlying hst) fun d => ?_
 cases d
 case slice e =>
  refine tmb (tm_sizeOf hst) fun m => ?_
  dsimp only
  split
  ·exact trivial
  repeat' (first | with_reducible exact tm_pure | with_reducible exact tm_stuck | with_reducible refine tmb (tm_zeroValue hst) fun _ => ?_ | with_reducible refine tmb tm_pure fun _ => ?_ | with_reducible refine tmb tm_newRow fun _ => ?_ | dsimp only | split)
 all_goals exact tm_stuck
theorem tm_loadAt (hst : Stubbed Q P) {t : TypeId} {x : Value} : Tm Q P S (Instr.loadAt t x) := tmb tm_sureAddr fun _ => tm_loadVar hst
theorem tm_storeAt (hst : Stubbed Q P) {t : TypeId} {x y : Value} : Tm Q P S (Instr.storeAt t x y) := tmb tm_sureAddr fun _ => tm_storeVar hst
theorem tm_makeInterface (hst : Stubbed Q P) {t : TypeId} {x : Value} : Tm Q P S (Instr.makeInterface t x) := by
 refine tmb (tm_underlying hst) fun d => ?_
 cases d <;> first | exact tm_pure | exact tm_stuck
theorem tm_makeMap (hst : Stubbed Q P) {t : TypeId} {r : Option Value} : Tm Q P S (Instr.makeMap t r) := by
 unfold Instr.makeMap
 cases r with
 | none => exact tmb (t_new rfl fun _ => trivial) fun _ => tm_pure
 | some h =>
  refine tmb (tm_underlying hst) fun d => ?_
  cases d
  case map k e => exact tmb tm_asInt fun _ => tmb (t_new rfl fun _ => trivial) fun _ => tm_pure
  all_goals exact trivial
theorem tm_makeSlice (hst : Stubbed Q P) {t : TypeId} {l c : Value} : Tm Q P S (Instr.makeSlice t l c) := by
 unfold Instr.makeSlice
 refine tmb (tm_underlying hst) fun d => ?_
 cases d
 case slice e =>
  refine tmb tm_asInt fun l => tmb tm_asInt fun c => tmb (tm_typeInfo hst) fun i => ?_
  have rest : ∀ (u : Unit), Tm Q P S (do
    askRoom ((IntKind.i64.wrap c).toNat * i.bytes)
    let n := (IntKind.i64.wrap c).toNat * (← sizeOf e)
    let zero ← if n = 0 then pure #[] else do pure (← zeroValue e).cells
    let a ← newRow e ((Array.range n).map (zero[· % zero.size]!))
    pure (Value.slice (some a) (IntKind.i64.wrap l).toNat (IntKind.i64.wrap c).toNat)) := fun _ => by
   refine tmb tm_askRoom fun _ => tmb (tm_sizeOf hst) fun n => ?_
   dsimp only
   repeat' (first | with_reducible exact tm_pure | with_reducible exact tm_stuck | with_reducible refine tmb (tm_zeroValue hst) fun _ => ?_ | with_reducible refine tmb tm_pure fun _ => ?_ | with_reducible refine tmb tm_newRow fun _ => ?_ | dsimp only | split)
  dsimp only at rest ⊢
  split
  ·split
   ·exact tmb (tm_panic hst) rest
   ·split
    ·exact tmb (tm_panic hst) rest
    ·exact tmb tm_choose fun _ => tmb (tm_panic hst) rest
  ·exact rest ()
 all_goals exact tm_stuck
end
end
section
open Go
section
variable {Q P : Program} {S : Sh}
theorem tm_partAt (hst : Stubbed Q P) {a : Addr} {c b : Nat} : Tm Q P S (partAt a c b) := tmb (tm_byteOf hst) fun _ => tmb (tm_byteOf hst) fun _ => tm_pure
theorem tm_fieldPlace (hst : Stubbed Q P) {a : Addr} {f : Field} : Tm Q P S (fieldPlace a f) := by
 refine tmb (tm_sizeOf hst) fun n => ?_
 split
 ·exact tm_partAt hst
 ·exact tm_pure
theorem tm_fieldAt (hst : Stubbed Q P) {s : TypeId} {x : Value} {f : Nat} : Tm Q P S (Instr.fieldAt s x f) := by
 refine tmb (tm_underlying hst) fun d => ?_
 cases d
 case struct fs =>
  dsimp only
  split
  ·exact tmb tm_sureAddr fun _ => tmb (tm_fieldPlace hst) fun _ => tm_pure
  ·exact tm_stuck
 all_goals exact tm_stuck
theorem tm_indexAt (hst : Stubbed Q P) {t : TypeId} {x i : Value} : Tm Q P S (Instr.indexAt t x i) := by
 have rest : ∀ (k : IntKind) (i : Int) (z : Option Addr × Nat × TypeId) (b : Bool), Tm Q P S (match z.1 with
   | some a => if 0 ≤ i ∧ i < z.2.1 then do pure (.pointer (some (a.add (i.toNat * (← sizeOf z.2.2))))) else if b = true then unsupported (.noEntry "op/indexAddr.an index out of range at an array of length 0 or 1 (ledger 616)") else boundsPanic k i z.2.1 .index
   | none => boundsPanic k i 0 .index : Sem Value) := fun k i z b => by
  split
  ·split
   ·exact tmb (tm_sizeOf hst) fun _ => tm_pure
   ·split
    ·exact trivial
    ·exact tm_bounds hst
  ·exact tm_bounds hst
 unfold Instr.indexAt
 refine tmb tm_asIntOf fun ki => tmb (tm_underlying hst) fun d => ?_
 have two : ∀ z : Option Addr × Nat × TypeId, Tm Q P S (do
   let d ← underlying t
   match z.1 with
   | some a => if 0 ≤ ki.2 ∧ ki.2 < z.2.1 then do pure (.pointer (some (a.add (ki.2.toNat * (← sizeOf z.2.2))))) else if (decide (z.2.1 ≤ 1) && (match d with | .array .. => true | _ => false)) = true then unsupported (.noEntry "op/indexAddr.an index out of range at an array of length 0 or 1 (ledger 616)") else boundsPanic ki.1 ki.2 z.2.1 .index
   | none => boundsPanic ki.1 ki.2 0 .index : Sem Value) := fun z => tmb (tm_underlying hst) fun d => rest _ _ _ _
 cases d
 case array len e => exact tmb tm_sureAddr fun a => two (some a, len, e)
 case slice e =>
  cases x
  case slice b len c => exact two (b, len, e)
  all_goals exact tm_stuck
 all_goals exact tm_stuck
theorem tm_index (hst : Stubbed Q P) {t : TypeId} {x i : Value} : Tm Q P S (Instr.index t x i) := by
 unfold Instr.index
 refine tmb tm_asIntOf fun ki => tmb (tm_underlying hst) fun d => ?_
 cases d
 case array len e =>
  cases x
  case agg cs =>
   dsimp only
   split
   ·exact tmb (tm_sizeOf hst) fun _ => tm_part hst
   ·exact tm_bounds hst
  all_goals exact tm_stuck
 case string =>
  cases x
  case string s =>
   dsimp only
   split <;> first | exact tm_pure | exact tm_bounds hst
  all_goals exact tm_stuck
 all_goals (cases x <;> exact tm_stuck)
theorem tm_extract {x : Value} {i : Nat} : Tm Q P S (Instr.extract x i) := by
 unfold Instr.extract
 split
 ·split
  ·exact tm_pure
  ·exact tm_stuck
 ·exact tm_stuck
def okMap (p : Program) (t : TypeId) : Bool := match p.underlying t with
 | some (.map k _) => basic p k
 | _ => false
theorem tm_checkKey (hst : Stubbed Q P) {b : Bool} {n : Nat} {t : TypeId} {x : Value} (hb : basic P t = true) : Tm Q P S (Instr.checkKey b (n + 1) t x) := by
 unfold Instr.checkKey
 refine tb (t_underlying hst fun d hd => ?_)
 rcases basic_cases hb with h | ⟨k, h⟩ | h
 all_goals
  rw [h] at hd
  obtain rfl := Option.some.inj hd
  exact tm_pure
theorem tm_findAsking (hst : Stubbed Q P) {t : TypeId} {x : Value} (hb : basic P t = true) : ∀ (es : List MapEntry) (i : Nat), Tm Q P S (Instr.findAsking t x es i)
 | [], _ => tm_pure
 | e :: es, i => by
  refine tmb (tm_equal hst hb) fun b => ?_
  cases b
  ·exact tm_findAsking hst hb es (i + 1)
  ·exact tm_pure
theorem tm_findKey (hst : Stubbed Q P) {t : TypeId} {x : Value} {es : List MapEntry} (hb : basic P t = true) : Tm Q P S (Instr.findKey t x es) := by
 refine tmb (tm_underlying hst) fun d => ?_
 split
 ·exact tm_pure
 ·exact tm_findAsking hst hb _ _
theorem okMap_cases {t : TypeId} (h : okMap P t = true) : ∃ k e, P.underlying t = some (.map k e) ∧ basic P k = true := by
 unfold okMap at h
 split at h
 ·exact ⟨_, _, ‹_›, h⟩
 ·cases h
theorem tm_lookup (hst : Stubbed Q P) {t : TypeId} {x i : Value} {ok : Bool} (hm : okMap P t = true) : Tm Q P S (Instr.lookup t x i ok) := by
 obtain ⟨k, e, hu, hb⟩ := okMap_cases hm
 unfold Instr.lookup
 refine tb (t_underlying hst fun d hd => ?_)
 obtain rfl : d = .map k e := by rw [hu] at hd; exact (Option.some.inj hd).symm
 have rest : ∀ es : Array MapEntry, Tm Q P S (do
   Instr.checkKey es.isEmpty 10000 k i
   let (v, o) ← match ← Instr.findKey k i es.toList with
    | some (_, v) => pure (v, true)
    | none => do pure (← zeroValue e, false)
   pure (if ok then .tuple #[v, .bool o] else v)) := fun es => by
  refine tmb (tm_checkKey (n := 9999) hst hb) fun _ => tmb (tm_findKey hst hb) fun r => ?_
  cases r with
  | none => exact tmb (tm_zeroValue hst) fun _ => tm_pure
  | some r => exact tm_pure
 cases x
 case map r =>
  cases r with
  | none => exact rest _
  | some r =>
   dsimp only
   refine t_getObj (fun o => ?_) (fun o => ?_)
   ·cases o <;> first | exact rest _ | exact tm_stuck
   ·rcases veil_cases o with ⟨h1, _⟩ | ⟨h1, h2⟩ <;> rw [h1] <;> cases o <;> first | rfl | cases h2
 all_goals exact tm_stuck
theorem tm_keyThatStays {x y : Value} : Tm Q P S (Instr.keyThatStays x y) := by
 unfold Instr.keyThatStays
 split
 ·exact tm_pure
 ·exact tmb tm_choose fun _ => tm_pure
theorem tm_mapUpdate (hst : Stubbed Q P) {t : TypeId} {m k x : Value} (hm : okMap P t = true) : Tm Q P S (Instr.mapUpdate t m k x) := by
 obtain ⟨kt, e, hu, hb⟩ := okMap_cases hm
 unfold Instr.mapUpdate
 refine tb (t_underlying hst fun d hd => ?_)
 obtain rfl : d = .map kt e := by rw [hu] at hd; exact (Option.some.inj hd).symm
 cases m
 case map r =>
  cases r with
  | none => exact tm_panic hst
  | some r =>
   dsimp only
   refine t_getObj (fun o => ?_) (fun o => ?_)
   ·cases o <;> first | exact tm_stuck | skip
    refine tmb (tm_checkKey (n := 9999) hst hb) fun _ => tmb (tm_findKey hst hb) fun z => ?_
    cases z with
    | none => exact t_setObj rfl rfl trivial
    | some z => exact tmb tm_keyThatStays fun _ => t_setObj rfl rfl trivial
   ·rcases veil_cases o with ⟨h1, _⟩ | ⟨h1, h2⟩ <;> rw [h1] <;> cases o <;> first | rfl | cases h2
 all_goals exact tm_stuck
theorem tm_range (hst : Stubbed Q P) {t : TypeId} {x : Value} : Tm Q P S (Instr.range t x) := by
 unfold Instr.range
 refine tmb (tm_underlying hst) fun d => ?_
 have rest : ∀ o : Obj, odd o = false → Tm Q P S (do pure (Value.pointer (some ⟨← newObj o, 0, none⟩)) : Sem Value) := fun o ho => tmb (t_new ho fun _ => trivial) fun _ => tm_pure
 cases d
 case string =>
  cases x <;> first | exact rest _ rfl | exact tm_stuck
 case map k e =>
  cases x
  case map r =>
   cases r with
   | none => exact rest _ rfl
   | some r =>
    dsimp only
    refine t_getObj (fun o => ?_) (fun o => ?_)
    ·cases o <;> first | exact rest _ rfl | exact tm_stuck
    ·rcases veil_cases o with ⟨h1, _⟩ | ⟨h1, h2⟩ <;> rw [h1] <;> cases o <;> first | rfl | cases h2
  all_goals exact tm_stuck
 all_goals (cases x <;> exact tm_stuck)
theorem tm_next {it : Value} {b : Bool} {t : TypeId} : Tm Q P S (Instr.next it b t) := by
 unfold Instr.next
 split
 ·refine t_getObj (fun o => ?_) (fun o => ?_)
  ·cases o
   case stringIter s pos =>
    cases b
    ·exact tm_stuck
    ·dsimp only
     split
     ·exact tmb (t_setObj rfl rfl trivial) fun _ => tm_pure
     ·exact tm_pure
   case mapIter m since sn last =>
    cases b
    ·cases m with
     | none => exact tm_pure
     | some m =>
      dsimp only
      refine t_getObj (fun o => ?_) (fun o => ?_)
      ·cases o <;> first | exact tm_stuck | skip
       dsimp only
       split
       ·exact trivial
       ·refine tmb tm_choose fun n => ?_
        split
        ·exact tmb (t_setObj rfl rfl trivial) fun _ => tm_pure
        ·exact tm_pure
        ·exact tm_stuck
      ·rcases veil_cases o with ⟨h1, _⟩ | ⟨h1, h2⟩ <;> rw [h1] <;> cases o <;> first | rfl | cases h2
    ·cases m <;> exact tm_stuck
   all_goals (cases b <;> exact tm_stuck)
  ·rcases veil_cases o with ⟨h1, _⟩ | ⟨h1, h2⟩ <;> rw [h1] <;> cases o <;> first | rfl | cases h2
 ·exact tm_stuck
end
end
section
open Go
section
variable {Q P : Program} {S : Sh}
theorem tm_len (hst : Stubbed Q P) {ts : Array TypeId} {t : TypeId} {xs : Array Value} : Tm Q P S (Builtin.len_ ts t xs) := by
 unfold Builtin.len_
 split
 ·rename_i u x h
  clear h
  refine tmb (tm_underlying hst) fun d => ?_
  cases d
  case string => cases x <;> exact trivial
  case array n e => exact tm_pure
  case pointer e =>
   refine tmb (tm_underlying hst) fun d => ?_
   cases d <;> exact trivial
  case slice e => cases x <;> exact trivial
  case map k e =>
   cases x
   case map r =>
    cases r with
    | none => exact tm_pure
    | some r =>
     dsimp only
     refine t_getObj (fun o => ?_) (fun o => ?_)
     ·cases o <;> exact trivial
     ·rcases veil_cases o with ⟨h1, _⟩ | ⟨h1, h2⟩ <;> rw [h1] <;> cases o <;> first | rfl | cases h2
   all_goals exact tm_stuck
  case chan k e =>
   cases x
   case chan r =>
    cases r with
    | none => exact tm_pure
    | some r =>
     dsimp only
     refine t_getObj (fun o => ?_) (fun o => ?_)
     ·cases o <;> exact trivial
     ·rcases veil_cases o with ⟨h1, _⟩ | ⟨h1, h2⟩ <;> rw [h1] <;> cases o <;> first | rfl | cases h2
   all_goals exact tm_stuck
  all_goals (cases x <;> exact tm_stuck)
 ·exact tm_stuck
theorem tm_lenOf {x : Value} : Tm Q P S (Builtin.lenOf x) := by cases x <;> exact trivial
theorem tm_firstCells {s n : Nat} {x : Value} : Tm Q P S (Builtin.firstCells s n x) := by
 cases x
 case slice a l c => cases a with
  | none => exact tm_pure
  | some a => exact tm_loadCells
 all_goals exact trivial
def SD {α : Type} : Sem α → Prop
 | .shape _ k => ∀ x, SD (k x)
 | .frozen _ k => ∀ b, SD (k b)
 | .mark m k => m = .noRoom ∧ SD k
 | .halt h => Ends h
 | _ => False
theorem SD.doomed {α : Type} (s : Sem α) (h : SD s) : Doomed Q s := by
 induction s with
 | shape _ _ ih => exact fun x => ih x (h x)
 | frozen _ _ ih => exact fun x => ih x (h x)
 | mark _ _ ih => exact ih h.2
 | halt _ => exact h
 | _ => exact h.elim
theorem SD.tame {α : Type} {Z A : α → Prop} (s : Sem α) (h : SD s) : Tame Q P S Z A s := by
 induction s with
 | shape _ _ ih => exact ⟨fun x => ih x (h x), .inr (.inl fun t => SD.doomed _ (h _))⟩
 | frozen _ _ ih => exact fun x _ => ih x (h x)
 | mark _ _ ih => exact ⟨.inl h.1, ih h.2⟩
 | halt x =>
  cases x with
  | stuck _ => exact trivial
  | unsupported u => cases u <;> first | exact trivial | exact h.elim
  | _ => exact h.elim
 | _ => exact h.elim
theorem sd_holds {β : Type} {a : Addr} {c : Nat} {f : Bool → Sem β} (h : ∀ b, SD (f b)) : SD (Builtin.holdsCells a c >>= f) := by
 unfold Builtin.holdsCells
 intro x
 cases x with
 | none => exact h _
 | some x => exact h _
theorem sd_noRoom {size l n : Nat} {base : Option Addr} {x : Value} {m : String} {α : Type} : SD (Builtin.mayShare size l n base x >>= fun b => if (!b) = true then mark .noRoom >>= fun _ => unsupported (.resourceLimit m) else unsupported (.resourceLimit m) : Sem α) := by
 have fin : ∀ b : Bool, SD (do
   if !b then mark .noRoom
   unsupported (.resourceLimit m) : Sem α) := fun b => by
  cases b
  ·exact ⟨rfl, trivial⟩
  ·exact trivial
 have two : ∀ there : Bool, SD ((if (!there) = true then pure true else match x with
   | .slice (some b) _ _ => do pure (!(← Builtin.holdsCells b (n * size)) || base.any (·.block == b.block))
   | _ => pure false) >>= fun b => (do
   if !b then mark .noRoom
   unsupported (.resourceLimit m) : Sem α)) := fun there => by
  cases there
  ·exact fin true
  ·simp only [Bool.not_true, Bool.false_eq_true, if_false]
   cases x
   case slice a k c =>
    cases a with
    | none => exact fin false
    | some b =>
     simp only [bind_assoc]
     exact sd_holds fun _ => fin _
   all_goals exact fin false
 unfold Builtin.mayShare
 cases base with
 | none => exact two true
 | some a =>
  simp only [bind_assoc]
  refine sd_holds fun b => ?_
  exact fun b' => two _
theorem tm_noRoom {size l n : Nat} {base : Option Addr} {x : Value} {m : String} {α : Type} : Tm Q P S (Builtin.mayShare size l n base x >>= fun b => if (!b) = true then mark .noRoom >>= fun _ => unsupported (.resourceLimit m) else unsupported (.resourceLimit m) : Sem α) := SD.tame _ sd_noRoom
set_option maxHeartbeats 8000000 in
theorem tm_append (hst : Stubbed Q P) {ts : Array TypeId} {t : TypeId} {xs : Array Value} : Tm Q P S (Builtin.append_ ts t xs) := by
 unfold Builtin.append_
 split
 case h_2 => exact tm_stuck
 rename_i st s x h
 clear h
 refine tmb (tm_underlying hst) fun d => ?_
 cases d
 case slice elem =>
  cases s
  case slice base sl sc =>
   refine tmb (tm_sizeOf hst) fun size => ?_
   generalize ts[1]? = ot
   have hz : ∀ (f : Bool → Sem Value), (∀ b, Tm Q P S (f b)) → Tm Q P S (match ot with
     | some xType => do
      let d ← underlying xType
      let z ← pure (d matches .int _)
      f z
     | none => do
      let z ← pure false
      f z) := fun f h => by
    cases ot with
    | none => exact h _
    | some t => exact tmb (tm_underlying hst) fun _ => h _
   refine hz _ fun zeros => ?_
   clear hz
   cases zeros <;> simp only [Bool.not_true, Bool.not_false, Bool.false_eq_true, if_true, if_false]
   all_goals repeat' (first
    | with_reducible exact tm_pure
    | with_reducible exact tm_stuck
    | with_reducible refine tmb (tm_typeInfo hst) fun _ => ?_
    | with_reducible refine tmb (tm_sizeOf hst) fun _ => ?_
    | with_reducible refine tmb (tm_underlying hst) fun _ => ?_
    | with_reducible refine tmb (tm_zeroValue hst) fun _ => ?_
    | with_reducible refine tmb (tm_panic hst) fun _ => ?_
    | with_reducible refine tmb tm_asInt fun _ => ?_
    | with_reducible refine tmb tm_lenOf fun _ => ?_
    | with_reducible refine tmb tm_choose fun _ => ?_
    | with_reducible refine tmb tm_askRoom fun _ => ?_
    | with_reducible refine tmb tm_firstCells fun _ => ?_
    | with_reducible refine tmb tm_storeCells fun _ => ?_
    | with_reducible refine tmb tm_newRow fun _ => ?_
    | with_reducible refine tmb tm_pure fun _ => ?_
    | with_reducible exact tm_firstCells
    | with_reducible exact tm_panic hst
    | with_reducible exact tm_noRoom
    | with_reducible refine tmb ?_ fun _ => ?_
    | dsimp only
    | split)
  all_goals exact tm_stuck
 all_goals exact tm_stuck
end
end
end Go.Proofs.YtdafpnpfcmgfcaaGreatDoor
