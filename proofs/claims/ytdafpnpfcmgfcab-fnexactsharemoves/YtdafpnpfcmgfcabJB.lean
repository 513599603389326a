/- The operations in use are tame. The operations in use are tame. The operations in use are tame: places, maps, texts, lists. The operations in use are tame: lists that grow, calls; what is asked of an operation. What is asked of an operation, as a reckoning; an operation of which it holds is tame. Programs whose functions in use are tame: what is kept on the way. From the lone machine's steps to the way in company. The way in company, carried out by the machine beside those that are only leaving. -/
import Derived.Test.YtdafpnpfcmgfcabJA
import Derived.Conc.LoneCalls
import Derived.Conc.CrowdTrace
namespace Go.Proofs.Ytdafpnpfcmgfcab
open Go
section
variable {Q P : Program} {S : Nat → Prop}

theorem tm_movedNumber (hst : Stubbed Q P) {t : TypeId} {x y : Value} : Tm Q P S (movedNumber t x y) := by
  unfold movedNumber
  refine tmb (tm_underlying hst) fun d => ?_
  dsimp only
  split
  · exact trivial
  simp only [Bool.false_eq_true, if_false]
  cases x
  case pointer a =>
    cases a with
    | none => exact tm_unsafeAdd hst
    | some n =>
      refine tmb tm_behindNumber fun z => ?_
      refine tmb (tm_unsafeAdd hst) fun v => ?_
      split
      · exact tm_asNumber
      · exact tm_pure
  all_goals exact tm_unsafeAdd hst
theorem tm_movedPointer (hst : Stubbed Q P) {t : TypeId} {x y : Value} : Tm Q P S (movedPointer t x y) := by
  unfold movedPointer
  split
  · refine tmb tm_numberAt fun d => ?_
    dsimp only
    split
    · exact trivial
    · exact tm_unsafeAdd hst
  · exact tm_unsafeAdd hst
theorem tm_twoPlaces (hst : Stubbed Q P) {a b : Addr} : Tm Q P S (Op.twoPlaces a b) := by
  have hst' := hst
  obtain ⟨F, rfl⟩ := hst.ex
  unfold Op.twoPlaces
  refine t_prog rfl ?_
  split
  · exact trivial
  · exact tmb (tm_byteOf hst') fun _ => tmb (tm_byteOf hst') fun _ => tm_pure
theorem tm_addrSub (hst : Stubbed Q P) {k : IntKind} {a b : Addr} : Tm Q P S (Op.addrSub k a b) := tmb (tm_twoPlaces hst) fun _ => tm_pure
theorem tm_addrCmp (hst : Stubbed Q P) {op : BinOp} {a b : Addr} : Tm Q P S (Op.addrCmp op a b) := by
  refine tmb (tm_twoPlaces hst) fun _ => ?_
  cases op <;> first | exact tm_pure | exact trivial
theorem tm_addrMod (hst : Stubbed Q P) {k : IntKind} {a : Addr} {n : Int} : Tm Q P S (Op.addrMod k a n) := by
  unfold Op.addrMod
  refine t_shape (fun x => ?_) (.inr fun _ _ => rfl)
  cases x with
  | none => exact trivial
  | some x =>
    refine tmb (tm_typeInfo hst) fun i => ?_
    dsimp only
    split
    · exact trivial
    · exact tmb (tm_byteOf hst) fun _ => tm_pure

/-- Types at which operations compare. -/
def basic (p : Program) (t : TypeId) : Bool := match p.underlying t with
  | some .bool | some (.int _) | some .string => true
  | _ => false
theorem basic_cases {t : TypeId} (h : basic P t = true) : P.underlying t = some .bool ∨ (∃ k, P.underlying t = some (.int k)) ∨ P.underlying t = some .string := by
  unfold basic at h
  split at h
  · exact .inl ‹_›
  · exact .inr (.inl ⟨_, ‹_›⟩)
  · exact .inr (.inr ‹_›)
  · cases h

theorem tm_equalIn (hst : Stubbed Q P) {n : Nat} {t : TypeId} {x y : Value} (hb : basic P t = true) : Tm Q P S (Op.equalIn (n + 1) t x y) := by
  have hst' := hst
  obtain ⟨F, rfl⟩ := hst.ex
  unfold Op.equalIn
  refine tb (t_underlying hst' fun d hd => ?_)
  rcases basic_cases hb with h | ⟨k, h⟩ | h
  · obtain rfl : d = .bool := by rw [h] at hd; exact (Option.some.inj hd).symm
    cases x <;> first | exact tm_stuck | (cases y <;> first | exact tm_stuck | exact tm_pure)
  · obtain rfl : d = .int k := by rw [h] at hd; exact (Option.some.inj hd).symm
    have two : ∀ a b : Addr, Tm { P with funcs := F } P S (do
        let (a, b) := ((← behindNumber a).1, (← behindNumber b).1)
        if a.block == b.block && a.block < (← program).globals.size then return (← byteOf a) == (← byteOf b)
        let .named "sync.copyChecker" _ := (← typeInfo t).desc | unsupported .addressObserved
        if a == b then pure true else unsupported .addressObserved) := by
      intro a b
      refine tmb tm_behindNumber fun u => ?_
      refine tmb tm_behindNumber fun u' => ?_
      refine t_prog rfl ?_
      split
      · exact tmb (tm_byteOf hst') fun _ => tmb (tm_byteOf hst') fun _ => tm_pure
      · refine tmb (tm_typeInfo hst') fun i => ?_
        split
        · split
          · exact tm_pure
          · exact trivial
        · exact trivial
    cases x with
    | int k1 a =>
      cases y with
      | int k2 b => dsimp only; split <;> first | exact tm_pure | exact tm_stuck
      | pointer p =>
        cases p with
        | none => exact trivial
        | some _ =>
          dsimp only
          cases a with
          | ofNat m => cases m <;> exact trivial
          | negSucc m => exact trivial
      | _ => exact tm_stuck
    | pointer p =>
      cases p with
      | none => cases y <;> exact trivial
      | some a =>
        cases y with
        | int k2 b =>
          dsimp only
          cases b with
          | ofNat m => cases m <;> exact trivial
          | negSucc m => exact trivial
        | pointer p' =>
          cases p' with
          | none => exact trivial
          | some b => exact two a b
        | _ => exact trivial
    | _ => cases y <;> first | exact tm_stuck | exact trivial
  · obtain rfl : d = .string := by rw [h] at hd; exact (Option.some.inj hd).symm
    cases x <;> first | exact tm_stuck | (cases y <;> first | exact tm_stuck | exact tm_pure)
theorem tm_equal (hst : Stubbed Q P) {t : TypeId} {x y : Value} (hb : basic P t = true) : Tm Q P S (Op.equal t x y) := tm_equalIn (n := 9999) hst hb
end
end Go.Proofs.Ytdafpnpfcmgfcab
namespace Go.Proofs.Ytdafpnpfcmgfcab
open Go
section
variable {Q P : Program} {S : Nat → Prop}

theorem eqGuardType_same {F : Array Func} : ∀ (d : Nat) (t : TypeId), Program.eqGuardType { P with funcs := F } d t = P.eqGuardType d t
  | 0, _ => rfl
  | d + 1, t => by
    simp only [Program.eqGuardType, under_same, eqGuardType_same d]
theorem tm_eqGuardIn (hst : Stubbed Q P) {n : Nat} {t : TypeId} {x y : Value} (hb : basic P t = true) : Tm Q P S (Op.eqGuardIn (n + 1) t x y) := by
  unfold Op.eqGuardIn
  refine tb (t_underlying hst fun d hd => ?_)
  rcases basic_cases hb with h | ⟨k, h⟩ | h
  all_goals
    rw [h] at hd
    obtain rfl := Option.some.inj hd
    exact tm_pure
theorem tm_eqGuard (hst : Stubbed Q P) {op : BinOp} {t : TypeId} {x y : Operand} {a b : Value} (hb : op = .eql ∨ op = .neq → basic P t = true) : Tm Q P S (eqGuard op t x y a b) := by
  have hst' := hst
  obtain ⟨F, rfl⟩ := hst.ex
  unfold eqGuard
  by_cases hop : op = .eql ∨ op = .neq
  case neg =>
    cases op <;> first | exact trivial | (simp at hop)
  have hb := hb hop
  have hg : ∀ (a b : Value) (u : Unsupported), (∀ g, u ≠ .initOrder g) → Tm { P with funcs := F } P S (do if ← Op.eqGuardIn Op.maxDepth t a b then unsupported u) := fun a b u hu => by
    refine tmb (tm_eqGuardIn (n := 9999) hst' hb) fun z => ?_
    split
    · exact tm_unsupported hu
    · exact trivial
  have main : Tm { P with funcs := F } P S (match a, b with
      | .nilIface, .nilIface => do
        if (x matches .const _) || (y matches .const _) then return
        if ← Op.eqGuardIn Op.maxDepth t a b then unsupported (.noEntry "binop/eql: two nil values of an interface type with methods, neither of them the literal nil")
      | .agg _, .agg _ => do
        if !(← program).eqGuardType (← program).depth t then return
        if ← Op.eqGuardIn Op.maxDepth t a b then unsupported (.noEntry "binop/eql: two nil values of an interface type with methods, in a part of a struct or an array")
      | _, _ => pure ()) := by
    split
    · have hi : ∀ b : Bool, Tm { P with funcs := F } P S (if b = true then pure () else do if ← Op.eqGuardIn Op.maxDepth t .nilIface .nilIface then unsupported (.noEntry "binop/eql: two nil values of an interface type with methods, neither of them the literal nil")) := fun b => by
        cases b
        · exact hg _ _ (.noEntry _) (by intro _ h; cases h)
        · exact trivial
      exact hi _
    · refine t_prog ?_ (t_prog ?_ ?_)
      · simp only [eqGuardType_same]
      · simp only [depth_same]
        rfl
      · split
        · exact trivial
        · exact hg _ _ (.noEntry _) (by intro _ h; cases h)
    · exact trivial
  rcases hop with rfl | rfl <;> exact main

theorem tm_binOp (hst : Stubbed Q P) {op : BinOp} {t : TypeId} {x y : Value} (hb : op = .eql ∨ op = .neq → basic P t = true) : Tm Q P S (binOp op t x y) := by
  unfold binOp
  split
  · exact tm_shift hst
  · exact tm_shift hst
  · split
    · exact tm_stuck
    · split <;> first | exact tm_intArith | exact tm_intDiv hst | exact tm_intBits | exact tm_intCmp
  · split
    · exact tm_stuck
    · split <;> first | exact tm_floatArith | exact tm_floatCmp
  · split
    · exact tm_stuck
    · exact tm_complexOp
  · exact tm_stringOp
  · exact tmb (tm_equal hst (hb (.inl rfl))) fun _ => tm_pure
  · exact tmb (tm_equal hst (hb (.inr rfl))) fun _ => tm_pure
  · refine tmb (tm_underlying hst) fun d => ?_
    cases d <;> first | exact tm_movedPointer hst | exact tm_movedNumber hst
  all_goals first
    | exact tm_movedNumber hst
    | exact tmb tm_behindNumber fun _ => tmb tm_behindNumber fun _ => tm_addrSub hst
    | exact tmb tm_behindNumber fun _ => tmb tm_behindNumber fun _ => tm_addrCmp hst
    | exact tmb tm_behindNumber fun _ => tm_addrMod hst
    | exact trivial
    | exact tm_stuck

/-- Conversions in use: from number to number, from text to text. -/
def okConv (p : Program) (s d : TypeId) : Bool := match p.underlying s, p.underlying d with
  | some (.int _), some (.int _) | some .string, some .string => true
  | some (.slice e), some .string => (match p.underlying e with | some (.int .u8) => true | _ => false)
  | _, _ => false
theorem tm_forIn {α β : Type} {f : α → β → Sem (ForInStep β)} (h : ∀ a b, Tm Q P S (f a b)) (xs : Array α) (b : β) : Tm Q P S (forIn xs b f) := by
  have key : ∀ (l : List α) (b : β), Tm Q P S (forIn l b f) := fun l => by
    induction l with
    | nil => exact fun b => by rw [List.forIn_nil]; exact tm_pure
    | cons a l ih =>
      intro b
      rw [List.forIn_cons]
      refine tmb (h a b) fun r => ?_
      cases r with
      | done b => exact tm_pure
      | yield b => exact ih b
  rw [← Array.forIn_toList]
  exact key _ b
theorem tm_bytesToString {x : Value} : Tm Q P S (Conv.bytesToString x) := by
  unfold Conv.bytesToString
  split
  · exact tm_pure
  · refine tmb (t_loadCells fun _ => trivial) fun cs => tmb (tm_forIn (fun c b => ?_) cs _) fun _ => tm_pure
    split
    · exact tm_pure
    · exact tm_stuck
  · exact tm_stuck
theorem tm_convert (hst : Stubbed Q P) {s d : TypeId} {x : Value} (h : okConv P s d = true) : Tm Q P S (convert s d x) := by
  unfold convert
  refine tb (t_underlying hst fun d1 h1 => tb (t_underlying hst fun d2 h2 => ?_))
  unfold okConv at h
  rw [h1, h2] at h
  cases d1 <;> cases d2 <;> simp at h
  · cases x with
    | pointer a => cases a <;> exact trivial
    | float s b => exact tm_floatToInt
    | _ => exact trivial
  · cases x <;> exact trivial
  · rename_i e
    have key : ∀ y, Tm Q P S (do
        match ← underlying e with
        | .int .u8 => Conv.bytesToString y
        | .int .i32 => Conv.runesToString y
        | _ => stuck "Convert: a slice of what to string?") := fun y => by
      refine tb (t_underlying hst fun d3 h3 => ?_)
      rw [h3] at h
      split at h
      · rename_i h4
        obtain rfl := Option.some.inj h4
        exact tm_bytesToString
      · cases h
    cases x <;> first | exact key _ | exact trivial

theorem tm_sureAddr {x : Value} : Tm Q P S (Instr.sureAddr x) := t_sureAddr fun _ => trivial
theorem tm_asIntOf {x : Value} : Tm Q P S (asIntOf x) := t_asIntOf fun _ => trivial
theorem tm_zeroValue (hst : Stubbed Q P) {t : TypeId} : Tm Q P S (zeroValue t) := t_zeroValue hst fun _ => trivial
theorem tm_sizeOf (hst : Stubbed Q P) {t : TypeId} : Tm Q P S (sizeOf t) := t_sizeOf hst fun _ _ => trivial
theorem tm_loadVar (hst : Stubbed Q P) {t : TypeId} {a : Addr} : Tm Q P S (loadVar t a) := t_loadVar hst fun _ => trivial
theorem tm_storeVar (hst : Stubbed Q P) {t : TypeId} {a : Addr} {x : Value} : Tm Q P S (storeVar t a x) := t_storeVar hst trivial
theorem tm_newRow {t : TypeId} {c : Array Value} : Tm Q P S (newRow t c) := t_newRow fun _ => trivial
theorem tm_newVar {t : TypeId} {x : Value} : Tm Q P S (newVar t x) := t_newVar fun _ => trivial
theorem tm_part (hst : Stubbed Q P) {t : TypeId} {cs : Array Value} {o : Nat} : Tm Q P S (part t cs o) := t_part hst fun _ => trivial
theorem tm_bounds {α : Type} (hst : Stubbed Q P) {k : IntKind} {x y : Int} {c : BoundsCode} : Tm Q P S (boundsPanic k x y c : Sem α) := t_boundsPanic hst
theorem tm_askRoom {n : Nat} : Tm Q P S (askRoom n) := t_askRoom trivial
theorem tm_loadCells {a : Addr} {n : Nat} : Tm Q P S (loadCells a n) := t_loadCells fun _ => trivial
theorem tm_storeCells {a : Addr} {vs : List Value} {i : Nat} : Tm Q P S (storeCells a vs i) := t_storeCells trivial _ _

theorem tm_alloc (hst : Stubbed Q P) {t : TypeId} : Tm Q P S (Instr.alloc t true (.tuple #[])) := tmb (tm_zeroValue hst) fun _ => tmb tm_newVar fun _ => tm_pure
theorem tm_box {t : TypeId} {x : Value} : Tm Q P S (Instr.box t x) := tmb tm_newVar fun _ => tm_pure
theorem tm_mapM {α β : Type} {f : α → Sem β} (h : ∀ a, Tm Q P S (f a)) (xs : Array α) : Tm Q P S (xs.mapM f) := by
  have key : ∀ l : List α, Tm Q P S (l.mapM f) := fun l => by
    induction l with
    | nil => rw [List.mapM_nil]; exact tm_pure
    | cons a l ih => rw [List.mapM_cons]; exact tmb (h a) fun _ => tmb ih fun _ => tm_pure
  rw [Array.mapM_eq_mapM_toList]
  exact tmb (key _) fun _ => tm_pure
theorem tm_build (hst : Stubbed Q P) {t : TypeId} {parts : Array (Nat × Value)} : Tm Q P S (Instr.build t parts) := by
  unfold Instr.build
  refine tmb (tm_zeroValue hst) fun z => tmb (tm_underlying hst) fun d => ?_
  cases d
  case struct fs =>
    refine tmb (tm_mapM (fun f => tmb (tm_sizeOf hst) fun _ => tm_pure) _) fun ps => ?_
    split
    · exact tm_pure
    · exact tm_stuck
  case array len e =>
    refine tmb (tm_sizeOf hst) fun n => ?_
    split
    · exact tm_pure
    · exact tm_stuck
  all_goals exact tm_stuck
theorem tm_buildSlice (hst : Stubbed Q P) {t : TypeId} {n : Nat} {parts : Array (Nat × Value)} : Tm Q P S (Instr.buildSlice t n parts) := by
  unfold Instr.buildSlice
  refine tmb (tm_underlying hst) fun d => ?_
  cases d
  case slice e =>
    refine tmb (tm_sizeOf hst) fun m => ?_
    dsimp only
    split
    · exact trivial
    repeat' (first | with_reducible exact tm_pure | with_reducible exact tm_stuck | with_reducible refine tmb (tm_zeroValue hst) fun _ => ?_ | with_reducible refine tmb tm_pure fun _ => ?_ | with_reducible refine tmb tm_newRow fun _ => ?_ | dsimp only | split)
  all_goals exact tm_stuck
theorem tm_loadAt (hst : Stubbed Q P) {t : TypeId} {x : Value} : Tm Q P S (Instr.loadAt t x) := tmb tm_sureAddr fun _ => tm_loadVar hst
theorem tm_storeAt (hst : Stubbed Q P) {t : TypeId} {x y : Value} : Tm Q P S (Instr.storeAt t x y) := tmb tm_sureAddr fun _ => tm_storeVar hst
theorem tm_makeInterface (hst : Stubbed Q P) {t : TypeId} {x : Value} : Tm Q P S (Instr.makeInterface t x) := by
  refine tmb (tm_underlying hst) fun d => ?_
  cases d <;> first | exact tm_pure | exact tm_stuck
theorem tm_makeMap (hst : Stubbed Q P) {t : TypeId} {r : Option Value} : Tm Q P S (Instr.makeMap t r) := by
  unfold Instr.makeMap
  cases r with
  | none => exact tmb (t_new rfl fun _ => trivial) fun _ => tm_pure
  | some h =>
    refine tmb (tm_underlying hst) fun d => ?_
    cases d
    case map k e => exact tmb tm_asInt fun _ => tmb (t_new rfl fun _ => trivial) fun _ => tm_pure
    all_goals exact trivial
theorem tm_makeSlice (hst : Stubbed Q P) {t : TypeId} {l c : Value} : Tm Q P S (Instr.makeSlice t l c) := by
  unfold Instr.makeSlice
  refine tmb (tm_underlying hst) fun d => ?_
  cases d
  case slice e =>
    refine tmb tm_asInt fun l => tmb tm_asInt fun c => tmb (tm_typeInfo hst) fun i => ?_
    have rest : ∀ (u : Unit), Tm Q P S (do
        askRoom ((IntKind.i64.wrap c).toNat * i.bytes)
        let n := (IntKind.i64.wrap c).toNat * (← sizeOf e)
        let zero ← if n = 0 then pure #[] else do pure (← zeroValue e).cells
        let a ← newRow e ((Array.range n).map (zero[· % zero.size]!))
        pure (Value.slice (some a) (IntKind.i64.wrap l).toNat (IntKind.i64.wrap c).toNat)) := fun _ => by
      refine tmb tm_askRoom fun _ => tmb (tm_sizeOf hst) fun n => ?_
      dsimp only
      repeat' (first | with_reducible exact tm_pure | with_reducible exact tm_stuck | with_reducible refine tmb (tm_zeroValue hst) fun _ => ?_ | with_reducible refine tmb tm_pure fun _ => ?_ | with_reducible refine tmb tm_newRow fun _ => ?_ | dsimp only | split)
    dsimp only at rest ⊢
    split
    · split
      · exact tmb (tm_panic hst) rest
      · split
        · exact tmb (tm_panic hst) rest
        · exact tmb tm_choose fun _ => tmb (tm_panic hst) rest
    · exact rest ()
  all_goals exact tm_stuck
end
end Go.Proofs.Ytdafpnpfcmgfcab
namespace Go.Proofs.Ytdafpnpfcmgfcab
open Go
section
variable {Q P : Program} {S : Nat → Prop}

theorem tm_partAt (hst : Stubbed Q P) {a : Addr} {c b : Nat} : Tm Q P S (partAt a c b) := tmb (tm_byteOf hst) fun _ => tmb (tm_byteOf hst) fun _ => tm_pure
theorem tm_fieldPlace (hst : Stubbed Q P) {a : Addr} {f : Field} : Tm Q P S (fieldPlace a f) := by
  refine tmb (tm_sizeOf hst) fun n => ?_
  split
  · exact tm_partAt hst
  · exact tm_pure
theorem tm_fieldAt (hst : Stubbed Q P) {s : TypeId} {x : Value} {f : Nat} : Tm Q P S (Instr.fieldAt s x f) := by
  refine tmb (tm_underlying hst) fun d => ?_
  cases d
  case struct fs =>
    dsimp only
    split
    · exact tmb tm_sureAddr fun _ => tmb (tm_fieldPlace hst) fun _ => tm_pure
    · exact tm_stuck
  all_goals exact tm_stuck
theorem tm_indexAt (hst : Stubbed Q P) {t : TypeId} {x i : Value} : Tm Q P S (Instr.indexAt t x i) := by
  have rest : ∀ (k : IntKind) (i : Int) (z : Option Addr × Nat × TypeId) (b : Bool), Tm Q P S (match z.1 with
      | some a => if 0 ≤ i ∧ i < z.2.1 then do pure (.pointer (some (a.add (i.toNat * (← sizeOf z.2.2))))) else if b = true then unsupported (.noEntry "op/indexAddr.an index out of range at an array of length 0 or 1 (ledger 616)") else boundsPanic k i z.2.1 .index
      | none => boundsPanic k i 0 .index : Sem Value) := fun k i z b => by
    split
    · split
      · exact tmb (tm_sizeOf hst) fun _ => tm_pure
      · split
        · exact trivial
        · exact tm_bounds hst
    · exact tm_bounds hst
  unfold Instr.indexAt
  refine tmb tm_asIntOf fun ki => tmb (tm_underlying hst) fun d => ?_
  have two : ∀ z : Option Addr × Nat × TypeId, Tm Q P S (do
      let d ← underlying t
      match z.1 with
      | some a => if 0 ≤ ki.2 ∧ ki.2 < z.2.1 then do pure (.pointer (some (a.add (ki.2.toNat * (← sizeOf z.2.2))))) else if (decide (z.2.1 ≤ 1) && (match d with | .array .. => true | _ => false)) = true then unsupported (.noEntry "op/indexAddr.an index out of range at an array of length 0 or 1 (ledger 616)") else boundsPanic ki.1 ki.2 z.2.1 .index
      | none => boundsPanic ki.1 ki.2 0 .index : Sem Value) := fun z => tmb (tm_underlying hst) fun d => rest _ _ _ _
  cases d
  case array len e => exact tmb tm_sureAddr fun a => two (some a, len, e)
  case slice e =>
    cases x
    case slice b len c => exact two (b, len, e)
    all_goals exact tm_stuck
  all_goals exact tm_stuck
theorem tm_index (hst : Stubbed Q P) {t : TypeId} {x i : Value} : Tm Q P S (Instr.index t x i) := by
  unfold Instr.index
  refine tmb tm_asIntOf fun ki => tmb (tm_underlying hst) fun d => ?_
  cases d
  case array len e =>
    cases x
    case agg cs =>
      dsimp only
      split
      · exact tmb (tm_sizeOf hst) fun _ => tm_part hst
      · exact tm_bounds hst
    all_goals exact tm_stuck
  case string =>
    cases x
    case string s =>
      dsimp only
      split <;> first | exact tm_pure | exact tm_bounds hst
    all_goals exact tm_stuck
  all_goals (cases x <;> exact tm_stuck)
theorem tm_extract {x : Value} {i : Nat} : Tm Q P S (Instr.extract x i) := by
  unfold Instr.extract
  split
  · split
    · exact tm_pure
    · exact tm_stuck
  · exact tm_stuck

/-! ### maps whose keys are numbers or texts -/
def okMap (p : Program) (t : TypeId) : Bool := match p.underlying t with
  | some (.map k _) => basic p k
  | _ => false
theorem tm_checkKey (hst : Stubbed Q P) {b : Bool} {n : Nat} {t : TypeId} {x : Value} (hb : basic P t = true) : Tm Q P S (Instr.checkKey b (n + 1) t x) := by
  unfold Instr.checkKey
  refine tb (t_underlying hst fun d hd => ?_)
  rcases basic_cases hb with h | ⟨k, h⟩ | h
  all_goals
    rw [h] at hd
    obtain rfl := Option.some.inj hd
    exact tm_pure
theorem tm_findAsking (hst : Stubbed Q P) {t : TypeId} {x : Value} (hb : basic P t = true) : ∀ (es : List MapEntry) (i : Nat), Tm Q P S (Instr.findAsking t x es i)
  | [], _ => tm_pure
  | e :: es, i => by
    refine tmb (tm_equal hst hb) fun b => ?_
    cases b
    · exact tm_findAsking hst hb es (i + 1)
    · exact tm_pure
theorem tm_findKey (hst : Stubbed Q P) {t : TypeId} {x : Value} {es : List MapEntry} (hb : basic P t = true) : Tm Q P S (Instr.findKey t x es) := by
  refine tmb (tm_underlying hst) fun d => ?_
  split
  · exact tm_pure
  · exact tm_findAsking hst hb _ _
theorem tm_theMap {r : Nat} {m : String} : Tm Q P S (do
    let .map es _ ← getObj r | stuck m
    pure es : Sem (Array MapEntry)) := by
  refine t_getObj (fun o => ?_) (fun o => ?_)
  · cases o <;> exact trivial
  · cases o <;> rfl
theorem okMap_cases {t : TypeId} (h : okMap P t = true) : ∃ k e, P.underlying t = some (.map k e) ∧ basic P k = true := by
  unfold okMap at h
  split at h
  · exact ⟨_, _, ‹_›, h⟩
  · cases h
theorem tm_lookup (hst : Stubbed Q P) {t : TypeId} {x i : Value} {ok : Bool} (hm : okMap P t = true) : Tm Q P S (Instr.lookup t x i ok) := by
  obtain ⟨k, e, hu, hb⟩ := okMap_cases hm
  unfold Instr.lookup
  refine tb (t_underlying hst fun d hd => ?_)
  obtain rfl : d = .map k e := by rw [hu] at hd; exact (Option.some.inj hd).symm
  have rest : ∀ es : Array MapEntry, Tm Q P S (do
      Instr.checkKey es.isEmpty 10000 k i
      let (v, o) ← match ← Instr.findKey k i es.toList with
        | some (_, v) => pure (v, true)
        | none => do pure (← zeroValue e, false)
      pure (if ok then .tuple #[v, .bool o] else v)) := fun es => by
    refine tmb (tm_checkKey (n := 9999) hst hb) fun _ => tmb (tm_findKey hst hb) fun r => ?_
    cases r with
    | none => exact tmb (tm_zeroValue hst) fun _ => tm_pure
    | some r => exact tm_pure
  cases x
  case map r =>
    cases r with
    | none => exact rest _
    | some r =>
      dsimp only
      refine t_getObj (fun o => ?_) (fun o => ?_)
      · cases o <;> first | exact rest _ | exact tm_stuck
      · cases o <;> rfl
  all_goals exact tm_stuck
theorem tm_keyThatStays {x y : Value} : Tm Q P S (Instr.keyThatStays x y) := by
  unfold Instr.keyThatStays
  split
  · exact tm_pure
  · exact tmb tm_choose fun _ => tm_pure
theorem tm_mapUpdate (hst : Stubbed Q P) {t : TypeId} {m k x : Value} (hm : okMap P t = true) : Tm Q P S (Instr.mapUpdate t m k x) := by
  obtain ⟨kt, e, hu, hb⟩ := okMap_cases hm
  unfold Instr.mapUpdate
  refine tb (t_underlying hst fun d hd => ?_)
  obtain rfl : d = .map kt e := by rw [hu] at hd; exact (Option.some.inj hd).symm
  cases m
  case map r =>
    cases r with
    | none => exact tm_panic hst
    | some r =>
      dsimp only
      refine t_getObj (fun o => ?_) (fun o => ?_)
      · cases o <;> first | exact tm_stuck | skip
        refine tmb (tm_checkKey (n := 9999) hst hb) fun _ => tmb (tm_findKey hst hb) fun z => ?_
        cases z with
        | none => exact t_setObj rfl rfl trivial
        | some z => exact tmb tm_keyThatStays fun _ => t_setObj rfl rfl trivial
      · cases o <;> rfl
  all_goals exact tm_stuck

/-! ### ranges over texts and maps -/
theorem tm_range (hst : Stubbed Q P) {t : TypeId} {x : Value} : Tm Q P S (Instr.range t x) := by
  unfold Instr.range
  refine tmb (tm_underlying hst) fun d => ?_
  have rest : ∀ o : Obj, veil o = o → Tm Q P S (do pure (Value.pointer (some ⟨← newObj o, 0, none⟩)) : Sem Value) := fun o ho => tmb (t_new ho fun _ => trivial) fun _ => tm_pure
  cases d
  case string =>
    cases x <;> first | exact rest _ rfl | exact tm_stuck
  case map k e =>
    cases x
    case map r =>
      cases r with
      | none => exact rest _ rfl
      | some r =>
        dsimp only
        refine t_getObj (fun o => ?_) (fun o => ?_)
        · cases o <;> first | exact rest _ rfl | exact tm_stuck
        · cases o <;> rfl
    all_goals exact tm_stuck
  all_goals (cases x <;> exact tm_stuck)
theorem tm_next {it : Value} {b : Bool} {t : TypeId} : Tm Q P S (Instr.next it b t) := by
  unfold Instr.next
  split
  · refine t_getObj (fun o => ?_) (fun o => ?_)
    · cases o
      case stringIter s pos =>
        cases b
        · exact tm_stuck
        · dsimp only
          split
          · exact tmb (t_setObj rfl rfl trivial) fun _ => tm_pure
          · exact tm_pure
      case mapIter m since sn last =>
        cases b
        · cases m with
          | none => exact tm_pure
          | some m =>
            dsimp only
            refine t_getObj (fun o => ?_) (fun o => ?_)
            · cases o <;> first | exact tm_stuck | skip
              dsimp only
              split
              · exact trivial
              · refine tmb tm_choose fun n => ?_
                split
                · exact tmb (t_setObj rfl rfl trivial) fun _ => tm_pure
                · exact tm_pure
                · exact tm_stuck
            · cases o <;> rfl
        · cases m <;> exact tm_stuck
      all_goals (cases b <;> exact tm_stuck)
    · cases o <;> rfl
  · exact tm_stuck
end
end Go.Proofs.Ytdafpnpfcmgfcab
namespace Go.Proofs.Ytdafpnpfcmgfcab
open Go
section
variable {Q P : Program} {S : Nat → Prop}

theorem tm_len (hst : Stubbed Q P) {ts : Array TypeId} {t : TypeId} {xs : Array Value} : Tm Q P S (Builtin.len_ ts t xs) := by
  unfold Builtin.len_
  split
  · rename_i u x h
    clear h
    refine tmb (tm_underlying hst) fun d => ?_
    cases d
    case string => cases x <;> exact trivial
    case array n e => exact tm_pure
    case pointer e =>
      refine tmb (tm_underlying hst) fun d => ?_
      cases d <;> exact trivial
    case slice e => cases x <;> exact trivial
    case map k e =>
      cases x
      case map r =>
        cases r with
        | none => exact tm_pure
        | some r =>
          dsimp only
          refine t_getObj (fun o => ?_) (fun o => ?_)
          · cases o <;> exact trivial
          · cases o <;> rfl
      all_goals exact tm_stuck
    case chan k e =>
      cases x
      case chan r =>
        cases r with
        | none => exact tm_pure
        | some r =>
          dsimp only
          refine t_getObj (fun o => ?_) (fun o => ?_)
          · cases o <;> exact trivial
          · cases o <;> rfl
      all_goals exact tm_stuck
    all_goals (cases x <;> exact tm_stuck)
  · exact tm_stuck

theorem tm_lenOf {x : Value} : Tm Q P S (Builtin.lenOf x) := by cases x <;> exact trivial
theorem tm_firstCells {s n : Nat} {x : Value} : Tm Q P S (Builtin.firstCells s n x) := by
  cases x
  case slice a l c => cases a with
    | none => exact tm_pure
    | some a => exact tm_loadCells
  all_goals exact trivial

/-- Doomed, and tame. -/
def SD {α : Type} : Sem α → Prop
  | .shape _ k => ∀ x, SD (k x)
  | .frozen _ k => ∀ b, SD (k b)
  | .mark m k => m = .noRoom ∧ SD k
  | .halt h => Ends h
  | _ => False
theorem SD.doomed {α : Type} (s : Sem α) (h : SD s) : Doomed Q s := by
  induction s with
  | shape _ _ ih => exact fun x => ih x (h x)
  | frozen _ _ ih => exact fun x => ih x (h x)
  | mark _ _ ih => exact ih h.2
  | halt _ => exact h
  | _ => exact h.elim
theorem SD.tame {α : Type} {Z A : α → Prop} (s : Sem α) (h : SD s) : Tame Q P S Z A s := by
  induction s with
  | shape _ _ ih => exact ⟨fun x => ih x (h x), .inr (.inl fun t => SD.doomed _ (h _))⟩
  | frozen _ _ ih => exact fun x => ih x (h x)
  | mark _ _ ih => exact ⟨h.1, ih h.2⟩
  | halt x =>
    cases x with
    | stuck _ => exact trivial
    | unsupported u => cases u <;> first | exact trivial | exact h.elim
    | _ => exact h.elim
  | _ => exact h.elim
theorem sd_holds {β : Type} {a : Addr} {c : Nat} {f : Bool → Sem β} (h : ∀ b, SD (f b)) : SD (Builtin.holdsCells a c >>= f) := by
  unfold Builtin.holdsCells
  intro x
  cases x with
  | none => exact h _
  | some x => exact h _
theorem sd_noRoom {size l n : Nat} {base : Option Addr} {x : Value} {m : String} {α : Type} : SD (Builtin.mayShare size l n base x >>= fun b => if (!b) = true then mark .noRoom >>= fun _ => unsupported (.resourceLimit m) else unsupported (.resourceLimit m) : Sem α) := by
  have fin : ∀ b : Bool, SD (do
      if !b then mark .noRoom
      unsupported (.resourceLimit m) : Sem α) := fun b => by
    cases b
    · exact ⟨rfl, trivial⟩
    · exact trivial
  have two : ∀ there : Bool, SD ((if (!there) = true then pure true else match x with
      | .slice (some b) _ _ => do pure (!(← Builtin.holdsCells b (n * size)) || base.any (·.block == b.block))
      | _ => pure false) >>= fun b => (do
      if !b then mark .noRoom
      unsupported (.resourceLimit m) : Sem α)) := fun there => by
    cases there
    · exact fin true
    · simp only [Bool.not_true, Bool.false_eq_true, if_false]
      cases x
      case slice a k c =>
        cases a with
        | none => exact fin false
        | some b =>
          simp only [bind_assoc]
          exact sd_holds fun _ => fin _
      all_goals exact fin false
  unfold Builtin.mayShare
  cases base with
  | none => exact two true
  | some a =>
    simp only [bind_assoc]
    refine sd_holds fun b => ?_
    exact fun b' => two _

theorem tm_noRoom {size l n : Nat} {base : Option Addr} {x : Value} {m : String} {α : Type} : Tm Q P S (Builtin.mayShare size l n base x >>= fun b => if (!b) = true then mark .noRoom >>= fun _ => unsupported (.resourceLimit m) else unsupported (.resourceLimit m) : Sem α) := SD.tame _ sd_noRoom
set_option maxHeartbeats 8000000 in
theorem tm_append (hst : Stubbed Q P) {ts : Array TypeId} {t : TypeId} {xs : Array Value} : Tm Q P S (Builtin.append_ ts t xs) := by
  unfold Builtin.append_
  split
  case h_2 => exact tm_stuck
  rename_i st s x h
  clear h
  refine tmb (tm_underlying hst) fun d => ?_
  cases d
  case slice elem =>
    cases s
    case slice base sl sc =>
      refine tmb (tm_sizeOf hst) fun size => ?_
      generalize ts[1]? = ot
      have hz : ∀ (f : Bool → Sem Value), (∀ b, Tm Q P S (f b)) → Tm Q P S (match ot with
          | some xType => do
            let d ← underlying xType
            let z ← pure (d matches .int _)
            f z
          | none => do
            let z ← pure false
            f z) := fun f h => by
        cases ot with
        | none => exact h _
        | some t => exact tmb (tm_underlying hst) fun _ => h _
      refine hz _ fun zeros => ?_
      clear hz
      cases zeros <;> simp only [Bool.not_true, Bool.not_false, Bool.false_eq_true, if_true, if_false]
      all_goals repeat' (first
        | with_reducible exact tm_pure
        | with_reducible exact tm_stuck
        | with_reducible refine tmb (tm_typeInfo hst) fun _ => ?_
        | with_reducible refine tmb (tm_sizeOf hst) fun _ => ?_
        | with_reducible refine tmb (tm_underlying hst) fun _ => ?_
        | with_reducible refine tmb (tm_zeroValue hst) fun _ => ?_
        | with_reducible refine tmb (tm_panic hst) fun _ => ?_
        | with_reducible refine tmb tm_asInt fun _ => ?_
        | with_reducible refine tmb tm_lenOf fun _ => ?_
        | with_reducible refine tmb tm_choose fun _ => ?_
        | with_reducible refine tmb tm_askRoom fun _ => ?_
        | with_reducible refine tmb tm_firstCells fun _ => ?_
        | with_reducible refine tmb tm_storeCells fun _ => ?_
        | with_reducible refine tmb tm_newRow fun _ => ?_
        | with_reducible refine tmb tm_pure fun _ => ?_
        | with_reducible exact tm_firstCells
        | with_reducible exact tm_panic hst
        | with_reducible exact tm_noRoom
        | with_reducible refine tmb ?_ fun _ => ?_
        | dsimp only
        | split)
    all_goals exact tm_stuck
  all_goals exact tm_stuck
end
end Go.Proofs.Ytdafpnpfcmgfcab
namespace Go.Proofs.Ytdafpnpfcmgfcab
open Go
section
variable {Q P : Program} {S : Nat → Prop}

theorem tm_followBlind (hst : Stubbed Q P) : ∀ (l : List FieldStep) (t : TypeId) (x : Option Value), Tm Q P S (followBlind l t x)
  | [], _, _ => tm_pure
  | s :: rest, t, x => by
    unfold followBlind
    refine tmb (tm_underlying hst) fun d => ?_
    cases d
    case struct fs =>
      dsimp only
      split
      · split
        · exact tm_pure
        · exact tm_followBlind hst rest _ _
        · exact tm_stuck
        · exact tm_pure
        · exact tmb (tm_part hst) fun _ => tm_followBlind hst rest _ _
        · exact tm_stuck
        · exact tm_followBlind hst rest _ _
      · exact tm_stuck
    all_goals exact tm_stuck
theorem tm_nilAhead (hst : Stubbed Q P) : ∀ (n : Nat) (t : TypeId) (x : Value) (m : String), Tm Q P S (nilAhead n t x m)
  | 0, _, _, _ => tm_pure
  | n + 1, t, x, m => by
    unfold nilAhead
    refine tmb (tm_typeInfo hst) fun i => ?_
    split
    · refine tmb (tm_followBlind hst _ _ _) fun r => ?_
      split
      · exact tm_pure
      · split
        · exact tm_nilAhead hst n _ _ _
        · exact tm_pure
        · exact tm_stuck
        · exact tm_pure
        · exact tm_pure
        · refine tmb (tm_underlying hst) fun d => ?_
          split <;> exact tm_pure
    · exact tm_stuck

/-- Every function has a body, and none is the one that counts goroutines. -/
def Bodied (Q : Program) : Prop := ∀ (f : Nat) (fn : Func), Q.funcs[f]? = some fn → fn.body.isNone = false ∧ (fn.name == "runtime.NumGoroutine") = false

theorem t_callFunc (hst : Stubbed Q P) (hB : Bodied Q) {f : FuncId} {args : Array Value} : Tame Q P S (ZN Q) OkNext (callFunc f args) := by
  unfold callFunc
  rcases hst.fn f with e | ⟨g, why, e1, e2⟩
  · refine t_prog (by simp only [e]) ?_
    rw [← e]
    cases h : Q.funcs[f]? with
    | none => exact t_stuck
    | some fn =>
      obtain ⟨h1, h2⟩ := hB f fn h
      simp only [h1, h2, Bool.false_eq_true, if_false]
      exact trivial
  · obtain ⟨_, h2⟩ := hB f _ e2
    refine .inr ⟨.enter f args, ?_, g, why, e2⟩
    show (match Q.funcs[f]? with | none => _ | some fn => _) = _
    rw [e2]
    simp only [h2, Option.isNone_some, Bool.false_eq_true, if_false]
    rfl

def okOp (p : Program) (o : Oper) : Bool := match o.op with
  | .move _ | .assign _ | .pick .. | .alloc _ | .box .. | .build .. | .buildSlice .. | .load .. | .store .. | .nilCheck _ | .unOp .. | .makeInterface .. | .makeFunc .. | .makeMap .. | .makeSlice .. | .fieldAddr .. | .indexAddr .. | .index .. | .range .. | .next .. | .extract .. => true
  | .binOp op t _ _ _ => (!(op matches .eql | .neq)) || basic p t
  | .convert s d _ => okConv p s d
  | .lookup t _ _ _ | .mapUpdate t _ _ _ => okMap p t
  | .call { callee := .builtin .len, .. } | .call { callee := .builtin .append, .. } | .call { callee := .value (.func _), .. } => true
  | _ => false

theorem t_value {s : Sem Value} (h : Tm Q P S s) : Tame Q P S (ZN Q) OkNext (do pure (.value (← s))) := tb' h fun _ _ => trivial
theorem t_unit {s : Sem Unit} (h : Tm Q P S s) : Tame Q P S (ZN Q) OkNext (do s; pure .skip) := tb' h fun _ _ => trivial

theorem okOp_tame (hst : Stubbed Q P) (hB : Bodied Q) {ρ : Operand → Value} (hρ : ∀ f, ρ (.func f) = .func (.func f) #[] #[]) {o : Oper} (h : okOp P o = true) : Tame Q P S (ZN Q) OkNext (execOp ρ o) := by
  unfold execOp
  unfold okOp at h
  split at h
  case h_29 => cases h
  all_goals (rename_i hop; rw [hop])
  case h_1 => exact trivial
  case h_2 => exact trivial
  case h_3 => exact tb' tm_asBool fun _ _ => trivial
  case h_4 => exact t_value (tm_alloc hst)
  case h_5 => exact t_value tm_box
  case h_6 => exact t_value (tm_build hst)
  case h_7 => exact t_value (tm_buildSlice hst)
  case h_8 => exact t_value (tm_loadAt hst)
  case h_9 => exact t_unit (tm_storeAt hst)
  case h_10 =>
    have hst' := hst
    obtain ⟨F, rfl⟩ := hst.ex
    dsimp only
    split
    · exact t_runtimePanic hst'
    · exact t_runtimePanic hst'
    · exact t_runtimePanic hst'
    · split
      · exact t_runtimePanic hst'
      · refine t_prog rfl ?_
        refine tb' (tm_nilAhead hst' _ _ _ _) fun r _ => ?_
        split
        · exact trivial
        · exact trivial
      · exact trivial
    · exact trivial
  case h_11 => exact t_value tm_unary
  case h_12 => exact t_value (tm_makeInterface hst)
  case h_13 => exact trivial
  case h_14 => exact t_value (tm_makeMap hst)
  case h_15 => exact t_value (tm_makeSlice hst)
  case h_16 => exact t_value (tm_fieldAt hst)
  case h_17 => exact t_value (tm_indexAt hst)
  case h_18 => exact t_value (tm_index hst)
  case h_19 => exact t_value (tm_range hst)
  case h_20 => exact t_value tm_next
  case h_21 => exact t_value tm_extract
  case h_22 _ op t x y _ =>
    have hb : op = .eql ∨ op = .neq → basic P t = true := by
      rintro (rfl | rfl) <;> simpa using h
    exact t_value (tmb (tm_eqGuard hst hb) fun _ => tm_binOp hst hb)
  case h_23 => exact t_value (tm_convert hst h)
  case h_24 => exact t_value (tm_lookup hst h)
  case h_25 => exact t_unit (tm_mapUpdate hst h)
  case h_26 => exact t_value (tm_len hst)
  case h_27 => exact t_value (tm_append hst)
  case h_28 =>
    simp only [resolve, hρ]
    exact t_callFunc hst hB
end
end Go.Proofs.Ytdafpnpfcmgfcab
namespace Go.Proofs.Ytdafpnpfcmgfcab
open Go

def okCode (p : Program) : Code → Bool
  | .seq a b => okCode p a && okCode p b
  | .cond _ a b => okCode p a && okCode p b
  | .block _ c => okCode p c
  | .loop c => okCode p c
  | .region _ ops _ => ops.all (okOp p)
  | .skip | .label _ | .exit _ | .goto _ | .ret | .refuse _ => true
  | _ => false
def okItem (p : Program) : Item → Bool
  | .code c => okCode p c
  | .inLoop c => okCode p c
  | .inBlock _ => true
  | .inRegion ops _ => ops.all (okOp p)
  | _ => false
structure FrameOk (p : Program) (fr : Frame) : Prop where
  kind : fr.kind = .normal
  round : fr.roundOf = none
  defers : fr.defers = []
  todo : ∀ i ∈ fr.todo, okItem p i = true
structure Ok (p : Program) (g : Goroutine) : Prop where
  run : g.status = .running
  dying : g.dying = none
  frame : FrameOk p g.frame
  callers : ∀ c ∈ g.callers, FrameOk p c

/-- The two programs: one's functions in use are tame, the others are refused. -/
structure Tamed (Q P : Program) : Prop where
  st : Stubbed Q P
  bodied : Bodied Q
  code : ∀ (f : Nat) (fn : Func) (c : Code), Q.funcs[f]? = some fn → fn.body = some c → okCode P c = true

section
variable {Q P : Program} {S : Nat → Prop}

theorem exit_ok {p : Program} {id : Nat} : ∀ {k k' : List Item}, exitTo id k = some k' → (∀ i ∈ k, okItem p i = true) → ∀ i ∈ k', okItem p i = true
  | [], _, h, _ => by cases h
  | x :: k, k', h, hk => by
    have hk' : ∀ i ∈ k, okItem p i = true := fun i hi => hk i (by simp [hi])
    cases x
    case inBlock id' =>
      simp only [exitTo] at h
      split at h
      · cases h; exact hk'
      · exact exit_ok h hk'
    all_goals exact exit_ok (k := k) (by simpa [exitTo] using h) hk'
theorem goto_ok {p : Program} {l : Nat} : ∀ {k k' : List Item}, gotoIn l k = some k' → (∀ i ∈ k, okItem p i = true) → ∀ i ∈ k', okItem p i = true
  | [], _, h, _ => by cases h
  | x :: k, k', h, hk => by
    have hk' : ∀ i ∈ k, okItem p i = true := fun i hi => hk i (by simp [hi])
    cases x
    case inScope c => exact absurd (hk (.inScope c) (by simp)) (by simp [okItem])
    all_goals exact goto_ok (k := k) (by simpa [gotoIn] using h) hk'
theorem leads_ok {p : Program} {fr : Frame} {l k : List Item} (h : Leads fr l k) (hl : ∀ i ∈ l, okItem p i = true) : ∀ i ∈ k, okItem p i = true := by
  cases h with
  | drop => exact fun i hi => hl i (by simp [hi])
  | exit h => exact exit_ok h fun i hi => hl i (by simp [hi])
  | goto h => exact goto_ok h fun i hi => hl i (by simp [hi])
  | scope => exact absurd (hl _ (List.mem_cons_self ..)) (by simp [okItem, okCode])
  | cond t =>
    have h0 := hl _ (List.mem_cons_self ..)
    simp only [okItem, okCode, Bool.and_eq_true] at h0
    intro i hi
    rcases List.mem_cons.1 hi with rfl | hi
    · cases t
      · exact h0.2
      · exact h0.1
    · exact hl i (by simp [hi])
  | seq =>
    have h0 := hl _ (List.mem_cons_self ..)
    simp only [okItem, okCode, Bool.and_eq_true] at h0
    intro i hi
    rcases List.mem_cons.1 hi with rfl | hi
    · exact h0.1
    · rcases List.mem_cons.1 hi with rfl | hi
      · exact h0.2
      · exact hl i (by simp [hi])
  | block =>
    have h0 := hl _ (List.mem_cons_self ..)
    intro i hi
    rcases List.mem_cons.1 hi with rfl | hi
    · exact h0
    · rcases List.mem_cons.1 hi with rfl | hi
      · rfl
      · exact hl i (by simp [hi])
  | loop =>
    have h0 := hl _ (List.mem_cons_self ..)
    intro i hi
    rcases List.mem_cons.1 hi with rfl | hi
    · exact h0
    · rcases List.mem_cons.1 hi with rfl | hi
      · exact h0
      · exact hl i (by simp [hi])
  | again =>
    have h0 := hl _ (List.mem_cons_self ..)
    intro i hi
    rcases List.mem_cons.1 hi with rfl | hi
    · exact h0
    · rcases List.mem_cons.1 hi with rfl | hi
      · exact h0
      · exact hl i (by simp [hi])
  | region is =>
    have h0 := hl _ (List.mem_cons_self ..)
    intro i hi
    rcases List.mem_cons.1 hi with rfl | hi
    · exact h0
    · exact hl i (by simp [hi])
theorem finish_ok {p : Program} {fr : Frame} (h : FrameOk p fr) (v : Value) : FrameOk p (fr.finish v) := by
  obtain ⟨fn, tmps, todo, defers, mode, kind, ro⟩ := fr
  obtain ⟨h1, h2, h3, h4⟩ := h
  dsimp only at h1 h2 h3 h4
  unfold Frame.finish
  dsimp only
  split
  · refine ⟨h1, h2, h3, fun i hi => ?_⟩
    rcases List.mem_cons.1 hi with rfl | hi
    · have h0 := h4 _ (List.mem_cons_self ..)
      exact h0
    · exact h4 i (by simp [hi])
  · exact absurd (h4 _ (List.mem_cons_self ..)) (by simp [okItem])
  · exact absurd (h4 _ (List.mem_cons_self ..)) (by simp [okItem])
  all_goals first
    | exact ⟨h1, h2, h3, h4⟩
    | exact absurd (h4 _ (List.mem_cons_self ..)) (by simp [okItem])
theorem raise_ok {p : Program} {fr : Frame} (h : FrameOk p fr) (ch : List PanicEntry) : FrameOk p (fr.raise ch) := by
  unfold Frame.raise
  split <;> exact ⟨h.kind, h.round, h.defers, h.todo⟩
theorem enterF_ok (hT : Tamed Q P) {f : FuncId} {args : Array Value} : FrameOk P (Frame.enter Q f args .normal) := by
  refine ⟨rfl, rfl, rfl, fun i hi => ?_⟩
  simp only [Frame.enter, List.mem_singleton] at hi
  subst hi
  cases hf : Q.funcs[f]? with
  | none => rfl
  | some fn =>
    simp only [Option.bind_some]
    cases hb : fn.body with
    | none => rfl
    | some c => exact hT.code f fn c hf hb

theorem tm_results (hst : Stubbed Q P) {fn : Func} {tmps : Array Value} : Tm Q P S (results fn tmps) := by
  refine tmb (tm_mapM (fun r => ?_) _) fun _ => tm_pure
  cases r with
  | tmp t => exact tm_pure
  | cell a t => exact tmb (t_asAddr hst fun _ => trivial) fun _ => tm_loadVar hst

theorem kept (hT : Tamed Q P) : Kept Q P S (Ok P) := by
  refine ⟨fun g h => h.run, fun g w h => ?_⟩
  have hf := h.frame
  have hcal := h.callers
  refine step_couple hT.st ⟨h.run, h.dying, by rw [hf.kind]; rfl, hf.round, fun _ => ?_, fun _ => ⟨hf.defers, hf.kind, fun fn _ => tm_results hT.st⟩⟩ (fun _ => ?_) ?_ ?_ w
  · unfold TopOk
    split
    · rename_i ops i rest k htd
      intro o ho
      have h1 : okItem P (.inRegion ops (i :: rest)) = true := hf.todo _ (by rw [htd]; simp)
      have h2 : okOp P o = true := by
        simp only [okItem, Array.all_eq_true'] at h1
        exact h1 o (Array.mem_of_getElem? ho)
      exact okOp_tame hT.st hT.bodied (fun _ => rfl) h2
    all_goals first
      | trivial
      | (rename_i htd; exact absurd (hf.todo _ (by rw [htd]; exact List.mem_cons_self ..)) (by simp [okItem, okCode]))
  · refine ⟨fun todo hl => ⟨rfl, rfl, ⟨hf.kind, hf.round, hf.defers, leads_ok hl hf.todo⟩, hcal⟩, fun v => ⟨rfl, rfl, finish_ok hf v, hcal⟩, fun f args e => ⟨rfl, rfl, e ▸ enterF_ok hT, fun c hc => ?_⟩, fun ch => ⟨rfl, rfl, raise_ok hf ch, hcal⟩, ⟨rfl, rfl, ⟨hf.kind, hf.round, hf.defers, hf.todo⟩, hcal⟩⟩
    rcases List.mem_cons.1 hc with rfl | hc
    · exact hf
    · exact hcal c hc
  · intro c rest y e
    exact ⟨rfl, rfl, finish_ok (hcal c (by rw [e]; simp)) y, fun x hx => hcal x (by rw [e]; simp [hx])⟩
  · intro c rest ch e
    exact ⟨rfl, rfl, raise_ok (hcal c (by rw [e]; simp)) ch, fun x hx => hcal x (by rw [e]; simp [hx])⟩
end
end Go.Proofs.Ytdafpnpfcmgfcab
namespace Go.Proofs.Ytdafpnpfcmgfcab
open Go Go.Conc
section
variable {Q P : Program} {S : Nat → Prop}

theorem step_solo_ended {a : Goroutine} {w w' : World} {o : Outcome} {es : Array Event} (hs : a.status = .running) (h : stepG Q true a w = .ended o w' es) : step Q (solo a w) = .ended o w' := by
  rw [step, stepT_solo hs]
  simp [runT, solo, Array.swapAt!, Array.swapAt, h]

theorem solo_inj {g g' : Goroutine} {w w' : World} (h : solo g w = solo g' w') : g = g' ∧ w = w' := by
  simp only [solo, Machine.mk.injEq] at h
  exact ⟨by simpa using h.2.1, h.1⟩

/-- World 'w' with v's tape. -/
theorem Cp.same {v w : World} (h : Cp S v w) : Cp S v { w with tape := v.tape, drawn := v.drawn } := ⟨h.size, h.low, h.out, h.brk, h.os, h.output⟩

theorem rn_of_runN (hT : Tamed Q P) {Stop : Goroutine → World → Prop} : ∀ (n : Nat) (g : Goroutine) (v w : World) (g1 : Goroutine) (v1 : World), Ok P g → Cp S v w → runN Q n (solo (ext g) v) = .next (solo g1 v1) → Stop g1 v1 → Rn Q Stop n (ext g) v := by
  intro n
  induction n with
  | zero =>
    intro g v w g1 v1 _ _ hr hs
    simp only [runN] at hr
    obtain ⟨rfl, rfl⟩ := solo_inj (Stepped.next.inj hr)
    exact hs
  | succ n ih =>
    intro g v w g1 v1 hok hc hr hs
    obtain ⟨c, hstep⟩ := (kept (S := S) hT).step g { w with tape := v.tape, drawn := v.drawn } hok
    have hrun : (ext g).status = .running := hok.run
    rcases hstep v hc.same (fun i _ => rfl) with ⟨o, v', es, he⟩ | ⟨g', v2, es, he, hrest⟩
    · exfalso
      simp only [runN, step_solo_ended hrun he] at hr
      cases hr
    · have hst := step_solo_go hrun he
      simp only [runN, hst] at hr
      refine .inr ⟨g', v2, es, he, ?_⟩
      rcases hrest with hstub | ⟨gc, rfl, hok', _, _, w1, _, _, _, c1, _, _⟩
      · cases n with
        | zero =>
          simp only [runN] at hr
          obtain ⟨rfl, rfl⟩ := solo_inj (Stepped.next.inj hr)
          exact hs
        | succ n =>
          exfalso
          obtain ⟨o, v', es', he'⟩ := stub_ends (Q := Q) hstub v2
          simp only [runN, step_solo_ended hstub.2.1 he'] at hr
          cases hr
      · exact ih gc v2 w1 g1 v1 hok' c1 hr hs

/-! ### pieces of code -/
/-- Where the goroutine stands when a piece of code has been left. -/
def Came (b : Frame) (k : List Item) (cs : List Frame) : Exit → Act → Goroutine → Prop
  | .normal, a, g => g = G (b.at a k) cs
  | .exit id, a, g => ∃ k', exitTo id k = some k' ∧ g = G (b.at a k') cs
  | .ret, a, g => ∃ todo, g = G { b.at a todo with mode := .returning } cs
  | _, _, _ => False
/-- No item is a lone refusal. -/
def Willing (k : List Item) : Prop := ∀ why, k ≠ [.code (.refuse why)]
/-- The ways out that are allowed. -/
def Ways (k : List Item) : Exit → Prop
  | .normal => Willing k
  | .exit id => ∃ k', exitTo id k = some k' ∧ Willing k'
  | .ret => True
  | _ => False

theorem ext_G (fr : Frame) (cs : List Frame) : ext (G fr cs) = G fr (cs ++ [bottom]) := rfl
theorem came_ext {b : Frame} {k : List Item} {cs : List Frame} {e : Exit} {a : Act} {g : Goroutine} (h : Came b k (cs ++ [bottom]) e a (ext g)) : Came b k cs e a g := by
  cases e with
  | normal => exact ext_inj (h.trans (ext_G _ _).symm)
  | exit id => obtain ⟨k', h1, h2⟩ := h; exact ⟨k', h1, ext_inj (h2.trans (ext_G _ _).symm)⟩
  | ret => obtain ⟨todo, h⟩ := h; exact ⟨todo, ext_inj (h.trans (ext_G _ _).symm)⟩
  | _ => exact h.elim
theorem came_willing {b : Frame} {k : List Item} {cs : List Frame} {e : Exit} {a : Act} {g : Goroutine} (h : Came b k cs e a g) (hw : Ways k e) : ¬ Stub g := by
  rintro ⟨_, _, h2⟩
  cases e with
  | normal =>
    obtain rfl : g = G (b.at a k) cs := h
    rcases h2 with ⟨why, h2, _⟩ | ⟨ch, h2, _⟩
    · exact hw why h2
    · cases h2
  | exit id =>
    obtain ⟨k', h1, rfl⟩ := h
    obtain ⟨k2, h3, h4⟩ := hw
    rw [h1] at h3
    obtain rfl := Option.some.inj h3
    rcases h2 with ⟨why, h2, _⟩ | ⟨ch, h2, _⟩
    · exact h4 why h2
    · cases h2
  | ret =>
    obtain ⟨todo, rfl⟩ := h
    rcases h2 with ⟨why, _, h2⟩ | ⟨ch, h2, _⟩ <;> cases h2
  | _ => exact h.elim

/-- A goroutine that alone arrives, on every tape, arrives in company. -/
theorem rb_arrives (hT : Tamed Q P) {b : Frame} {a : Act} {k todo : List Item} {cs : List Frame} {v w : World} {R : Exit → Act → World → Prop} (hb : b.kind = .normal) (ha : a.defers = []) (hk : ∀ i ∈ todo, okItem P i = true) (hcs : ∀ c ∈ cs, FrameOk P c)
    (hc : Cp S v w) (H : ∀ T, ∃ e a' v', R e a' v' ∧ Arrives Q (lone (b.at a todo) (cs ++ [bottom]) (World.re v 0 T)) b k (cs ++ [bottom]) e a' v') (hR : ∀ e a' v', R e a' v' → Ways k e) :
    Rb P S (fun g w => ∃ e a' v', Cp S v' w ∧ R e a' v' ∧ Came b k cs e a' g) (G (b.at a todo) cs) w := by
  have hok : Ok P (G (b.at a todo) cs) := ⟨rfl, rfl, ⟨hb, rfl, ha, hk⟩, hcs⟩
  have key := lift (Stop := fun g v' => ∃ e a', R e a' v' ∧ Came b k (cs ++ [bottom]) e a' g) (kept hT) (fun g v' hs ⟨e, a', hr, hcm⟩ => came_willing hcm (hR _ _ _ hr) hs) hc hok (fun T => ?_)
  · refine Rb.trans key fun g w h => .stop fun w₁ h₁ => ?_
    obtain ⟨v', hc', e, a', hr, hcm⟩ := h w₁ h₁
    exact ⟨e, a', v', hc', hr, came_ext hcm⟩
  · obtain ⟨e, a', v', hr, harr⟩ := H T
    have hw := hR _ _ _ hr
    have hc' : Cp S (World.re v 0 T) w := hc.re' 0 T
    rw [lone_eq_solo, ← ext_G] at harr
    cases e with
    | normal =>
      obtain ⟨n, hn⟩ := harr
      exact ⟨n, rn_of_runN hT n _ _ w _ _ hok hc' hn ⟨.normal, a', hr, rfl⟩⟩
    | exit id =>
      obtain ⟨k', h1, _⟩ := hw
      obtain ⟨n, hn⟩ := harr k' h1
      exact ⟨n, rn_of_runN hT n _ _ w _ _ hok hc' hn ⟨.exit id, a', hr, k', h1, rfl⟩⟩
    | ret =>
      obtain ⟨todo', n, hn⟩ := harr
      exact ⟨n, rn_of_runN hT n _ _ w _ _ hok hc' hn ⟨.ret, a', hr, todo', rfl⟩⟩
    | _ => exact hw.elim

theorem rb_wp (hT : Tamed Q P) {b : Frame} {a : Act} {c : Code} {k : List Item} {cs : List Frame} {v w : World} {R : Exit → Act → World → Prop} (hb : b.kind = .normal) (ha : a.defers = []) (hcd : okCode P c = true) (hk : ∀ i ∈ k, okItem P i = true) (hcs : ∀ c ∈ cs, FrameOk P c)
    (hc : Cp S v w) (H : ∀ T, c.wp Q R a (World.re v 0 T)) (hR : ∀ e a' v', R e a' v' → Ways k e) :
    Rb P S (fun g w => ∃ e a' v', Cp S v' w ∧ R e a' v' ∧ Came b k cs e a' g) (G (b.at a (.code c :: k)) cs) w :=
  rb_arrives hT hb ha (fun i hi => by
    rcases List.mem_cons.1 hi with rfl | hi
    · exact hcd
    · exact hk i hi) hcs hc (fun T => H T b k (cs ++ [bottom])) hR

theorem rb_ops (hT : Tamed Q P) {b : Frame} {a : Act} {ops : Array Oper} {l : List Nat} {k : List Item} {cs : List Frame} {v w : World} {R : Exit → Act → World → Prop} (hb : b.kind = .normal) (ha : a.defers = []) (hcd : ops.all (okOp P) = true) (hk : ∀ i ∈ k, okItem P i = true) (hcs : ∀ c ∈ cs, FrameOk P c)
    (hc : Cp S v w) (H : ∀ T, wpOps Q ops R l a (World.re v 0 T)) (hR : ∀ e a' v', R e a' v' → Ways k e) :
    Rb P S (fun g w => ∃ e a' v', Cp S v' w ∧ R e a' v' ∧ Came b k cs e a' g) (G (b.at a (.inRegion ops l :: k)) cs) w :=
  rb_arrives hT hb ha (fun i hi => by
    rcases List.mem_cons.1 hi with rfl | hi
    · exact hcd
    · exact hk i hi) hcs hc (fun T => wp_ops l a _ (H T) b k (cs ++ [bottom])) hR
end
end Go.Proofs.Ytdafpnpfcmgfcab
namespace Go.Proofs.Ytdafpnpfcmgfcab
open Go Go.Conc Go.ConcN

/-- The cells of shunned blocks. -/
def ShOf (S : Nat → Prop) : Loc → Prop := fun l => ∃ a, l = .cell a ∧ S a.block
/-- Whatever place it touches lies below B. -/
def TLow (B : Nat) (op : MemOp) : Prop := ∀ x, op.act.touch? = some x → x.loc.low B
/-- What is held of the trace between two calls that go: n goroutines there have been; every address lies below B. -/
structure Tr (S : Nat → Prop) (B n : Nat) (t : Trace) : Prop where
  ct : CT (ShOf S) (fun _ _ => False) (fun _ _ => False) t (n - 1)
  over : t.HandedOver
  hears : Deaf t 0 = 0
  seen : ∀ op ∈ t, TLow B op

section
variable {P : Program} {S : Nat → Prop} {B n : Nat} {t : Trace}

theorem low_of_okE {e : Event} (h : OkE S B e) : (MemAct.ofEvent e).low B := by
  obtain ⟨loc, wr, sy⟩ := e
  cases loc with
  | cell a => exact h.2
  | obj r =>
    obtain ⟨_, h2, h3⟩ := h
    cases wr <;> cases sy <;> first | exact h2 | cases h3
  | mark m => cases m <;> first | exact h.elim | trivial
  | _ => exact h.elim
theorem tlow_of_okE {e : Event} (h : OkE S B e) {x : Touch} (hx : (MemAct.ofEvent e).touch? = some x) : x.loc.low B := by
  obtain ⟨loc, wr, sy⟩ := e
  cases loc with
  | cell b =>
    simp only [MemAct.ofEvent, MemAct.touch?, Option.some.injEq] at hx
    subst hx
    exact h.2
  | obj r =>
    obtain ⟨_, h2, h3⟩ := h
    cases wr <;> cases sy <;> simp only [MemAct.ofEvent, MemAct.touch?, Option.some.injEq] at hx <;> first | (cases hx; done) | (subst hx; exact h2)
  | mark m => cases m <;> first | exact h.elim | (simp [MemAct.ofEvent, MemAct.touch?] at hx)
  | _ => exact h.elim
theorem touch_of_okE {e : Event} (h : OkE S B e) {x : Touch} (hx : (MemAct.ofEvent e).touch? = some x) : ¬ ShOf S x.loc := by
  obtain ⟨loc, wr, sy⟩ := e
  rintro ⟨a, ha, hs⟩
  cases loc with
  | cell b =>
    simp only [MemAct.ofEvent, MemAct.touch?, Option.some.injEq] at hx
    subst hx
    cases ha
    exact h.1 hs
  | obj r =>
    cases wr <;> cases sy <;> simp only [MemAct.ofEvent, MemAct.touch?, Option.some.injEq] at hx <;> first | (cases hx; done) | (subst hx; cases ha)
  | mark m => cases m <;> first | exact h.elim | (simp [MemAct.ofEvent, MemAct.touch?] at hx)
  | _ => exact h.elim
theorem still_of_okE {e : Event} (h : OkE S B e) : e.loc ≠ .mark .disable ∧ e.loc ≠ .mark .enable := by
  obtain ⟨loc, wr, sy⟩ := e
  cases loc with
  | mark m => cases m <;> first | exact h.elim | exact ⟨by simp, by simp⟩
  | _ => exact ⟨by simp, by simp⟩
theorem apart_none (Sh : Loc → Prop) : Apart Sh (fun _ _ => False) (fun _ _ => False) := ⟨fun _ _ _ h => h.elim, fun _ _ _ h => h.elim, fun _ _ h => h.elim, fun _ _ h => h.elim⟩

theorem Tr.mono {B' : Nat} (h : Tr S B n t) (hB : B ≤ B') : Tr S B' n t := ⟨h.ct, h.over, h.hears, fun op hop x hx => Loc.low_mono hB (h.seen op hop x hx)⟩
/-- Goroutine 0's own step. -/
theorem Tr.own (h : Tr S B n t) {fn : FuncId} {pos : String} {es : Array Event} (hes : ∀ e ∈ es, OkE S B e) : Tr S B n (t ++ MemOp.ofEvents 0 fn pos es) := by
  have hg : ∀ op ∈ MemOp.ofEvents 0 fn pos es, op.g = 0 := fun op hop => by obtain ⟨e, _, rfl⟩ := Go.Conc.mem_ofEvents hop; rfl
  refine ⟨h.ct.app0 (apart_none _) fun op hop => ?_, handedOver_app h.over fun op hop => .inl (hg op hop), ?_, fun op hop => ?_⟩
  · obtain ⟨e, he, rfl⟩ := Go.Conc.mem_ofEvents hop
    exact ⟨rfl, fun x hx => .inr ⟨touch_of_okE (hes e he) hx, fun _ _ _ h => h, fun _ _ _ _ h => h⟩⟩
  · rw [Deaf_own, deafBehind_still (fun e he => still_of_okE (hes e he))]
    exact h.hears
  · rcases Array.mem_append.1 hop with hop | hop
    · exact h.seen op hop
    · obtain ⟨e, he, rfl⟩ := Go.Conc.mem_ofEvents hop
      exact fun x hx => tlow_of_okE (hes e he) hx
/-- A leaver's step. -/
theorem Tr.mute (h : Tr S B n t) {g : Nat} (hg : 1 ≤ g) (hgn : g < n) {fn : FuncId} {pos : String} {es : Array Event} (hm : ∀ e ∈ es, e.mute = true) : Tr S B n (t ++ MemOp.ofEvents g fn pos es) := by
  refine ⟨h.ct.appW (apart_none _) hg (by omega) fun op hop => ?_, handedOver_app h.over fun op hop => .inr ?_, ?_, fun op hop => ?_⟩
  · obtain ⟨e, he, rfl⟩ := Go.Conc.mem_ofEvents hop
    exact ⟨rfl, fun x hx => by rw [touch_mute (hm e he)] at hx; cases hx⟩
  · obtain ⟨e, he, rfl⟩ := Go.Conc.mem_ofEvents hop
    exact touch_mute (hm e he)
  · rw [Deaf_other t (g' := g) (by omega) _ (fun op hop => by obtain ⟨e, _, rfl⟩ := Go.Conc.mem_ofEvents hop; rfl)]
    exact h.hears
  · rcases Array.mem_append.1 hop with hop | hop
    · exact h.seen op hop
    · obtain ⟨e, he, rfl⟩ := Go.Conc.mem_ofEvents hop
      exact fun x hx => by rw [touch_mute (hm e he)] at hx; cases hx
/-- There is a bound. -/
theorem low_bound (t : Trace) (B : Nat) : ∃ B', B ≤ B' ∧ ∀ op ∈ t, op.act.low B' := by
  have one : ∀ (x : MemAct) (B : Nat), ∃ B', B ≤ B' ∧ x.low B' := by
    intro x B
    cases x with
    | access e =>
      obtain ⟨loc, wr, sy⟩ := e
      cases loc with
      | cell a => exact ⟨max B (a.block + 1), by omega, show a.block < _ by omega⟩
      | obj r => exact ⟨max B (r + 1), by omega, show r < _ by omega⟩
      | _ => exact ⟨B, by omega, trivial⟩
    | mark m => cases m <;> first | exact ⟨B, by omega, trivial⟩ | (rename_i a; exact ⟨max B (a.block + 1), by omega, show a.block < _ by omega⟩)
    | go _ => exact ⟨B, by omega, trivial⟩
    | start => exact ⟨B, by omega, trivial⟩
    | send c _ => exact ⟨max B (c + 1), by omega, show c < _ by omega⟩
    | sendDone c _ => exact ⟨max B (c + 1), by omega, show c < _ by omega⟩
    | recv c _ _ => exact ⟨max B (c + 1), by omega, show c < _ by omega⟩
    | recvDone c _ => exact ⟨max B (c + 1), by omega, show c < _ by omega⟩
    | close c => exact ⟨max B (c + 1), by omega, show c < _ by omega⟩
    | recvClosed c => exact ⟨max B (c + 1), by omega, show c < _ by omega⟩
  have key : ∀ (l : List MemOp) (B : Nat), ∃ B', B ≤ B' ∧ ∀ op ∈ l, op.act.low B' := by
    intro l
    induction l with
    | nil => exact fun B => ⟨B, Nat.le_refl _, by simp⟩
    | cons y l ih =>
      intro B
      obtain ⟨B1, h1, h2⟩ := ih B
      obtain ⟨B2, h3, h4⟩ := one y.act B1
      refine ⟨B2, by omega, fun op hop => ?_⟩
      rcases List.mem_cons.1 hop with rfl | hop
      · exact h4
      · exact MemAct.low_mono h3 (h2 op hop)
  obtain ⟨B', h1, h2⟩ := key t.toList B
  exact ⟨B', h1, fun op hop => h2 op (by simpa using hop)⟩
theorem Tr.past (h : Tr S B n t) : ∃ B', B ≤ B' ∧ Past (ShOf S) B' t := by
  obtain ⟨B', hB', hlow⟩ := low_bound t B
  refine ⟨B', hB', h.ct.nr, fun i a ha hm => ?_, h.over, h.hears, hlow⟩
  by_cases hs : ShOf S a.loc
  · obtain ⟨op, hop, hoa⟩ := touch_of ha
    obtain ⟨h1, h2⟩ := h.ct.quiet i op a hop hoa hs
    cases hk : a.kind with
    | plain => exact absurd hk h1
    | atomic => exact .inr ⟨hs, rfl⟩
    | said =>
      have := knows_own hop
      rw [h2 hk] at this
      exact .inl this
  · exact .inl (h.ct.free a.loc hs (fun _ _ _ => ⟨fun h => h, fun h => h⟩) i a ha rfl)

theorem leavers_step {gs : Array Goroutine} {q : Nat → Nat} {g g' : Goroutine} {w' : World} {i : Nat} {fn : FuncId} {pos : String} {es : Array Event} (hL : Leavers P t gs q) (hi : i < gs.size) :
    (∀ j x, 0 < j → j ≠ i → ((gs.map (woken P g g' w')).setIfInBounds i g')[j]? = some x → QuitsD P (q j) (Deaf (t ++ MemOp.ofEvents i fn pos es) j) x) ∧ ∀ j, gs.size ≤ j → Deaf (t ++ MemOp.ofEvents i fn pos es) j = 0 := by
  have ho : ∀ op ∈ MemOp.ofEvents i fn pos es, op.g = i := fun op hop => by obtain ⟨e, _, rfl⟩ := Go.Conc.mem_ofEvents hop; rfl
  refine ⟨fun j x hj hji hx => ?_, fun j hj => ?_⟩
  · rw [Array.getElem?_setIfInBounds_ne (Ne.symm hji), Array.getElem?_map] at hx
    obtain ⟨y, hy, rfl⟩ := Option.map_eq_some_iff.1 hx
    have hq := hL.old j y hj hy
    rw [woken_quitsD hq, Deaf_other t (Ne.symm hji) _ ho]
    exact hq
  · rw [Deaf_other t (g' := i) (by omega) _ ho]
    exact hL.above j hj

/-- ████ THE WAY IN COMPANY, CARRIED OUT. ████ -/
theorem co_rb {X : Goroutine → World → Prop} {a : Goroutine} {w : World} (h : Rb P S X a w) : ∀ (d0 : Nat) (gs : Array Goroutine) (sl : Option (Nat × Nat)) (t : Trace) (q : Nat → Nat), gs[0]? = some a → Leavers P t gs q → Tr S w.heap.size gs.size t →
    ∃ (N : Nat) (gs' : Array Goroutine) (a' : Goroutine) (w' : World) (sl' : Option (Nat × Nat)) (t' : Trace) (q' : Nat → Nat), runNT P N (crowd gs (w.at d0) sl) t = (.next (crowd gs' w' sl'), t') ∧ gs'.size = gs.size ∧ gs'[0]? = some a' ∧ (∀ w₁, Sim S w' w₁ → X a' w₁) ∧ Leavers P t' gs' q' ∧ Tr S w'.heap.size gs'.size t' := by
  induction h with
  | @stop g w hX => exact fun d0 gs sl t q h0 hL hT => ⟨0, gs, g, w.at d0, sl, t, q, rfl, rfl, h0, fun w₁ h₁ => hX w₁ ((Sim.at S w d0).trans h₁), hL, hT⟩
  | @step g w Gn Wn En hrun hstep hE hsz _ ih =>
    intro d0 gs sl t q h0 hL hT
    have key : ∀ (M d0 : Nat) (gs : Array Goroutine) (sl : Option (Nat × Nat)) (t : Trace) (q : Nat → Nat), sumTo gs.size q < M → gs[0]? = some g → Leavers P t gs q → Tr S w.heap.size gs.size t →
        ∃ (N : Nat) (gs' : Array Goroutine) (a' : Goroutine) (w' : World) (sl' : Option (Nat × Nat)) (t' : Trace) (q' : Nat → Nat), runNT P N (crowd gs (w.at d0) sl) t = (.next (crowd gs' w' sl'), t') ∧ gs'.size = gs.size ∧ gs'[0]? = some a' ∧ (∀ w₁, Sim S w' w₁ → X a' w₁) ∧ Leavers P t' gs' q' ∧ Tr S w'.heap.size gs'.size t' := by
      intro M
      induction M with
      | zero => exact fun d0 gs sl t q hM => absurd hM (Nat.not_lt_zero _)
      | succ M ihM =>
        intro d0 gs sl t q hM h0 hL hT
        have haw : ∀ x ∈ gs, awake x := by
          intro x hx
          obtain ⟨i, hi, rfl⟩ := Array.mem_iff_getElem.1 hx
          rcases Nat.eq_zero_or_pos i with rfl | hpos
          · have : gs[0] = g := by simpa [Array.getElem?_eq_getElem hi] using h0
            rw [this]; exact awake_of (.inl hrun)
          · exact awake_of ((hL.old i _ hpos (Array.getElem?_eq_getElem hi)).status.elim .inl fun x => .inr (.inr x))
        obtain ⟨i, x, d, sl', hi, hx, hst⟩ := crowd_pick (P := P) (w := w.at d0) (sl := sl) haw ⟨0, g, h0, hrun⟩
        replace hst : stepT P (crowd gs (w.at d0) sl) = runT P (crowd gs (w.at d) sl') i := hst
        have hlt : i < gs.size := (Array.getElem?_eq_some_iff.1 hi).1
        rcases Nat.eq_zero_or_pos i with rfl | hpos
        · obtain rfl : x = g := by rw [h0] at hi; exact (Option.some.inj hi).symm
          have hrunT := runT_crowd_go (P := P) (sl := sl') (i := 0) hi (show stepG P (0 == 0) x (w.at d) = _ from hstep (w.at d) (Sim.at S w d))
          have hsz' : ((gs.map (woken P x (Gn (w.at d)) (Wn (w.at d)))).setIfInBounds 0 (Gn (w.at d))).size = gs.size := by simp
          obtain ⟨l1, l2⟩ := leavers_step (fn := x.frame.fn) (pos := x.frame.place) (es := En (w.at d)) (g := x) (g' := Gn (w.at d)) (w' := Wn (w.at d)) hL hlt
          obtain ⟨N, gs', a', w', sl'', t', q', hr, hs', h0', hX, hL', hT'⟩ := ih (w.at d) (Sim.at S w d) (Wn (w.at d)).drawn ((gs.map (woken P x (Gn (w.at d)) (Wn (w.at d)))).setIfInBounds 0 (Gn (w.at d))) sl' (t ++ MemOp.ofEvents 0 x.frame.fn x.frame.place (En (w.at d))) q (by simp [hlt])
            ⟨fun j y hj hy => l1 j y hj (by omega) hy, fun j hj => l2 j (by simpa using hj)⟩ (by rw [hsz']; exact (hT.mono (hsz _ (Sim.at S w d))).own (hE _ (Sim.at S w d)))
          exact ⟨N + 1, gs', a', w', sl'', t', q', by simp only [runNT, hst, hrunT]; exact hr, hs'.trans hsz', h0', hX, hL', hT'⟩
        · have hq := hL.old i x hpos hi
          have hi0 : (i == 0) = false := by simp; omega
          cases hqi : q i with
          | zero => rw [hqi] at hq; rw [hq.1] at hx; cases hx
          | succ k =>
            rw [hqi] at hq
            rcases hq with ⟨hf, _⟩ | ⟨_, g', es, hm, hstp, hq'⟩
            · rw [hf] at hx; cases hx
            have hrunT := runT_crowd_go (P := P) (sl := sl') (i := i) hi (by rw [hi0]; exact hstp (w.at d))
            have hsz' : ((gs.map (woken P x g' (w.at d))).setIfInBounds i g').size = gs.size := by simp
            have hsum : sumTo gs.size (upd q i k) + (k + 1) = sumTo gs.size q + k := by
              have := sumTo_upd q k id hlt
              simpa [hqi] using this
            obtain ⟨l1, l2⟩ := leavers_step (fn := x.frame.fn) (pos := x.frame.place) (es := es) (g := x) (g' := g') (w' := w.at d) hL hlt
            obtain ⟨N, gs', a', w', sl'', t', q', hr, hs', h0', hX, hL', hT'⟩ := ihM d ((gs.map (woken P x g' (w.at d))).setIfInBounds i g') sl' (t ++ MemOp.ofEvents i x.frame.fn x.frame.place es) (upd q i k) (by rw [hsz']; omega)
              (by
                have hne : i ≠ 0 := by omega
                rw [Array.getElem?_setIfInBounds_ne hne, Array.getElem?_map, h0]
                simp [woken_run hrun])
              ⟨fun j y hj hy => by
                by_cases hji : j = i
                · subst hji
                  rw [Array.getElem?_setIfInBounds_self_of_lt (by simpa using hlt)] at hy
                  obtain rfl := Option.some.inj hy
                  rw [upd_same, Deaf_own]
                  exact hq'
                · rw [upd_ne q k hji]
                  exact l1 j y hj hji hy, fun j hj => l2 j (by simpa using hj)⟩
              (by rw [hsz']; exact hT.mute hpos hlt hm)
            exact ⟨N + 1, gs', a', w', sl'', t', q', by simp only [runNT, hst, hrunT]; exact hr, hs'.trans hsz', h0', hX, hL', hT'⟩
    exact key _ d0 gs sl t q (Nat.lt_succ_self _) h0 hL hT

/-- Goroutine 0 stands at the run's last step. -/
def Last (P : Program) (S : Nat → Prop) (Post : Value → World → Prop) (g : Goroutine) (w : World) : Prop :=
  g.status = .running ∧ ∃ v es, stepG P true g w = .ended (.done v) w es ∧ (∀ e ∈ es, OkE S w.heap.size e) ∧ Post v w
theorem evL_of_okE {B : Nat} {e : Event} (h : OkE S B e) : EvL (ShOf S) B e :=
  ⟨fun _ hx hs => absurd hs (touch_of_okE h hx), (still_of_okE h).1, (still_of_okE h).2, low_of_okE h⟩
theorem co_end {Post : Value → World → Prop} {gs : Array Goroutine} {a : Goroutine} {w : World} {sl : Option (Nat × Nat)} {q : Nat → Nat} (h0 : gs[0]? = some a) (hL : Leavers P t gs q) (hT : Tr S w.heap.size gs.size t) (h : ∀ w₁, Sim S w w₁ → Last P S Post a w₁) :
    ∃ N last o w' t', runNT P (N + 1) (crowd gs w sl) t = (.ended o w', t') ∧ runN P N (crowd gs w sl) = .next last ∧ step P last = .ended o w' ∧ Good P Post last o w' t' := by
  obtain ⟨B', hB', hP⟩ := hT.past
  exact beside_ends (D := fun _ _ _ => False) (B := B') (Shun := ShOf S) (n := 0) (fun _ _ _ h => h.elim) h0 hL hP (fun w1 hw1 => by
    obtain ⟨d, rfl⟩ := hw1
    obtain ⟨h1, v, es, h2, h3, h4⟩ := h _ (Sim.at S w d)
    exact ⟨h1, v, es, h2, fun e he => evL_of_okE ((h3 e he).mono hB'), h4⟩)
end
end Go.Proofs.Ytdafpnpfcmgfcab
