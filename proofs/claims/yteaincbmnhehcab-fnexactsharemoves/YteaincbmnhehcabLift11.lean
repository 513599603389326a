/- The operations in use are tame. -/
import Derived.Test.YteaincbmnhehcabLift10
namespace Go.Proofs.Yteaincbmnhehcab
open Go
section
variable {Q P : Program} {S : Nat → Prop}

theorem eqGuardType_same {F : Array Func} : ∀ (d : Nat) (t : TypeId), Program.eqGuardType { P with funcs := F } d t = P.eqGuardType d t
  | 0, _ => rfl
  | d + 1, t => by
    simp only [Program.eqGuardType, under_same, eqGuardType_same d]
theorem tm_eqGuardIn (hst : Stubbed Q P) {n : Nat} {t : TypeId} {x y : Value} (hb : basic P t = true) : Tm Q P S (Op.eqGuardIn (n + 1) t x y) := by
  unfold Op.eqGuardIn
  refine tb (t_underlying hst fun d hd => ?_)
  rcases basic_cases hb with h | ⟨k, h⟩ | h
  all_goals
    rw [h] at hd
    obtain rfl := Option.some.inj hd
    exact tm_pure
theorem tm_eqGuard (hst : Stubbed Q P) {op : BinOp} {t : TypeId} {x y : Operand} {a b : Value} (hb : op = .eql ∨ op = .neq → basic P t = true) : Tm Q P S (eqGuard op t x y a b) := by
  have hst' := hst
  obtain ⟨F, rfl⟩ := hst.ex
  unfold eqGuard
  by_cases hop : op = .eql ∨ op = .neq
  case neg =>
    cases op <;> first | exact trivial | (simp at hop)
  have hb := hb hop
  have hg : ∀ (a b : Value) (u : Unsupported), (∀ g, u ≠ .initOrder g) → Tm { P with funcs := F } P S (do if ← Op.eqGuardIn Op.maxDepth t a b then unsupported u) := fun a b u hu => by
    refine tmb (tm_eqGuardIn (n := 9999) hst' hb) fun z => ?_
    split
    · exact tm_unsupported hu
    · exact trivial
  have main : Tm { P with funcs := F } P S (match a, b with
      | .nilIface, .nilIface => do
        if (x matches .const _) || (y matches .const _) then return
        if ← Op.eqGuardIn Op.maxDepth t a b then unsupported (.noEntry "binop/eql: two nil values of an interface type with methods, neither of them the literal nil")
      | .agg _, .agg _ => do
        if !(← program).eqGuardType (← program).depth t then return
        if ← Op.eqGuardIn Op.maxDepth t a b then unsupported (.noEntry "binop/eql: two nil values of an interface type with methods, in a part of a struct or an array")
      | _, _ => pure ()) := by
    split
    · have hi : ∀ b : Bool, Tm { P with funcs := F } P S (if b = true then pure () else do if ← Op.eqGuardIn Op.maxDepth t .nilIface .nilIface then unsupported (.noEntry "binop/eql: two nil values of an interface type with methods, neither of them the literal nil")) := fun b => by
        cases b
        · exact hg _ _ (.noEntry _) (by intro _ h; cases h)
        · exact trivial
      exact hi _
    · refine t_prog ?_ (t_prog ?_ ?_)
      · simp only [eqGuardType_same]
      · simp only [depth_same]
        rfl
      · split
        · exact trivial
        · exact hg _ _ (.noEntry _) (by intro _ h; cases h)
    · exact trivial
  rcases hop with rfl | rfl <;> exact main

theorem tm_binOp (hst : Stubbed Q P) {op : BinOp} {t : TypeId} {x y : Value} (hb : op = .eql ∨ op = .neq → basic P t = true) : Tm Q P S (binOp op t x y) := by
  unfold binOp
  split
  · exact tm_shift hst
  · exact tm_shift hst
  · split
    · exact tm_stuck
    · split <;> first | exact tm_intArith | exact tm_intDiv hst | exact tm_intBits | exact tm_intCmp
  · split
    · exact tm_stuck
    · split <;> first | exact tm_floatArith | exact tm_floatCmp
  · split
    · exact tm_stuck
    · exact tm_complexOp
  · exact tm_stringOp
  · exact tmb (tm_equal hst (hb (.inl rfl))) fun _ => tm_pure
  · exact tmb (tm_equal hst (hb (.inr rfl))) fun _ => tm_pure
  · refine tmb (tm_underlying hst) fun d => ?_
    cases d <;> first | exact tm_movedPointer hst | exact tm_movedNumber hst
  all_goals first
    | exact tm_movedNumber hst
    | exact tmb tm_behindNumber fun _ => tmb tm_behindNumber fun _ => tm_addrSub hst
    | exact tmb tm_behindNumber fun _ => tmb tm_behindNumber fun _ => tm_addrCmp hst
    | exact tmb tm_behindNumber fun _ => tm_addrMod hst
    | exact trivial
    | exact tm_stuck

/-- Conversions in use: from number to number, from text to text. -/
def okConv (p : Program) (s d : TypeId) : Bool := match p.underlying s, p.underlying d with
  | some (.int _), some (.int _) | some .string, some .string => true
  | some (.slice e), some .string => (match p.underlying e with | some (.int .u8) => true | _ => false)
  | _, _ => false
theorem tm_forIn {α β : Type} {f : α → β → Sem (ForInStep β)} (h : ∀ a b, Tm Q P S (f a b)) (xs : Array α) (b : β) : Tm Q P S (forIn xs b f) := by
  have key : ∀ (l : List α) (b : β), Tm Q P S (forIn l b f) := fun l => by
    induction l with
    | nil => exact fun b => by rw [List.forIn_nil]; exact tm_pure
    | cons a l ih =>
      intro b
      rw [List.forIn_cons]
      refine tmb (h a b) fun r => ?_
      cases r with
      | done b => exact tm_pure
      | yield b => exact ih b
  rw [← Array.forIn_toList]
  exact key _ b
theorem tm_bytesToString {x : Value} : Tm Q P S (Conv.bytesToString x) := by
  unfold Conv.bytesToString
  split
  · exact tm_pure
  · refine tmb (t_loadCells fun _ => trivial) fun cs => tmb (tm_forIn (fun c b => ?_) cs _) fun _ => tm_pure
    split
    · exact tm_pure
    · exact tm_stuck
  · exact tm_stuck
theorem tm_convert (hst : Stubbed Q P) {s d : TypeId} {x : Value} (h : okConv P s d = true) : Tm Q P S (convert s d x) := by
  unfold convert
  refine tb (t_underlying hst fun d1 h1 => tb (t_underlying hst fun d2 h2 => ?_))
  unfold okConv at h
  rw [h1, h2] at h
  cases d1 <;> cases d2 <;> simp at h
  · cases x with
    | pointer a => cases a <;> exact trivial
    | float s b => exact tm_floatToInt
    | _ => exact trivial
  · cases x <;> exact trivial
  · rename_i e
    have key : ∀ y, Tm Q P S (do
        match ← underlying e with
        | .int .u8 => Conv.bytesToString y
        | .int .i32 => Conv.runesToString y
        | _ => stuck "Convert: a slice of what to string?") := fun y => by
      refine tb (t_underlying hst fun d3 h3 => ?_)
      rw [h3] at h
      split at h
      · rename_i h4
        obtain rfl := Option.some.inj h4
        exact tm_bytesToString
      · cases h
    cases x <;> first | exact key _ | exact trivial

theorem tm_sureAddr {x : Value} : Tm Q P S (Instr.sureAddr x) := t_sureAddr fun _ => trivial
theorem tm_asIntOf {x : Value} : Tm Q P S (asIntOf x) := t_asIntOf fun _ => trivial
theorem tm_zeroValue (hst : Stubbed Q P) {t : TypeId} : Tm Q P S (zeroValue t) := t_zeroValue hst fun _ => trivial
theorem tm_sizeOf (hst : Stubbed Q P) {t : TypeId} : Tm Q P S (sizeOf t) := t_sizeOf hst fun _ _ => trivial
theorem tm_loadVar (hst : Stubbed Q P) {t : TypeId} {a : Addr} : Tm Q P S (loadVar t a) := t_loadVar hst fun _ => trivial
theorem tm_storeVar (hst : Stubbed Q P) {t : TypeId} {a : Addr} {x : Value} : Tm Q P S (storeVar t a x) := t_storeVar hst trivial
theorem tm_newRow {t : TypeId} {c : Array Value} : Tm Q P S (newRow t c) := t_newRow fun _ => trivial
theorem tm_newVar {t : TypeId} {x : Value} : Tm Q P S (newVar t x) := t_newVar fun _ => trivial
theorem tm_part (hst : Stubbed Q P) {t : TypeId} {cs : Array Value} {o : Nat} : Tm Q P S (part t cs o) := t_part hst fun _ => trivial
theorem tm_bounds {α : Type} (hst : Stubbed Q P) {k : IntKind} {x y : Int} {c : BoundsCode} : Tm Q P S (boundsPanic k x y c : Sem α) := t_boundsPanic hst
theorem tm_askRoom {n : Nat} : Tm Q P S (askRoom n) := t_askRoom trivial
theorem tm_loadCells {a : Addr} {n : Nat} : Tm Q P S (loadCells a n) := t_loadCells fun _ => trivial
theorem tm_storeCells {a : Addr} {vs : List Value} {i : Nat} : Tm Q P S (storeCells a vs i) := t_storeCells trivial _ _

theorem tm_alloc (hst : Stubbed Q P) {t : TypeId} : Tm Q P S (Instr.alloc t true (.tuple #[])) := tmb (tm_zeroValue hst) fun _ => tmb tm_newVar fun _ => tm_pure
theorem tm_box {t : TypeId} {x : Value} : Tm Q P S (Instr.box t x) := tmb tm_newVar fun _ => tm_pure
theorem tm_mapM {α β : Type} {f : α → Sem β} (h : ∀ a, Tm Q P S (f a)) (xs : Array α) : Tm Q P S (xs.mapM f) := by
  have key : ∀ l : List α, Tm Q P S (l.mapM f) := fun l => by
    induction l with
    | nil => rw [List.mapM_nil]; exact tm_pure
    | cons a l ih => rw [List.mapM_cons]; exact tmb (h a) fun _ => tmb ih fun _ => tm_pure
  rw [Array.mapM_eq_mapM_toList]
  exact tmb (key _) fun _ => tm_pure
theorem tm_build (hst : Stubbed Q P) {t : TypeId} {parts : Array (Nat × Value)} : Tm Q P S (Instr.build t parts) := by
  unfold Instr.build
  refine tmb (tm_zeroValue hst) fun z => tmb (tm_underlying hst) fun d => ?_
  cases d
  case struct fs =>
    refine tmb (tm_mapM (fun f => tmb (tm_sizeOf hst) fun _ => tm_pure) _) fun ps => ?_
    split
    · exact tm_pure
    · exact tm_stuck
  case array len e =>
    refine tmb (tm_sizeOf hst) fun n => ?_
    split
    · exact tm_pure
    · exact tm_stuck
  all_goals exact tm_stuck
theorem tm_buildSlice (hst : Stubbed Q P) {t : TypeId} {n : Nat} {parts : Array (Nat × Value)} : Tm Q P S (Instr.buildSlice t n parts) := by
  unfold Instr.buildSlice
  refine tmb (tm_underlying hst) fun d => ?_
  cases d
  case slice e =>
    refine tmb (tm_sizeOf hst) fun m => ?_
    dsimp only
    split
    · exact trivial
    repeat' (first | with_reducible exact tm_pure | with_reducible exact tm_stuck | with_reducible refine tmb (tm_zeroValue hst) fun _ => ?_ | with_reducible refine tmb tm_pure fun _ => ?_ | with_reducible refine tmb tm_newRow fun _ => ?_ | dsimp only | split)
  all_goals exact tm_stuck
theorem tm_loadAt (hst : Stubbed Q P) {t : TypeId} {x : Value} : Tm Q P S (Instr.loadAt t x) := tmb tm_sureAddr fun _ => tm_loadVar hst
theorem tm_storeAt (hst : Stubbed Q P) {t : TypeId} {x y : Value} : Tm Q P S (Instr.storeAt t x y) := tmb tm_sureAddr fun _ => tm_storeVar hst
theorem tm_makeInterface (hst : Stubbed Q P) {t : TypeId} {x : Value} : Tm Q P S (Instr.makeInterface t x) := by
  refine tmb (tm_underlying hst) fun d => ?_
  cases d <;> first | exact tm_pure | exact tm_stuck
theorem tm_makeMap (hst : Stubbed Q P) {t : TypeId} {r : Option Value} : Tm Q P S (Instr.makeMap t r) := by
  unfold Instr.makeMap
  cases r with
  | none => exact tmb (t_new rfl fun _ => trivial) fun _ => tm_pure
  | some h =>
    refine tmb (tm_underlying hst) fun d => ?_
    cases d
    case map k e => exact tmb tm_asInt fun _ => tmb (t_new rfl fun _ => trivial) fun _ => tm_pure
    all_goals exact trivial
theorem tm_makeSlice (hst : Stubbed Q P) {t : TypeId} {l c : Value} : Tm Q P S (Instr.makeSlice t l c) := by
  unfold Instr.makeSlice
  refine tmb (tm_underlying hst) fun d => ?_
  cases d
  case slice e =>
    refine tmb tm_asInt fun l => tmb tm_asInt fun c => tmb (tm_typeInfo hst) fun i => ?_
    have rest : ∀ (u : Unit), Tm Q P S (do
        askRoom ((IntKind.i64.wrap c).toNat * i.bytes)
        let n := (IntKind.i64.wrap c).toNat * (← sizeOf e)
        let zero ← if n = 0 then pure #[] else do pure (← zeroValue e).cells
        let a ← newRow e ((Array.range n).map (zero[· % zero.size]!))
        pure (Value.slice (some a) (IntKind.i64.wrap l).toNat (IntKind.i64.wrap c).toNat)) := fun _ => by
      refine tmb tm_askRoom fun _ => tmb (tm_sizeOf hst) fun n => ?_
      dsimp only
      repeat' (first | with_reducible exact tm_pure | with_reducible exact tm_stuck | with_reducible refine tmb (tm_zeroValue hst) fun _ => ?_ | with_reducible refine tmb tm_pure fun _ => ?_ | with_reducible refine tmb tm_newRow fun _ => ?_ | dsimp only | split)
    dsimp only at rest ⊢
    split
    · split
      · exact tmb (tm_panic hst) rest
      · split
        · exact tmb (tm_panic hst) rest
        · exact tmb tm_choose fun _ => tmb (tm_panic hst) rest
    · exact rest ()
  all_goals exact tm_stuck
end
end Go.Proofs.Yteaincbmnhehcab
