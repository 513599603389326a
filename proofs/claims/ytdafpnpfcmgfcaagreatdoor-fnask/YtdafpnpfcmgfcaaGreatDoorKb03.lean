/- A goroutine's step in company, whatever its mode; the way in company, put together. The words of the model's own notation are tame. The operations that yield values are tame: numbers, texts, addresses. Addresses that are looked at, comparisons, sums: tame. The operations in use are tame. -/
import Derived.Test.YtdafpnpfcmgfcaaGreatDoorKb02
import Derived.Laws.Sem
namespace Go.Proofs.YtdafpnpfcmgfcaaGreatDoor
section
open Go
section
variable {Q P : Program} {S : Sh} {K : Goroutine → Prop}
structure StepOk (Q P : Program) (S : Sh) (g : Goroutine) : Prop where
 run : g.status = .running
 dying : g.dying = none
 kind : g.frame.kind = .normal
 round : ∀ l j, g.frame.roundOf = some l → jumpOk j = true → Tame Q P S (fun _ => False) (fun _ => True) (Instr.endRound l j)
 top : g.frame.mode = .run → TopOk Q P S g.frame g.frame.todo
 leave : g.frame.mode ≠ .run → LeaveOk Q P S g.frame
theorem step_couple (hst : Stubbed Q P) {g : Goroutine} (h : StepOk Q P S g) (hK : g.frame.mode = .run → Steady Q P K g.frame g.callers)
  (k1 : ∀ c rest y, g.callers = c :: rest → K { frame := c.finish y, callers := rest, status := .running, dying := none })
  (k2 : ∀ c rest ch, g.callers = c :: rest → K { frame := c.raise ch, callers := rest, status := .running, dying := none })
  (k3 : g.frame.mode ≠ .run → ∀ d ds, g.frame.defers = d :: ds → K { frame := { g.frame with defers := ds }, callers := g.callers, status := .running, dying := none }) (w : World) : InStep S K (fun v => stepG Q true (ext g) v) (stepG P true g w) w := by
 obtain ⟨fr, cs, st, dy, off⟩ := g
 obtain ⟨h1, h2, h3, h4, h5, h6⟩ := h
 dsimp only at h1 h2 h3 h4 h5 h6 hK k1 k2 k3
 subst h2
 cases hm : fr.mode with
 | run =>
  unfold stepG ext
  simp only [hm]
  exact exec_couple hst h3 h4 (h5 hm) (hK hm) w
 | returning =>
  unfold stepG ext
  simp only [hm]
  exact unwind_couple hst (h6 (by rw [hm]; simp)) (by rw [hm]; simp) k1 k2 (k3 (by rw [hm]; simp)) w
 | panicking ch =>
  unfold stepG ext
  simp only [hm]
  exact unwind_couple hst (h6 (by rw [hm]; simp)) (by rw [hm]; simp) k1 k2 (k3 (by rw [hm]; simp)) w
theorem Rb.trans {X Y : Goroutine → World → Prop} {g : Goroutine} {w : World} (h : Rb P S X g w) (hXY : ∀ g w, (∀ w₁, Sim S w w₁ → X g w₁) → Rb P S Y g w) : Rb P S Y g w := by
 induction h with
 | stop h => exact hXY _ _ h
 | step G W E h1 h2 h3 h4 _ ih => exact .step G W E h1 h2 h3 h4 ih
end
end
section
open Go
section
variable {Q P : Program} {S : Sh} {α β : Type}
theorem tb {Z B : β → Prop} {f : α → Sem β} {s : Sem α} (h : Tame Q P S (fun _ => False) (fun a => Tame Q P S Z B (f a)) s) : Tame Q P S Z B (s >>= f) := tame_bind f s h
theorem tb' {Z B : β → Prop} {f : α → Sem β} {s : Sem α} {A : α → Prop} (h : Tame Q P S (fun _ => False) A s) (hA : ∀ a, A a → Tame Q P S Z B (f a)) : Tame Q P S Z B (s >>= f) := tame_bind f s (tame_mono hA s h)
theorem t_pure {Z A : α → Prop} {a : α} (h : A a) : Tame Q P S Z A (pure a) := h
theorem t_stuck {Z A : α → Prop} {m : String} : Tame Q P S Z A (stuck m) := trivial
theorem t_load {Z A : Value → Prop} {a : Addr} {m : Mode} (h : ∀ v, A v) : Tame Q P S Z A (load a m) := fun _ v => h v
theorem t_store {Z A : Unit → Prop} {a : Addr} {x : Value} {m : Mode} (h : A ()) : Tame Q P S Z A (store a x m) := fun _ => h
theorem t_new {Z A : Nat → Prop} {o : Obj} (ho : odd o = false) (h : ∀ r, A r) : Tame Q P S Z A (newObj o) := ⟨ho, fun r _ => h r⟩
theorem t_choose {Z A : Nat → Prop} {q : Question} (h : ∀ n, A n) : Tame Q P S Z A (choose q) := h
theorem t_frozen {Z A : Bool → Prop} {a : Addr} (h : ∀ n, A n) : Tame Q P S Z A (frozen a) := fun n _ => h n
theorem t_prog {Z B : β → Prop} {f : Program → Sem β} (h1 : f Q = f P) (h2 : Tame Q P S Z B (f P)) : Tame Q P S Z B (program >>= f) := .inl ⟨h1, h2⟩
theorem t_getObj {Z B : β → Prop} {r : Nat} {f : Obj → Sem β} (h : ∀ o, Tame Q P S Z B (f o)) (hv : ∀ o, f (veil o) = f o) : Tame Q P S Z B (getObj r >>= f) := fun _ o => .inl ⟨h o, hv o⟩
theorem t_setObj {Z A : Unit → Prop} {r : Nat} {o : Obj} (ho : odd o = false) (hc : o.isChan = false) (h : A ()) : Tame Q P S Z A (setObj r o) := fun _ => ⟨⟨ho, hc⟩, h⟩
theorem t_shape {Z B : β → Prop} {r : Nat} {f : Option (TypeId × Nat) → Sem β} (h : ∀ x, Tame Q P S Z B (f x)) (h0 : (∀ t, Doomed Q (f (some (t, 0)))) ∨ ∀ t n, f (some (t, 0)) = f (some (t, n))) : Tame Q P S Z B (shape r >>= f) := ⟨h, .inr (h0.imp id fun h t n v es _ => congrArg (fun s => Sem.runT Q s v es) (show f (some (t, 0)) = f (some (t, n)) from h t n))⟩
theorem t_mark {Z A : Unit → Prop} (h : A ()) : Tame Q P S Z A (mark .noRoom) := ⟨.inl rfl, h⟩
theorem t_env {Z B : β → Prop} {f : SysRet → Sem β} (h : ∀ r, Tame Q P S Z B (f r)) : Tame Q P S Z B (sys .env >>= f) := ⟨rfl, h⟩
theorem t_markE {Z A : Unit → Prop} {f : FuncId} (h : A ()) : Tame Q P S Z A (mark (.extern f)) := ⟨.inr ⟨f, rfl⟩, h⟩
theorem Stubbed.ex (h : Stubbed Q P) : ∃ F, Q = { P with funcs := F } := ⟨Q.funcs, h.eq⟩
theorem t_underlying (hst : Stubbed Q P) {t : TypeId} {Z A : TypeDesc → Prop} (h : ∀ d, P.underlying t = some d → A d) : Tame Q P S Z A (underlying t) := by
 obtain ⟨F, rfl⟩ := hst.ex
 refine t_prog rfl ?_
 split
 ·exact h _ ‹_›
 ·exact t_stuck
theorem t_typeInfo (hst : Stubbed Q P) {t : TypeId} {Z A : TypeInfo → Prop} (h : ∀ d, P.info? t = some d → A d) : Tame Q P S Z A (typeInfo t) := by
 obtain ⟨F, rfl⟩ := hst.ex
 refine t_prog rfl ?_
 split
 ·exact h _ ‹_›
 ·exact t_stuck
theorem t_zeroValue (hst : Stubbed Q P) {t : TypeId} {Z A : Value → Prop} (h : ∀ d, A d) : Tame Q P S Z A (zeroValue t) := by
 refine tb (t_typeInfo hst fun i _ => ?_)
 split
 ·exact h _
 ·exact trivial
theorem t_sizeOf (hst : Stubbed Q P) {t : TypeId} {Z A : Nat → Prop} (h : ∀ i, P.info? t = some i → A i.size) : Tame Q P S Z A (sizeOf t) :=
 tb (t_typeInfo hst fun i hi => h i hi)
theorem t_isAgg (hst : Stubbed Q P) {t : TypeId} {Z A : Bool → Prop} (h : ∀ d, A d) : Tame Q P S Z A (isAgg t) := by
 refine tb (t_underlying hst fun d _ => ?_)
 split <;> exact h _
theorem t_loadCellsFrom {a : Addr} {Z A : Array Value → Prop} (h : ∀ d, A d) : ∀ (n i : Nat) (acc : Array Value), Tame Q P S Z A (loadCellsFrom a i n acc)
 | 0, _, _ => h _
 | n + 1, i, acc => tb (t_load fun v => t_loadCellsFrom h n (i + 1) (acc.push v))
theorem t_loadCells {a : Addr} {n : Nat} {Z A : Array Value → Prop} (h : ∀ d, A d) : Tame Q P S Z A (loadCells a n) := t_loadCellsFrom h _ _ _
theorem t_storeCells {a : Addr} {Z A : Unit → Prop} (h : A ()) : ∀ (vs : List Value) (i : Nat), Tame Q P S Z A (storeCells a vs i)
 | [], _ => h
 | _ :: rest, i => tb (t_store (t_storeCells h rest (i + 1)))
theorem t_loadVar (hst : Stubbed Q P) {t : TypeId} {a : Addr} {Z A : Value → Prop} (h : ∀ d, A d) : Tame Q P S Z A (loadVar t a) := by
 refine tb (t_isAgg hst fun b => ?_)
 split
 ·exact tb (t_sizeOf hst fun i _ => tb (t_loadCells fun _ => h _))
 ·exact t_load h
theorem t_storeVar (hst : Stubbed Q P) {t : TypeId} {a : Addr} {x : Value} {Z A : Unit → Prop} (h : A ()) : Tame Q P S Z A (storeVar t a x) := by
 refine tb (t_sizeOf hst fun i _ => ?_)
 split
 ·exact tb t_stuck
 ·exact t_storeCells h _ _
theorem t_newRow {t : TypeId} {c : Array Value} {Z A : Addr → Prop} (h : ∀ d, A d) : Tame Q P S Z A (newRow t c) := tb (t_new rfl fun _ => h _)
theorem t_newVar {t : TypeId} {x : Value} {Z A : Addr → Prop} (h : ∀ d, A d) : Tame Q P S Z A (newVar t x) := t_newRow h
theorem t_elemOf (hst : Stubbed Q P) {t : TypeId} {Z A : TypeId → Prop} (h : ∀ d, A d) : Tame Q P S Z A (elemOf t) := by
 refine tb (t_underlying hst fun d _ => ?_)
 split
 ·exact h _
 ·exact t_stuck
theorem t_part (hst : Stubbed Q P) {t : TypeId} {cs : Array Value} {off : Nat} {Z A : Value → Prop} (h : ∀ d, A d) : Tame Q P S Z A (part t cs off) := by
 refine tb (t_isAgg hst fun b => ?_)
 split
 ·exact tb (t_sizeOf hst fun i _ => h _)
 ·split
  ·exact h _
  ·exact t_stuck
theorem t_goPanic {Z A : α → Prop} {x : Value} : Tame Q P S Z A (goPanic x) := trivial
theorem t_runtimePanic (hst : Stubbed Q P) {e : RuntimeError} {Z A : α → Prop} : Tame Q P S Z A (runtimePanic e) := by
 have hst' := hst
 obtain ⟨F, rfl⟩ := hst.ex
 refine t_prog rfl ?_
 cases e with
 | typeAssertion i c a m => exact tb (t_elemOf hst' fun _ => tb (t_newVar fun _ => t_goPanic))
 | panicNil => exact tb (t_elemOf hst' fun _ => tb (t_newVar fun _ => t_goPanic))
 | _ => exact t_goPanic
theorem t_boundsPanic (hst : Stubbed Q P) {k : IntKind} {x y : Int} {c : BoundsCode} {Z A : α → Prop} : Tame Q P S Z A (boundsPanic k x y c) := by
 unfold boundsPanic
 split
 ·exact tb (tb (t_choose fun n => t_pure (t_runtimePanic hst)))
 ·exact tb (t_pure (t_runtimePanic hst))
theorem t_asIntOf {x : Value} {Z A : IntKind × Int → Prop} (h : ∀ d, A d) : Tame Q P S Z A (asIntOf x) := by
 unfold asIntOf
 split
 ·exact h _
 ·exact trivial
 ·exact t_stuck
theorem t_asInt {x : Value} {Z A : Int → Prop} (h : ∀ d, A d) : Tame Q P S Z A (asInt x) := tb (t_asIntOf fun _ => h _)
theorem t_asBool {x : Value} {Z A : Bool → Prop} (h : ∀ d, A d) : Tame Q P S Z A (asBool x) := by
 unfold asBool
 split
 ·exact h _
 ·exact t_stuck
theorem t_asAddr (hst : Stubbed Q P) {x : Value} {Z A : Addr → Prop} (h : ∀ d, A d) : Tame Q P S Z A (asAddr x) := by
 unfold asAddr
 split
 ·exact h _
 ·exact t_runtimePanic hst
 ·exact t_stuck
theorem t_sureAddr {x : Value} {Z A : Addr → Prop} (h : ∀ d, A d) : Tame Q P S Z A (Instr.sureAddr x) := by
 unfold Instr.sureAddr
 split
 ·exact h _
 ·exact t_stuck
theorem t_askRoom {n : Nat} {Z A : Unit → Prop} (h : A ()) : Tame Q P S Z A (askRoom n) := by
 unfold askRoom
 split
 ·exact t_mark h
 ·exact h
theorem t_noView {a : Addr} {Z A : Unit → Prop} (h : A ()) : Tame Q P S Z A (noView a) := by
 unfold noView viewAt
 simp only [bind_assoc]
 refine t_shape (fun x => ?_) (.inr fun _ _ => rfl)
 cases x with
 | some _ => exact h
 | none =>
  simp only [Option.isSome_none, Bool.false_eq_true, if_false, bind_assoc]
  refine t_getObj (fun o => ?_) (fun o => ?_)
  ·cases o <;> first | exact h | exact trivial
  ·rcases veil_cases o with ⟨h1, _⟩ | ⟨h1, h2⟩ <;> rw [h1] <;> cases o <;> first | rfl | cases h2
end
end
section
open Go
section
variable {Q P : Program} {S : Sh}
def Tm {α : Type} (Q P : Program) (S : Sh) (s : Sem α) : Prop := Tame Q P S (fun _ => False) (fun _ => True) s
theorem tmb {α β : Type} {f : α → Sem β} {s : Sem α} (h : Tm Q P S s) (hf : ∀ a, Tm Q P S (f a)) : Tm Q P S (s >>= f) := tb' h fun a _ => hf a
theorem tm_pure {α : Type} {a : α} : Tm Q P S (pure a) := trivial
theorem tm_stuck {α : Type} {m : String} : Tm Q P S (stuck m : Sem α) := trivial
theorem tm_choose {q : Question} : Tm Q P S (choose q) := fun _ => trivial
theorem tm_asBool {x : Value} : Tm Q P S (asBool x) := t_asBool fun _ => trivial
theorem tm_panic {α : Type} (hst : Stubbed Q P) {e : RuntimeError} : Tm Q P S (runtimePanic e : Sem α) := t_runtimePanic hst
theorem tm_floatArith {op : BinOp} {k : FloatKind} {x y : Nat} : Tm Q P S (Op.floatArith op k x y) := by
 unfold Op.floatArith
 cases op
 all_goals refine tmb (by first | exact tm_pure | exact tm_stuck) fun r => ?_
 all_goals cases r with
  | some _ => exact tm_pure
  | none => exact tmb tm_choose fun _ => tm_pure
theorem tm_floatCmp {op : BinOp} {k : FloatKind} {x y : Nat} : Tm Q P S (Op.floatCmp op k x y) := by
 unfold Op.floatCmp
 cases op <;> first | exact tm_pure | exact tm_stuck
theorem tm_floatToFloat {s d : FloatKind} {b : Nat} : Tm Q P S (Conv.floatToFloat s b d) := by
 unfold Conv.floatToFloat
 repeat' (first | with_reducible exact tm_pure | with_reducible exact tm_stuck | with_reducible exact tm_choose | with_reducible refine tmb tm_choose fun _ => ?_ | dsimp only | split | trivial)
theorem tm_floatToInt {s : FloatKind} {d : IntKind} {b : Nat} : Tm Q P S (Conv.floatToInt s b d) := by
 unfold Conv.floatToInt
 repeat' (first | with_reducible exact tm_pure | with_reducible exact tm_stuck | with_reducible exact tm_choose | with_reducible refine tmb tm_choose fun _ => ?_ | dsimp only | split | trivial)
theorem tm_cArith {op : BinOp} {k : FloatKind} {x y : Nat} : Tm Q P S (Op.Complex.arith op k x y) := by
 unfold Op.Complex.arith
 refine tmb tm_floatArith fun r => ?_
 cases r <;> first | exact tm_pure | exact tm_stuck
theorem tm_cCmp {op : BinOp} {k : FloatKind} {x y : Nat} : Tm Q P S (Op.Complex.cmp op k x y) := tmb tm_floatCmp fun _ => tm_asBool
theorem tm_cConv {s d : FloatKind} {x : Nat} : Tm Q P S (Op.Complex.conv s x d) := by
 unfold Op.Complex.conv
 split
 ·exact tm_pure
 ·refine tmb tm_floatToFloat fun r => ?_
  cases r <;> first | exact tm_pure | exact tm_stuck
theorem tm_cAdd {x y : Nat} : Tm Q P S (Op.Complex.add x y) := tm_cArith
theorem tm_cSub {x y : Nat} : Tm Q P S (Op.Complex.sub x y) := tm_cArith
theorem tm_cMul {x y : Nat} : Tm Q P S (Op.Complex.mul x y) := tm_cArith
theorem tm_cQuo {x y : Nat} : Tm Q P S (Op.Complex.quo x y) := tm_cArith
theorem tm_product {a b c d : Nat} : Tm Q P S (Op.Complex.product a b c d) := by
 unfold Op.Complex.product
 repeat' (first | with_reducible exact tm_pure | with_reducible exact tm_cMul | with_reducible exact tm_cAdd | with_reducible exact tm_cSub | with_reducible refine tmb ?_ fun _ => ?_ | dsimp only)
theorem tm_corrected {s a b c d : Nat} : Tm Q P S (Op.Complex.corrected s a b c d) := by
 unfold Op.Complex.corrected
 repeat' (first | with_reducible exact tm_pure | with_reducible exact tm_cMul | with_reducible exact tm_cAdd | with_reducible exact tm_cSub | with_reducible refine tmb ?_ fun _ => ?_ | dsimp only)
theorem tm_quotient {a b c d : Nat} : Tm Q P S (Op.Complex.quotient a b c d) := by
 unfold Op.Complex.quotient
 repeat' (first | with_reducible exact tm_pure | with_reducible exact tm_cMul | with_reducible exact tm_cAdd | with_reducible exact tm_cSub | with_reducible exact tm_cQuo | with_reducible exact tm_cCmp | with_reducible exact tm_corrected | with_reducible refine tmb ?_ fun _ => ?_ | dsimp only | split)
theorem tm_complexOp {op : BinOp} {k : FloatKind} {a b c d : Nat} : Tm Q P S (Op.complexOp op k a b c d) := by
 unfold Op.complexOp
 cases op
 all_goals repeat' (first | with_reducible exact tm_pure | with_reducible exact tm_stuck | with_reducible exact tm_cArith | with_reducible exact tm_cCmp | with_reducible exact tm_cConv | with_reducible exact tm_product | with_reducible exact tm_quotient | with_reducible refine tmb ?_ fun _ => ?_ | dsimp only | split)
theorem tm_intArith {op : BinOp} {k : IntKind} {a b : Int} : Tm Q P S (Op.intArith op k a b) := by
 unfold Op.intArith
 cases op <;> first | exact tm_pure | exact tm_stuck
theorem tm_intDiv (hst : Stubbed Q P) {op : BinOp} {k : IntKind} {a b : Int} : Tm Q P S (Op.intDiv op k a b) := by
 unfold Op.intDiv
 split
 ·exact tm_panic hst
 ·cases op <;> first | exact tm_pure | exact tm_stuck
theorem tm_intBits {op : BinOp} {k : IntKind} {a b : Int} : Tm Q P S (Op.intBits op k a b) := by
 unfold Op.intBits
 cases op <;> first | exact tm_pure | exact tm_stuck
theorem tm_intCmp {op : BinOp} {a b : Int} : Tm Q P S (Op.intCmp op a b) := by
 unfold Op.intCmp
 cases op <;> first | exact tm_pure | exact tm_stuck
theorem tm_shift (hst : Stubbed Q P) {op : BinOp} {k k' : IntKind} {a b : Int} : Tm Q P S (Op.shift op k a k' b) := by
 unfold Op.shift
 split
 ·exact tm_panic hst
 ·cases op <;> first | exact tm_pure | exact tm_stuck
theorem tm_stringOp {op : BinOp} {a b : ByteArray} : Tm Q P S (Op.stringOp op a b) := by
 unfold Op.stringOp
 cases op
 all_goals first | exact tm_pure | exact tm_stuck | (dsimp only; split; (exact trivial); (exact tm_pure))
theorem tm_unary {op : UnOp} {x : Value} : Tm Q P S (Op.unary op x) := by
 unfold Op.unary
 split <;> first | exact tm_pure | exact tm_stuck | exact tm_intArith | exact tm_intBits | exact trivial
end
end
section
open Go
section
variable {Q P : Program} {S : Sh}
theorem tm_numberAt {r : Nat} : Tm Q P S (numberAt r) := by
 unfold numberAt
 refine t_shape (fun x => ?_) (.inr fun _ _ => rfl)
 cases x with
 | some _ => exact trivial
 | none =>
  simp only [Option.isSome_none, Bool.false_eq_true, if_false]
  refine t_getObj (fun o => ?_) (fun o => ?_)
  ·cases o <;> exact trivial
  ·rcases veil_cases o with ⟨h1, _⟩ | ⟨h1, h2⟩ <;> rw [h1] <;> cases o <;> first | rfl | cases h2
theorem t_viewAt {β : Type} {Z A : β → Prop} {r : Nat} {f : Option (Addr × TypeId) → Sem β} (h : ∀ o, Tame Q P S Z A (f o)) (hs : ∀ x y, f (some x) = f (some y)) : Tame Q P S Z A (viewAt r >>= f) := by
 unfold viewAt
 simp only [bind_assoc]
 refine t_shape (fun x => ?_) (.inr fun _ _ => rfl)
 cases x with
 | some _ => exact h none
 | none =>
  simp only [Option.isSome_none, Bool.false_eq_true, if_false, bind_assoc]
  refine t_getObj (fun o => ?_) (fun o => ?_)
  ·cases o <;> exact h _
  ·rcases veil_cases o with ⟨h1, _⟩ | ⟨h1, h2⟩ <;> rw [h1] <;> cases o <;> first | rfl | exact hs _ _ | cases h2
theorem tm_behindNumber {a : Addr} : Tm Q P S (behindNumber a) := tmb tm_numberAt fun _ => tm_pure
theorem tm_asNumber {a : Addr} {l : Bool} : Tm Q P S (asNumber a l) := tmb (t_new rfl fun _ => trivial) fun _ => tm_pure
theorem tm_asInt {x : Value} : Tm Q P S (asInt x) := t_asInt fun _ => trivial
theorem tm_underlying (hst : Stubbed Q P) {t : TypeId} : Tm Q P S (underlying t) := t_underlying hst fun _ _ => trivial
theorem tm_typeInfo (hst : Stubbed Q P) {t : TypeId} : Tm Q P S (typeInfo t) := t_typeInfo hst fun _ _ => trivial
theorem tm_unsupported {α : Type} {u : Unsupported} (h : ∀ g, u ≠ .initOrder g := by intro _ h; cases h) : Tm Q P S (unsupported u : Sem α) := by
 cases u <;> first | exact trivial | exact absurd rfl (h _)
theorem under_same {F : Array Func} (t : TypeId) : Program.underlying { P with funcs := F } t = P.underlying t := rfl
theorem cells_same {F : Array Func} (t : TypeId) : Program.cellsOf { P with funcs := F } t = P.cellsOf t := rfl
theorem bytes_same {F : Array Func} (t : TypeId) : Program.bytesOf { P with funcs := F } t = P.bytesOf t := rfl
theorem byteOfCell_same {F : Array Func} : ∀ (d : Nat) (t : TypeId) (o : Nat), byteOfCell { P with funcs := F } d t o = byteOfCell P d t o
 | 0, _, _ => rfl
 | d + 1, t, o => by
  simp only [byteOfCell, under_same, cells_same, bytes_same, byteOfCell_same d]
  rfl
theorem cellOfByte_same {F : Array Func} : ∀ (d : Nat) (t : TypeId) (o : Nat), cellOfByte { P with funcs := F } d t o = cellOfByte P d t o
 | 0, _, _ => rfl
 | d + 1, t, o => by
  simp only [cellOfByte, under_same, cells_same, bytes_same, cellOfByte_same d]
  rfl
theorem cellAtBytes_same {F : Array Func} (d : Nat) (e : TypeId) (c o : Nat) (b : Int) : cellAtBytes { P with funcs := F } d e c o b = cellAtBytes P d e c o b := by
 simp only [cellAtBytes, cells_same, bytes_same, byteOfCell_same, cellOfByte_same]
 rfl
theorem depth_same {F : Array Func} : Program.depth { P with funcs := F } = P.depth := rfl
theorem tm_byteOf (hst : Stubbed Q P) {a : Addr} : Tm Q P S (byteOf a) := by
 obtain ⟨F, rfl⟩ := hst.ex
 unfold byteOf
 split
 ·exact tm_pure
 refine t_prog ?_ ?_
 ·simp only [cells_same, bytes_same, byteOfCell_same, depth_same]
 refine tmb (t_noView trivial) fun _ => ?_
 refine t_shape (fun x => ?_) (.inr fun _ _ => rfl)
 cases x with
 | none => exact trivial
 | some x =>
  dsimp only
  split
  ·exact tm_pure
  ·split
   ·exact tm_pure
   ·exact tm_stuck
theorem cellAt_none (p : Program) (d : Nat) (e : TypeId) (o : Nat) (b : Int) (s : Nat) : cellAtBytes p d e (0 / s) o b = none := by
 unfold cellAtBytes
 simp only [Nat.zero_div, Nat.zero_mul]
 repeat' (first | rfl | split | (simp only [bind, Option.bind]))
 all_goals first | rfl | (simp_all; omega)
theorem tm_unsafeAdd (hst : Stubbed Q P) {ts : Array TypeId} {t : TypeId} {x y : Value} : Tm Q P S (Builtin.unsafeAdd_ ts t #[x, y]) := by
 obtain ⟨F, rfl⟩ := hst.ex
 unfold Builtin.unsafeAdd_
 cases x
 case pointer ptr =>
  refine tmb tm_asInt fun n => ?_
  dsimp only
  by_cases h0 : n = 0
  ·simp only [h0, if_true]
   cases ptr with
   | none => exact trivial
   | some a =>
    refine t_viewAt (fun o => ?_) (fun _ _ => rfl)
    cases o <;> exact trivial
  ·simp only [h0, if_false]
   by_cases h1 : n < 0
   ·simp only [h1, if_true]
    exact trivial
   ·simp only [h1, if_false]
    cases ptr with
    | none => exact trivial
    | some a =>
     refine t_shape (fun x => ?_) (.inl fun t => ?_)
     ·cases x with
      | none => exact trivial
      | some x =>
       refine t_prog ?_ ?_
       ·simp only [cells_same, cellAtBytes_same, depth_same]
       ·split
        ·exact tm_pure
        ·exact trivial
     ·show Doomed _ (program >>= _)
      simp only [cellAt_none]
      exact trivial
 all_goals exact tm_stuck
end
end
section
open Go
section
variable {Q P : Program} {S : Sh}
theorem tm_movedNumber (hst : Stubbed Q P) {t : TypeId} {x y : Value} : Tm Q P S (movedNumber t x y) := by
 unfold movedNumber
 refine tmb (tm_underlying hst) fun d => ?_
 dsimp only
 split
 ·exact trivial
 simp only [Bool.false_eq_true, if_false]
 cases x
 case pointer a =>
  cases a with
  | none => exact tm_unsafeAdd hst
  | some n =>
   refine tmb tm_behindNumber fun z => ?_
   refine tmb (tm_unsafeAdd hst) fun v => ?_
   split
   ·exact tm_asNumber
   ·exact tm_pure
 all_goals exact tm_unsafeAdd hst
theorem tm_movedPointer (hst : Stubbed Q P) {t : TypeId} {x y : Value} : Tm Q P S (movedPointer t x y) := by
 unfold movedPointer
 split
 ·refine tmb tm_numberAt fun d => ?_
  dsimp only
  split
  ·exact trivial
  ·exact tm_unsafeAdd hst
 ·exact tm_unsafeAdd hst
theorem tm_twoPlaces (hst : Stubbed Q P) {a b : Addr} : Tm Q P S (Op.twoPlaces a b) := by
 have hst' := hst
 obtain ⟨F, rfl⟩ := hst.ex
 unfold Op.twoPlaces
 refine t_prog rfl ?_
 split
 ·exact trivial
 ·exact tmb (tm_byteOf hst') fun _ => tmb (tm_byteOf hst') fun _ => tm_pure
theorem tm_addrSub (hst : Stubbed Q P) {k : IntKind} {a b : Addr} : Tm Q P S (Op.addrSub k a b) := tmb (tm_twoPlaces hst) fun _ => tm_pure
theorem tm_addrCmp (hst : Stubbed Q P) {op : BinOp} {a b : Addr} : Tm Q P S (Op.addrCmp op a b) := by
 refine tmb (tm_twoPlaces hst) fun _ => ?_
 cases op <;> first | exact tm_pure | exact trivial
theorem tm_addrMod (hst : Stubbed Q P) {k : IntKind} {a : Addr} {n : Int} : Tm Q P S (Op.addrMod k a n) := by
 unfold Op.addrMod
 refine t_shape (fun x => ?_) (.inr fun _ _ => rfl)
 cases x with
 | none => exact trivial
 | some x =>
  refine tmb (tm_typeInfo hst) fun i => ?_
  dsimp only
  split
  ·exact trivial
  ·exact tmb (tm_byteOf hst) fun _ => tm_pure
def basic (p : Program) (t : TypeId) : Bool := match p.underlying t with
 | some .bool | some (.int _) | some .string => true
 | _ => false
theorem basic_cases {t : TypeId} (h : basic P t = true) : P.underlying t = some .bool ∨ (∃ k, P.underlying t = some (.int k)) ∨ P.underlying t = some .string := by
 unfold basic at h
 split at h
 ·exact .inl ‹_›
 ·exact .inr (.inl ⟨_, ‹_›⟩)
 ·exact .inr (.inr ‹_›)
 ·cases h
theorem tm_equalIn (hst : Stubbed Q P) {n : Nat} {t : TypeId} {x y : Value} (hb : basic P t = true) : Tm Q P S (Op.equalIn (n + 1) t x y) := by
 have hst' := hst
 obtain ⟨F, rfl⟩ := hst.ex
 unfold Op.equalIn
 refine tb (t_underlying hst' fun d hd => ?_)
 rcases basic_cases hb with h | ⟨k, h⟩ | h
 ·obtain rfl : d = .bool := by rw [h] at hd; exact (Option.some.inj hd).symm
  cases x <;> first | exact tm_stuck | (cases y <;> first | exact tm_stuck | exact tm_pure)
 ·obtain rfl : d = .int k := by rw [h] at hd; exact (Option.some.inj hd).symm
  have two : ∀ a b : Addr, Tm { P with funcs := F } P S (do
    let (a, b) := ((← behindNumber a).1, (← behindNumber b).1)
    if a.block == b.block && a.block < (← program).globals.size then return (← byteOf a) == (← byteOf b)
    let .named "sync.copyChecker" _ := (← typeInfo t).desc | unsupported .addressObserved
    if a == b then pure true else unsupported .addressObserved) := by
   intro a b
   refine tmb tm_behindNumber fun u => ?_
   refine tmb tm_behindNumber fun u' => ?_
   refine t_prog rfl ?_
   split
   ·exact tmb (tm_byteOf hst') fun _ => tmb (tm_byteOf hst') fun _ => tm_pure
   ·refine tmb (tm_typeInfo hst') fun i => ?_
    split
    ·split
     ·exact tm_pure
     ·exact trivial
    ·exact trivial
  cases x with
  | int k1 a =>
   cases y with
   | int k2 b => dsimp only; split <;> first | exact tm_pure | exact tm_stuck
   | pointer p =>
    cases p with
    | none => exact trivial
    | some _ =>
     dsimp only
     cases a with
     | ofNat m => cases m <;> exact trivial
     | negSucc m => exact trivial
   | _ => exact tm_stuck
  | pointer p =>
   cases p with
   | none => cases y <;> exact trivial
   | some a =>
    cases y with
    | int k2 b =>
     dsimp only
     cases b with
     | ofNat m => cases m <;> exact trivial
     | negSucc m => exact trivial
    | pointer p' =>
     cases p' with
     | none => exact trivial
     | some b => exact two a b
    | _ => exact trivial
  | _ => cases y <;> first | exact tm_stuck | exact trivial
 ·obtain rfl : d = .string := by rw [h] at hd; exact (Option.some.inj hd).symm
  cases x <;> first | exact tm_stuck | (cases y <;> first | exact tm_stuck | exact tm_pure)
theorem tm_equal (hst : Stubbed Q P) {t : TypeId} {x y : Value} (hb : basic P t = true) : Tm Q P S (Op.equal t x y) := tm_equalIn (n := 9999) hst hb
end
end
end Go.Proofs.YtdafpnpfcmgfcaaGreatDoor
