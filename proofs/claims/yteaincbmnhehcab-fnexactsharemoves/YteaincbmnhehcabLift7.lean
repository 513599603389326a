/- The words of the model's own notation are tame. -/
import Derived.Test.YteaincbmnhehcabLift6
import Derived.Laws.Sem
namespace Go.Proofs.Yteaincbmnhehcab
open Go
section
variable {Q P : Program} {S : Nat → Prop} {α β : Type}

theorem tb {Z B : β → Prop} {f : α → Sem β} {s : Sem α} (h : Tame Q P S (fun _ => False) (fun a => Tame Q P S Z B (f a)) s) : Tame Q P S Z B (s >>= f) := tame_bind f s h
theorem tb' {Z B : β → Prop} {f : α → Sem β} {s : Sem α} {A : α → Prop} (h : Tame Q P S (fun _ => False) A s) (hA : ∀ a, A a → Tame Q P S Z B (f a)) : Tame Q P S Z B (s >>= f) := tame_bind f s (tame_mono hA s h)
theorem t_z {Z A : α → Prop} {s : Sem α} (h : Tame Q P S (fun _ => False) A s) : Tame Q P S Z A s := tame_mono' (fun _ h => h.elim) (fun _ h => h) s h
theorem t_any {Z A : α → Prop} {s : Sem α} (h : Tame Q P S (fun _ => False) (fun _ => True) s) (hA : ∀ a, A a) : Tame Q P S Z A s := tame_mono' (fun _ h => h.elim) (fun a _ => hA a) s h
theorem t_pure {Z A : α → Prop} {a : α} (h : A a) : Tame Q P S Z A (pure a) := h
theorem t_stuck {Z A : α → Prop} {m : String} : Tame Q P S Z A (stuck m) := trivial
theorem t_load {Z A : Value → Prop} {a : Addr} {m : Mode} (h : ∀ v, A v) : Tame Q P S Z A (load a m) := fun _ v => h v
theorem t_store {Z A : Unit → Prop} {a : Addr} {x : Value} {m : Mode} (h : A ()) : Tame Q P S Z A (store a x m) := fun _ => h
theorem t_new {Z A : Nat → Prop} {o : Obj} (ho : veil o = o) (h : ∀ r, A r) : Tame Q P S Z A (newObj o) := ⟨ho, fun r _ => h r⟩
theorem t_choose {Z A : Nat → Prop} {q : Question} (h : ∀ n, A n) : Tame Q P S Z A (choose q) := h
theorem t_frozen {Z A : Bool → Prop} {a : Addr} (h : ∀ n, A n) : Tame Q P S Z A (frozen a) := h
theorem t_prog {Z B : β → Prop} {f : Program → Sem β} (h1 : f Q = f P) (h2 : Tame Q P S Z B (f P)) : Tame Q P S Z B (program >>= f) := .inl ⟨h1, h2⟩
theorem t_getObj {Z B : β → Prop} {r : Nat} {f : Obj → Sem β} (h : ∀ o, Tame Q P S Z B (f o)) (hv : ∀ o, f (veil o) = f o) : Tame Q P S Z B (getObj r >>= f) := fun _ => ⟨h, hv⟩
theorem t_setObj {Z A : Unit → Prop} {r : Nat} {o : Obj} (ho : veil o = o) (hc : o.isChan = false) (h : A ()) : Tame Q P S Z A (setObj r o) := fun _ => ⟨⟨ho, hc⟩, h⟩
theorem t_shape {Z B : β → Prop} {r : Nat} {f : Option (TypeId × Nat) → Sem β} (h : ∀ x, Tame Q P S Z B (f x)) (h0 : (∀ t, Doomed Q (f (some (t, 0)))) ∨ ∀ t n, f (some (t, 0)) = f (some (t, n))) : Tame Q P S Z B (shape r >>= f) := ⟨h, .inr h0⟩
theorem t_mark {Z A : Unit → Prop} (h : A ()) : Tame Q P S Z A (mark .noRoom) := ⟨rfl, h⟩

theorem Stubbed.ex (h : Stubbed Q P) : ∃ F, Q = { P with funcs := F } := ⟨Q.funcs, h.eq⟩

theorem t_underlying (hst : Stubbed Q P) {t : TypeId} {Z A : TypeDesc → Prop} (h : ∀ d, P.underlying t = some d → A d) : Tame Q P S Z A (underlying t) := by
  obtain ⟨F, rfl⟩ := hst.ex
  refine t_prog rfl ?_
  split
  · exact h _ ‹_›
  · exact t_stuck
theorem t_typeInfo (hst : Stubbed Q P) {t : TypeId} {Z A : TypeInfo → Prop} (h : ∀ d, P.info? t = some d → A d) : Tame Q P S Z A (typeInfo t) := by
  obtain ⟨F, rfl⟩ := hst.ex
  refine t_prog rfl ?_
  split
  · exact h _ ‹_›
  · exact t_stuck
theorem t_zeroValue (hst : Stubbed Q P) {t : TypeId} {Z A : Value → Prop} (h : ∀ d, A d) : Tame Q P S Z A (zeroValue t) := by
  refine tb (t_typeInfo hst fun i _ => ?_)
  split
  · exact h _
  · exact trivial
theorem t_sizeOf (hst : Stubbed Q P) {t : TypeId} {Z A : Nat → Prop} (h : ∀ i, P.info? t = some i → A i.size) : Tame Q P S Z A (sizeOf t) :=
  tb (t_typeInfo hst fun i hi => h i hi)
theorem t_isAgg (hst : Stubbed Q P) {t : TypeId} {Z A : Bool → Prop} (h : ∀ d, A d) : Tame Q P S Z A (isAgg t) := by
  refine tb (t_underlying hst fun d _ => ?_)
  split <;> exact h _
theorem t_loadCellsFrom {a : Addr} {Z A : Array Value → Prop} (h : ∀ d, A d) : ∀ (n i : Nat) (acc : Array Value), Tame Q P S Z A (loadCellsFrom a i n acc)
  | 0, _, _ => h _
  | n + 1, i, acc => tb (t_load fun v => t_loadCellsFrom h n (i + 1) (acc.push v))
theorem t_loadCells {a : Addr} {n : Nat} {Z A : Array Value → Prop} (h : ∀ d, A d) : Tame Q P S Z A (loadCells a n) := t_loadCellsFrom h _ _ _
theorem t_storeCells {a : Addr} {Z A : Unit → Prop} (h : A ()) : ∀ (vs : List Value) (i : Nat), Tame Q P S Z A (storeCells a vs i)
  | [], _ => h
  | _ :: rest, i => tb (t_store (t_storeCells h rest (i + 1)))
theorem t_loadVar (hst : Stubbed Q P) {t : TypeId} {a : Addr} {Z A : Value → Prop} (h : ∀ d, A d) : Tame Q P S Z A (loadVar t a) := by
  refine tb (t_isAgg hst fun b => ?_)
  split
  · exact tb (t_sizeOf hst fun i _ => tb (t_loadCells fun _ => h _))
  · exact t_load h
theorem t_storeVar (hst : Stubbed Q P) {t : TypeId} {a : Addr} {x : Value} {Z A : Unit → Prop} (h : A ()) : Tame Q P S Z A (storeVar t a x) := by
  refine tb (t_sizeOf hst fun i _ => ?_)
  split
  · exact tb t_stuck
  · exact t_storeCells h _ _
theorem t_newRow {t : TypeId} {c : Array Value} {Z A : Addr → Prop} (h : ∀ d, A d) : Tame Q P S Z A (newRow t c) := tb (t_new rfl fun _ => h _)
theorem t_newVar {t : TypeId} {x : Value} {Z A : Addr → Prop} (h : ∀ d, A d) : Tame Q P S Z A (newVar t x) := t_newRow h
theorem t_elemOf (hst : Stubbed Q P) {t : TypeId} {Z A : TypeId → Prop} (h : ∀ d, A d) : Tame Q P S Z A (elemOf t) := by
  refine tb (t_underlying hst fun d _ => ?_)
  split
  · exact h _
  · exact t_stuck
theorem t_part (hst : Stubbed Q P) {t : TypeId} {cs : Array Value} {off : Nat} {Z A : Value → Prop} (h : ∀ d, A d) : Tame Q P S Z A (part t cs off) := by
  refine tb (t_isAgg hst fun b => ?_)
  split
  · exact tb (t_sizeOf hst fun i _ => h _)
  · split
    · exact h _
    · exact t_stuck
theorem t_goPanic {Z A : α → Prop} {x : Value} : Tame Q P S Z A (goPanic x) := trivial
theorem t_runtimePanic (hst : Stubbed Q P) {e : RuntimeError} {Z A : α → Prop} : Tame Q P S Z A (runtimePanic e) := by
  have hst' := hst
  obtain ⟨F, rfl⟩ := hst.ex
  refine t_prog rfl ?_
  cases e with
  | typeAssertion i c a m => exact tb (t_elemOf hst' fun _ => tb (t_newVar fun _ => t_goPanic))
  | panicNil => exact tb (t_elemOf hst' fun _ => tb (t_newVar fun _ => t_goPanic))
  | _ => exact t_goPanic
theorem t_boundsPanic (hst : Stubbed Q P) {k : IntKind} {x y : Int} {c : BoundsCode} {Z A : α → Prop} : Tame Q P S Z A (boundsPanic k x y c) := by
  unfold boundsPanic
  split
  · exact tb (tb (t_choose fun n => t_pure (t_runtimePanic hst)))
  · exact tb (t_pure (t_runtimePanic hst))
theorem t_asIntOf {x : Value} {Z A : IntKind × Int → Prop} (h : ∀ d, A d) : Tame Q P S Z A (asIntOf x) := by
  unfold asIntOf
  split
  · exact h _
  · exact trivial
  · exact t_stuck
theorem t_asInt {x : Value} {Z A : Int → Prop} (h : ∀ d, A d) : Tame Q P S Z A (asInt x) := tb (t_asIntOf fun _ => h _)
theorem t_asBool {x : Value} {Z A : Bool → Prop} (h : ∀ d, A d) : Tame Q P S Z A (asBool x) := by
  unfold asBool
  split
  · exact h _
  · exact t_stuck
theorem t_asAgg {x : Value} {Z A : Array Value → Prop} (h : ∀ d, A d) : Tame Q P S Z A (asAgg x) := by
  unfold asAgg
  split
  · exact h _
  · exact t_stuck
theorem t_asAddr (hst : Stubbed Q P) {x : Value} {Z A : Addr → Prop} (h : ∀ d, A d) : Tame Q P S Z A (asAddr x) := by
  unfold asAddr
  split
  · exact h _
  · exact t_runtimePanic hst
  · exact t_stuck
theorem t_sureAddr {x : Value} {Z A : Addr → Prop} (h : ∀ d, A d) : Tame Q P S Z A (Instr.sureAddr x) := by
  unfold Instr.sureAddr
  split
  · exact h _
  · exact t_stuck
theorem t_askRoom {n : Nat} {Z A : Unit → Prop} (h : A ()) : Tame Q P S Z A (askRoom n) := by
  unfold askRoom
  split
  · exact t_mark h
  · exact h

/-! ### addresses that are looked at -/
theorem t_noView {a : Addr} {Z A : Unit → Prop} (h : A ()) : Tame Q P S Z A (noView a) := by
  unfold noView viewAt
  simp only [bind_assoc]
  refine t_shape (fun x => ?_) (.inr fun _ _ => rfl)
  cases x with
  | some _ => exact h
  | none =>
    simp only [Option.isSome_none, Bool.false_eq_true, if_false, bind_assoc]
    refine t_getObj (fun o => ?_) (fun o => ?_)
    · cases o <;> first | exact h | exact trivial
    · cases o <;> rfl
end
end Go.Proofs.Yteaincbmnhehcab
