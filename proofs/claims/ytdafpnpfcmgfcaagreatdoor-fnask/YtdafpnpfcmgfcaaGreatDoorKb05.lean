/- What is asked of an operation, as a reckoning; an operation of which it holds is tame. Programs whose functions in use are tame: what is kept on the way. -/
import Derived.Test.YtdafpnpfcmgfcaaGreatDoorKb04
namespace Go.Proofs.YtdafpnpfcmgfcaaGreatDoor
section
open Go
section
variable {Q P : Program} {S : Sh}
theorem tm_followBlind (hst : Stubbed Q P) : ∀ (l : List FieldStep) (t : TypeId) (x : Option Value), Tm Q P S (followBlind l t x)
 | [], _, _ => tm_pure
 | s :: rest, t, x => by
  unfold followBlind
  refine tmb (tm_underlying hst) fun d => ?_
  cases d
  case struct fs =>
   dsimp only
   split
   ·split
    ·exact tm_pure
    ·exact tm_followBlind hst rest _ _
    ·exact tm_stuck
    ·exact tm_pure
    ·exact tmb (tm_part hst) fun _ => tm_followBlind hst rest _ _
    ·exact tm_stuck
    ·exact tm_followBlind hst rest _ _
   ·exact tm_stuck
  all_goals exact tm_stuck
theorem tm_nilAhead (hst : Stubbed Q P) : ∀ (n : Nat) (t : TypeId) (x : Value) (m : String), Tm Q P S (nilAhead n t x m)
 | 0, _, _, _ => tm_pure
 | n + 1, t, x, m => by
  unfold nilAhead
  refine tmb (tm_typeInfo hst) fun i => ?_
  split
  ·refine tmb (tm_followBlind hst _ _ _) fun r => ?_
   split
   ·exact tm_pure
   ·split
    ·exact tm_nilAhead hst n _ _ _
    ·exact tm_pure
    ·exact tm_stuck
    ·exact tm_pure
    ·exact tm_pure
    ·refine tmb (tm_underlying hst) fun d => ?_
     split <;> exact tm_pure
  ·exact tm_stuck
def Bodied (Q P : Program) : Prop := ∀ (f : Nat) (fn : Func), Q.funcs[f]? = some fn → (fn.name == "runtime.NumGoroutine") = false ∧ (fn.body.isNone = true → Extern.findNext fn = none ∧ ∃ e, Extern.find fn = some e ∧ ∀ (S : Sh) (args : Array Value), Tm Q P S (e args))
theorem t_callFunc (hst : Stubbed Q P) (hB : Bodied Q P) {f : FuncId} {args : Array Value} : Tame Q P S (ZN Q) OkNext (callFunc f args) := by
 unfold callFunc
 rcases hst.fn f with e | ⟨g, why, e1, e2⟩
 ·refine t_prog (by simp only [e]) ?_
  rw [← e]
  cases h : Q.funcs[f]? with
  | none => exact t_stuck
  | some fn =>
   obtain ⟨h2, h1⟩ := hB f fn h
   simp only [h2, Bool.false_eq_true, if_false]
   cases hb : fn.body.isNone
   ·simp only [Bool.false_eq_true, if_false]
    exact trivial
   ·obtain ⟨h3, x, h4, h5⟩ := h1 hb
    simp only [if_true, h3, h4]
    exact tb' (A := fun _ => True) (t_markE trivial) fun _ _ => tb' (h5 S args) fun _ _ => trivial
 ·obtain ⟨h2, _⟩ := hB f _ e2
  refine .inr ⟨.enter f args, ?_, g, why, e2⟩
  show (match Q.funcs[f]? with | none => _ | some fn => _) = _
  rw [e2]
  simp only [h2, Option.isNone_some, Bool.false_eq_true, if_false]
  rfl
theorem tm_get (hst : Stubbed Q P) {t : TypeId} (x : Place) : Tm Q P S (x.get t) := by
 cases x
 ·exact tm_pure
 ·exact tm_loadVar hst
theorem tm_follow (hst : Stubbed Q P) : ∀ (l : List FieldStep) (t : TypeId) (x : Place), Tm Q P S (follow l t x)
 | [], _, _ => tm_pure
 | s :: rest, t, x => by
  unfold follow
  refine tmb (tm_underlying hst) fun d => ?_
  cases d
  case struct fs =>
   dsimp only
   split
   ·split
    ·exact tmb (tm_get hst x) fun y => tmb (t_asAddr hst fun _ => trivial) fun a => tmb (tm_fieldPlace hst) fun b => tm_follow hst rest _ _
    ·cases x with
     | var a => exact tmb (tm_fieldPlace hst) fun b => tm_follow hst rest _ _
     | val y =>
      cases y <;> first | exact tmb (tm_part hst) fun b => tm_follow hst rest _ _ | exact tm_stuck
   ·exact tm_stuck
  all_goals exact tm_stuck
theorem tm_ssaWrap (hst : Stubbed Q P) {xt : TypeId} {y : Value} {name : String} : Tm Q P S (Builtin.ssaWrapNilChk_ #[xt] xt #[y, strVal "", strVal name]) := by
 unfold Builtin.ssaWrapNilChk_ strVal
 cases y with
 | pointer a =>
  cases a with
  | some a => exact tm_pure
  | none =>
   dsimp only
   refine tmb tm_choose fun n => ?_
   split
   ·refine tmb (t_runtimePanic hst) fun _ => ?_
    repeat' (first | exact tm_pure | exact tm_stuck | exact t_runtimePanic hst | exact tm_unsupported (fun _ => by simp) | refine tmb (tm_underlying hst) fun _ => ?_ | refine tmb (tm_typeInfo hst) fun _ => ?_ | split)
   ·repeat' (first | exact tm_pure | exact tm_stuck | exact t_runtimePanic hst | exact tm_unsupported (fun _ => by simp) | refine tmb (tm_underlying hst) fun _ => ?_ | refine tmb (tm_typeInfo hst) fun _ => ?_ | split)
 | _ => exact tm_stuck
theorem tm_receiverAt (hst : Stubbed Q P) {xt : TypeId} {x : Place} {p : Bool} {wr : Option String} : Tm Q P S (receiverAt xt x p wr) := by
 unfold receiverAt
 refine tmb (tm_underlying hst) fun d => ?_
 split
 ·exact tm_get hst _
 ·refine tmb (tm_get hst _) fun y => ?_
  cases wr
  ·exact tmb tm_pure fun z => tmb (t_asAddr hst fun _ => trivial) fun a => tm_loadVar hst
  ·exact tmb (tm_ssaWrap hst) fun z => tmb (t_asAddr hst fun _ => trivial) fun a => tm_loadVar hst
 ·exact tm_pure
 ·exact tm_stuck
 ·exact tm_get hst _
theorem tm_method (hst : Stubbed Q P) : ∀ (n : Nat) (t : TypeId) (x : Value) (m : String), Tm Q P S (method n t x m)
 | 0, _, _, _ => tm_unsupported (fun _ => by simp)
 | n + 1, t, x, m => by
  unfold method
  refine tmb (tm_typeInfo hst) fun i => ?_
  split
  ·refine tmb (tm_follow hst _ _ _) fun r => ?_
   obtain ⟨xt, y⟩ := r
   dsimp only
   split
   ·refine tmb (tm_get hst y) fun z => ?_
    split
    ·exact tm_method hst n _ _ _
    ·exact t_runtimePanic hst
    ·exact tm_stuck
   ·exact tmb (tm_receiverAt hst) fun z => tm_pure
  ·exact tm_stuck
theorem t_callMethod (hst : Stubbed Q P) (hB : Bodied Q P) {x : Value} {m : String} {args : Array Value} : Tame Q P S (ZN Q) OkNext (callMethod x m args) := by
 unfold callMethod
 split
 ·have hst' := hst
  obtain ⟨F, rfl⟩ := hst.ex
  refine t_prog rfl ?_
  exact tb' (tm_method hst' _ _ _ _) fun r _ => t_callFunc hst' hB
 ·exact t_runtimePanic hst
 ·exact t_stuck
theorem t_getLoop {β : Type} {Z B : β → Prop} {l : Nat} {f : Loop → Sem β} (h : ∀ r, odd (.loop r) = false → Tame Q P S Z B (f r)) : Tame Q P S Z B (Instr.getLoop l >>= f) := by
 refine fun _ o => ?_
 by_cases hl : ∃ r, o = .loop r
 ·obtain ⟨r, rfl⟩ := hl
  rcases veil_cases (.loop r) with ⟨h1, h2⟩ | ⟨h1, h2⟩
  ·left
   rw [h1]
   exact ⟨h r h2, rfl⟩
  ·right
   rw [h1]
   exact trivial
 ·right
  rcases veil_cases o with ⟨h1, _⟩ | ⟨h1, _⟩ <;> rw [h1] <;> cases o <;> first | exact trivial | exact absurd ⟨_, rfl⟩ hl
theorem loop_still {r : Loop} (h : odd (.loop r) = false) {st : LoopState} {j : Option Code} (hj : jumpOk j = true) : odd (.loop { r with state := st, pending := j }) = false := by
 simp only [odd, Bool.not_eq_false', Bool.and_eq_true] at h ⊢
 exact ⟨h.1, hj⟩
theorem loop_parts {r : Loop} (h : odd (.loop r) = false) : synCode r.assign = true ∧ synCode r.body = true ∧ jumpOk r.pending = true := by
 simp only [odd, Bool.not_eq_false', Bool.and_eq_true] at h
 exact ⟨h.1.1, h.1.2, h.2⟩
theorem t_yield {l : Nat} {args : Array Value} : Tame Q P S (ZN Q) OkNext (Instr.yield l args) := by
 refine t_getLoop fun r hr => ?_
 dsimp only
 split
 ·exact t_stuck
 ·exact ⟨(loop_parts hr).1, (loop_parts hr).2.1⟩
theorem t_endRound {l : Nat} {j : Option Code} (hj : jumpOk j = true) : Tm Q P S (Instr.endRound l j) :=
 t_getLoop fun _ hr => tmb (t_setObj (loop_still hr hj) rfl trivial) fun _ => tm_pure
theorem t_endLoop (hst : Stubbed Q P) {l : Nat} : Tame Q P S (fun _ => False) (fun j => jumpOk j = true) (Instr.endLoop l) := by
 refine t_getLoop fun r hr => ?_
 have h3 := (loop_parts hr).2.2
 dsimp only
 split
 ·exact tb' (A := fun _ => False) (t_runtimePanic hst) fun _ h => h.elim
 ·exact tb' (A := fun _ => True) (t_setObj (loop_still (j := r.pending) hr h3) rfl trivial) fun _ _ => h3
theorem t_beginRound (hst : Stubbed Q P) {l : Nat} : Tm Q P S (Instr.beginRound l) := by
 refine t_getLoop fun r hr => ?_
 refine tmb (t_setObj (loop_still (j := r.pending) hr (loop_parts hr).2.2) rfl trivial) fun _ => ?_
 cases r.state
 ·exact tm_pure
 all_goals exact t_runtimePanic hst
theorem t_takeDeferred {r : Nat} : Tame Q P S (fun _ => False) (fun ds => ds = []) (Instr.takeDeferred r) := by
 refine fun _ o => ?_
 by_cases hd : ∃ ds, o = .deferred (some ds)
 ·obtain ⟨ds, rfl⟩ := hd
  cases ds with
  | nil => exact .inl ⟨fun _ => ⟨⟨rfl, rfl⟩, rfl⟩, by rw [veil_of rfl]⟩
  | cons d ds =>
   right
   have h1 : veil (.deferred (some (d :: ds))) = oddX := rfl
   rw [h1]
   exact trivial
 ·right
  rcases veil_cases o with ⟨h1, _⟩ | ⟨h1, _⟩
  ·rw [h1]
   cases o with
   | deferred c => cases c with
    | none => exact trivial
    | some ds => exact absurd ⟨ds, rfl⟩ hd
   | _ => exact trivial
  ·rw [h1]
   cases o <;> exact trivial
theorem t_enterLoop {fn : FuncId} {tmps : Array Value} {ps : Array Tmp} {a b : Code} (ha : synCode a = true) (hb : synCode b = true) {ro : Option Nat} : Tame Q P S (fun _ => False) MarkOk (Instr.enterLoop fn tmps ps a b ro) := by
 have hodd : ∀ d, odd (.loop { state := .ready, pending := none, fn, tmps, params := ps, assign := a, body := b, defers := d }) = false := fun d => by simp [odd, ha, hb, jumpOk]
 unfold Instr.enterLoop
 cases ro with
 | none => exact ⟨rfl, fun r _ => ⟨hodd r, fun l _ d hd => ⟨r, by simpa using hd⟩⟩⟩
 | some l => exact t_getLoop fun r _ => ⟨hodd _, fun l _ d hd => by cases hd⟩
theorem t_invoke (hst : Stubbed Q P) (hB : Bodied Q P) {t : Target} {args : Array Value} (h1 : ∀ b x y z, t ≠ .builtin b x y z) (h2 : ∀ c, t ≠ .coroexit c) : Tame Q P S (ZN Q) OkNext (invoke t args) := by
 unfold invoke
 split
 ·exact t_runtimePanic hst
 ·exact absurd rfl (h1 _ _ _ _)
 ·exact t_callFunc hst hB
 ·split
  ·exact t_callMethod hst hB
  ·exact t_stuck
 ·split
  ·exact tb' (A := fun _ => True) (tm_underlying hst) fun d _ => t_callMethod hst hB
  ·exact t_stuck
 ·split
  ·exact tb' (A := fun _ => True) (tmb (tm_follow hst _ _ _) fun r => tm_receiverAt hst) fun y _ => t_callFunc hst hB
  ·exact t_stuck
 ·exact t_yield
 ·exact t_stuck
 ·exact absurd rfl (h2 _)
theorem t_callValue (hst : Stubbed Q P) (hB : Bodied Q P) {f : Value} {args : Array Value} : Tame Q P S (ZN Q) OkNext (do let d ← Deferred.ofValue f args; invoke d.target d.args) := by
 unfold Deferred.ofValue
 split
 ·exact t_invoke hst hB (t := .fn _ _) (fun _ _ _ _ => by simp) (fun _ => by simp)
 ·exact t_invoke hst hB (t := .nil) (args := args) (fun _ _ _ _ => by simp) (fun _ => by simp)
 ·exact t_stuck
theorem tm_sliceBound (hst : Stubbed Q P) {x : Value} {y : Nat} {c : BoundsCode} : Tm Q P S (Instr.sliceBound x y c) := by
 unfold Instr.sliceBound
 refine tmb tm_asIntOf fun r => ?_
 obtain ⟨k, i⟩ := r
 dsimp only
 split
 ·exact tm_pure
 ·exact t_boundsPanic hst
theorem tm_sliceBounds (hst : Stubbed Q P) {b : Bool} {len cap : Nat} {lo hi mx : Option Value} : Tm Q P S (Instr.sliceBounds b len cap lo hi mx) := by
 unfold Instr.sliceBounds
 cases mx with
 | none =>
  refine tmb tm_pure fun m => ?_
  cases hi with
  | none =>
   refine tmb tm_pure fun h => ?_
   cases lo with
   | none => exact tmb tm_pure fun _ => tm_pure
   | some x => exact tmb (tm_sliceBound hst) fun _ => tm_pure
  | some y =>
   refine tmb (tm_sliceBound hst) fun h => ?_
   cases lo with
   | none => exact tmb tm_pure fun _ => tm_pure
   | some x => exact tmb (tm_sliceBound hst) fun _ => tm_pure
 | some z =>
  refine tmb (tm_sliceBound hst) fun m => ?_
  cases hi with
  | none =>
   refine tmb tm_stuck fun h => ?_
   cases lo with
   | none => exact tmb tm_pure fun _ => tm_pure
   | some x => exact tmb (tm_sliceBound hst) fun _ => tm_pure
  | some y =>
   refine tmb (tm_sliceBound hst) fun h => ?_
   cases lo with
   | none => exact tmb tm_pure fun _ => tm_pure
   | some x => exact tmb (tm_sliceBound hst) fun _ => tm_pure
theorem tm_slice (hst : Stubbed Q P) {t : TypeId} {x : Value} {lo hi mx : Option Value} : Tm Q P S (Instr.slice t x lo hi mx) := by
 unfold Instr.slice
 refine tmb (tm_underlying hst) fun d => ?_
 split
 ·split
  ·exact tmb tm_stuck fun _ => tmb (tm_sliceBounds hst) fun _ => tm_pure
  ·exact tmb (tm_sliceBounds hst) fun _ => tm_pure
 ·exact tmb (tm_sliceBounds hst) fun _ => tmb (t_sizeOf hst fun _ _ => trivial) fun _ => tm_pure
 ·refine tmb (t_asAddr hst fun _ => trivial) fun a => tmb (tm_underlying hst) fun d => ?_
  cases d <;> first | exact tmb (tm_sliceBounds hst) fun _ => tmb (t_sizeOf hst fun _ _ => trivial) fun _ => tm_pure | exact tm_stuck
 ·exact tm_stuck
theorem tm_sliceAt (hst : Stubbed Q P) {t : TypeId} {x : Value} {lo hi mx : Option Value} : Tm Q P S (Instr.sliceAt t x lo hi mx) := by
 unfold Instr.sliceAt
 refine tmb (tm_underlying hst) fun d => ?_
 split
 ·exact tmb (t_sureAddr fun _ => trivial) fun _ => tmb (tm_sliceBounds hst) fun _ => tmb (t_sizeOf hst fun _ _ => trivial) fun _ => tm_pure
 ·exact tm_slice hst
theorem tm_typeAssert (hst : Stubbed Q P) {x : Value} {t u : TypeId} {ok : Bool} : Tm Q P S (Instr.typeAssert x t u ok) := by
 have hf : ∀ (a b : Option TypeId) (m : String), Tm Q P S (do if ok = true then pure (Value.tuple #[← zeroValue u, .bool false]) else runtimePanic (.typeAssertion a b u m)) := fun a b m => by
  split
  ·exact tmb (tm_zeroValue hst) fun _ => tm_pure
  ·exact t_runtimePanic hst
 unfold Instr.typeAssert
 refine tmb (tm_underlying hst) fun d => ?_
 split
 ·exact hf _ _ _
 ·refine tmb (tm_typeInfo hst) fun i => ?_
  split
  ·exact tm_pure
  ·exact hf _ _ _
 ·exact hf _ _ _
 ·split
  ·exact tm_pure
  ·exact hf _ _ _
 ·exact tm_stuck
theorem tm_cap (hst : Stubbed Q P) {ts : Array TypeId} {t : TypeId} {args : Array Value} : Tm Q P S (Builtin.cap_ ts t args) := by
 unfold Builtin.cap_
 split
 ·refine tmb (tm_underlying hst) fun d => ?_
  split
  ·exact tm_pure
  ·refine tmb (tm_underlying hst) fun d => ?_
   cases d <;> first | exact tm_pure | exact tm_stuck
  ·exact tm_pure
  ·exact tm_pure
  ·refine t_getObj (fun o => ?_) (fun o => ?_)
   ·cases o <;> exact trivial
   ·rcases veil_cases o with ⟨h1, _⟩ | ⟨h1, h2⟩ <;> rw [h1] <;> cases o <;> first | rfl | cases h2
  ·exact tm_stuck
 ·exact tm_stuck
theorem tm_copy (hst : Stubbed Q P) {ts : Array TypeId} {t : TypeId} {args : Array Value} : Tm Q P S (Builtin.copy_ ts t args) := by
 unfold Builtin.copy_
 split
 ·refine tmb (tm_underlying hst) fun d => ?_
  cases d
  case slice e =>
   dsimp only
   split
   ·refine tmb tm_lenOf fun n => tmb (t_sizeOf hst fun _ _ => trivial) fun z => tmb tm_firstCells fun cs => ?_
    split
    ·exact tmb tm_storeCells fun _ => tm_pure
    ·exact tm_pure
   ·exact tm_stuck
  all_goals exact tm_stuck
 ·exact tm_stuck
theorem tm_clear (hst : Stubbed Q P) {ts : Array TypeId} {t : TypeId} {args : Array Value} : Tm Q P S (Builtin.clear_ ts t args) := by
 unfold Builtin.clear_
 split
 ·refine tmb (tm_underlying hst) fun d => ?_
  dsimp only
  split
  ·exact tmb tm_pure fun _ => tm_pure
  ·exact tmb tm_pure fun _ => tm_pure
  ·exact tmb tm_pure fun _ => tm_pure
  ·refine t_getObj (fun o => ?_) (fun o => ?_)
   ·cases o <;> first | exact fun _ => ⟨⟨rfl, rfl⟩, trivial⟩ | exact trivial
   ·rcases veil_cases o with ⟨h1, _⟩ | ⟨h1, h2⟩ <;> rw [h1] <;> cases o <;> first | rfl | cases h2
  ·exact tmb (tm_zeroValue hst) fun _ => tmb tm_storeCells fun _ => tm_pure
  ·exact tmb tm_stuck fun _ => tm_pure
 ·exact tm_stuck
theorem tm_panicOp (hst : Stubbed Q P) {x : Value} : Tm Q P S (Instr.panic x) := by
 have hst' := hst
 obtain ⟨F, rfl⟩ := hst.ex
 unfold Instr.panic
 split
 ·exact t_goPanic
 ·refine tmb ?_ fun n => ?_
  ·unfold Instr.panicnil
   refine t_env fun r => ?_
   cases r
   case strings env => exact t_prog rfl tm_pure
   all_goals exact tm_stuck
  ·split
   ·exact t_goPanic
   ·exact t_runtimePanic hst'
 ·exact tm_stuck
def ifaceT (p : Program) (t : TypeId) : Bool := match p.underlying t with
 | some (.interface _) => true
 | _ => false
def nilWord : Operand → Bool
 | .const .nilIface => true
 | _ => false
theorem tm_equalNil (hst : Stubbed Q P) {n : Nat} {t : TypeId} {x y : Value} (hb : ifaceT P t = true) (hn : x = .nilIface ∨ y = .nilIface) : Tm Q P S (Op.equalIn (n + 1) t x y) := by
 have hst' := hst
 obtain ⟨F, rfl⟩ := hst.ex
 unfold Op.equalIn
 refine tb (t_underlying hst' fun d hd => ?_)
 unfold ifaceT at hb
 rw [hd] at hb
 cases d <;> first | (cases hb; done) | skip
 rcases hn with rfl | rfl
 ·cases y <;> exact trivial
 ·cases x <;> exact trivial
theorem tm_eqNil (hst : Stubbed Q P) {op : BinOp} {t : TypeId} {x y : Operand} {ρ : Operand → Value} (hop : op = .eql ∨ op = .neq) (hρ : ∀ v, ρ (.const v) = v) (hb : ifaceT P t = true) (hn : (nilWord x || nilWord y) = true) :
  Tm Q P S (do eqGuard op t x y (ρ x) (ρ y); binOp op t (ρ x) (ρ y)) := by
 have hx : nilWord x = true → x = .const .nilIface := fun h => by
  cases x with
  | const v => cases v <;> first | rfl | cases h
  | _ => cases h
 have hy : nilWord y = true → y = .const .nilIface := fun h => by
  cases y with
  | const v => cases v <;> first | rfl | cases h
  | _ => cases h
 have hv : ρ x = .nilIface ∨ ρ y = .nilIface := by
  rcases Bool.or_eq_true _ _ ▸ hn with h | h
  ·exact .inl (by rw [hx h, hρ])
  ·exact .inr (by rw [hy h, hρ])
 have hg : eqGuard op t x y (ρ x) (ρ y) = pure () := by
  rcases Bool.or_eq_true _ _ ▸ hn with h | h
  ·have e := hx h
   subst e
   rw [hρ]
   rcases hop with rfl | rfl <;> unfold eqGuard <;> cases ρ y <;> rfl
  ·have e := hy h
   subst e
   rw [hρ]
   rcases hop with rfl | rfl <;> unfold eqGuard <;> cases ρ x <;> first | rfl | (cases x <;> rfl)
 rw [hg]
 refine tmb tm_pure fun _ => ?_
 have he : Tm Q P S (Op.equal t (ρ x) (ρ y)) := tm_equalNil (n := 9999) hst hb hv
 unfold binOp
 rcases hop with rfl | rfl <;> rcases hv with h | h <;> rw [h] at he ⊢
 all_goals
  first
   | (generalize ρ y = z at he ⊢; cases z <;> first | exact tmb he fun _ => tm_pure | exact tm_stuck)
   | (generalize ρ x = z at he ⊢; cases z <;> first | exact tmb he fun _ => tm_pure | exact tm_stuck)
def okOp (p : Program) (o : Oper) : Bool := match o.op with
 | .move _ | .assign _ | .pick .. | .alloc _ | .box .. | .build .. | .buildSlice .. | .load .. | .store .. | .nilCheck _ | .unOp .. | .makeInterface .. | .makeFunc .. | .makeMap .. | .makeSlice .. | .fieldAddr .. | .indexAddr .. | .index .. | .range .. | .next .. | .extract .. | .slice .. | .typeAssert .. | .panic _ => true
 | .binOp op t x y _ => (!(op matches .eql | .neq)) || basic p t || (ifaceT p t && (nilWord x || nilWord y))
 | .convert s d _ => okConv p s d
 | .lookup t _ _ _ | .mapUpdate t _ _ _ => okMap p t
 | .call { callee := .builtin .len, .. } | .call { callee := .builtin .append, .. } | .call { callee := .value _, .. } | .call { callee := .invoke _ _, .. } | .call { callee := .builtin .cap, .. } | .call { callee := .builtin .copy, .. } | .call { callee := .builtin .clear, .. } => true
 | _ => false
theorem t_value {s : Sem Value} (h : Tm Q P S s) : Tame Q P S (ZN Q) OkNext (do pure (.value (← s))) := tb' h fun _ _ => trivial
theorem t_unit {s : Sem Unit} (h : Tm Q P S s) : Tame Q P S (ZN Q) OkNext (do s; pure .skip) := tb' h fun _ _ => trivial
theorem okOp_tame (hst : Stubbed Q P) (hB : Bodied Q P) {ρ : Operand → Value} (hρ : ∀ v, ρ (.const v) = v) {o : Oper} (h : okOp P o = true) : Tame Q P S (ZN Q) OkNext (execOp ρ o) := by
 unfold execOp
 unfold okOp at h
 split at h
 case h_36 => cases h
 all_goals (rename_i hop; rw [hop])
 case h_1 => exact trivial
 case h_2 => exact trivial
 case h_3 => exact tb' tm_asBool fun _ _ => trivial
 case h_4 => exact t_value (tm_alloc hst)
 case h_5 => exact t_value tm_box
 case h_6 => exact t_value (tm_build hst)
 case h_7 => exact t_value (tm_buildSlice hst)
 case h_8 => exact t_value (tm_loadAt hst)
 case h_9 => exact t_unit (tm_storeAt hst)
 case h_10 =>
  have hst' := hst
  obtain ⟨F, rfl⟩ := hst.ex
  dsimp only
  split
  ·exact t_runtimePanic hst'
  ·exact t_runtimePanic hst'
  ·exact t_runtimePanic hst'
  ·split
   ·exact t_runtimePanic hst'
   ·refine t_prog rfl ?_
    refine tb' (tm_nilAhead hst' _ _ _ _) fun r _ => ?_
    split
    ·exact trivial
    ·exact trivial
   ·exact trivial
  ·exact trivial
 case h_11 => exact t_value tm_unary
 case h_12 => exact t_value (tm_makeInterface hst)
 case h_13 => exact trivial
 case h_14 => exact t_value (tm_makeMap hst)
 case h_15 => exact t_value (tm_makeSlice hst)
 case h_16 => exact t_value (tm_fieldAt hst)
 case h_17 => exact t_value (tm_indexAt hst)
 case h_18 => exact t_value (tm_index hst)
 case h_19 => exact t_value (tm_range hst)
 case h_20 => exact t_value tm_next
 case h_21 => exact t_value tm_extract
 case h_22 => exact t_value (tm_sliceAt hst)
 case h_23 => exact t_value (tm_typeAssert hst)
 case h_24 => exact t_value (tm_panicOp hst)
 case h_25 _ op t x y _ =>
  by_cases hop : op = .eql ∨ op = .neq
  ·by_cases hbs : basic P t = true
   ·exact t_value (tmb (tm_eqGuard hst fun _ => hbs) fun _ => tm_binOp hst fun _ => hbs)
   ·have h' : (ifaceT P t && (nilWord x || nilWord y)) = true := by
     rcases hop with rfl | rfl <;> simpa [hbs] using h
    rw [Bool.and_eq_true] at h'
    exact t_value (tm_eqNil hst hop hρ h'.1 h'.2)
  ·exact t_value (tmb (tm_eqGuard hst fun e => absurd e hop) fun _ => tm_binOp hst fun e => absurd e hop)
 case h_26 => exact t_value (tm_convert hst h)
 case h_27 => exact t_value (tm_lookup hst h)
 case h_28 => exact t_unit (tm_mapUpdate hst h)
 case h_29 => exact t_value (tm_len hst)
 case h_30 => exact t_value (tm_append hst)
 case h_31 => exact t_callValue hst hB
 case h_32 _ recv m args _ =>
  show Tame Q P S (ZN Q) OkNext (invoke (.fn (.method m) #[]) (#[ρ recv] ++ args.map ρ))
  exact t_invoke hst hB (fun _ _ _ _ => by simp) (fun _ => by simp)
 case h_33 => exact t_value (tm_cap hst)
 case h_34 => exact t_value (tm_copy hst)
 case h_35 => exact t_value (tm_clear hst)
end
end
section
open Go
def okCode (p : Program) : Code → Bool
 | .seq a b => okCode p a && okCode p b
 | .cond _ a b => okCode p a && okCode p b
 | .block _ c => okCode p c
 | .loop c => okCode p c
 | .region _ ops _ => ops.all (okOp p)
 | .skip | .label _ | .exit _ | .goto _ | .ret | .refuse _ => true
 | .rangeFunc _ _ a b => synCode a && synCode b
 | _ => false
def okItem (p : Program) : Item → Bool
 | .code c => okCode p c
 | .inLoop c => okCode p c
 | .inBlock _ => true
 | .inRegion ops _ => ops.all (okOp p)
 | .inRangeFunc _ | .beginRound | .endRangeFunc _ => true
 | _ => false
structure FrameOk (p : Program) (fr : Frame) : Prop where
 kind : fr.kind = .normal
 defers : ∀ d ∈ fr.defers, isMark d
 todo : ∀ i ∈ fr.todo, okItem p i = true
structure Ok (p : Program) (g : Goroutine) : Prop where
 run : g.status = .running
 dying : g.dying = none
 frame : FrameOk p g.frame
 callers : ∀ c ∈ g.callers, FrameOk p c
structure Tamed (Q P : Program) : Prop where
 st : Stubbed Q P
 bodied : Bodied Q P
 code : ∀ (f : Nat) (fn : Func) (c : Code), Q.funcs[f]? = some fn → fn.body = some c → okCode P c = true
 plain : basic P 3 = true ∧ basic P 4 = true ∧ basic P 9 = true
section
variable {Q P : Program} {S : Sh}
theorem syn_op {p : Program} (hp : basic p 3 = true ∧ basic p 4 = true ∧ basic p 9 = true) {o : Oper} (h : synOp o = true) : okOp p o = true := by
 unfold synOp at h
 unfold okOp
 split at h
 case h_26 => cases h
 all_goals (rename_i hop; rw [hop])
 case h_22 op t _ _ _ =>
  dsimp only
  rw [Bool.or_eq_true]
  left
  simp only [Bool.or_eq_true, beq_iff_eq] at h ⊢
  rcases h with ((h | h) | h) | h
  ·exact .inl h
  ·subst h; exact .inr hp.1
  ·subst h; exact .inr hp.2.1
  ·subst h; exact .inr hp.2.2
 all_goals rfl
theorem syn_code {p : Program} (hp : basic p 3 = true ∧ basic p 4 = true ∧ basic p 9 = true) : ∀ (c : Code), synCode c = true → okCode p c = true
 | .seq a b, h => by
  simp only [synCode, okCode, Bool.and_eq_true] at h ⊢
  exact ⟨syn_code hp a h.1, syn_code hp b h.2⟩
 | .cond _ a b, h => by
  simp only [synCode, okCode, Bool.and_eq_true] at h ⊢
  exact ⟨syn_code hp a h.1, syn_code hp b h.2⟩
 | .block _ c, h => syn_code hp c h
 | .loop c, h => syn_code hp c h
 | .region _ ops _, h => by
  simp only [synCode, okCode, Array.all_eq_true'] at h ⊢
  exact fun o ho => syn_op hp (h o ho)
 | .skip, _ | .label _, _ | .exit _, _ | .goto _, _ | .ret, _ => rfl
 | .scope _, h | .refuse _, h | .rangeFunc _ _ _ _, h => by cases h
theorem exit_ok {p : Program} {id : Nat} : ∀ {k k' : List Item}, exitTo id k = some k' → (∀ i ∈ k, okItem p i = true) → ∀ i ∈ k', okItem p i = true
 | [], _, h, _ => by cases h
 | x :: k, k', h, hk => by
  have hk' : ∀ i ∈ k, okItem p i = true := fun i hi => hk i (by simp [hi])
  cases x
  case inBlock id' =>
   simp only [exitTo] at h
   split at h
   ·cases h; exact hk'
   ·exact exit_ok h hk'
  all_goals exact exit_ok (k := k) (by simpa [exitTo] using h) hk'
theorem goto_ok {p : Program} {l : Nat} : ∀ {k k' : List Item}, gotoIn l k = some k' → (∀ i ∈ k, okItem p i = true) → ∀ i ∈ k', okItem p i = true
 | [], _, h, _ => by cases h
 | x :: k, k', h, hk => by
  have hk' : ∀ i ∈ k, okItem p i = true := fun i hi => hk i (by simp [hi])
  cases x
  case inScope c => exact absurd (hk (.inScope c) (by simp)) (by simp [okItem])
  all_goals exact goto_ok (k := k) (by simpa [gotoIn] using h) hk'
theorem leads_ok {p : Program} {fr : Frame} {l k : List Item} (h : Leads fr l k) (hl : ∀ i ∈ l, okItem p i = true) : ∀ i ∈ k, okItem p i = true := by
 cases h with
 | drop => exact fun i hi => hl i (by simp [hi])
 | exit h => exact exit_ok h fun i hi => hl i (by simp [hi])
 | goto h => exact goto_ok h fun i hi => hl i (by simp [hi])
 | scope => exact absurd (hl _ (List.mem_cons_self ..)) (by simp [okItem, okCode])
 | cond t =>
  have h0 := hl _ (List.mem_cons_self ..)
  simp only [okItem, okCode, Bool.and_eq_true] at h0
  intro i hi
  rcases List.mem_cons.1 hi with rfl | hi
  ·cases t
   ·exact h0.2
   ·exact h0.1
  ·exact hl i (by simp [hi])
 | seq =>
  have h0 := hl _ (List.mem_cons_self ..)
  simp only [okItem, okCode, Bool.and_eq_true] at h0
  intro i hi
  rcases List.mem_cons.1 hi with rfl | hi
  ·exact h0.1
  ·rcases List.mem_cons.1 hi with rfl | hi
   ·exact h0.2
   ·exact hl i (by simp [hi])
 | block =>
  have h0 := hl _ (List.mem_cons_self ..)
  intro i hi
  rcases List.mem_cons.1 hi with rfl | hi
  ·exact h0
  ·rcases List.mem_cons.1 hi with rfl | hi
   ·rfl
   ·exact hl i (by simp [hi])
 | loop =>
  have h0 := hl _ (List.mem_cons_self ..)
  intro i hi
  rcases List.mem_cons.1 hi with rfl | hi
  ·exact h0
  ·rcases List.mem_cons.1 hi with rfl | hi
   ·exact h0
   ·exact hl i (by simp [hi])
 | again =>
  have h0 := hl _ (List.mem_cons_self ..)
  intro i hi
  rcases List.mem_cons.1 hi with rfl | hi
  ·exact h0
  ·rcases List.mem_cons.1 hi with rfl | hi
   ·exact h0
   ·exact hl i (by simp [hi])
 | region is =>
  have h0 := hl _ (List.mem_cons_self ..)
  intro i hi
  rcases List.mem_cons.1 hi with rfl | hi
  ·exact h0
  ·exact hl i (by simp [hi])
theorem finish_ok {p : Program} {fr : Frame} (h : FrameOk p fr) (v : Value) : FrameOk p (fr.finish v) := by
 obtain ⟨fn, tmps, todo, defers, mode, kind, ro⟩ := fr
 obtain ⟨h1, h3, h4⟩ := h
 dsimp only at h1 h3 h4
 unfold Frame.finish
 dsimp only
 split
 ·refine ⟨h1, h3, fun i hi => ?_⟩
  rcases List.mem_cons.1 hi with rfl | hi
  ·have h0 := h4 _ (List.mem_cons_self ..)
   exact h0
  ·exact h4 i (by simp [hi])
 ·refine ⟨h1, h3, fun i hi => ?_⟩
  rcases List.mem_cons.1 hi with rfl | hi
  ·rfl
  ·exact h4 i (by simp [hi])
 ·exact ⟨h1, h3, fun i hi => h4 i (by simp [hi])⟩
 all_goals first
  | exact ⟨h1, h3, h4⟩
  | exact absurd (h4 _ (List.mem_cons_self ..)) (by simp [okItem])
theorem raise_ok {p : Program} {fr : Frame} (h : FrameOk p fr) (ch : List PanicEntry) : FrameOk p (fr.raise ch) := by
 unfold Frame.raise
 split <;> exact ⟨h.kind, h.defers, h.todo⟩
theorem enterF_ok (hT : Tamed Q P) {f : FuncId} {args : Array Value} : FrameOk P (Frame.enter Q f args .normal) := by
 refine ⟨rfl, fun d hd => (by cases hd), fun i hi => ?_⟩
 simp only [Frame.enter, List.mem_singleton] at hi
 subst hi
 cases hf : Q.funcs[f]? with
 | none => rfl
 | some fn =>
  simp only [Option.bind_some]
  cases hb : fn.body with
  | none => rfl
  | some c => exact hT.code f fn c hf hb
theorem round_ok (hT : Tamed Q P) {l : Nat} {f : FuncId} {tmps : Array Value} {a b : Code} (ha : synCode a = true) (hb : synCode b = true) : FrameOk P (Frame.round l f tmps a b .normal) := by
 refine ⟨rfl, fun d hd => (by cases hd), fun i hi => ?_⟩
 simp only [Frame.round, List.mem_cons, List.not_mem_nil, or_false] at hi
 rcases hi with rfl | rfl | rfl
 ·exact syn_code hT.plain a ha
 ·rfl
 ·exact syn_code hT.plain b hb
theorem tm_results (hst : Stubbed Q P) {fn : Func} {tmps : Array Value} : Tm Q P S (results fn tmps) := by
 refine tmb (tm_mapM (fun r => ?_) _) fun _ => tm_pure
 cases r with
 | tmp t => exact tm_pure
 | cell a t => exact tmb (t_asAddr hst fun _ => trivial) fun _ => tm_loadVar hst
theorem kept (hT : Tamed Q P) : Kept Q P S (Ok P) := by
 refine ⟨fun g h => h.run, fun g w h => ?_⟩
 have hf := h.frame
 have hcal := h.callers
 have hcons : ∀ fr', FrameOk P fr' → ∀ c ∈ fr' :: g.callers, FrameOk P c := fun fr' h' c hc => by
  rcases List.mem_cons.1 hc with rfl | hc
  ·exact h'
  ·exact hcal c hc
 have one : ∀ fr', FrameOk P fr' → Steps1 Q P (Ok P) fr' g.callers := fun fr' h' =>
  ⟨fun v => ⟨rfl, rfl, finish_ok h' v, hcal⟩, fun f args e => ⟨rfl, rfl, e ▸ enterF_ok hT, hcons fr' h'⟩, fun ch => ⟨rfl, rfl, raise_ok h' ch, hcal⟩, fun l f tmps a b ha hb => ⟨rfl, rfl, round_ok hT ha hb, hcons fr' h'⟩⟩
 refine step_couple hT.st ⟨h.run, h.dying, hf.kind, fun l j _ hj => t_endRound hj, fun _ => ?_, fun _ => ⟨fun d hd => ?_, hf.kind, fun fn _ => tm_results hT.st⟩⟩ (fun _ => ⟨one _ hf, ?_, ?_, ?_, ?_, ?_⟩) ?_ ?_ ?_ w
 ·unfold TopOk
  split
  ·rename_i ops i rest k htd
   intro o ho
   have h1 : okItem P (.inRegion ops (i :: rest)) = true := hf.todo _ (by rw [htd]; simp)
   have h2 : okOp P o = true := by
    simp only [okItem, Array.all_eq_true'] at h1
    exact h1 o (Array.mem_of_getElem? ho)
   exact ⟨okOp_tame hT.st hT.bodied (fun _ => rfl) h2, fun c e => by (unfold okOp at h2; rw [e] at h2; cases h2)⟩
  ·rename_i f ps a b k htd
   have h1 : okItem P (.code (.rangeFunc f ps a b)) = true := hf.todo _ (by rw [htd]; simp)
   simp only [okItem, okCode, Bool.and_eq_true] at h1
   exact ⟨t_enterLoop h1.1 h1.2, fun l => t_callValue hT.st hT.bodied⟩
  ·cases hro : g.frame.roundOf with
   | none => exact trivial
   | some l => exact t_unit (t_beginRound hT.st)
  ·exact t_endLoop hT.st
  all_goals first
   | trivial
   | (rename_i htd; exact absurd (hf.todo _ (by rw [htd]; exact List.mem_cons_self ..)) (by simp [okItem]))
 ·obtain ⟨r, rfl⟩ := hf.defers d hd
  exact ⟨r, rfl, t_takeDeferred⟩
 ·exact fun todo hl => ⟨rfl, rfl, ⟨hf.kind, hf.defers, leads_ok hl hf.todo⟩, hcal⟩
 ·exact fun _ => ⟨rfl, rfl, ⟨hf.kind, hf.defers, hf.todo⟩, hcal⟩
 ·intro l k j htd hj
  refine ⟨rfl, rfl, ⟨hf.kind, hf.defers, fun i hi => ?_⟩, hcal⟩
  rcases List.mem_append.1 hi with hi | hi
  ·cases j with
   | none => cases hi
   | some c =>
    obtain rfl : i = .code c := by simpa using hi
    cases c <;> first | rfl | cases hj
  ·exact hf.todo i (by rw [htd]; simp [hi])
 ·intro f ps a b k l mark htd hm
  refine one _ ⟨hf.kind, fun d hd => ?_, fun i hi => ?_⟩
  ·rcases List.mem_append.1 hd with hd | hd
   ·exact hm d hd
   ·exact hf.defers d hd
  ·rcases List.mem_cons.1 hi with rfl | hi
   ·rfl
   ·exact hf.todo i (by rw [htd]; simp [hi])
 ·intro c rest y e
  exact ⟨rfl, rfl, finish_ok (hcal c (by rw [e]; simp)) y, fun x hx => hcal x (by rw [e]; simp [hx])⟩
 ·intro c rest y e
  exact ⟨rfl, rfl, finish_ok (hcal c (by rw [e]; simp)) y, fun x hx => hcal x (by rw [e]; simp [hx])⟩
 ·intro c rest ch e
  exact ⟨rfl, rfl, raise_ok (hcal c (by rw [e]; simp)) ch, fun x hx => hcal x (by rw [e]; simp [hx])⟩
 ·exact fun _ d ds e => ⟨rfl, rfl, ⟨hf.kind, fun x hx => hf.defers x (by rw [e]; simp [hx]), hf.todo⟩, hcal⟩
end
end
end Go.Proofs.YtdafpnpfcmgfcaaGreatDoor
