/- What is asked of an operation, as a reckoning; an operation of which it holds is tame. -/
import Derived.Test.YteaincbmnhehcabLift13
namespace Go.Proofs.Yteaincbmnhehcab
open Go
section
variable {Q P : Program} {S : Nat → Prop}

theorem tm_followBlind (hst : Stubbed Q P) : ∀ (l : List FieldStep) (t : TypeId) (x : Option Value), Tm Q P S (followBlind l t x)
  | [], _, _ => tm_pure
  | s :: rest, t, x => by
    unfold followBlind
    refine tmb (tm_underlying hst) fun d => ?_
    cases d
    case struct fs =>
      dsimp only
      split
      · split
        · exact tm_pure
        · exact tm_followBlind hst rest _ _
        · exact tm_stuck
        · exact tm_pure
        · exact tmb (tm_part hst) fun _ => tm_followBlind hst rest _ _
        · exact tm_stuck
        · exact tm_followBlind hst rest _ _
      · exact tm_stuck
    all_goals exact tm_stuck
theorem tm_nilAhead (hst : Stubbed Q P) : ∀ (n : Nat) (t : TypeId) (x : Value) (m : String), Tm Q P S (nilAhead n t x m)
  | 0, _, _, _ => tm_pure
  | n + 1, t, x, m => by
    unfold nilAhead
    refine tmb (tm_typeInfo hst) fun i => ?_
    split
    · refine tmb (tm_followBlind hst _ _ _) fun r => ?_
      split
      · exact tm_pure
      · split
        · exact tm_nilAhead hst n _ _ _
        · exact tm_pure
        · exact tm_stuck
        · exact tm_pure
        · exact tm_pure
        · refine tmb (tm_underlying hst) fun d => ?_
          split <;> exact tm_pure
    · exact tm_stuck

/-- Every function has a body, and none is the one that counts goroutines. -/
def Bodied (Q : Program) : Prop := ∀ (f : Nat) (fn : Func), Q.funcs[f]? = some fn → fn.body.isNone = false ∧ (fn.name == "runtime.NumGoroutine") = false

theorem t_callFunc (hst : Stubbed Q P) (hB : Bodied Q) {f : FuncId} {args : Array Value} : Tame Q P S (ZN Q) OkNext (callFunc f args) := by
  unfold callFunc
  rcases hst.fn f with e | ⟨g, why, e1, e2⟩
  · refine t_prog (by simp only [e]) ?_
    rw [← e]
    cases h : Q.funcs[f]? with
    | none => exact t_stuck
    | some fn =>
      obtain ⟨h1, h2⟩ := hB f fn h
      simp only [h1, h2, Bool.false_eq_true, if_false]
      exact trivial
  · obtain ⟨_, h2⟩ := hB f _ e2
    refine .inr ⟨.enter f args, ?_, g, why, e2⟩
    show (match Q.funcs[f]? with | none => _ | some fn => _) = _
    rw [e2]
    simp only [h2, Option.isNone_some, Bool.false_eq_true, if_false]
    rfl

def okOp (p : Program) (o : Oper) : Bool := match o.op with
  | .move _ | .assign _ | .pick .. | .alloc _ | .box .. | .build .. | .buildSlice .. | .load .. | .store .. | .nilCheck _ | .unOp .. | .makeInterface .. | .makeFunc .. | .makeMap .. | .makeSlice .. | .fieldAddr .. | .indexAddr .. | .index .. | .range .. | .next .. | .extract .. => true
  | .binOp op t _ _ _ => (!(op matches .eql | .neq)) || basic p t
  | .convert s d _ => okConv p s d
  | .lookup t _ _ _ | .mapUpdate t _ _ _ => okMap p t
  | .call { callee := .builtin .len, .. } | .call { callee := .builtin .append, .. } | .call { callee := .value (.func _), .. } => true
  | _ => false

theorem t_value {s : Sem Value} (h : Tm Q P S s) : Tame Q P S (ZN Q) OkNext (do pure (.value (← s))) := tb' h fun _ _ => trivial
theorem t_unit {s : Sem Unit} (h : Tm Q P S s) : Tame Q P S (ZN Q) OkNext (do s; pure .skip) := tb' h fun _ _ => trivial

theorem okOp_tame (hst : Stubbed Q P) (hB : Bodied Q) {ρ : Operand → Value} (hρ : ∀ f, ρ (.func f) = .func (.func f) #[] #[]) {o : Oper} (h : okOp P o = true) : Tame Q P S (ZN Q) OkNext (execOp ρ o) := by
  unfold execOp
  unfold okOp at h
  split at h
  case h_29 => cases h
  all_goals (rename_i hop; rw [hop])
  case h_1 => exact trivial
  case h_2 => exact trivial
  case h_3 => exact tb' tm_asBool fun _ _ => trivial
  case h_4 => exact t_value (tm_alloc hst)
  case h_5 => exact t_value tm_box
  case h_6 => exact t_value (tm_build hst)
  case h_7 => exact t_value (tm_buildSlice hst)
  case h_8 => exact t_value (tm_loadAt hst)
  case h_9 => exact t_unit (tm_storeAt hst)
  case h_10 =>
    have hst' := hst
    obtain ⟨F, rfl⟩ := hst.ex
    dsimp only
    split
    · exact t_runtimePanic hst'
    · exact t_runtimePanic hst'
    · exact t_runtimePanic hst'
    · split
      · exact t_runtimePanic hst'
      · refine t_prog rfl ?_
        refine tb' (tm_nilAhead hst' _ _ _ _) fun r _ => ?_
        split
        · exact trivial
        · exact trivial
      · exact trivial
    · exact trivial
  case h_11 => exact t_value tm_unary
  case h_12 => exact t_value (tm_makeInterface hst)
  case h_13 => exact trivial
  case h_14 => exact t_value (tm_makeMap hst)
  case h_15 => exact t_value (tm_makeSlice hst)
  case h_16 => exact t_value (tm_fieldAt hst)
  case h_17 => exact t_value (tm_indexAt hst)
  case h_18 => exact t_value (tm_index hst)
  case h_19 => exact t_value (tm_range hst)
  case h_20 => exact t_value tm_next
  case h_21 => exact t_value tm_extract
  case h_22 _ op t x y _ =>
    have hb : op = .eql ∨ op = .neq → basic P t = true := by
      rintro (rfl | rfl) <;> simpa using h
    exact t_value (tmb (tm_eqGuard hst hb) fun _ => tm_binOp hst hb)
  case h_23 => exact t_value (tm_convert hst h)
  case h_24 => exact t_value (tm_lookup hst h)
  case h_25 => exact t_unit (tm_mapUpdate hst h)
  case h_26 => exact t_value (tm_len hst)
  case h_27 => exact t_value (tm_append hst)
  case h_28 =>
    simp only [resolve, hρ]
    exact t_callFunc hst hB
end
end Go.Proofs.Yteaincbmnhehcab
