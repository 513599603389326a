/- The operations in use are tame: lists that grow, calls; what is asked of an operation. -/
import Derived.Test.YteaincbmnhehcabLift12
namespace Go.Proofs.Yteaincbmnhehcab
open Go
section
variable {Q P : Program} {S : Nat → Prop}

theorem tm_len (hst : Stubbed Q P) {ts : Array TypeId} {t : TypeId} {xs : Array Value} : Tm Q P S (Builtin.len_ ts t xs) := by
  unfold Builtin.len_
  split
  · rename_i u x h
    clear h
    refine tmb (tm_underlying hst) fun d => ?_
    cases d
    case string => cases x <;> exact trivial
    case array n e => exact tm_pure
    case pointer e =>
      refine tmb (tm_underlying hst) fun d => ?_
      cases d <;> exact trivial
    case slice e => cases x <;> exact trivial
    case map k e =>
      cases x
      case map r =>
        cases r with
        | none => exact tm_pure
        | some r =>
          dsimp only
          refine t_getObj (fun o => ?_) (fun o => ?_)
          · cases o <;> exact trivial
          · cases o <;> rfl
      all_goals exact tm_stuck
    case chan k e =>
      cases x
      case chan r =>
        cases r with
        | none => exact tm_pure
        | some r =>
          dsimp only
          refine t_getObj (fun o => ?_) (fun o => ?_)
          · cases o <;> exact trivial
          · cases o <;> rfl
      all_goals exact tm_stuck
    all_goals (cases x <;> exact tm_stuck)
  · exact tm_stuck

theorem tm_lenOf {x : Value} : Tm Q P S (Builtin.lenOf x) := by cases x <;> exact trivial
theorem tm_firstCells {s n : Nat} {x : Value} : Tm Q P S (Builtin.firstCells s n x) := by
  cases x
  case slice a l c => cases a with
    | none => exact tm_pure
    | some a => exact tm_loadCells
  all_goals exact trivial

/-- Doomed, and tame. -/
def SD {α : Type} : Sem α → Prop
  | .shape _ k => ∀ x, SD (k x)
  | .frozen _ k => ∀ b, SD (k b)
  | .mark m k => m = .noRoom ∧ SD k
  | .halt h => Ends h
  | _ => False
theorem SD.doomed {α : Type} (s : Sem α) (h : SD s) : Doomed Q s := by
  induction s with
  | shape _ _ ih => exact fun x => ih x (h x)
  | frozen _ _ ih => exact fun x => ih x (h x)
  | mark _ _ ih => exact ih h.2
  | halt _ => exact h
  | _ => exact h.elim
theorem SD.tame {α : Type} {Z A : α → Prop} (s : Sem α) (h : SD s) : Tame Q P S Z A s := by
  induction s with
  | shape _ _ ih => exact ⟨fun x => ih x (h x), .inr (.inl fun t => SD.doomed _ (h _))⟩
  | frozen _ _ ih => exact fun x => ih x (h x)
  | mark _ _ ih => exact ⟨h.1, ih h.2⟩
  | halt x =>
    cases x with
    | stuck _ => exact trivial
    | unsupported u => cases u <;> first | exact trivial | exact h.elim
    | _ => exact h.elim
  | _ => exact h.elim
theorem sd_holds {β : Type} {a : Addr} {c : Nat} {f : Bool → Sem β} (h : ∀ b, SD (f b)) : SD (Builtin.holdsCells a c >>= f) := by
  unfold Builtin.holdsCells
  intro x
  cases x with
  | none => exact h _
  | some x => exact h _
theorem sd_noRoom {size l n : Nat} {base : Option Addr} {x : Value} {m : String} {α : Type} : SD (Builtin.mayShare size l n base x >>= fun b => if (!b) = true then mark .noRoom >>= fun _ => unsupported (.resourceLimit m) else unsupported (.resourceLimit m) : Sem α) := by
  have fin : ∀ b : Bool, SD (do
      if !b then mark .noRoom
      unsupported (.resourceLimit m) : Sem α) := fun b => by
    cases b
    · exact ⟨rfl, trivial⟩
    · exact trivial
  have two : ∀ there : Bool, SD ((if (!there) = true then pure true else match x with
      | .slice (some b) _ _ => do pure (!(← Builtin.holdsCells b (n * size)) || base.any (·.block == b.block))
      | _ => pure false) >>= fun b => (do
      if !b then mark .noRoom
      unsupported (.resourceLimit m) : Sem α)) := fun there => by
    cases there
    · exact fin true
    · simp only [Bool.not_true, Bool.false_eq_true, if_false]
      cases x
      case slice a k c =>
        cases a with
        | none => exact fin false
        | some b =>
          simp only [bind_assoc]
          exact sd_holds fun _ => fin _
      all_goals exact fin false
  unfold Builtin.mayShare
  cases base with
  | none => exact two true
  | some a =>
    simp only [bind_assoc]
    refine sd_holds fun b => ?_
    exact fun b' => two _

theorem tm_noRoom {size l n : Nat} {base : Option Addr} {x : Value} {m : String} {α : Type} : Tm Q P S (Builtin.mayShare size l n base x >>= fun b => if (!b) = true then mark .noRoom >>= fun _ => unsupported (.resourceLimit m) else unsupported (.resourceLimit m) : Sem α) := SD.tame _ sd_noRoom
set_option maxHeartbeats 8000000 in
theorem tm_append (hst : Stubbed Q P) {ts : Array TypeId} {t : TypeId} {xs : Array Value} : Tm Q P S (Builtin.append_ ts t xs) := by
  unfold Builtin.append_
  split
  case h_2 => exact tm_stuck
  rename_i st s x h
  clear h
  refine tmb (tm_underlying hst) fun d => ?_
  cases d
  case slice elem =>
    cases s
    case slice base sl sc =>
      refine tmb (tm_sizeOf hst) fun size => ?_
      generalize ts[1]? = ot
      have hz : ∀ (f : Bool → Sem Value), (∀ b, Tm Q P S (f b)) → Tm Q P S (match ot with
          | some xType => do
            let d ← underlying xType
            let z ← pure (d matches .int _)
            f z
          | none => do
            let z ← pure false
            f z) := fun f h => by
        cases ot with
        | none => exact h _
        | some t => exact tmb (tm_underlying hst) fun _ => h _
      refine hz _ fun zeros => ?_
      clear hz
      cases zeros <;> simp only [Bool.not_true, Bool.not_false, Bool.false_eq_true, if_true, if_false]
      all_goals repeat' (first
        | with_reducible exact tm_pure
        | with_reducible exact tm_stuck
        | with_reducible refine tmb (tm_typeInfo hst) fun _ => ?_
        | with_reducible refine tmb (tm_sizeOf hst) fun _ => ?_
        | with_reducible refine tmb (tm_underlying hst) fun _ => ?_
        | with_reducible refine tmb (tm_zeroValue hst) fun _ => ?_
        | with_reducible refine tmb (tm_panic hst) fun _ => ?_
        | with_reducible refine tmb tm_asInt fun _ => ?_
        | with_reducible refine tmb tm_lenOf fun _ => ?_
        | with_reducible refine tmb tm_choose fun _ => ?_
        | with_reducible refine tmb tm_askRoom fun _ => ?_
        | with_reducible refine tmb tm_firstCells fun _ => ?_
        | with_reducible refine tmb tm_storeCells fun _ => ?_
        | with_reducible refine tmb tm_newRow fun _ => ?_
        | with_reducible refine tmb tm_pure fun _ => ?_
        | with_reducible exact tm_firstCells
        | with_reducible exact tm_panic hst
        | with_reducible exact tm_noRoom
        | with_reducible refine tmb ?_ fun _ => ?_
        | dsimp only
        | split)
    all_goals exact tm_stuck
  all_goals exact tm_stuck
end
end Go.Proofs.Yteaincbmnhehcab
