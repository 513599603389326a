/- Two runs in step: a goroutine's step, whole. -/
import Derived.Test.YteaincbmnhehcabLift3
namespace Go.Proofs.Yteaincbmnhehcab
open Go
section
variable {Q P : Program} {S : Nat → Prop} {K : Goroutine → Prop}

/-- What is asked of the item on top (ranges over functions: not yet). -/
def TopOk (Q P : Program) (S : Nat → Prop) (fr : Frame) : List Item → Prop
  | .inRegion ops (i :: _) :: _ => ∀ o, ops[i]? = some o → Tame Q P S (ZN Q) OkNext (execOp fr.eval o)
  | .code (.rangeFunc _ _ _ _) :: _ | .inRangeFunc _ :: _ | .beginRound :: _ | .endRangeFunc _ :: _ | .call _ _ _ _ :: _ | .extern _ _ :: _ => False
  | _ => True

/-- Where a step of control leads. -/
inductive Leads (fr : Frame) : List Item → List Item → Prop
  | drop {x : Item} {k : List Item} : Leads fr (x :: k) k
  | seq {a b : Code} {k : List Item} : Leads fr (.code (.seq a b) :: k) (.code a :: .code b :: k)
  | cond {c : Operand} {a b : Code} {k : List Item} (t : Bool) : Leads fr (.code (.cond c a b) :: k) (.code (if t then a else b) :: k)
  | block {id : Nat} {a : Code} {k : List Item} : Leads fr (.code (.block id a) :: k) (.code a :: .inBlock id :: k)
  | loop {a : Code} {k : List Item} : Leads fr (.code (.loop a) :: k) (.code a :: .inLoop a :: k)
  | again {a : Code} {k : List Item} : Leads fr (.inLoop a :: k) (.code a :: .inLoop a :: k)
  | scope {a : Code} {k : List Item} : Leads fr (.code (.scope a) :: k) (.code a :: .inScope a :: k)
  | exit {id : Nat} {k k' : List Item} : exitTo id k = some k' → Leads fr (.code (.exit id) :: k) k'
  | goto {l : Nat} {k k' : List Item} : gotoIn l k = some k' → Leads fr (.code (.goto l) :: k) k'
  | region {id : Nat} {ops : Array Oper} {b : Bool} {k : List Item} (is : List Nat) : Leads fr (.code (.region id ops b) :: k) (.inRegion ops is :: k)

theorem still {G : Goroutine} {x : World → GStep} {y : GStep} {w : World} (hy : y = .go G w) (hx : ∀ v, x v = .go (ext G) v) (hK : K G) : InStep S K x y w := by
  refine ⟨0, fun v hc _ => ?_⟩
  rw [hx]
  exact .inr ⟨_, _, _, rfl, .inr ⟨G, rfl, hK, rfl, rfl, w, hy, rfl, rfl, hc, Nat.le_refl _, fun e he => by simp at he⟩⟩
theorem never {x : World → GStep} {y : GStep} {w : World} (hx : ∀ v, ∃ o v' es, x v = .ended o v' es) : InStep S K x y w := ⟨0, fun v _ _ => .inl (hx v)⟩

theorem inStep_ite {b : Bool} {x1 x2 : World → GStep} {y1 y2 : GStep} {w : World} (h1 : InStep S K x1 y1 w) (h2 : InStep S K x2 y2 w) : InStep S K (fun v => if b = true then x1 v else x2 v) (if b = true then y1 else y2) w := by
  cases b
  · exact h2
  · exact h1

/-- What is kept, step by step. -/
structure Steady (Q P : Program) (K : Goroutine → Prop) (fr : Frame) (cs : List Frame) : Prop where
  to : ∀ todo, Leads fr fr.todo todo → K { frame := { fr with todo }, callers := cs, status := .running, dying := none }
  finish : ∀ v, K { frame := fr.finish v, callers := cs, status := .running, dying := none }
  enter : ∀ f args, Frame.enter Q f args .normal = Frame.enter P f args .normal → K { frame := Frame.enter P f args .normal, callers := fr :: cs, status := .running, dying := none }
  raise : ∀ ch, K { frame := fr.raise ch, callers := cs, status := .running, dying := none }
  leave : K { frame := { fr with mode := .returning }, callers := cs, status := .running, dying := none }

theorem exec_couple (hst : Stubbed Q P) {fr : Frame} {cs : List Frame} (hk : (fr.kind == .early) = false) (hr : fr.roundOf = none) (ht : TopOk Q P S fr fr.todo) (hK : Steady Q P K fr cs) (w : World) :
    InStep S K (fun v => stepG.exec Q true true fr (cs ++ [bottom]) none v) (stepG.exec P true true fr cs none w) w := by
  obtain ⟨fn, tmps, todo, defers, mode, kind, ro⟩ := fr
  dsimp only at hr hk
  subst hr
  unfold stepG.exec
  cases todo with
  | nil => exact still rfl (fun v => rfl) hK.leave
  | cons x k =>
    cases x with
    | inBlock id => exact still rfl (fun v => rfl) (hK.to _ .drop)
    | inScope id => exact still rfl (fun v => rfl) (hK.to _ .drop)
    | inLoop id => exact still rfl (fun v => rfl) (hK.to _ .again)
    | inRangeFunc l => exact ht.elim
    | endRangeFunc l => exact ht.elim
    | beginRound => exact ht.elim
    | call _ _ _ _ => exact ht.elim
    | extern _ _ => exact ht.elim
    | inRegion ops is =>
      cases is with
      | nil => exact still rfl (fun v => rfl) (hK.to _ .drop)
      | cons i rest =>
        dsimp only
        split
        · unfold stepG.oper Frame.oper?
          dsimp only
          cases ho : ops[i]? with
          | none => exact never (fun v => ⟨_, _, _, rfl⟩)
          | some o => exact apply_couple hst hk (ht o ho) hK.finish hK.enter hK.raise w
        · exact still rfl (fun v => rfl) (hK.finish _)
    | code c =>
      cases c with
      | skip => exact still rfl (fun v => rfl) (hK.to _ .drop)
      | label _ => exact still rfl (fun v => rfl) (hK.to _ .drop)
      | seq _ _ => exact still rfl (fun v => rfl) (hK.to _ .seq)
      | block _ _ => exact still rfl (fun v => rfl) (hK.to _ .block)
      | loop _ => exact still rfl (fun v => rfl) (hK.to _ .loop)
      | scope _ => exact still rfl (fun v => rfl) (hK.to _ .scope)
      | ret => exact still rfl (fun v => rfl) hK.leave
      | refuse why => exact never (fun v => ⟨_, _, _, rfl⟩)
      | rangeFunc _ _ _ _ => exact ht.elim
      | cond c a b =>
        dsimp only
        split
        · exact still rfl (fun v => rfl) (hK.to _ (.cond _))
        · exact never (fun v => ⟨_, _, _, rfl⟩)
      | exit id =>
        dsimp only
        cases he : exitTo id k with
        | none => exact never (fun v => ⟨_, _, _, rfl⟩)
        | some k' => exact still rfl (fun v => rfl) (hK.to _ (.exit he))
      | goto id =>
        dsimp only
        cases he : gotoIn id k with
        | none => exact never (fun v => ⟨_, _, _, rfl⟩)
        | some k' => exact still rfl (fun v => rfl) (hK.to _ (.goto he))
      | region id ops draw =>
        cases draw with
        | false => exact still rfl (fun v => rfl) (hK.to _ (.region _))
        | true =>
          refine ⟨1, fun v hc ha => ?_⟩
          have h0 : v.tape v.drawn = w.tape w.drawn := ha 0 (Nat.lt_succ_self 0)
          simp only [choose, Sem.run, Question.forced, Bool.not_true, Bool.false_eq_true, if_false, h0, hst.follows]
          exact .inr ⟨_, _, _, rfl, .inr ⟨_, rfl, hK.to _ (.region _), rfl, rfl, _, rfl, rfl, rfl, hc.drew _ _, Nat.le_refl _, fun e he => by simp at he⟩⟩

/-- What is asked of a frame that is being left. -/
def LeaveOk (Q P : Program) (S : Nat → Prop) (fr : Frame) : Prop :=
  fr.defers = [] ∧ fr.kind = .normal ∧ ∀ fn, P.funcs[fr.fn]? = some fn → Tame Q P S (fun _ => False) (fun _ => True) (results fn fr.tmps)

theorem back_stub (y : Value) : Stub { frame := bottom.finish y, callers := [], status := .running, dying := none } := ⟨rfl, rfl, .inl ⟨"", rfl, rfl⟩⟩
theorem raise_stub (ch : List PanicEntry) : Stub { frame := bottom.raise ch, callers := [], status := .running, dying := none } := ⟨rfl, rfl, .inr ⟨ch, rfl, rfl⟩⟩

theorem unwind_couple (hst : Stubbed Q P) {fr : Frame} {cs : List Frame} (ht : LeaveOk Q P S fr) (hr : fr.mode ≠ .run)
    (k1 : ∀ c rest y, cs = c :: rest → K { frame := c.finish y, callers := rest, status := .running, dying := none })
    (k2 : ∀ c rest ch, cs = c :: rest → K { frame := c.raise ch, callers := rest, status := .running, dying := none }) (w : World) :
    InStep S K (fun v => unwind Q true fr (cs ++ [bottom]) none v) (unwind P true fr cs none w) w := by
  obtain ⟨hd, hk, ht⟩ := ht
  cases cs with
  | nil =>
    -- whatever it is: it comes back to the bottom
    refine ⟨0, fun v hc ha => ?_⟩
    unfold unwind
    simp only [hd, List.nil_append]
    cases hm : fr.mode with
    | run => exact absurd hm hr
    | panicking chain =>
      dsimp only
      split
      · exact .inl ⟨_, _, _, rfl⟩
      · exact .inr ⟨_, _, _, rfl, .inl (raise_stub _)⟩
    | returning =>
      dsimp only
      split
      · unfold doReturn
        simp only [hk]
        exact .inr ⟨_, _, _, rfl, .inl (back_stub _)⟩
      · generalize Sem.runT Q _ v #[] = z
        obtain ⟨r, es'⟩ := z
        cases r with
        | ok y v2 =>
          unfold doReturn
          simp only [hk]
          exact .inr ⟨_, _, _, rfl, .inl (back_stub _)⟩
        | halt h v2 => cases h <;> exact .inl ⟨_, _, _, rfl⟩
  | cons c rest =>
    unfold unwind
    simp only [hd]
    cases hm : fr.mode with
    | run => exact absurd hm hr
    | panicking chain =>
      dsimp only
      have hcat : fr.catches Q = fr.catches P := by
        unfold Frame.catches
        rcases hst.fn fr.fn with e | ⟨g, why, e1, e2⟩
        · rw [e]
        · rw [e1, e2]
      rw [hcat]
      exact inStep_ite (never (fun v => ⟨_, _, _, rfl⟩)) (still rfl (fun v => rfl) (k2 _ _ _ rfl))
    | returning =>
      dsimp only
      have hret : ∀ (p : Program) (x : World) (y : Value), doReturn p true fr (c :: rest) none y x = .go { frame := c.finish y, callers := rest, status := .running, dying := none } x := fun p x y => by
        unfold doReturn
        simp only [hk]
      have hret' : ∀ (p : Program) (x : World) (y : Value), doReturn p true fr (c :: rest ++ [bottom]) none y x = .go (ext { frame := c.finish y, callers := rest, status := .running, dying := none }) x := fun p x y => by
        unfold doReturn
        simp only [hk]
        rfl
      have main : ∀ (fn : Func), Tame Q P S (fun _ => False) (fun _ => True) (results fn fr.tmps) → InStep S K
          (fun v => GStep.after (seen Q fr.fn ((results fn fr.tmps).runT Q v #[]).2) (match ((results fn fr.tmps).runT Q v #[]).1 with
            | .ok x w => doReturn Q true fr (c :: rest ++ [bottom]) none x w
            | .halt (.stuck s) w => .ended (.stuck s (fr.pos Q)) w
            | .halt _ w => .ended (.stuck "return: the result variables cannot be read" (fr.pos Q)) w))
          (GStep.after (seen P fr.fn ((results fn fr.tmps).runT P w #[]).2) (match ((results fn fr.tmps).runT P w #[]).1 with
            | .ok x w => doReturn P true fr (c :: rest) none x w
            | .halt (.stuck s) w => .ended (.stuck s (fr.pos P)) w
            | .halt _ w => .ended (.stuck "return: the result variables cannot be read" (fr.pos P)) w)) w := by
        intro fn hs
        generalize results fn fr.tmps = s at hs
        refine ⟨(Result.w (s.runT P w #[]).1).drawn - w.drawn, fun v hc ha => ?_⟩
        rcases run_couple s v w #[] hs hc (fun i hi => ha i (by omega)) with (⟨h, v', hd, hE⟩ | ⟨_, _, _, hz⟩) | ⟨us, v2, w2, c2, t1, t2, hsz, ⟨c, d1, d2⟩, hok, hb⟩
        · simp only [hd]
          cases h <;> exact .inl ⟨_, _, _, rfl⟩
        · exact hz.elim
        · rcases hb with ⟨a, _, e1, e2⟩ | ⟨h, _, e1, e2⟩
          · have hcd : (Result.w (s.runT P w #[]).1).drawn - w.drawn = c := by rw [e2]; show w2.drawn - w.drawn = c; omega
            rw [hcd]
            simp only [e1, e2, Array.empty_append]
            rw [hret', hret]
            exact went hst (.inr ⟨rfl, k1 _ _ _ rfl⟩) c2 t1 t2 hsz d1 d2 hok
          · simp only [e1]
            cases h <;> exact .inl ⟨_, _, _, rfl⟩
      rcases hst.fn fr.fn with e | ⟨g, why, e1, e2⟩
      · rw [e]
        cases hf : P.funcs[fr.fn]? with
        | none => exact still (hret _ _ _) (fun v => hret' _ _ _) (k1 _ _ _ rfl)
        | some fn => exact main fn (ht fn hf)
      · rw [e1, e2]
        exact main g (ht g e1)
end
end Go.Proofs.Yteaincbmnhehcab
