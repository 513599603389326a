/- Two runs in step: a goroutine's step, whole. A goroutine that alone comes to a stop on every tape comes to it in company too, whatever the draws between its steps. -/
import Derived.Test.YtdafpnpfcmgfcaaGreatDoorKb01
namespace Go.Proofs.YtdafpnpfcmgfcaaGreatDoor
section
open Go
section
variable {Q P : Program} {S : Sh} {K : Goroutine → Prop}
def isMark (d : Deferred) : Prop := ∃ r, d = { target := .collected r, args := #[] }
def MarkOk (x : Nat × List Deferred) : Prop := ∀ d ∈ x.2, isMark d
def loopCall (ρ : Operand → Value) (f : Operand) (l : Nat) : Sem Next := do
 let d ← resolve ρ { callee := .value f, args := #[.const (.func (.yield l) #[] #[])], argTypes := #[] } 0
 invoke d.target d.args
def TopOk (Q P : Program) (S : Sh) (fr : Frame) : List Item → Prop
 | .inRegion ops (i :: _) :: _ => ∀ o, ops[i]? = some o → Tame Q P S (ZN Q) OkNext (execOp fr.eval o) ∧ ∀ c, o.op ≠ .defer c
 | .code (.rangeFunc f ps a b) :: _ => Tame Q P S (fun _ => False) MarkOk (Instr.enterLoop fr.fn fr.tmps ps a b fr.roundOf) ∧ ∀ l, Tame Q P S (ZN Q) OkNext (loopCall fr.eval f l)
 | .beginRound :: _ => Tame Q P S (ZN Q) OkNext (do fr.roundOf.elim (stuck "beginRound: no round") Instr.beginRound; pure .skip)
 | .endRangeFunc l :: _ => Tame Q P S (fun _ => False) (fun j => jumpOk j = true) (Instr.endLoop l)
 | .call _ _ _ _ :: _ | .extern _ _ :: _ => False
 | _ => True
inductive Leads (fr : Frame) : List Item → List Item → Prop
 | drop {x : Item} {k : List Item} : Leads fr (x :: k) k
 | seq {a b : Code} {k : List Item} : Leads fr (.code (.seq a b) :: k) (.code a :: .code b :: k)
 | cond {c : Operand} {a b : Code} {k : List Item} (t : Bool) : Leads fr (.code (.cond c a b) :: k) (.code (if t then a else b) :: k)
 | block {id : Nat} {a : Code} {k : List Item} : Leads fr (.code (.block id a) :: k) (.code a :: .inBlock id :: k)
 | loop {a : Code} {k : List Item} : Leads fr (.code (.loop a) :: k) (.code a :: .inLoop a :: k)
 | again {a : Code} {k : List Item} : Leads fr (.inLoop a :: k) (.code a :: .inLoop a :: k)
 | scope {a : Code} {k : List Item} : Leads fr (.code (.scope a) :: k) (.code a :: .inScope a :: k)
 | exit {id : Nat} {k k' : List Item} : exitTo id k = some k' → Leads fr (.code (.exit id) :: k) k'
 | goto {l : Nat} {k k' : List Item} : gotoIn l k = some k' → Leads fr (.code (.goto l) :: k) k'
 | region {id : Nat} {ops : Array Oper} {b : Bool} {k : List Item} (is : List Nat) : Leads fr (.code (.region id ops b) :: k) (.inRegion ops is :: k)
theorem still {G : Goroutine} {x : World → GStep} {y : GStep} {w : World} (hy : y = .go G w) (hx : ∀ v, x v = .go (ext G) v) (hK : K G) : InStep S K x y w := by
 refine ⟨0, fun v hc _ => ?_⟩
 rw [hx]
 exact .inr ⟨_, _, _, rfl, .inr ⟨G, rfl, hK, rfl, rfl, w, hy, rfl, rfl, hc, Nat.le_refl _, fun e he => by simp at he⟩⟩
theorem never {x : World → GStep} {y : GStep} {w : World} (hx : ∀ v, ∃ o v' es, x v = .ended o v' es) : InStep S K x y w := ⟨0, fun v _ _ => .inl (hx v)⟩
theorem inStep_ite {b : Bool} {x1 x2 : World → GStep} {y1 y2 : GStep} {w : World} (h1 : InStep S K x1 y1 w) (h2 : InStep S K x2 y2 w) : InStep S K (fun v => if b = true then x1 v else x2 v) (if b = true then y1 else y2) w := by
 cases b
 ·exact h2
 ·exact h1
structure Steps1 (Q P : Program) (K : Goroutine → Prop) (fr : Frame) (cs : List Frame) : Prop where
 finish : ∀ v, K { frame := fr.finish v, callers := cs, status := .running, dying := none }
 enter : ∀ f args, Frame.enter Q f args .normal = Frame.enter P f args .normal → K { frame := Frame.enter P f args .normal, callers := fr :: cs, status := .running, dying := none }
 raise : ∀ ch, K { frame := fr.raise ch, callers := cs, status := .running, dying := none }
 round : ∀ l f tmps a b, synCode a = true → synCode b = true → K { frame := Frame.round l f tmps a b .normal, callers := fr :: cs, status := .running, dying := none }
structure Steady (Q P : Program) (K : Goroutine → Prop) (fr : Frame) (cs : List Frame) : Prop extends Steps1 Q P K fr cs where
 to : ∀ todo, Leads fr fr.todo todo → K { frame := { fr with todo }, callers := cs, status := .running, dying := none }
 leave : fr.roundOf = none → K { frame := { fr with mode := .returning }, callers := cs, status := .running, dying := none }
 jump : ∀ l k j, fr.todo = .endRangeFunc l :: k → jumpOk j = true → K { frame := { fr with todo := (j.map Item.code).toList ++ k }, callers := cs, status := .running, dying := none }
 within : ∀ f ps a b k l mark, fr.todo = .code (.rangeFunc f ps a b) :: k → MarkOk (l, mark) → Steps1 Q P K { fr with todo := .inRangeFunc l :: k, defers := mark ++ fr.defers } cs
 over : ∀ c rest y, cs = c :: rest → K { frame := c.finish y, callers := rest, status := .running, dying := none }
theorem back_stub (y : Value) : Stub { frame := bottom.finish y, callers := [], status := .running, dying := none } := ⟨rfl, rfl, .inl ⟨ "", rfl, rfl⟩⟩
theorem raise_stub (ch : List PanicEntry) : Stub { frame := bottom.raise ch, callers := [], status := .running, dying := none } := ⟨rfl, rfl, .inr ⟨ch, rfl, rfl⟩⟩
theorem InStep.congr {x x' : World → GStep} {y y' : GStep} {w : World} (hx : ∀ v, x v = x' v) (hy : y = y') (h : InStep S K x' y' w) : InStep S K x y w := by
 obtain ⟨c, hc⟩ := h
 exact ⟨c, fun v h1 h2 => by rw [hx, hy]; exact hc v h1 h2⟩
theorem return_couple {fr : Frame} {cs : List Frame} (hk : fr.kind = .normal) (hK : ∀ c rest y, cs = c :: rest → K { frame := c.finish y, callers := rest, status := .running, dying := none }) (y : Value) (w : World) :
  InStep S K (fun v => doReturn Q true fr (cs ++ [bottom]) none y v) (doReturn P true fr cs none y w) w := by
 cases cs with
 | nil =>
  refine ⟨0, fun v hc ha => .inr ⟨_, v, #[], ?_, .inl (back_stub y)⟩⟩
  simp only [doReturn, List.nil_append, hk]
 | cons c rest =>
  refine still ?_ (fun v => ?_) (hK c rest y rfl)
  ·simp only [doReturn, hk]
  ·simp only [doReturn, hk, List.cons_append]
   rfl
theorem exec_couple (hst : Stubbed Q P) {fr : Frame} {cs : List Frame} (hk : fr.kind = .normal) (hrd : ∀ l j, fr.roundOf = some l → jumpOk j = true → Tame Q P S (fun _ => False) (fun _ => True) (Instr.endRound l j)) (ht : TopOk Q P S fr fr.todo) (hK : Steady Q P K fr cs) (w : World) :
  InStep S K (fun v => stepG.exec Q true true fr (cs ++ [bottom]) none v) (stepG.exec P true true fr cs none w) w := by
 have hke : (fr.kind == .early) = false := by rw [hk]; rfl
 have hleave := fun (j : Option Code) (hj : jumpOk j = true) (l : Nat) (hl : fr.roundOf = some l) =>
  then_couple hst (hrd l j hl hj) (fn := fr.fn) (X := fun y v => doReturn Q true fr (cs ++ [bottom]) none y v) (Y := fun y w => doReturn P true fr cs none y w) (hq := fun _ w => .ended (.stuck "range over a function: no such loop" (fr.pos Q)) w) (hp := fun _ w => .ended (.stuck "range over a function: no such loop" (fr.pos P)) w)
   (fun y _ w2 => return_couple hk hK.over y w2) (fun h v _ => ⟨_, _, _, rfl⟩) (fun x => .inr fun v => ⟨_, _, _, rfl⟩) w
 obtain ⟨fn, tmps, todo, defers, mode, kind, ro⟩ := fr
 dsimp only at hk hke hleave
 unfold stepG.exec
 cases todo with
 | nil =>
  cases ro with
  | none => exact still rfl (fun v => rfl) (hK.leave rfl)
  | some l => exact InStep.congr (fun v => by (try dsimp only); generalize Sem.runT Q (Instr.endRound l none) v #[] = z; obtain ⟨r, es⟩ := z; cases r <;> first | rfl | (rename_i h _; cases h <;> rfl)) (by (try dsimp only); generalize Sem.runT P (Instr.endRound l none) w #[] = z; obtain ⟨r, es⟩ := z; cases r <;> first | rfl | (rename_i h _; cases h <;> rfl)) (hleave none rfl l rfl)
 | cons x k =>
  cases x with
  | inBlock id => exact still rfl (fun v => rfl) (hK.to _ .drop)
  | inScope id => exact still rfl (fun v => rfl) (hK.to _ .drop)
  | inLoop id => exact still rfl (fun v => rfl) (hK.to _ .again)
  | inRangeFunc l => exact never (fun v => ⟨_, _, _, rfl⟩)
  | endRangeFunc l =>
   refine InStep.congr (fun v => by (try dsimp only); generalize Sem.runT Q (Instr.endLoop l) v #[] = z; obtain ⟨r, es⟩ := z; cases r <;> first | rfl | (rename_i h _; cases h <;> rfl)) (by (try dsimp only); generalize Sem.runT P (Instr.endLoop l) w #[] = z; obtain ⟨r, es⟩ := z; cases r <;> first | rfl | (rename_i h _; cases h <;> rfl)) (then_couple hst ht (fn := fn) (hq := fun h w => match h with | .panic y => .go { frame := Frame.raise ⟨fn, tmps, .endRangeFunc l :: k, defers, mode, kind, ro⟩ [{ v := y, recovered := false }], callers := cs ++ [bottom], status := .running, dying := none } w | _ => .ended (.stuck "range over a function: no such loop" (Frame.pos Q ⟨fn, tmps, .endRangeFunc l :: k, defers, mode, kind, ro⟩)) w) (hp := fun h w => match h with | .panic y => .go { frame := Frame.raise ⟨fn, tmps, .endRangeFunc l :: k, defers, mode, kind, ro⟩ [{ v := y, recovered := false }], callers := cs, status := .running, dying := none } w | _ => .ended (.stuck "range over a function: no such loop" (Frame.pos P ⟨fn, tmps, .endRangeFunc l :: k, defers, mode, kind, ro⟩)) w) (X := fun (j : Option Code) v => .go { frame := ⟨fn, tmps, (j.map Item.code).toList ++ k, defers, mode, kind, ro⟩, callers := cs ++ [bottom], status := .running, dying := none } v) (Y := fun (j : Option Code) w => .go { frame := ⟨fn, tmps, (j.map Item.code).toList ++ k, defers, mode, kind, ro⟩, callers := cs, status := .running, dying := none } w)
    (fun j hj w2 => still rfl (fun v => rfl) (hK.jump l k j rfl hj)) (fun h v hn => by
     cases h <;> first | exact ⟨_, _, _, rfl⟩ | exact absurd rfl (hn _)) (fun x => .inl ⟨_, hK.raise _, fun v => rfl, fun w => rfl⟩) w)
  | beginRound => exact apply_couple hst hke ht hK.finish hK.enter hK.raise hK.round w
  | call _ _ _ _ => exact ht.elim
  | extern _ _ => exact ht.elim
  | inRegion ops is =>
   cases is with
   | nil => exact still rfl (fun v => rfl) (hK.to _ .drop)
   | cons i rest =>
    dsimp only
    split
    ·unfold stepG.oper Frame.oper?
     dsimp only
     cases ho : ops[i]? with
     | none => exact never (fun v => ⟨_, _, _, rfl⟩)
     | some o =>
      dsimp only
      split
      ·rename_i c hr ho'
       exact absurd ho' ((ht o ho).2 _)
      ·exact apply_couple hst hke (ht o ho).1 hK.finish hK.enter hK.raise hK.round w
    ·exact still rfl (fun v => rfl) (hK.finish _)
  | code c =>
   cases c with
   | skip => exact still rfl (fun v => rfl) (hK.to _ .drop)
   | label _ => exact still rfl (fun v => rfl) (hK.to _ .drop)
   | seq _ _ => exact still rfl (fun v => rfl) (hK.to _ .seq)
   | block _ _ => exact still rfl (fun v => rfl) (hK.to _ .block)
   | loop _ => exact still rfl (fun v => rfl) (hK.to _ .loop)
   | scope _ => exact still rfl (fun v => rfl) (hK.to _ .scope)
   | ret =>
    cases ro with
    | none => exact still rfl (fun v => rfl) (hK.leave rfl)
    | some l => exact InStep.congr (fun v => by (try dsimp only); generalize Sem.runT Q (Instr.endRound l (some .ret)) v #[] = z; obtain ⟨r, es⟩ := z; cases r <;> first | rfl | (rename_i h _; cases h <;> rfl)) (by (try dsimp only); generalize Sem.runT P (Instr.endRound l (some .ret)) w #[] = z; obtain ⟨r, es⟩ := z; cases r <;> first | rfl | (rename_i h _; cases h <;> rfl)) (hleave (some .ret) rfl l rfl)
   | refuse why => exact never (fun v => ⟨_, _, _, rfl⟩)
   | rangeFunc f ps a b =>
    refine InStep.congr (fun v => by (try dsimp only); generalize Sem.runT Q (Instr.enterLoop fn tmps ps a b ro) v #[] = z; obtain ⟨r, es⟩ := z; cases r <;> first | rfl | (rename_i h _; cases h <;> rfl)) (by (try dsimp only); generalize Sem.runT P (Instr.enterLoop fn tmps ps a b ro) w #[] = z; obtain ⟨r, es⟩ := z; cases r <;> first | rfl | (rename_i h _; cases h <;> rfl)) (then_couple hst ht.1 (fn := fn) (hq := fun _ w => .ended (.stuck "range over a function: no such loop" (Frame.pos Q ⟨fn, tmps, .code (.rangeFunc f ps a b) :: k, defers, mode, kind, ro⟩)) w) (hp := fun _ w => .ended (.stuck "range over a function: no such loop" (Frame.pos P ⟨fn, tmps, .code (.rangeFunc f ps a b) :: k, defers, mode, kind, ro⟩)) w) (X := fun (x : Nat × List Deferred) v => stepG.apply Q true ⟨fn, tmps, .inRangeFunc x.1 :: k, x.2 ++ defers, mode, kind, ro⟩ (cs ++ [bottom]) none (loopCall (Frame.eval ⟨fn, tmps, .inRangeFunc x.1 :: k, x.2 ++ defers, mode, kind, ro⟩) f x.1) v)
     (Y := fun (x : Nat × List Deferred) w => stepG.apply P true ⟨fn, tmps, .inRangeFunc x.1 :: k, x.2 ++ defers, mode, kind, ro⟩ cs none (loopCall (Frame.eval ⟨fn, tmps, .inRangeFunc x.1 :: k, x.2 ++ defers, mode, kind, ro⟩) f x.1) w)
     (fun x hx w2 => by
      have h1 := hK.within f ps a b k x.1 x.2 rfl hx
      exact apply_couple hst hke (ht.2 x.1) h1.finish h1.enter h1.raise h1.round w2) (fun h v _ => ⟨_, _, _, rfl⟩) (fun x => .inr fun v => ⟨_, _, _, rfl⟩) w)
   | cond c a b =>
    dsimp only
    split
    ·exact still rfl (fun v => rfl) (hK.to _ (.cond _))
    ·exact never (fun v => ⟨_, _, _, rfl⟩)
   | exit id =>
    dsimp only
    cases he : exitTo id k with
    | none =>
     cases ro with
     | none => exact never (fun v => ⟨_, _, _, rfl⟩)
     | some l => exact InStep.congr (fun v => by (try dsimp only); generalize Sem.runT Q (Instr.endRound l (some (.exit id))) v #[] = z; obtain ⟨r, es⟩ := z; cases r <;> first | rfl | (rename_i h _; cases h <;> rfl)) (by (try dsimp only); generalize Sem.runT P (Instr.endRound l (some (.exit id))) w #[] = z; obtain ⟨r, es⟩ := z; cases r <;> first | rfl | (rename_i h _; cases h <;> rfl)) (hleave (some (.exit id)) rfl l rfl)
    | some k' => exact still rfl (fun v => rfl) (hK.to _ (.exit he))
   | goto id =>
    dsimp only
    cases he : gotoIn id k with
    | none =>
     cases ro with
     | none => exact never (fun v => ⟨_, _, _, rfl⟩)
     | some l => exact InStep.congr (fun v => by (try dsimp only); generalize Sem.runT Q (Instr.endRound l (some (.goto id))) v #[] = z; obtain ⟨r, es⟩ := z; cases r <;> first | rfl | (rename_i h _; cases h <;> rfl)) (by (try dsimp only); generalize Sem.runT P (Instr.endRound l (some (.goto id))) w #[] = z; obtain ⟨r, es⟩ := z; cases r <;> first | rfl | (rename_i h _; cases h <;> rfl)) (hleave (some (.goto id)) rfl l rfl)
    | some k' => exact still rfl (fun v => rfl) (hK.to _ (.goto he))
   | region id ops draw =>
    cases draw with
    | false => exact still rfl (fun v => rfl) (hK.to _ (.region _))
    | true =>
     refine ⟨1, fun v hc ha => ?_⟩
     have h0 : v.tape v.drawn = w.tape w.drawn := ha 0 (Nat.lt_succ_self 0)
     simp only [choose, Sem.run, Question.forced, Bool.not_true, Bool.false_eq_true, if_false, h0, hst.follows]
     exact .inr ⟨_, _, _, rfl, .inr ⟨_, rfl, hK.to _ (.region _), rfl, rfl, _, rfl, rfl, rfl, hc.drew _ _, Nat.le_refl _, fun e he => by simp at he⟩⟩
def LeaveOk (Q P : Program) (S : Sh) (fr : Frame) : Prop :=
 (∀ d ∈ fr.defers, ∃ r, d = { target := .collected r, args := #[] } ∧ Tame Q P S (fun _ => False) (fun ds => ds = []) (Instr.takeDeferred r)) ∧ fr.kind = .normal ∧ ∀ fn, P.funcs[fr.fn]? = some fn → Tame Q P S (fun _ => False) (fun _ => True) (results fn fr.tmps)
theorem unwind_couple (hst : Stubbed Q P) {fr : Frame} {cs : List Frame} (ht : LeaveOk Q P S fr) (hr : fr.mode ≠ .run)
  (k1 : ∀ c rest y, cs = c :: rest → K { frame := c.finish y, callers := rest, status := .running, dying := none })
  (k2 : ∀ c rest ch, cs = c :: rest → K { frame := c.raise ch, callers := rest, status := .running, dying := none })
  (k3 : ∀ d ds, fr.defers = d :: ds → K { frame := { fr with defers := ds }, callers := cs, status := .running, dying := none }) (w : World) :
  InStep S K (fun v => unwind Q true fr (cs ++ [bottom]) none v) (unwind P true fr cs none w) w := by
 obtain ⟨hd0, hk, ht⟩ := ht
 cases hd : fr.defers with
 | cons d ds =>
  obtain ⟨r, rfl, htk⟩ := hd0 d (by rw [hd]; simp)
  have hk3 := k3 _ _ hd
  unfold unwind
  simp only [hd]
  refine InStep.congr (fun v => by (try dsimp only); generalize Sem.runT Q (Instr.takeDeferred r) v #[] = z; obtain ⟨r, es⟩ := z; cases r <;> first | rfl | (rename_i h _; cases h <;> rfl)) (by (try dsimp only); generalize Sem.runT P (Instr.takeDeferred r) w #[] = z; obtain ⟨r, es⟩ := z; cases r <;> first | rfl | (rename_i h _; cases h <;> rfl)) (then_couple hst htk (fn := fr.fn) (hq := fun _ w => .ended (.stuck "the deferred calls of a range-over-func loop have been taken" (fr.pos Q)) w) (hp := fun _ w => .ended (.stuck "the deferred calls of a range-over-func loop have been taken" (fr.pos P)) w) (X := fun (calls : List Deferred) v => .go { frame := { fr with defers := calls ++ ds }, callers := cs ++ [bottom], status := .running, dying := none } v) (Y := fun (calls : List Deferred) w => .go { frame := { fr with defers := calls ++ ds }, callers := cs, status := .running, dying := none } w)
   (fun calls hc w2 => by subst hc; exact still rfl (fun v => rfl) hk3) (fun h v _ => ⟨_, _, _, rfl⟩) (fun x => .inr fun v => ⟨_, _, _, rfl⟩) w)
 | nil =>
 cases cs with
 | nil =>
  refine ⟨0, fun v hc ha => ?_⟩
  unfold unwind
  simp only [hd, List.nil_append]
  cases hm : fr.mode with
  | run => exact absurd hm hr
  | panicking chain =>
   dsimp only
   split
   ·exact .inl ⟨_, _, _, rfl⟩
   ·exact .inr ⟨_, _, _, rfl, .inl (raise_stub _)⟩
  | returning =>
   dsimp only
   split
   ·unfold doReturn
    simp only [hk]
    exact .inr ⟨_, _, _, rfl, .inl (back_stub _)⟩
   ·generalize Sem.runT Q _ v #[] = z
    obtain ⟨r, es'⟩ := z
    cases r with
    | ok y v2 =>
     unfold doReturn
     simp only [hk]
     exact .inr ⟨_, _, _, rfl, .inl (back_stub _)⟩
    | halt h v2 => cases h <;> exact .inl ⟨_, _, _, rfl⟩
 | cons c rest =>
  unfold unwind
  simp only [hd]
  cases hm : fr.mode with
  | run => exact absurd hm hr
  | panicking chain =>
   dsimp only
   have hcat : fr.catches Q = fr.catches P := by
    unfold Frame.catches
    rcases hst.fn fr.fn with e | ⟨g, why, e1, e2⟩
    ·rw [e]
    ·rw [e1, e2]
   rw [hcat]
   exact inStep_ite (never (fun v => ⟨_, _, _, rfl⟩)) (still rfl (fun v => rfl) (k2 _ _ _ rfl))
  | returning =>
   dsimp only
   have hret : ∀ (p : Program) (x : World) (y : Value), doReturn p true fr (c :: rest) none y x = .go { frame := c.finish y, callers := rest, status := .running, dying := none } x := fun p x y => by
    unfold doReturn
    simp only [hk]
   have hret' : ∀ (p : Program) (x : World) (y : Value), doReturn p true fr (c :: rest ++ [bottom]) none y x = .go (ext { frame := c.finish y, callers := rest, status := .running, dying := none }) x := fun p x y => by
    unfold doReturn
    simp only [hk]
    rfl
   have main : ∀ (fn : Func), Tame Q P S (fun _ => False) (fun _ => True) (results fn fr.tmps) → InStep S K
     (fun v => GStep.after (seen Q fr.fn ((results fn fr.tmps).runT Q v #[]).2) (match ((results fn fr.tmps).runT Q v #[]).1 with
      | .ok x w => doReturn Q true fr (c :: rest ++ [bottom]) none x w
      | .halt (.stuck s) w => .ended (.stuck s (fr.pos Q)) w
      | .halt _ w => .ended (.stuck "return: the result variables cannot be read" (fr.pos Q)) w))
     (GStep.after (seen P fr.fn ((results fn fr.tmps).runT P w #[]).2) (match ((results fn fr.tmps).runT P w #[]).1 with
      | .ok x w => doReturn P true fr (c :: rest) none x w
      | .halt (.stuck s) w => .ended (.stuck s (fr.pos P)) w
      | .halt _ w => .ended (.stuck "return: the result variables cannot be read" (fr.pos P)) w)) w := by
    intro fn hs
    generalize results fn fr.tmps = s at hs
    refine ⟨(Result.w (s.runT P w #[]).1).drawn - w.drawn, fun v hc ha => ?_⟩
    rcases run_couple s v w #[] hs hc (fun i hi => ha i (by omega)) with (⟨h, v', hd, hE⟩ | ⟨_, _, _, hz⟩) | ⟨us, v2, w2, c2, t1, t2, hsz, ⟨c, d1, d2⟩, hok, hb⟩
    ·simp only [hd]
     cases h <;> exact .inl ⟨_, _, _, rfl⟩
    ·exact hz.elim
    ·rcases hb with ⟨a, _, e1, e2⟩ | ⟨h, _, e1, e2⟩
     ·have hcd : (Result.w (s.runT P w #[]).1).drawn - w.drawn = c := by rw [e2]; show w2.drawn - w.drawn = c; omega
      rw [hcd]
      simp only [e1, e2, Array.empty_append]
      rw [hret', hret]
      exact went hst (.inr ⟨rfl, k1 _ _ _ rfl⟩) c2 t1 t2 hsz d1 d2 hok
     ·simp only [e1]
      cases h <;> exact .inl ⟨_, _, _, rfl⟩
   rcases hst.fn fr.fn with e | ⟨g, why, e1, e2⟩
   ·rw [e]
    cases hf : P.funcs[fr.fn]? with
    | none => exact still (hret _ _ _) (fun v => hret' _ _ _) (k1 _ _ _ rfl)
    | some fn => exact main fn (ht fn hf)
   ·rw [e1, e2]
    exact main g (ht g e1)
end
end
section
open Go
def Rn (Q : Program) (Stop : Goroutine → World → Prop) : Nat → Goroutine → World → Prop
 | 0, g, v => Stop g v
 | n + 1, g, v => Stop g v ∨ ∃ g' v' es, stepG Q true g v = .go g' v' es ∧ Rn Q Stop n g' v'
def Sim (S : Sh) (w w₁ : World) : Prop := w₁.heap.size = w.heap.size ∧ ∀ v, Cp S v w → Cp S v w₁
theorem Sim.refl (S : Sh) (w : World) : Sim S w w := ⟨rfl, fun _ h => h⟩
theorem Sim.trans {S : Sh} {w w₁ w₂ : World} (h : Sim S w w₁) (h' : Sim S w₁ w₂) : Sim S w w₂ := ⟨h'.1.trans h.1, fun v hv => h'.2 v (h.2 v hv)⟩
theorem Sim.at (S : Sh) (w : World) (d : Nat) : Sim S w (w.at d) := ⟨rfl, fun _ h => ⟨h.size, h.low, h.out, h.brk, h.os, h.output, h.mark, h.cold⟩⟩
inductive Rb (P : Program) (S : Sh) (X : Goroutine → World → Prop) : Goroutine → World → Prop
 | stop {g : Goroutine} {w : World} : (∀ w₁, Sim S w w₁ → X g w₁) → Rb P S X g w
 | step {g : Goroutine} {w : World} (G : World → Goroutine) (W : World → World) (E : World → Array Event) : g.status = .running → (∀ w₁, Sim S w w₁ → stepG P true g w₁ = .go (G w₁) (W w₁) (E w₁)) →
   (∀ w₁, Sim S w w₁ → ∀ e ∈ E w₁, OkE S (W w₁).heap.size e) → (∀ w₁, Sim S w w₁ → w.heap.size ≤ (W w₁).heap.size) → (∀ w₁, Sim S w w₁ → Rb P S X (G w₁) (W w₁)) → Rb P S X g w
def World.re (v : World) (K : Nat) (T : Nat → Question → Nat) : World := { v with drawn := K, tape := T }
section
variable {Q P : Program} {S : Sh}
theorem Cp.re' {v w : World} (h : Cp S v w) (K : Nat) (T : Nat → Question → Nat) : Cp S (World.re v K T) w := ⟨h.size, h.low, h.out, h.brk, h.os, h.output, h.mark, h.cold⟩
theorem Cp.unique {v v' w : World} (h : Cp S v w) (h' : Cp S v' w) (hd : v.drawn = v'.drawn) (ht : v.tape = v'.tape) : v = v' := by
 have hh : v.heap = v'.heap := by
  refine Array.ext_getElem? fun b => ?_
  by_cases hb : S b
  ·obtain ⟨t, c, f, e1, e2⟩ := h.brk b hb
   obtain ⟨t', c', f', e1', e2'⟩ := h'.brk b hb
   rw [e2] at e2'
   cases e2'
   rw [e1, e1']
  ·rw [h.out b hb, h'.out b hb]
 have ho := h.os.trans h'.os.symm
 have hu := h.output.trans h'.output.symm
 cases v; cases v'
 simp_all
theorem stub_ends {g : Goroutine} (h : Stub g) (v : World) : ∃ o v' es, stepG Q true g v = .ended o v' es := by
 obtain ⟨h3, _, ⟨why, h1, h2⟩ | ⟨ch, h1, h2⟩⟩ := h
 ·unfold stepG
  simp only [h2, h3]
  unfold stepG.exec
  simp only [h1]
  exact ⟨_, _, _, rfl⟩
 ·unfold stepG
  simp only [h1, h3]
  unfold unwind
  simp only [h2]
  unfold callDeferred
  simp only [h1]
  exact ⟨_, _, _, rfl⟩
theorem stub_stays {g : Goroutine} (h : Stub g) (v : World) (g' : Goroutine) (v' : World) (es : Array Event) : stepG Q true g v ≠ .go g' v' es := by
 obtain ⟨o, v2, es2, e⟩ := stub_ends (Q := Q) h v
 rw [e]
 intro h; cases h
theorem ext_inj {g g' : Goroutine} (h : ext g = ext g') : g = g' := by
 obtain ⟨a, b, c, d, e⟩ := g
 obtain ⟨a', b', c', d', e'⟩ := g'
 simp only [ext, Goroutine.mk.injEq, List.append_cancel_right_eq] at h
 simp [h]
structure Kept (Q P : Program) (S : Sh) (Ok : Goroutine → Prop) : Prop where
 run : ∀ g, Ok g → g.status = .running
 step : ∀ g w, Ok g → InStep S Ok (fun v => stepG Q true (ext g) v) (stepG P true g w) w
structure Bad (Q P : Program) (S : Sh) (Ok : Goroutine → Prop) (Stop : Goroutine → World → Prop) where
 g : Goroutine
 w : World
 v : World
 K : Nat
 T : Nat → Question → Nat
 cp : Cp S v w
 ok : Ok g
 ends : ∀ T', (∀ i, i < K → T' i = T i) → ∃ n, Rn Q Stop n (ext g) (World.re v K T')
 bad : ¬ Rb P S (fun g w => ∃ v, Cp S v w ∧ Stop (ext g) v) g w
variable {Ok : Goroutine → Prop} {Stop : Goroutine → World → Prop}
theorem Bad.next (hk : Kept Q P S Ok) (hstub : ∀ g v, Stub g → ¬ Stop g v) (s : Bad Q P S Ok Stop) :
  ∃ s' : Bad Q P S Ok Stop, s.K ≤ s'.K ∧ (∀ i, i < s.K → s'.T i = s.T i) ∧ (∀ K T, ¬ Stop (ext s.g) (World.re s.v K T)) ∧
   ∀ T', (∀ i, i < s'.K → T' i = s'.T i) → ∃ es, stepG Q true (ext s.g) (World.re s.v s.K T') = .go (ext s'.g) (World.re s'.v s'.K T') es := by
 have hns : ∀ K T, ¬ Stop (ext s.g) (World.re s.v K T) := fun K T h => s.bad (.stop fun w₁ h₁ => ⟨_, (h₁.2 _ s.cp).re' K T, h⟩)
 have hst : ∀ w₁ : { w₁ // Sim S s.w w₁ }, ∃ c, ∃ g' w' es, stepG P true s.g w₁.1 = .go g' w' es ∧ (∀ e ∈ es, OkE S w'.heap.size e) ∧ s.w.heap.size ≤ w'.heap.size ∧ Ok g' ∧ ∃ v', Cp S v' w' ∧
   ∀ T', (∀ i, i < s.K → T' i = s.T i) → (∀ i, i < c → T' (s.K + i) = w₁.1.tape (w₁.1.drawn + i)) → ∃ es, stepG Q true (ext s.g) (World.re s.v s.K T') = .go (ext g') (World.re v' (s.K + c) T') es := by
  intro ⟨w₁, hw₁⟩
  obtain ⟨c, hc⟩ := hk.step s.g w₁ s.ok
  have one : ∀ T', (∀ i, i < s.K → T' i = s.T i) → (∀ i, i < c → T' (s.K + i) = w₁.tape (w₁.drawn + i)) →
    ∃ g' v1 es w1, stepG Q true (ext s.g) (World.re s.v s.K T') = .go (ext g') v1 es ∧ Ok g' ∧ v1.drawn = s.K + c ∧ v1.tape = T' ∧ stepG P true s.g w₁ = .go g' w1 es ∧ Cp S v1 w1 ∧ s.w.heap.size ≤ w1.heap.size ∧ ∀ e ∈ es, OkE S w1.heap.size e := by
   intro T' h1 h2
   obtain ⟨n, hn⟩ := s.ends T' h1
   cases n with
   | zero => exact absurd hn (hns _ _)
   | succ n =>
    rcases hn with hn | ⟨g', v1, es, hgo, hrest⟩
    ·exact absurd hn (hns _ _)
    have nostub : ¬ Stub g' := fun hs => by
     cases n with
     | zero => exact hstub _ _ hs hrest
     | succ n =>
      rcases hrest with h | ⟨g2, v2, es2, h, _⟩
      ·exact hstub _ _ hs h
      ·exact stub_stays hs _ _ _ _ h
    rcases hc _ ((hw₁.2 _ s.cp).re' s.K T') (fun i hi => h2 i hi) with ⟨_, _, _, he⟩ | ⟨g2, v2, es2, he, hrest2⟩
    ·have he' := hgo.symm.trans he; cases he'
    replace he := hgo.symm.trans he
    simp only [GStep.go.injEq] at he
    obtain ⟨rfl, rfl, rfl⟩ := he
    rcases hrest2 with h | ⟨gc, rfl, hok', d1, t1, w1, e1, _, _, c1, sz, oke⟩
    ·exact absurd h nostub
    ·exact ⟨gc, v1, es, w1, hgo, hok', d1, t1, e1, c1, hw₁.1 ▸ sz, oke⟩
  obtain ⟨g', v1, es, w1, hgo, hok, hd, ht, e1, c1, sz, oke⟩ := one (fun i => if i < s.K then s.T i else w₁.tape (w₁.drawn + (i - s.K))) (fun i hi => by simp [hi]) (fun i hi => by
   have : ¬ (s.K + i < s.K) := by omega
   simp [this])
  refine ⟨c, g', w1, es, e1, oke, sz, hok, v1, c1, fun T' h1 h2 => ?_⟩
  obtain ⟨g'', v2, es2, w2, hgo2, _, hd2, ht2, e2, c2, _, _⟩ := one T' h1 h2
  rw [e1] at e2
  simp only [GStep.go.injEq] at e2
  obtain ⟨rfl, rfl, rfl⟩ := e2
  have : v2 = World.re v1 (s.K + c) T' := c2.unique (c1.re' _ _) (by rw [hd2]; rfl) (by rw [ht2]; rfl)
  exact ⟨_, this ▸ hgo2⟩
 obtain ⟨f, hf⟩ := Classical.axiomOfChoice (r := fun (w₁ : { w₁ // Sim S s.w w₁ }) (z : Nat × Goroutine × World × Array Event × World) => stepG P true s.g w₁.1 = .go z.2.1 z.2.2.1 z.2.2.2.1 ∧ (∀ e ∈ z.2.2.2.1, OkE S z.2.2.1.heap.size e) ∧ s.w.heap.size ≤ z.2.2.1.heap.size ∧ Ok z.2.1 ∧ Cp S z.2.2.2.2 z.2.2.1 ∧
   ∀ T', (∀ i, i < s.K → T' i = s.T i) → (∀ i, i < z.1 → T' (s.K + i) = w₁.1.tape (w₁.1.drawn + i)) → ∃ es, stepG Q true (ext s.g) (World.re s.v s.K T') = .go (ext z.2.1) (World.re z.2.2.2.2 (s.K + z.1) T') es)
  (fun w₁ => by
   obtain ⟨c, g', w', es, a1, a2, a3, a4, v', a5, a6⟩ := hst w₁
   exact ⟨(c, g', w', es, v'), a1, a2, a3, a4, a5, a6⟩)
 by_cases hall : ∀ w₁ (h₁ : Sim S s.w w₁), Rb P S (fun g w => ∃ v, Cp S v w ∧ Stop (ext g) v) (f ⟨w₁, h₁⟩).2.1 (f ⟨w₁, h₁⟩).2.2.1
 ·classical
  refine absurd (Rb.step (fun w₁ => if h : Sim S s.w w₁ then (f ⟨w₁, h⟩).2.1 else default) (fun w₁ => if h : Sim S s.w w₁ then (f ⟨w₁, h⟩).2.2.1 else default) (fun w₁ => if h : Sim S s.w w₁ then (f ⟨w₁, h⟩).2.2.2.1 else #[]) (hk.run _ s.ok) (fun w₁ h => ?_) (fun w₁ h => ?_) (fun w₁ h => ?_) (fun w₁ h => ?_)) s.bad
  ·simp only [h, dif_pos]; exact (hf ⟨w₁, h⟩).1
  ·simp only [h, dif_pos]; exact (hf ⟨w₁, h⟩).2.1
  ·simp only [h, dif_pos]; exact (hf ⟨w₁, h⟩).2.2.1
  ·simp only [h, dif_pos]; exact hall w₁ h
 obtain ⟨w₁, hd⟩ := Classical.not_forall.1 hall
 obtain ⟨hw₁, hd⟩ := Classical.not_forall.1 hd
 obtain ⟨h1, h2, h3, h4, h5, h6⟩ := hf ⟨w₁, hw₁⟩
 generalize f ⟨w₁, hw₁⟩ = z at h1 h2 h3 h4 h5 h6 hd
 obtain ⟨c, g1, w2, es1, v2⟩ := z
 dsimp only at h1 h2 h3 h4 h5 h6 hd
 have hT : ∀ T', (∀ i, i < s.K + c → T' i = if i < s.K then s.T i else w₁.tape (w₁.drawn + (i - s.K))) → ∃ es, stepG Q true (ext s.g) (World.re s.v s.K T') = .go (ext g1) (World.re v2 (s.K + c) T') es := fun T' h =>
  h6 T' (fun i hi => by rw [h i (by omega)]; simp [hi]) (fun i hi => by
   have hn : ¬ (s.K + i < s.K) := by omega
   rw [h (s.K + i) (by omega)]; simp [hn])
 refine ⟨⟨g1, w2, v2, s.K + c, fun i => if i < s.K then s.T i else w₁.tape (w₁.drawn + (i - s.K)), h5, h4, fun T' h => ?_, hd⟩, Nat.le_add_right _ _, fun i hi => by simp [hi], hns, hT⟩
 obtain ⟨es, he⟩ := hT T' h
 obtain ⟨n, hn⟩ := s.ends T' (fun i hi => by rw [h i (by omega)]; simp [hi])
 cases n with
 | zero => exact absurd hn (hns _ _)
 | succ n =>
  rcases hn with hn | ⟨g', v1, es', hgo, hrest⟩
  ·exact absurd hn (hns _ _)
  ·rw [he] at hgo
   simp only [GStep.go.injEq] at hgo
   obtain ⟨rfl, rfl, _⟩ := hgo
   exact ⟨n, hrest⟩
theorem lift (hk : Kept Q P S Ok) (hstub : ∀ g v, Stub g → ¬ Stop g v) {g : Goroutine} {v w : World} (hc : Cp S v w) (hok : Ok g)
  (H : ∀ T, ∃ n, Rn Q Stop n (ext g) (World.re v 0 T)) : Rb P S (fun g w => ∃ v, Cp S v w ∧ Stop (ext g) v) g w := by
 refine Classical.byContradiction fun hbad => ?_
 classical
 let s0 : Bad Q P S Ok Stop := ⟨g, w, v, 0, v.tape, hc, hok, fun T' _ => H T', hbad⟩
 obtain ⟨nx, hnx⟩ := Classical.axiomOfChoice (fun s : Bad Q P S Ok Stop => Bad.next hk hstub s)
 have hK := fun s => (hnx s).1
 have hT := fun s => (hnx s).2.1
 have hN := fun s => (hnx s).2.2.1
 have hS := fun s => (hnx s).2.2.2
 let ch : Nat → Bad Q P S Ok Stop := fun j => Nat.rec s0 (fun _ s => nx s) j
 have hmono : ∀ j, (ch j).K ≤ (ch (j + 1)).K := fun j => hK (ch j)
 have hmono' : ∀ j k, j ≤ k → (ch j).K ≤ (ch k).K := fun j k h => by
  induction h with
  | refl => exact Nat.le_refl _
  | step _ ih => exact Nat.le_trans ih (hmono _)
 have hcoh : ∀ j k, j ≤ k → ∀ i, i < (ch j).K → (ch k).T i = (ch j).T i := fun j k h => by
  induction h with
  | refl => exact fun i _ => rfl
  | @step k h ih => exact fun i hi => (hT (ch k) i (Nat.lt_of_lt_of_le hi (hmono' j k h))).trans (ih i hi)
 let T : Nat → Question → Nat := fun i => if h : ∃ j, i < (ch j).K then (ch h.choose).T i else fun _ => 0
 have hTT : ∀ j i, i < (ch j).K → T i = (ch j).T i := fun j i hi => by
  have h : ∃ j, i < (ch j).K := ⟨j, hi⟩
  show (if h : ∃ j, i < (ch j).K then (ch h.choose).T i else fun _ => 0) = _
  rw [dif_pos h]
  rcases Nat.le_total h.choose j with e | e
  ·exact (hcoh _ _ e i h.choose_spec).symm
  ·exact hcoh _ _ e i hi
 obtain ⟨n, hn⟩ := H T
 have key : ∀ n j, ¬ Rn Q Stop n (ext (ch j).g) (World.re (ch j).v (ch j).K T) := fun n => by
  induction n with
  | zero => exact fun j => hN (ch j) _ _
  | succ n ih =>
   intro j h
   rcases h with h | ⟨g', v', es, hgo, hrest⟩
   ·exact hN (ch j) _ _ h
   ·obtain ⟨es', he⟩ := hS (ch j) T (fun i hi => hTT (j + 1) i hi)
    rw [he] at hgo
    simp only [GStep.go.injEq] at hgo
    obtain ⟨rfl, rfl, _⟩ := hgo
    exact ih (j + 1) hrest
 exact key n 0 hn
end
end
end Go.Proofs.YtdafpnpfcmgfcaaGreatDoor
