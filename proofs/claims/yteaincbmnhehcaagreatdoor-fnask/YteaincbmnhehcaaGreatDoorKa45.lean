/- A region's lone operations ahead of a call that goes; a function that goes, as its callers meet it. The group's library in this program. A call of a function value, in company. A worker's whole way: its birth, the look, the addition, Done. -/
import Derived.Test.YteaincbmnhehcaaGreatDoorKa44
import Derived.Conc.CompanyDraw
import Derived.Test.YteaincbmnhehcaaGreatDoorChecked
import Derived.Conc.WgGenN3
import Derived.Conc.CompanyMem
import Derived.Test.YteaincbmnhehcaaGreatDoorKa43
import Derived.Conc.WgWords
namespace Go.Proofs.YteaincbmnhehcaaGreatDoor
section
open Go Go.Conc Go.ConcN
theorem arr_ops {P : Program} {ops : Array Oper} {N : Act → World → Prop} (l2 : List Nat) : ∀ (l : List Nat) (a : Act) (w : World), wpOps P ops (fun e a w => e = .normal ∧ N a w) l a w → ∀ (b : Frame) (k : List Item) (cs : List Frame),
  ∃ a' w', N a' w' ∧ Steps P (lone (b.at a (.inRegion ops (l ++ l2) :: k)) cs w) (lone (b.at a' (.inRegion ops l2 :: k)) cs w') := by
 intro l
 induction l with
 | nil => exact fun a w h b k cs => ⟨a, w, h.2, .refl _ _⟩
 | cons i rest ih =>
  intro a w h b k cs
  simp only [wpOps] at h
  cases ho : ops[i]? with
  | none =>
   simp only [ho] at h
   obtain ⟨a', w', hq, harr⟩ := ih a w h b k cs
   have hs := step_op_skip (P := P) (b := b) (a := a) (k := k) (cs := cs) (w := w) (ops := ops) (i := i) (rest := rest ++ l2) (by simp [ho])
   simp only [ho, Option.bind_none, Act.put] at hs
   exact ⟨a', w', hq, .head hs harr⟩
  | some o =>
   simp only [ho] at h
   by_cases hw : Region.wanted o (yielded ops a.tmps) = true
   ·simp only [hw, if_true] at h
    rcases h with h | ⟨hasks, a₀, w₀, hq⟩
    case inr => cases hq.1
    simp only [Oper.wp, Oper.upon] at h
    have hg := stepG_op (P := P) (b := b) (k := k) (cs := cs) (w := w) (rest := rest ++ l2) ho hw
    have hfin : ∀ v, (b.at a (.inRegion ops (i :: (rest ++ l2)) :: k)).finish v = b.at (a.put o.dst v) (.inRegion ops (rest ++ l2) :: k) := by
     intro v; rw [Frame.finish_at, ho]; rfl
    split at h
    ·rename_i v w' hr
     obtain ⟨a', w'', hq, harr⟩ := ih _ _ h b k cs
     refine ⟨a', w'', hq, .head (step_lone_go ?_) harr⟩
     rw [List.cons_append, hg, ← hfin]; simp [stepG.apply, hr]
    ·rename_i w' hr
     obtain ⟨a', w'', hq, harr⟩ := ih _ _ h b k cs
     refine ⟨a', w'', hq, .head (step_lone_go ?_) harr⟩
     rw [List.cons_append, hg, ← hfin]; simp [stepG.apply, hr]
    ·rename_i d w' hr
     obtain ⟨a', w'', hq, harr⟩ := ih _ _ h b k cs
     refine ⟨a', w'', hq, .head (step_lone_go ?_) harr⟩
     have : ({ b.at a (.inRegion ops (i :: (rest ++ l2)) :: k) with defers := d :: a.defers } : Frame).finish undef =
       b.at ({ a with defers := d :: a.defers }.put o.dst undef) (.inRegion ops (rest ++ l2) :: k) := by
      have := Frame.finish_at b { a with defers := d :: a.defers } ops i (rest ++ l2) k undef
      rw [ho] at this; exact this
     rw [List.cons_append, hg]; simp only [stepG.apply, Sem.runT_eq, hr, GStep.bare_after]
     exact congrArg (fun fr => GStep.go { frame := fr, callers := cs, status := .running, dying := none } w') this
    ·rename_i f args w' hr
     obtain ⟨e, w'', fr, hR, hsteps, _, hleave⟩ := h (b.at a (.inRegion ops (i :: (rest ++ l2)) :: k) :: cs)
     have henter : step P (lone (b.at a (.inRegion ops (i :: (rest ++ l2)) :: k)) cs w) =
       .next (lone (Frame.enter P f args .normal) (b.at a (.inRegion ops (i :: (rest ++ l2)) :: k) :: cs) w') :=
      step_lone_go (by rw [hg]; simp [stepG.apply, hr, Frame.at])
     cases e with
     | returned v =>
      obtain ⟨a', w₃, hq, harr⟩ := ih _ _ hR b k cs
      refine ⟨a', w₃, hq, .head henter (Steps.trans hsteps (.head ?_ harr))⟩
      rw [← hfin]; exact step_leave_returned hleave
     | panicked chain => cases hR.1
     | outgrown => obtain ⟨a₀, w₀, hq⟩ := hR; cases hq.1
    ·rename_i row args w' hr
     obtain ⟨v, w'', hR, hsteps⟩ := h (b.at a (.inRegion ops (i :: (rest ++ l2)) :: k)) cs
     have henter : step P (lone (b.at a (.inRegion ops (i :: (rest ++ l2)) :: k)) cs w) =
       .next (lone (Frame.ofRow P row args .normal) (b.at a (.inRegion ops (i :: (rest ++ l2)) :: k) :: cs) w') :=
      step_lone_go (by rw [hg]; simp [stepG.apply, hr, Frame.at])
     obtain ⟨a', w₃, hq, harr⟩ := ih _ _ hR b k cs
     refine ⟨a', w₃, hq, .head henter (Steps.trans ?_ harr)⟩
     rw [← hfin]; exact hsteps
    ·cases h.1
    ·exact h.elim
   ·simp only [hw, if_false, Bool.false_eq_true] at h
    obtain ⟨a', w', hq, harr⟩ := ih _ _ h b k cs
    have hs := step_op_skip (P := P) (b := b) (a := a) (k := k) (cs := cs) (w := w) (ops := ops) (i := i) (rest := rest ++ l2)
     (by simp [ho]; simpa using hw)
    simp only [ho, Option.bind_some] at hs
    exact ⟨a', w', hq, .head hs harr⟩
theorem wpOps_list {P : Program} {ops : Array Oper} {Q : Exit → Act → World → Prop} : ∀ (l : List Nat) (a : Act) (w : World), l.all (fun i => decide (i < ops.size)) = true → wpList P ops Q (l.filterMap fun i => ops[i]?) a w → wpOps P ops Q l a w := by
 intro l
 induction l with
 | nil => exact fun a w _ h => h
 | cons i l ih =>
  intro a w hl h
  simp only [List.all_cons, Bool.and_eq_true, decide_eq_true_eq] at hl
  have ho : ops[i]? = some ops[i] := Array.getElem?_eq_getElem hl.1
  simp only [wpOps, ho]
  rw [List.filterMap_cons_some ho] at h
  simp only [wpList] at h
  split
  ·rename_i hw
   rw [if_pos hw] at h
   rcases h with h | h
   ·left
    unfold Oper.wp Oper.upon at h ⊢
    split at h
    ·exact ih _ _ hl.2 h
    ·exact ih _ _ hl.2 h
    ·exact ih _ _ hl.2 h
    ·refine h.mono fun e w' he => ?_
     cases e with
     | returned v => exact ih _ _ hl.2 he
     | panicked c => exact he
     | outgrown => exact he
    ·exact h.mono fun v w' hv => ih _ _ hl.2 hv
    ·exact h
    ·exact h
   ·exact .inr h
  ·rename_i hw
   rw [if_neg hw] at h
   exact ih _ _ hl.2 h
section
variable [Floor] {Q P : Program} {R : Exit → Act → World → Prop} {a : Act} {v : World}
theorem mo_lone (hT : Tamed Q P) {ops : Array Oper} (l l2 : List Nat) (ha : a.defers = []) (hops : ops.all (okOp P) = true) (H : ∀ T, wpOps Q ops (fun e a' v' => e = .normal ∧ MO P ops l2 R a' v') l a (World.re v 0 T)) : MO P ops (l ++ l2) R a v := by
 intro b k cs m t hb hk hcs hR h
 have hk' : ∀ i ∈ (.inRegion ops (l ++ l2) :: k : List Item), okItem P i = true := fun i hi => by
  rcases List.mem_cons.1 hi with rfl | hi
  ·exact hops
  ·exact hk i hi
 refine (h.rb (X := fun S g w => ∃ e a' v', Cp S v' w ∧ (e = .normal ∧ MO P ops l2 R a' v') ∧ Came b (.inRegion ops l2 :: k) cs e a' g) fun S w hc => rb_arrives hT hb ha hk' hcs hc (fun T => ?_) (fun e a' v' he => ?_)).trans fun m' t' ⟨S, n, w, g', h1, ⟨e, a', v', h2, ⟨he, h3⟩, h4⟩, h5⟩ => ?_
 ·obtain ⟨a', v', h1, h2⟩ := arr_ops l2 l a _ (H T) b k (cs ++ [bottom])
  exact ⟨.normal, a', v', ⟨rfl, h1⟩, h2⟩
 ·obtain ⟨rfl, _⟩ := he
  intro why e
  cases e
 ·subst he
  obtain rfl : g' = _ := h4
  exact h3 b k cs m' t' hb hk hcs hR ⟨S, n, w, h1, h2, h5⟩
theorem mo_list (hT : Tamed Q P) {ops : Array Oper} (l l2 : List Nat) (ha : a.defers = []) (hops : ops.all (okOp P) = true) (hl : l.all (fun i => decide (i < ops.size)) = true) (H : ∀ T, wpList Q ops (fun e a' v' => e = .normal ∧ MO P ops l2 R a' v') (l.filterMap fun i => ops[i]?) a (World.re v 0 T)) : MO P ops (l ++ l2) R a v :=
 mo_lone hT l l2 ha hops fun T => wpOps_list l a _ hl (H T)
theorem mw_region_draw {id : Nat} {ops : Array Oper} (H : ∀ t, MO P ops (Region.schedule (P.follows .mixedOrders) ops t) R a v) : MW P (.region id ops true) R a v := by
 intro b k cs m t hb hk hcs hR h
 obtain ⟨S, n, w, h1, h2, h3⟩ := h
 refine (h3.stepN rfl (Nx := fun g' w' => w' = w ∧ ∃ t, g' = G (b.at a (.inRegion ops (Region.schedule (P.follows .mixedOrders) ops t) :: k)) cs) fun d => ?_).trans fun m1 t1 ⟨g', w', ⟨e1, tt, e2⟩, h4⟩ => H tt b k cs m1 t1 hb hk hcs hR ⟨S, n, w, h1, h2, by subst e1; subst e2; exact h4⟩
 exact ⟨_, w, d + 1, #[], stepG_region_draw, by simp, Nat.le_refl _, rfl, _, rfl⟩
theorem MW.mono {c : Code} {R' : Exit → Act → World → Prop} (h : MW P c R a v) (hr : ∀ e a' v', R e a' v' → R' e a' v') : MW P c R' a v := by
 intro b k cs m t hb hk hcs hR hm
 exact (h b k cs m t hb hk hcs (fun e a' v' x => hR e a' v' (hr e a' v' x)) hm).trans fun m' t' ⟨e, a', v', g, h1, h2, h3⟩ => .refl ⟨e, a', v', g, hr _ _ _ h1, h2, h3⟩
theorem mw_mid {x y : Code} (M : Act → World → Prop) (hy : okCode P y = true) (hn : ∀ why, y ≠ .refuse why) (H : MW P x (fun e a' v' => e = .normal ∧ M a' v') a v) (H2 : ∀ a' v', M a' v' → MW P y R a' v') : MW P (.seq x y) R a v :=
 mw_seq hy hn (H.mono fun e a' v' h => by obtain ⟨rfl, h⟩ := h; exact H2 a' v' h)
def bodyM (P : Program) (fn : Func) (Post : Value → World → Prop) : Exit → Act → World → Prop
 | .normal, a, v | .ret, a, v => a.defers = [] ∧ ∃ r, ResultsC P fn a.tmps r ∧ Post r v
 | _, _, _ => False
theorem callsM_of {f : FuncId} {fn : Func} {c : Code} {args : Array Value} {Post : Value → World → Prop} (hf : P.funcs[f]? = some fn) (hname : (fn.name == "runtime.NumGoroutine") = false) (hb : fn.body = some c)
  (H : MW P c (bodyM P fn Post) ⟨args ++ Array.replicate (fn.ntmps - args.size) undef, []⟩ v) : CallsM P f args v Post := by
 refine ⟨fn, c, hf, hname, hb, fun b₁ a₁ ops₁ i₁ rest₁ k₁ cs₁ m t hfr hcs h => ?_⟩
 have hfin : ∀ r, (b₁.at a₁ (.inRegion ops₁ (i₁ :: rest₁) :: k₁)).finish r = b₁.at (a₁.put ((ops₁[i₁]?).bind (·.dst)) r) (.inRegion ops₁ rest₁ :: k₁) := fun r => Frame.finish_at _ _ _ _ _ _ _
 have leave : ∀ (a' : Act) (v' : World) (todo : List Item) (m : Machine) (t : Trace), (a'.defers = [] ∧ ∃ r, ResultsC P fn a'.tmps r ∧ Post r v') → AtM P (G { (base f).at a' todo with mode := .returning } (b₁.at a₁ (.inRegion ops₁ (i₁ :: rest₁) :: k₁) :: cs₁)) v' m t →
   Rch P m t (fun m' t' => ∃ r v', Post r v' ∧ AtM P (G (b₁.at (a₁.put ((ops₁[i₁]?).bind (·.dst)) r) (.inRegion ops₁ rest₁ :: k₁)) cs₁) v' m' t') := by
  rintro a' v' todo m t ⟨hd, r, hr, hp⟩ h
  refine (h.step rfl (fun w => ?_)).trans fun m1 t1 h1 => .refl ⟨r, v', hp, h1⟩
  rw [stepG_leave (b := base f) rfl hd hf (hr w).1 (hr w).2, hfin]
 refine (H (base f) [] _ m t rfl (by simp) (fun x hx => ?_) (fun e a' v' hr => ?_) h).trans fun m1 t1 ⟨e, a', v', g, h1, h2, h3⟩ => ?_
 ·rcases List.mem_cons.1 hx with rfl | hx
  ·exact hfr
  ·exact hcs x hx
 ·cases e with
  | normal => exact fun why e => by cases e
  | ret => trivial
  | _ => exact hr.elim
 ·cases e with
  | normal =>
   obtain rfl : g = _ := h2
   exact (h3.step rfl (fun w => stepG_end)).trans fun m2 t2 h4 => leave a' v' [] m2 t2 h1 h4
  | ret =>
   obtain ⟨todo, rfl⟩ := h2
   exact leave a' v' todo m1 t1 h1 h3
  | _ => exact h1.elim
theorem CallsM.re {f : FuncId} {args : Array Value} {Post : Value → World → Prop} (K : Nat) (T : Nat → Question → Nat) (h : CallsM P f args v Post) : CallsM P f args (World.re v K T) Post := by
 obtain ⟨fn, c, h1, h2, h3, h4⟩ := h
 exact ⟨fn, c, h1, h2, h3, fun b₁ a₁ ops₁ i₁ rest₁ k₁ cs₁ m t hf hcs h => h4 b₁ a₁ ops₁ i₁ rest₁ k₁ cs₁ m t hf hcs (h.re v.drawn v.tape)⟩
end
end
section
open Go Go.Conc
abbrev link : Go.Conc.Lib.WgLink := { add := 113, done := 115, wait := 117, relMerge := 129, disable := 130, enable := 131, inBubble := 132, associate := 133, fatal := 134, uOr := 135, uAdd := 136, raceRead := 137, uLoad := 138, uStore := 139, disassociate := 140, semrelease := 141, acquire := 143, isAssociated := 144, uCas := 145, raceWrite := 146, semacquire := 147, orU64 := 152, addU64 := 153, loadU64 := 154, storeU64 := 155, casU64 := 156, tWgP := 193, tUP := 135, tAssoc := 195, tWg := 172, tAU := 170, tU64 := 168, tUint := 122, tU32 := 119, tPU32 := 199, tPAU := 211, tPU64 := 213, tNoCopy := 166, tANoCopy := 163, tAlign64 := 167 }
theorem wgLib : Go.Conc.Lib.WgLib Tryz.prog link :=
 ⟨Tryz.func113, Tryz.func115, Tryz.func117, Tryz.func129, Tryz.func130, Tryz.func131, Tryz.func132, Tryz.func133, Tryz.func134, Tryz.func135, Tryz.func136, Tryz.func137, Tryz.func138, Tryz.func139, Tryz.func140, Tryz.func141, Tryz.func143, Tryz.func144, Tryz.func145, Tryz.func146, Tryz.func147, Tryz.func152, Tryz.func153, Tryz.func154, Tryz.func155, Tryz.func156, Tryz.underlying193, Tryz.runUnderlying193, Tryz.sizeOf193, Tryz.isAgg193, Tryz.zeroValue193, Tryz.underlying135, Tryz.runUnderlying135, Tryz.sizeOf135, Tryz.isAgg135, Tryz.zeroValue135, Tryz.underlying195, Tryz.runUnderlying195, Tryz.sizeOf195, Tryz.isAgg195, Tryz.zeroValue195, Tryz.underlying172, Tryz.runUnderlying172, Tryz.sizeOf172, Tryz.isAgg172, Tryz.zeroValue172, Tryz.underlying170, Tryz.runUnderlying170, Tryz.sizeOf170, Tryz.isAgg170, Tryz.zeroValue170, Tryz.underlying168, Tryz.runUnderlying168, Tryz.sizeOf168, Tryz.isAgg168, Tryz.zeroValue168, Tryz.underlying122, Tryz.runUnderlying122, Tryz.sizeOf122, Tryz.isAgg122, Tryz.zeroValue122, Tryz.underlying119, Tryz.runUnderlying119, Tryz.sizeOf119, Tryz.isAgg119, Tryz.zeroValue119, Tryz.underlying199, Tryz.runUnderlying199, Tryz.sizeOf199, Tryz.isAgg199, Tryz.zeroValue199, Tryz.underlying211, Tryz.runUnderlying211, Tryz.sizeOf211, Tryz.isAgg211, Tryz.zeroValue211, Tryz.underlying213, Tryz.runUnderlying213, Tryz.sizeOf213, Tryz.isAgg213, Tryz.zeroValue213, Tryz.underlying0, Tryz.runUnderlying0, Tryz.sizeOf0, Tryz.isAgg0, Tryz.zeroValue0, Tryz.underlying3, Tryz.runUnderlying3, Tryz.sizeOf3, Tryz.isAgg3, Tryz.zeroValue3, Tryz.underlying4, Tryz.runUnderlying4, Tryz.sizeOf4, Tryz.isAgg4, Tryz.zeroValue4, Tryz.underlying9, Tryz.runUnderlying9, Tryz.sizeOf9, Tryz.isAgg9, Tryz.zeroValue9, Tryz.underlying20, Tryz.runUnderlying20, Tryz.sizeOf20, Tryz.isAgg20, Tryz.zeroValue20, Tryz.underlying21, Tryz.runUnderlying21, Tryz.sizeOf21, Tryz.isAgg21, Tryz.zeroValue21, (by kernel_rfl), (by kernel_rfl)⟩
instance : Go.ConcR.Payload := ⟨3⟩
end
section
open Go Go.Conc
section
variable {P : Program} {main : Bool} {a : Act} {w : World} {o : Oper} {x : Operand} {args : Array Operand} {ats : Array TypeId} {f : FuncId} {fn : Func} {first cap : Array Value}
theorem run_call_val (hop : o.op = .call { callee := .value x, args, argTypes := ats }) (hx : a.eval x = .func (.func f) first cap)
  (hf : P.funcs[f]? = some fn) (hname : (fn.name == "runtime.NumGoroutine") = false) (hb : fn.body.isNone = false) : (execOp a.eval o).run P w = .ok (.enter f (first ++ args.map a.eval ++ cap)) w := by
 have h1 : ¬ fn.name = "runtime.NumGoroutine" := by simpa using hname
 have h2 : ¬ fn.body = none := by cases hx : fn.body <;> simp_all
 unfold execOp
 simp [hop, resolve, Deferred.ofValue, invoke, callFunc, hf, h1, h2, hx]
theorem events_call_val (hop : o.op = .call { callee := .value x, args, argTypes := ats }) (hx : a.eval x = .func (.func f) first cap)
  (hf : P.funcs[f]? = some fn) (hname : (fn.name == "runtime.NumGoroutine") = false) (hb : fn.body.isNone = false) (es : Array Event) : (execOp a.eval o).events P w es = es := by
 have h1 : ¬ fn.name = "runtime.NumGoroutine" := by simpa using hname
 have h2 : ¬ fn.body = none := by cases hx : fn.body <;> simp_all
 unfold execOp
 simp [hop, resolve, Deferred.ofValue, invoke, callFunc, hf, h1, h2, hx]
variable {b : Frame} {k : List Item} {cs : List Frame} {ops : Array Oper} {i : Nat} {rest : List Nat}
theorem stepG_callV {c : Code} (ho : ops[i]? = some o) (hw : Region.wanted o (yielded ops a.tmps) = true) (hk : b.kind ≠ .early) (hop : o.op = .call { callee := .value x, args, argTypes := ats }) (hx : a.eval x = .func (.func f) first cap)
  (hf : P.funcs[f]? = some fn) (hname : (fn.name == "runtime.NumGoroutine") = false) (hb : fn.body = some c) :
  stepG P main (G (b.at a (.inRegion ops (i :: rest) :: k)) cs) w = .go (G ((base f).at { tmps := (first ++ args.map a.eval ++ cap) ++ Array.replicate (fn.ntmps - (first ++ args.map a.eval ++ cap).size) undef, defers := [] } [.code c]) (b.at a (.inRegion ops (i :: rest) :: k) :: cs)) w #[] := by
 have hb' : fn.body.isNone = false := by rw [hb]; rfl
 rw [stepG_enter ho hw hk (run_call_val hop hx hf hname hb'), enter_at _ hf hb]
 have : listed P b.fn a o w = #[] := by unfold listed; rw [events_call_val hop hx hf hname hb']; exact seen_none P _
 rw [this]
theorem Goes.callV {R : World → World → Prop} {D : World → World → Array Event → Prop} (T : Terms R D) {nf m : Nat} {Post : Value → World → Prop} {Stop : Goroutine → World → Prop}
  (ho : ops[i]? = some o) (hw : Region.wanted o (yielded ops a.tmps) = true) (hk : b.kind ≠ .early) (hop : o.op = .call { callee := .value x, args, argTypes := ats }) (hx : a.eval x = .func (.func f) first cap) {vs : Array Value} (hargs : args.map a.eval = vs)
  (hcall : CallsC P main R D f (first ++ vs ++ cap) nf w Post)
  (hnext : ∀ v w', Post v w' → Goes P main R D Stop m (G (b.at (a.put o.dst v) (.inRegion ops rest :: k)) cs) w') :
  Goes P main R D Stop (m + nf + 3) (G (b.at a (.inRegion ops (i :: rest) :: k)) cs) w := by
 subst hargs
 obtain ⟨fn, c, hf, hname, hbody, hwp⟩ := hcall
 have hfin : ∀ v, (b.at a (.inRegion ops (i :: rest) :: k)).finish v = b.at (a.put o.dst v) (.inRegion ops rest :: k) := fun v => by rw [Frame.finish_at, ho]; rfl
 have hleave : ∀ (a' : Act) (w' : World) (todo : List Item), (a'.defers = [] ∧ ∃ v, ResultsC P fn a'.tmps v ∧ Post v w') →
   Goes P main R D Stop (m + 1) (G { (base f).at a' todo with mode := .returning } (b.at a (.inRegion ops (i :: rest) :: k) :: cs)) w' := by
  rintro a' w' todo ⟨hd, v, hr, hp⟩
  refine Goes.step rfl fun w₁ h₁ => ?_
  rw [stepG_leave (b := base f) rfl hd hf (hr w₁).1 (hr w₁).2, hfin]
  exact ⟨T.idle _, (hnext v w' hp).rely T.trans h₁⟩
 have hbodyG : Goes P main R D Stop (m + 2 + nf) (G ((base f).at { tmps := (first ++ args.map a.eval ++ cap) ++ Array.replicate (fn.ntmps - (first ++ args.map a.eval ++ cap).size) undef, defers := [] } [.code c]) (b.at a (.inRegion ops (i :: rest) :: k) :: cs)) w := by
  refine hwp (base f) [] _ Stop (m + 2) rfl (by simp [base]) fun e a' w' q => ?_
  cases e with
  | normal => exact Goes.step rfl fun w₁ h₁ => by rw [stepG_end]; exact ⟨T.idle _, (hleave a' w' [] q).rely T.trans h₁⟩
  | ret => exact fun todo => (hleave a' w' todo q).more
  | _ => exact q.elim
 have e : m + nf + 3 = (m + 2 + nf) + 1 := by omega
 rw [e]
 exact Goes.step rfl fun w₁ h₁ => by
  rw [stepG_callV ho hw hk hop hx hf hname hbody]
  exact ⟨T.idle _, hbodyG.rely T.trans h₁⟩
end
end
section
open Go Go.Conc Go.ConcN Go.RowKit Go.Conc.Lib Go.ConcR.Gen Go.ConcN.Gen
open Go.ConcR (KK wgBlock WgAt stA smA rd wr mk Payload Aside2 DC0 ofEvent_cell)
def bW : Frame := baseD 114
noncomputable def bot : Frame := { (default : Frame) with fn := Tryz.prog.funcs.size, defers := [], mode := .panicking [goexitEntry] }
noncomputable def bodyW : Code := Tryz.f114.body.getD .skip
def callW (B0 i : Nat) : Deferred := { target := .fn (.func 114) #[.pointer (some ⟨B0 + 2, 0, none⟩), .pointer (some ⟨B0, 0, none⟩), .pointer (some ⟨B0 + 3 + i, 0, none⟩), .pointer (some ⟨B0 + 1, 0, none⟩)], args := #[] }
structure Kw (B0 i : Nat) (w0 w : World) : Prop where
 low : ∀ b k x, b ≤ B0 → w0.cell? ⟨b, k, none⟩ = some x → w.cell? ⟨b, k, none⟩ = some x
 own : w.cell? ⟨B0 + 3 + i, 0, none⟩ = some (.int .i64 i)
 live : WgLive 172 (B0 + 2) w
section
variable {S : Sh} {B0 bs i : Nat} {w0 w w₁ : World} {lookv : Value}
theorem Kw.rely (h : Kw B0 i w0 w) (r : RW 172 (B0 + 2) (B0 + 3 + i) 1 (B0 + 1) 0 w w₁) : Kw B0 i w0 w₁ :=
 ⟨fun b k x hb hx => (cell_of_block (r.low b (by omega) (by omega) (by omega)) k).trans (h.low b k x hb hx), r.cell.trans h.own, r.live h.live⟩
theorem Kw.look (h : Kw B0 i w0 w) (hl : w0.cell? ⟨B0, 0, none⟩ = some lookv) : w.cell? ⟨B0, 0, none⟩ = some lookv := h.low B0 0 _ (Nat.le_refl _) hl
theorem Kw.kn (h : Kw B0 i w0 w) : WgLive 172 (B0 + 2) w ∧ Has (B0 + 3 + i) 0 (.int .i64 i) w := ⟨h.live, h.own⟩
theorem evW_rd (hS : ∀ b, S b → b < B0) (a : Addr) (s : Bool) (h : (a.block ≤ B0 ∧ ¬ S a.block) ∨ a.block = B0 + 3 + i) : EvW (B0 + 2) NoOwn (RdW S B0 bs i) 1 ⟨.cell a, false, s⟩ := by
 refine ⟨fun fn pos => ⟨rfl, fun y hy => ?_⟩, by simp, by simp, by simp⟩
 simp only [ofEvent_cell, MemAct.touch?, Option.some.injEq] at hy
 subst hy
 refine Or.inr (Or.inr ⟨⟨by omega, a, rfl, ?_, ?_⟩, rfl⟩)
 ·rcases h with h | h <;> omega
 ·rcases h with h | h
  ·exact h.2
  ·exact fun hs => by have := hS _ hs; omega
end
theorem termsW {S : Sh} {B0 bs i : Nat} : Terms (RW 172 (B0 + 2) (B0 + 3 + i) 1 (B0 + 1) 0) (DWs (B0 + 2) NoOwn (RdW S B0 bs i) (B0 + 3 + i) 1 1) := ⟨fun _ _ _ h h' => RW.trans h h', fun _ => dws_none (by simp)⟩
theorem quitsTail (T : Array Value) : QuitsD Tryz.prog 2 0 (G { bW.at ⟨T, []⟩ [] with mode := .returning } [bot]) := by
 refine QuitsD.ctl (g' := G bot []) rfl (fun w => ?_) ?_
 ·simp [G, stepG, unwind, doReturn, results, Frame.at, bW, baseD, bot, Tryz.func114, Tryz.f114, seen, GStep.after, goexitEntry]
 refine QuitsD.ctl (g' := { G bot [] with status := .finished }) rfl (fun w => ?_) ⟨rfl, rfl⟩
 simp [G, stepG, unwind, bot, goexitEntry, Frame.catches]
 rfl
theorem born_step (B0 i : Nat) (w : World) : stepG Tryz.prog false (born Tryz.prog (callW B0 i)) w =
  .go (G (bW.at ⟨#[.pointer (some ⟨B0 + 2, 0, none⟩), .pointer (some ⟨B0, 0, none⟩), .pointer (some ⟨B0 + 3 + i, 0, none⟩), .pointer (some ⟨B0 + 1, 0, none⟩), undef, undef, undef, undef, undef, undef], []⟩ [.code bodyW]) [bot]) w #[] := by
 simp [born, callW, stepG, unwind, callDeferred, invoke, callFunc, Tryz.func114, Tryz.f114, seen, GStep.after, G, Frame.enter, Frame.at, bW, baseD, bot, bodyW]
theorem nm_add32 : (Tryz.f116.name == "runtime.NumGoroutine") = false := by kernel_rfl
theorem x_add32_n : (Tryz.f142.name == "runtime.NumGoroutine") = false := by kernel_rfl
theorem x_add32_b : Tryz.f142.body.isNone = true := by kernel_rfl
theorem x_add32_x : Extern.findNext Tryz.f142 = none := by kernel_rfl
theorem x_add32_f : Extern.find Tryz.f142 = some (Extern.Atomic.update (Op.intArith .add) .u32 true) := by kernel_rfl
theorem shl_val {i z : Nat} (hi : i < 32) (hz : 2 ^ i = z) : Op.shift .shl .u32 1 .i64 (i : Int) = pure (.int .u32 (z : Int)) := by
 subst hz
 have h0 : ¬ ((i : Int) < 0) := by omega
 have h2 : min (i : Int).toNat IntKind.u32.bits = i := by
  have : IntKind.u32.bits = 32 := rfl
  rw [this]; omega
 have hp : 2 ^ i < 2 ^ 32 := Nat.pow_lt_pow_right (by omega) hi
 have e : (1 : Int) * 2 ^ i = ((2 ^ i : Nat) : Int) := by simp
 have h1 : IntKind.u32.wrap ((1 : Int) * 2 ^ i) = ((2 ^ i : Nat) : Int) := by
  rw [IntKind.wrap_u32, e]
  generalize 2 ^ i = z at hp
  omega
 unfold Op.shift
 simp only [h0, if_false, h2, h1]
section
variable {P : Program} {w : World} {a : Act} {o : Oper} {x : Operand} {t t2 : TypeId} {i z : Nat}
theorem run_shl (hop : o.op = .binOp .shl t (.const (.int .u32 1)) x t2) (hx : a.eval x = .int .i64 i) (hi : i < 32) (hz : 2 ^ i = z) : (execOp a.eval o).run P w = .ok (.value (.int .u32 (z : Int))) w := by
 have hc : a.eval (.const (.int .u32 1)) = .int .u32 1 := rfl
 unfold execOp
 simp [hop, hx, hc, binOp, eqGuard, shl_val hi hz]
theorem ev_shl (hop : o.op = .binOp .shl t (.const (.int .u32 1)) x t2) (hx : a.eval x = .int .i64 i) (hi : i < 32) (hz : 2 ^ i = z) : (execOp a.eval o).events P w #[] = #[] := by
 have hc : a.eval (.const (.int .u32 1)) = .int .u32 1 := rfl
 unfold execOp
 simp [hop, hx, hc, binOp, eqGuard, shl_val hi hz]
end
set_option maxRecDepth 100000 in
set_option maxHeartbeats 4000000 in
theorem tailW {S : Sh} {B0 bs i : Nat} {w0 w : World} (T : Array Value) (hF : Kw B0 i w0 w) :
  Goes Tryz.prog false (RW 172 (B0 + 2) (B0 + 3 + i) 1 (B0 + 1) 0) (DWs (B0 + 2) NoOwn (RdW S B0 bs i) (B0 + 3 + i) 1 1) (AtR0 Tryz.prog 172 (B0 + 2) (B0 + 3 + i) 1 (B0 + 1) 1 (.int .i64 i)) 25
   (G (bW.at ⟨T, [dcall 115 #[.pointer (some ⟨B0 + 2, 0, none⟩)]]⟩ []) [bot]) w := by
 u_c stepG_end Kw.rely hF
 g_unwB Kw.rely hF Tryz.func115 (nm_done link) Tryz.f115
 have hA := @doneN _ link Tryz.prog wgLib NoOwn (RdW S B0 bs i) (B0 + 2) (B0 + 3 + i) 1 (B0 + 1) 1 (.int .i64 i)
 simp only [body_done, doneFn, Option.getD_some] at hA
 exact hA rfl (quitsTail _) _ hF.kn
set_option maxRecDepth 100000 in
set_option maxHeartbeats 4000000 in
theorem worksW {S : Sh} {B0 bs i : Nat} {w0 : World} {lf : FuncId} {first cap : Array Value} {nf : Nat} {y : Bool} {bit : Nat → Nat} (hS : ∀ b, S b → b < B0) (hl : w0.cell? ⟨B0, 0, none⟩ = some (.func (.func lf) first cap))
  (hlook : ∀ w, (∀ b k x, b ≤ B0 → w0.cell? ⟨b, k, none⟩ = some x → w.cell? ⟨b, k, none⟩ = some x) → CallsC Tryz.prog false (RWk 172 B0 i) (DWk S B0 bs i) lf (first ++ #[.int .i64 i] ++ cap) nf w (fun r w' => r = .bool y ∧ RWk 172 B0 i w w'))
  (hi : i < 32) (hbit : y = true → bit i = 2 ^ i) : ∃ m0, ∀ w, Kw B0 i w0 w → WkS Tryz.prog 172 165 S B0 bs bit i (!y) 7 m0 0 (born Tryz.prog (callW B0 i)) w := by
 unfold RWk DWk at hlook
 cases y with
 | false =>
  refine ⟨_, fun w hF => .go (.r0 (m := 40 + nf + 3 + 9) ?_)⟩
  refine Goes.step rfl fun w₁ h₁ => ?_
  replace hF := hF.rely h₁
  clear h₁
  rw [born_step]
  refine ⟨by u_nil, ?_⟩
  simp only [bodyW, Tryz.f114, Option.getD_some]
  u_c stepG_seq Kw.rely hF
  u_reg Kw.rely hF
  u_defer Kw.rely hF
  u_c stepG_region_end Kw.rely hF
  u_c stepG_seq Kw.rely hF
  u_reg Kw.rely hF
  u_in Kw.rely hF
  refine goes_oper_k rfl rfl (by decide) (fun K hK => ?_)
  have h1 := hF.look hl
  have h2 := hF.own
  go_simp
  refine hK _ _ ⟨⟨AsideCell.refl _ _ _ _, fun e he => ?_⟩, ?_⟩
  ·have hm := mem_listed he
   simp [go_sem, *] at hm
   subst hm
   exact evW_rd hS _ _ (by first | exact Or.inr rfl | exact Or.inl ⟨Nat.le_refl _, fun hs => Nat.lt_irrefl _ (hS _ hs)⟩)
  clear hK K h1 h2
  u_in Kw.rely hF
  refine goes_oper_k rfl rfl (by decide) (fun K hK => ?_)
  have h1 := hF.look hl
  have h2 := hF.own
  go_simp
  refine hK _ _ ⟨⟨AsideCell.refl _ _ _ _, fun e he => ?_⟩, ?_⟩
  ·have hm := mem_listed he
   simp [go_sem, *] at hm
   subst hm
   exact evW_rd hS _ _ (by first | exact Or.inr rfl | exact Or.inl ⟨Nat.le_refl _, fun hs => Nat.lt_irrefl _ (hS _ hs)⟩)
  clear hK K h1 h2
  try walk_nrm
  refine Goes.callV (m := 40) termsW rfl rfl (by decide) rfl rfl (by simp [Act.eval]) (hlook _ hF.low) ?_
  intro r w2 hr
  obtain ⟨rfl, hr⟩ := hr
  replace hF := hF.rely hr
  clear hr
  try walk_nrm
  u_c stepG_region_end Kw.rely hF
  u_cond false Kw.rely hF
  u_c stepG_skip Kw.rely hF
  exact Goes.mono (tailW _ hF) (by omega)
 | true =>
  refine ⟨_, fun w hF => .pre (m := 40 + nf + 3 + 9) (M2 := 60) ?_⟩
  unfold RWk DWk
  obtain ⟨z, hz⟩ : ∃ z : Nat, 2 ^ i = z := ⟨_, rfl⟩
  replace hbit : bit i = z := (hbit rfl).trans hz
  refine Goes.step rfl fun w₁ h₁ => ?_
  replace hF := hF.rely h₁
  clear h₁
  rw [born_step]
  refine ⟨by u_nil, ?_⟩
  simp only [bodyW, Tryz.f114, Option.getD_some]
  u_c stepG_seq Kw.rely hF
  u_reg Kw.rely hF
  u_defer Kw.rely hF
  u_c stepG_region_end Kw.rely hF
  u_c stepG_seq Kw.rely hF
  u_reg Kw.rely hF
  u_in Kw.rely hF
  refine goes_oper_k rfl rfl (by decide) (fun K hK => ?_)
  have h1 := hF.look hl
  have h2 := hF.own
  go_simp
  refine hK _ _ ⟨⟨AsideCell.refl _ _ _ _, fun e he => ?_⟩, ?_⟩
  ·have hm := mem_listed he
   simp [go_sem, *] at hm
   subst hm
   exact evW_rd hS _ _ (by first | exact Or.inr rfl | exact Or.inl ⟨Nat.le_refl _, fun hs => Nat.lt_irrefl _ (hS _ hs)⟩)
  clear hK K h1 h2
  u_in Kw.rely hF
  refine goes_oper_k rfl rfl (by decide) (fun K hK => ?_)
  have h1 := hF.look hl
  have h2 := hF.own
  go_simp
  refine hK _ _ ⟨⟨AsideCell.refl _ _ _ _, fun e he => ?_⟩, ?_⟩
  ·have hm := mem_listed he
   simp [go_sem, *] at hm
   subst hm
   exact evW_rd hS _ _ (by first | exact Or.inr rfl | exact Or.inl ⟨Nat.le_refl _, fun hs => Nat.lt_irrefl _ (hS _ hs)⟩)
  clear hK K h1 h2
  try walk_nrm
  refine Goes.callV (m := 40) termsW rfl rfl (by decide) rfl rfl (by simp [Act.eval]) (hlook _ hF.low) ?_
  intro r w2 hr
  obtain ⟨rfl, hr⟩ := hr
  replace hF := hF.rely hr
  clear hr
  try walk_nrm
  u_c stepG_region_end Kw.rely hF
  u_cond true Kw.rely hF
  u_reg Kw.rely hF
  u_in Kw.rely hF
  refine goes_oper_k rfl rfl (by decide) (fun K hK => ?_)
  have h1 := hF.look hl
  have h2 := hF.own
  go_simp
  refine hK _ _ ⟨⟨AsideCell.refl _ _ _ _, fun e he => ?_⟩, ?_⟩
  ·have hm := mem_listed he
   simp [go_sem, *] at hm
   subst hm
   exact evW_rd hS _ _ (by first | exact Or.inr rfl | exact Or.inl ⟨Nat.le_refl _, fun hs => Nat.lt_irrefl _ (hS _ hs)⟩)
  clear hK K h1 h2
  try walk_nrm
  u_in Kw.rely hF
  rw [stepG_value rfl rfl (by decide) (run_shl rfl rfl hi hz), listed_nil (ev_shl rfl rfl hi hz)]
  simp only [goes_go]
  refine ⟨by u_nil, ?_⟩
  walk_nrm
  u_call Tryz.func116 nm_add32 Tryz.f116 Kw.rely hF
  repeat (first | u_op Kw.rely hF | u_c stepG_region_end Kw.rely hF | u_reg Kw.rely hF | u_c stepG_seq Kw.rely hF)
  refine Goes.stop (fun w₁ h₁ => ?_)
  replace hF := hF.rely h₁
  clear h₁
  refine ⟨rfl, fun N hN hn => ?_⟩
  rw [hbit] at hN ⊢
  have e0 : IntKind.u32.wrap ((N : Int) + (z : Int)) = ((N + z : Nat) : Int) := by rw [IntKind.wrap_u32]; omega
  have hc : w₁.cell? (nA B0) = some (.int .u32 N) := by unfold World.cell? nA; rw [hn]; rfl
  have hfz : w₁.frozen? (nA B0) = false := by unfold World.frozen? nA; rw [hn]; rfl
  refine ⟨_, (stepG_add_atomic rfl rfl (by decide) rfl Tryz.func142 x_add32_n x_add32_b x_add32_x .u32 x_add32_f rfl rfl hc hfz).trans (by rw [e0]; rfl), ?_⟩
  generalize ((N + z : Nat) : Int) = u
  replace hF : Kw B0 i w0 (w₁.setCell (nA B0) (.int .u32 u)) := by
   have hA := aside_setCell w₁ (nA B0) (.int .u32 u)
   exact ⟨fun b k x hb hx => (cell_of_block (hA.block b (by simp [nA]; omega)) k).trans (hF.low b k x hb hx), (cell_of_block (hA.block (B0 + 3 + i) (by simp [nA]; omega)) 0).trans hF.own, let ⟨st, sm, h⟩ := hF.live; ⟨st, sm, h.of_block (hA.block (B0 + 2) (by simp [nA]))⟩⟩
  clear hn hc hfz e0
  unfold RWk DWk R0k
  walk_nrm
  repeat (first | u_op Kw.rely hF | u_c stepG_region_end Kw.rely hF | u_c stepG_ret' Kw.rely hF | u_leave1 Tryz.func116 Kw.rely hF)
  exact Goes.mono (tailW _ hF) (by omega)
end
end Go.Proofs.YteaincbmnhehcaaGreatDoor
