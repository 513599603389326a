/- Code walked by goroutine 0 beside those that are only leaving: lone pieces, and calls that go. A region's lone operations ahead of a call that goes; a function that goes, as its callers meet it. -/
import Derived.Test.YtdafpnpfcmgfcabJD
import Derived.Conc.CompanyDraw
namespace Go.Proofs.Ytdafpnpfcmgfcab
open Go Go.Conc Go.ConcN

/-- From here the piece of code is left in a way that meets R. -/
def MW [Floor] (P : Program) (c : Code) (R : Exit → Act → World → Prop) (a : Act) (v : World) : Prop :=
  ∀ (b : Frame) (k : List Item) (cs : List Frame) (m : Machine) (t : Trace), b.kind = .normal → (∀ i ∈ k, okItem P i = true) → (∀ f ∈ cs, FrameOk P f) → (∀ e a' v', R e a' v' → Ways k e) →
    AtM P (G (b.at a (.code c :: k)) cs) v m t → Rch P m t (fun m' t' => ∃ e a' v' g, R e a' v' ∧ Came b k cs e a' g ∧ AtM P g v' m' t')
/-- The same of a region's operations that are still to come. -/
def MO [Floor] (P : Program) (ops : Array Oper) (l : List Nat) (R : Exit → Act → World → Prop) (a : Act) (v : World) : Prop :=
  ∀ (b : Frame) (k : List Item) (cs : List Frame) (m : Machine) (t : Trace), b.kind = .normal → (∀ i ∈ k, okItem P i = true) → (∀ f ∈ cs, FrameOk P f) → (∀ e a' v', R e a' v' → Ways k e) →
    AtM P (G (b.at a (.inRegion ops l :: k)) cs) v m t → Rch P m t (fun m' t' => ∃ e a' v' g, R e a' v' ∧ Came b k cs e a' g ∧ AtM P g v' m' t')
/-- A contract of a function that may go. -/
def CallsM [Floor] (P : Program) (f : FuncId) (args : Array Value) (v : World) (Post : Value → World → Prop) : Prop :=
  ∃ fn c, P.funcs[f]? = some fn ∧ (fn.name == "runtime.NumGoroutine") = false ∧ fn.body = some c ∧
    ∀ (b₁ : Frame) (a₁ : Act) (ops₁ : Array Oper) (i₁ : Nat) (rest₁ : List Nat) (k₁ : List Item) (cs₁ : List Frame) (m : Machine) (t : Trace),
      FrameOk P (b₁.at a₁ (.inRegion ops₁ (i₁ :: rest₁) :: k₁)) → (∀ f ∈ cs₁, FrameOk P f) →
      AtM P (G ((base f).at ⟨args ++ Array.replicate (fn.ntmps - args.size) undef, []⟩ [.code c]) (b₁.at a₁ (.inRegion ops₁ (i₁ :: rest₁) :: k₁) :: cs₁)) v m t →
      Rch P m t (fun m' t' => ∃ r v', Post r v' ∧ AtM P (G (b₁.at (a₁.put ((ops₁[i₁]?).bind (·.dst)) r) (.inRegion ops₁ rest₁ :: k₁)) cs₁) v' m' t')

theorem came_push {b : Frame} {y : Code} {k : List Item} {cs : List Frame} {e : Exit} {a : Act} {g : Goroutine} (he : e ≠ .normal) (h : Came b (.code y :: k) cs e a g) : Came b k cs e a g := by
  cases e with
  | normal => exact absurd rfl he
  | exit id => obtain ⟨k', h1, h2⟩ := h; exact ⟨k', by simpa [exitTo] using h1, h2⟩
  | ret => exact h
  | _ => exact h

section
variable [Floor] {Q P : Program} {R : Exit → Act → World → Prop} {a : Act} {v : World}

theorem AtM.re {g : Goroutine} {m : Machine} {t : Trace} (h : AtM P g v m t) (K : Nat) (T : Nat → Question → Nat) : AtM P g (World.re v K T) m t := by
  obtain ⟨S, n, w, h1, h2, h3⟩ := h
  exact ⟨S, n, w, h1, h2.re' K T, h3⟩

/-- A step that turns nothing. -/
theorem AtM.step {g g' : Goroutine} {m : Machine} {t : Trace} (h : AtM P g v m t) (hrun : g.status = .running) (hst : ∀ w, stepG P true g w = .go g' w #[]) : Rch P m t (fun m' t' => AtM P g' v m' t') := by
  obtain ⟨S, n, w, h1, h2, h3⟩ := h
  exact (h3.step hrun (a' := g') (w' := w) (es := #[]) (fun d => ⟨d, hst _⟩) (by simp) (Nat.le_refl _)).trans fun m' t' h' => .refl ⟨S, n, w, h1, h2, h'⟩

/-- A way in company, carried out. -/
theorem AtM.rb {g : Goroutine} {X : (Nat → Prop) → Goroutine → World → Prop} {m : Machine} {t : Trace} (h : AtM P g v m t) (hX : ∀ S w, Cp S v w → Rb P S (X S) g w) :
    Rch P m t (fun m' t' => ∃ S n w g', (1 ≤ n ∧ ∀ b, S b → Floor.low ≤ b) ∧ X S g' w ∧ Beside P S n g' w m' t') := by
  obtain ⟨S, n, w, h1, h2, gs, sl, q, d, rfl, h0, hn, hL, hT⟩ := h
  obtain ⟨N, gs', a', w', sl', t', q', hr, hs', h0', hx, hL', hT'⟩ := co_rb (hX S w h2) d gs sl t q h0 hL (by rw [hn]; exact hT)
  exact ⟨N, _, t', hr, S, n, w', a', h1, hx w' (Sim.refl _ _), gs', sl', q', w'.drawn, rfl, h0', hs'.trans hn, hL', by rw [hs', hn] at hT'; exact hT'⟩

theorem mw_wp (hT : Tamed Q P) {c : Code} (ha : a.defers = []) (hcd : okCode P c = true) (H : ∀ T, c.wp Q R a (World.re v 0 T)) : MW P c R a v := by
  intro b k cs m t hb hk hcs hR h
  refine (h.rb (X := fun S g w => ∃ e a' v', Cp S v' w ∧ R e a' v' ∧ Came b k cs e a' g) fun S w hc => rb_wp hT hb ha hcd hk hcs hc H hR).trans fun m' t' ⟨S, n, w, g', h1, ⟨e, a', v', h2, h3, h4⟩, h5⟩ => .refl ⟨e, a', v', g', h3, h4, S, n, w, h1, h2, h5⟩

theorem mw_seq {x y : Code} (hy : okCode P y = true) (hn : ∀ why, y ≠ .refuse why) (H : MW P x (Exit.then (fun a' v' => MW P y R a' v') R) a v) : MW P (.seq x y) R a v := by
  intro b k cs m t hb hk hcs hR h
  refine (h.step rfl (fun w => stepG_seq)).trans fun m1 t1 h1 => ?_
  have hk' : ∀ i ∈ (.code y :: k : List Item), okItem P i = true := fun i hi => by
    rcases List.mem_cons.1 hi with rfl | hi
    · exact hy
    · exact hk i hi
  refine (H b (.code y :: k) cs m1 t1 hb hk' hcs (fun e a' v' hr => ?_) h1).trans fun m2 t2 ⟨e, a', v', g, h2, h3, h4⟩ => ?_
  · cases e with
    | normal =>
      intro why e
      simp only [List.cons.injEq, Item.code.injEq] at e
      exact hn why e.1
    | exit id =>
      obtain ⟨k', h1, h2⟩ := hR _ _ _ hr
      exact ⟨k', by simpa [exitTo] using h1, h2⟩
    | ret => trivial
    | goto l => exact hR _ _ _ hr
    | panic c => exact hR _ _ _ hr
    | outgrown => exact hR _ _ _ hr
  · cases e with
    | normal =>
      obtain rfl : g = _ := h3
      exact h2 b k cs m2 t2 hb hk hcs hR h4
    | exit id => exact .refl ⟨_, a', v', g, h2, came_push (by simp) h3, h4⟩
    | ret => exact .refl ⟨_, a', v', g, h2, h3, h4⟩
    | goto l => exact (hR _ _ _ h2).elim
    | panic c => exact (hR _ _ _ h2).elim
    | outgrown => exact (hR _ _ _ h2).elim

theorem mw_seq_wp (hT : Tamed Q P) {x y : Code} (ha : a.defers = []) (hcd : okCode P x = true) (hy : okCode P y = true) (hn : ∀ why, y ≠ .refuse why) (H : ∀ T, x.wp Q (Exit.then (fun a' v' => MW P y R a' v') R) a (World.re v 0 T)) : MW P (.seq x y) R a v :=
  mw_seq hy hn (mw_wp hT ha hcd H)

theorem mw_region {id : Nat} {ops : Array Oper} (H : MO P ops (List.range ops.size) R a v) : MW P (.region id ops false) R a v := by
  intro b k cs m t hb hk hcs hR h
  exact (h.step rfl (fun w => stepG_region)).trans fun m1 t1 h1 => H b k cs m1 t1 hb hk hcs hR h1

theorem mo_nil {ops : Array Oper} (H : R .normal a v) : MO P ops [] R a v := by
  intro b k cs m t hb hk hcs hR h
  exact (h.step rfl (fun w => stepG_region_end)).trans fun m1 t1 h1 => .refl ⟨.normal, a, v, _, H, rfl, h1⟩

theorem mo_call {ops : Array Oper} {i : Nat} {rest : List Nat} {o : Oper} {f : FuncId} {args : Array Operand} {ats : Array TypeId} {Post : Value → World → Prop} (hops : ops.all (okOp P) = true) (ha : a.defers = []) (ho : ops[i]? = some o) (hw : Region.wanted o (yielded ops a.tmps) = true)
    (hop : o.op = .call { callee := .value (.func f), args, argTypes := ats }) {vs : Array Value} (hvs : args.map a.eval = vs) (hc : CallsM P f vs v Post) (H : ∀ r v', Post r v' → MO P ops rest R (a.put o.dst r) v') : MO P ops (i :: rest) R a v := by
  subst hvs
  intro b k cs m t hb hk hcs hR h
  obtain ⟨fn, c, hf, hname, hbody, hcall⟩ := hc
  have hbe : b.kind ≠ .early := by rw [hb]; simp
  have hbody' : fn.body.isNone = false := by rw [hbody]; rfl
  refine (h.step rfl (fun w => ?_)).trans fun m1 t1 h1 => (hcall b a ops i rest k cs m1 t1 ⟨hb, rfl, ha, fun x hx => ?_⟩ hcs h1).trans fun m2 t2 ⟨r, v', hp, h2⟩ => ?_
  · rw [stepG_enter ho hw hbe (run_call_body hop hf hname hbody'), enter_at _ hf hbody]
    have : listed P b.fn a o w = #[] := by unfold listed; rw [events_call_body hop hf hname hbody']; exact seen_none P _
    rw [this]
  · rcases List.mem_cons.1 hx with rfl | hx
    · exact hops
    · exact hk x hx
  · rw [ho] at h2
    exact H r v' hp b k cs m2 t2 hb hk hcs hR h2
end
end Go.Proofs.Ytdafpnpfcmgfcab
namespace Go.Proofs.Ytdafpnpfcmgfcab
open Go Go.Conc Go.ConcN

/-- Alone, through the first operations of a region. -/
theorem arr_ops {P : Program} {ops : Array Oper} {N : Act → World → Prop} (l2 : List Nat) : ∀ (l : List Nat) (a : Act) (w : World), wpOps P ops (fun e a w => e = .normal ∧ N a w) l a w → ∀ (b : Frame) (k : List Item) (cs : List Frame),
    ∃ a' w', N a' w' ∧ Steps P (lone (b.at a (.inRegion ops (l ++ l2) :: k)) cs w) (lone (b.at a' (.inRegion ops l2 :: k)) cs w') := by
  intro l
  induction l with
  | nil => exact fun a w h b k cs => ⟨a, w, h.2, .refl _ _⟩
  | cons i rest ih =>
    intro a w h b k cs
    simp only [wpOps] at h
    cases ho : ops[i]? with
    | none =>
      simp only [ho] at h
      obtain ⟨a', w', hq, harr⟩ := ih a w h b k cs
      have hs := step_op_skip (P := P) (b := b) (a := a) (k := k) (cs := cs) (w := w) (ops := ops) (i := i) (rest := rest ++ l2) (by simp [ho])
      simp only [ho, Option.bind_none, Act.put] at hs
      exact ⟨a', w', hq, .head hs harr⟩
    | some o =>
      simp only [ho] at h
      by_cases hw : Region.wanted o (yielded ops a.tmps) = true
      · simp only [hw, if_true] at h
        rcases h with h | ⟨hasks, a₀, w₀, hq⟩
        case inr => cases hq.1
        simp only [Oper.wp, Oper.upon] at h
        have hg := stepG_op (P := P) (b := b) (k := k) (cs := cs) (w := w) (rest := rest ++ l2) ho hw
        have hfin : ∀ v, (b.at a (.inRegion ops (i :: (rest ++ l2)) :: k)).finish v = b.at (a.put o.dst v) (.inRegion ops (rest ++ l2) :: k) := by
          intro v; rw [Frame.finish_at, ho]; rfl
        split at h
        · rename_i v w' hr
          obtain ⟨a', w'', hq, harr⟩ := ih _ _ h b k cs
          refine ⟨a', w'', hq, .head (step_lone_go ?_) harr⟩
          rw [List.cons_append, hg, ← hfin]; simp [stepG.apply, hr]
        · rename_i w' hr
          obtain ⟨a', w'', hq, harr⟩ := ih _ _ h b k cs
          refine ⟨a', w'', hq, .head (step_lone_go ?_) harr⟩
          rw [List.cons_append, hg, ← hfin]; simp [stepG.apply, hr]
        · rename_i d w' hr
          obtain ⟨a', w'', hq, harr⟩ := ih _ _ h b k cs
          refine ⟨a', w'', hq, .head (step_lone_go ?_) harr⟩
          have : ({ b.at a (.inRegion ops (i :: (rest ++ l2)) :: k) with defers := d :: a.defers } : Frame).finish undef =
              b.at ({ a with defers := d :: a.defers }.put o.dst undef) (.inRegion ops (rest ++ l2) :: k) := by
            have := Frame.finish_at b { a with defers := d :: a.defers } ops i (rest ++ l2) k undef
            rw [ho] at this; exact this
          rw [List.cons_append, hg]; simp only [stepG.apply, Sem.runT_eq, hr, GStep.bare_after]
          exact congrArg (fun fr => GStep.go { frame := fr, callers := cs, status := .running, dying := none } w') this
        · rename_i f args w' hr
          obtain ⟨e, w'', fr, hR, hsteps, _, hleave⟩ := h (b.at a (.inRegion ops (i :: (rest ++ l2)) :: k) :: cs)
          have henter : step P (lone (b.at a (.inRegion ops (i :: (rest ++ l2)) :: k)) cs w) =
              .next (lone (Frame.enter P f args .normal) (b.at a (.inRegion ops (i :: (rest ++ l2)) :: k) :: cs) w') :=
            step_lone_go (by rw [hg]; simp [stepG.apply, hr, Frame.at])
          cases e with
          | returned v =>
            obtain ⟨a', w₃, hq, harr⟩ := ih _ _ hR b k cs
            refine ⟨a', w₃, hq, .head henter (Steps.trans hsteps (.head ?_ harr))⟩
            rw [← hfin]; exact step_leave_returned hleave
          | panicked chain => cases hR.1
          | outgrown => obtain ⟨a₀, w₀, hq⟩ := hR; cases hq.1
        · rename_i row args w' hr
          obtain ⟨v, w'', hR, hsteps⟩ := h (b.at a (.inRegion ops (i :: (rest ++ l2)) :: k)) cs
          have henter : step P (lone (b.at a (.inRegion ops (i :: (rest ++ l2)) :: k)) cs w) =
              .next (lone (Frame.ofRow P row args .normal) (b.at a (.inRegion ops (i :: (rest ++ l2)) :: k) :: cs) w') :=
            step_lone_go (by rw [hg]; simp [stepG.apply, hr, Frame.at])
          obtain ⟨a', w₃, hq, harr⟩ := ih _ _ hR b k cs
          refine ⟨a', w₃, hq, .head henter (Steps.trans ?_ harr)⟩
          rw [← hfin]; exact hsteps
        · cases h.1
        · exact h.elim
      · simp only [hw, if_false, Bool.false_eq_true] at h
        obtain ⟨a', w', hq, harr⟩ := ih _ _ h b k cs
        have hs := step_op_skip (P := P) (b := b) (a := a) (k := k) (cs := cs) (w := w) (ops := ops) (i := i) (rest := rest ++ l2)
          (by simp [ho]; simpa using hw)
        simp only [ho, Option.bind_some] at hs
        exact ⟨a', w', hq, .head hs harr⟩

theorem wpOps_list {P : Program} {ops : Array Oper} {Q : Exit → Act → World → Prop} : ∀ (l : List Nat) (a : Act) (w : World), l.all (fun i => decide (i < ops.size)) = true → wpList P ops Q (l.filterMap fun i => ops[i]?) a w → wpOps P ops Q l a w := by
  intro l
  induction l with
  | nil => exact fun a w _ h => h
  | cons i l ih =>
    intro a w hl h
    simp only [List.all_cons, Bool.and_eq_true, decide_eq_true_eq] at hl
    have ho : ops[i]? = some ops[i] := Array.getElem?_eq_getElem hl.1
    simp only [wpOps, ho]
    rw [List.filterMap_cons_some ho] at h
    simp only [wpList] at h
    split
    · rename_i hw
      rw [if_pos hw] at h
      rcases h with h | h
      · left
        unfold Oper.wp Oper.upon at h ⊢
        split at h
        · exact ih _ _ hl.2 h
        · exact ih _ _ hl.2 h
        · exact ih _ _ hl.2 h
        · refine h.mono fun e w' he => ?_
          cases e with
          | returned v => exact ih _ _ hl.2 he
          | panicked c => exact he
          | outgrown => exact he
        · exact h.mono fun v w' hv => ih _ _ hl.2 hv
        · exact h
        · exact h
      · exact .inr h
    · rename_i hw
      rw [if_neg hw] at h
      exact ih _ _ hl.2 h
section
variable [Floor] {Q P : Program} {R : Exit → Act → World → Prop} {a : Act} {v : World}
theorem mo_lone (hT : Tamed Q P) {ops : Array Oper} (l l2 : List Nat) (ha : a.defers = []) (hops : ops.all (okOp P) = true) (H : ∀ T, wpOps Q ops (fun e a' v' => e = .normal ∧ MO P ops l2 R a' v') l a (World.re v 0 T)) : MO P ops (l ++ l2) R a v := by
  intro b k cs m t hb hk hcs hR h
  have hk' : ∀ i ∈ (.inRegion ops (l ++ l2) :: k : List Item), okItem P i = true := fun i hi => by
    rcases List.mem_cons.1 hi with rfl | hi
    · exact hops
    · exact hk i hi
  refine (h.rb (X := fun S g w => ∃ e a' v', Cp S v' w ∧ (e = .normal ∧ MO P ops l2 R a' v') ∧ Came b (.inRegion ops l2 :: k) cs e a' g) fun S w hc => rb_arrives hT hb ha hk' hcs hc (fun T => ?_) (fun e a' v' he => ?_)).trans fun m' t' ⟨S, n, w, g', h1, ⟨e, a', v', h2, ⟨he, h3⟩, h4⟩, h5⟩ => ?_
  · obtain ⟨a', v', h1, h2⟩ := arr_ops l2 l a _ (H T) b k (cs ++ [bottom])
    exact ⟨.normal, a', v', ⟨rfl, h1⟩, h2⟩
  · obtain ⟨rfl, _⟩ := he
    intro why e
    cases e
  · subst he
    obtain rfl : g' = _ := h4
    exact h3 b k cs m' t' hb hk hcs hR ⟨S, n, w, h1, h2, h5⟩

theorem mo_list (hT : Tamed Q P) {ops : Array Oper} (l l2 : List Nat) (ha : a.defers = []) (hops : ops.all (okOp P) = true) (hl : l.all (fun i => decide (i < ops.size)) = true) (H : ∀ T, wpList Q ops (fun e a' v' => e = .normal ∧ MO P ops l2 R a' v') (l.filterMap fun i => ops[i]?) a (World.re v 0 T)) : MO P ops (l ++ l2) R a v :=
  mo_lone hT l l2 ha hops fun T => wpOps_list l a _ hl (H T)
/-- A region that draws its order: whatever it is. -/
theorem mw_region_draw {id : Nat} {ops : Array Oper} (H : ∀ t, MO P ops (Region.schedule (P.follows .mixedOrders) ops t) R a v) : MW P (.region id ops true) R a v := by
  intro b k cs m t hb hk hcs hR h
  obtain ⟨S, n, w, h1, h2, h3⟩ := h
  refine (h3.stepN rfl (Nx := fun g' w' => w' = w ∧ ∃ t, g' = G (b.at a (.inRegion ops (Region.schedule (P.follows .mixedOrders) ops t) :: k)) cs) fun d => ?_).trans fun m1 t1 ⟨g', w', ⟨e1, tt, e2⟩, h4⟩ => H tt b k cs m1 t1 hb hk hcs hR ⟨S, n, w, h1, h2, by subst e1; subst e2; exact h4⟩
  exact ⟨_, w, d + 1, #[], stepG_region_draw, by simp, Nat.le_refl _, rfl, _, rfl⟩

theorem MW.mono {c : Code} {R' : Exit → Act → World → Prop} (h : MW P c R a v) (hr : ∀ e a' v', R e a' v' → R' e a' v') : MW P c R' a v := by
  intro b k cs m t hb hk hcs hR hm
  exact (h b k cs m t hb hk hcs (fun e a' v' x => hR e a' v' (hr e a' v' x)) hm).trans fun m' t' ⟨e, a', v', g, h1, h2, h3⟩ => .refl ⟨e, a', v', g, hr _ _ _ h1, h2, h3⟩
/-- A cut. -/
theorem mw_mid {x y : Code} (M : Act → World → Prop) (hy : okCode P y = true) (hn : ∀ why, y ≠ .refuse why) (H : MW P x (fun e a' v' => e = .normal ∧ M a' v') a v) (H2 : ∀ a' v', M a' v' → MW P y R a' v') : MW P (.seq x y) R a v :=
  mw_seq hy hn (H.mono fun e a' v' h => by obtain ⟨rfl, h⟩ := h; exact H2 a' v' h)
/-- What the body of a function that goes must achieve. -/
def bodyM (P : Program) (fn : Func) (Post : Value → World → Prop) : Exit → Act → World → Prop
  | .normal, a, v | .ret, a, v => a.defers = [] ∧ ∃ r, ResultsC P fn a.tmps r ∧ Post r v
  | _, _, _ => False
theorem callsM_of {f : FuncId} {fn : Func} {c : Code} {args : Array Value} {Post : Value → World → Prop} (hf : P.funcs[f]? = some fn) (hname : (fn.name == "runtime.NumGoroutine") = false) (hb : fn.body = some c)
    (H : MW P c (bodyM P fn Post) ⟨args ++ Array.replicate (fn.ntmps - args.size) undef, []⟩ v) : CallsM P f args v Post := by
  refine ⟨fn, c, hf, hname, hb, fun b₁ a₁ ops₁ i₁ rest₁ k₁ cs₁ m t hfr hcs h => ?_⟩
  have hfin : ∀ r, (b₁.at a₁ (.inRegion ops₁ (i₁ :: rest₁) :: k₁)).finish r = b₁.at (a₁.put ((ops₁[i₁]?).bind (·.dst)) r) (.inRegion ops₁ rest₁ :: k₁) := fun r => Frame.finish_at _ _ _ _ _ _ _
  have leave : ∀ (a' : Act) (v' : World) (todo : List Item) (m : Machine) (t : Trace), (a'.defers = [] ∧ ∃ r, ResultsC P fn a'.tmps r ∧ Post r v') → AtM P (G { (base f).at a' todo with mode := .returning } (b₁.at a₁ (.inRegion ops₁ (i₁ :: rest₁) :: k₁) :: cs₁)) v' m t →
      Rch P m t (fun m' t' => ∃ r v', Post r v' ∧ AtM P (G (b₁.at (a₁.put ((ops₁[i₁]?).bind (·.dst)) r) (.inRegion ops₁ rest₁ :: k₁)) cs₁) v' m' t') := by
    rintro a' v' todo m t ⟨hd, r, hr, hp⟩ h
    refine (h.step rfl (fun w => ?_)).trans fun m1 t1 h1 => .refl ⟨r, v', hp, h1⟩
    rw [stepG_leave (b := base f) rfl hd hf (hr w).1 (hr w).2, hfin]
  refine (H (base f) [] _ m t rfl (by simp) (fun x hx => ?_) (fun e a' v' hr => ?_) h).trans fun m1 t1 ⟨e, a', v', g, h1, h2, h3⟩ => ?_
  · rcases List.mem_cons.1 hx with rfl | hx
    · exact hfr
    · exact hcs x hx
  · cases e with
    | normal => exact fun why e => by cases e
    | ret => trivial
    | _ => exact hr.elim
  · cases e with
    | normal =>
      obtain rfl : g = _ := h2
      exact (h3.step rfl (fun w => stepG_end)).trans fun m2 t2 h4 => leave a' v' [] m2 t2 h1 h4
    | ret =>
      obtain ⟨todo, rfl⟩ := h2
      exact leave a' v' todo m1 t1 h1 h3
    | _ => exact h1.elim
theorem CallsM.mono {f : FuncId} {args : Array Value} {Post Post' : Value → World → Prop} (h : CallsM P f args v Post) (hp : ∀ r v', Post r v' → Post' r v') : CallsM P f args v Post' := by
  obtain ⟨fn, c, h1, h2, h3, h4⟩ := h
  exact ⟨fn, c, h1, h2, h3, fun b₁ a₁ ops₁ i₁ rest₁ k₁ cs₁ m t hf hcs h => (h4 b₁ a₁ ops₁ i₁ rest₁ k₁ cs₁ m t hf hcs h).trans fun m' t' ⟨r, v', x, y⟩ => .refl ⟨r, v', hp r v' x, y⟩⟩
/-- The lone run's tape and its place in it are of no account. -/
theorem CallsM.re {f : FuncId} {args : Array Value} {Post : Value → World → Prop} (K : Nat) (T : Nat → Question → Nat) (h : CallsM P f args v Post) : CallsM P f args (World.re v K T) Post := by
  obtain ⟨fn, c, h1, h2, h3, h4⟩ := h
  exact ⟨fn, c, h1, h2, h3, fun b₁ a₁ ops₁ i₁ rest₁ k₁ cs₁ m t hf hcs h => h4 b₁ a₁ ops₁ i₁ rest₁ k₁ cs₁ m t hf hcs (h.re v.drawn v.tape)⟩
end
end Go.Proofs.Ytdafpnpfcmgfcab
