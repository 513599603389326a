/- Code walked by goroutine 0 beside those that are only leaving: lone pieces, and calls that go. -/
import Derived.Test.YteaincbmnhehcabCrew18
namespace Go.Proofs.Yteaincbmnhehcab
open Go Go.Conc Go.ConcN

/-- From here the piece of code is left in a way that meets R. -/
def MW [Floor] (P : Program) (c : Code) (R : Exit → Act → World → Prop) (a : Act) (v : World) : Prop :=
  ∀ (b : Frame) (k : List Item) (cs : List Frame) (m : Machine) (t : Trace), b.kind = .normal → (∀ i ∈ k, okItem P i = true) → (∀ f ∈ cs, FrameOk P f) → (∀ e a' v', R e a' v' → Ways k e) →
    AtM P (G (b.at a (.code c :: k)) cs) v m t → Rch P m t (fun m' t' => ∃ e a' v' g, R e a' v' ∧ Came b k cs e a' g ∧ AtM P g v' m' t')
/-- The same of a region's operations that are still to come. -/
def MO [Floor] (P : Program) (ops : Array Oper) (l : List Nat) (R : Exit → Act → World → Prop) (a : Act) (v : World) : Prop :=
  ∀ (b : Frame) (k : List Item) (cs : List Frame) (m : Machine) (t : Trace), b.kind = .normal → (∀ i ∈ k, okItem P i = true) → (∀ f ∈ cs, FrameOk P f) → (∀ e a' v', R e a' v' → Ways k e) →
    AtM P (G (b.at a (.inRegion ops l :: k)) cs) v m t → Rch P m t (fun m' t' => ∃ e a' v' g, R e a' v' ∧ Came b k cs e a' g ∧ AtM P g v' m' t')
/-- A contract of a function that may go. -/
def CallsM [Floor] (P : Program) (f : FuncId) (args : Array Value) (v : World) (Post : Value → World → Prop) : Prop :=
  ∃ fn c, P.funcs[f]? = some fn ∧ (fn.name == "runtime.NumGoroutine") = false ∧ fn.body = some c ∧
    ∀ (b₁ : Frame) (a₁ : Act) (ops₁ : Array Oper) (i₁ : Nat) (rest₁ : List Nat) (k₁ : List Item) (cs₁ : List Frame) (m : Machine) (t : Trace),
      FrameOk P (b₁.at a₁ (.inRegion ops₁ (i₁ :: rest₁) :: k₁)) → (∀ f ∈ cs₁, FrameOk P f) →
      AtM P (G ((base f).at ⟨args ++ Array.replicate (fn.ntmps - args.size) undef, []⟩ [.code c]) (b₁.at a₁ (.inRegion ops₁ (i₁ :: rest₁) :: k₁) :: cs₁)) v m t →
      Rch P m t (fun m' t' => ∃ r v', Post r v' ∧ AtM P (G (b₁.at (a₁.put ((ops₁[i₁]?).bind (·.dst)) r) (.inRegion ops₁ rest₁ :: k₁)) cs₁) v' m' t')

section
variable [Floor] {Q P : Program} {R : Exit → Act → World → Prop} {a : Act} {v : World}

theorem AtM.re {g : Goroutine} {m : Machine} {t : Trace} (h : AtM P g v m t) (K : Nat) (T : Nat → Question → Nat) : AtM P g (World.re v K T) m t := by
  obtain ⟨S, n, w, h1, h2, h3⟩ := h
  exact ⟨S, n, w, h1, h2.re' K T, h3⟩

/-- A step that turns nothing. -/
theorem AtM.step {g g' : Goroutine} {m : Machine} {t : Trace} (h : AtM P g v m t) (hrun : g.status = .running) (hst : ∀ w, stepG P true g w = .go g' w #[]) : Rch P m t (fun m' t' => AtM P g' v m' t') := by
  obtain ⟨S, n, w, h1, h2, h3⟩ := h
  exact (h3.step hrun (a' := g') (w' := w) (es := #[]) (fun d => ⟨d, hst _⟩) (by simp) (Nat.le_refl _)).trans fun m' t' h' => .refl ⟨S, n, w, h1, h2, h'⟩

/-- A way in company, carried out. -/
theorem AtM.rb {g : Goroutine} {X : (Nat → Prop) → Goroutine → World → Prop} {m : Machine} {t : Trace} (h : AtM P g v m t) (hX : ∀ S w, Cp S v w → Rb P S (X S) g w) :
    Rch P m t (fun m' t' => ∃ S n w g', (1 ≤ n ∧ ∀ b, S b → Floor.low ≤ b) ∧ X S g' w ∧ Beside P S n g' w m' t') := by
  obtain ⟨S, n, w, h1, h2, gs, sl, q, d, rfl, h0, hn, hL, hT⟩ := h
  obtain ⟨N, gs', a', w', sl', t', q', hr, hs', h0', hx, hL', hT'⟩ := co_rb (hX S w h2) d gs sl t q h0 hL (by rw [hn]; exact hT)
  exact ⟨N, _, t', hr, S, n, w', a', h1, hx w' (Sim.refl _ _), gs', sl', q', w'.drawn, rfl, h0', hs'.trans hn, hL', by rw [hs', hn] at hT'; exact hT'⟩

theorem mw_wp (hT : Tamed Q P) {c : Code} (ha : a.defers = []) (hcd : okCode P c = true) (H : ∀ T, c.wp Q R a (World.re v 0 T)) : MW P c R a v := by
  intro b k cs m t hb hk hcs hR h
  refine (h.rb (X := fun S g w => ∃ e a' v', Cp S v' w ∧ R e a' v' ∧ Came b k cs e a' g) fun S w hc => rb_wp hT hb ha hcd hk hcs hc H hR).trans fun m' t' ⟨S, n, w, g', h1, ⟨e, a', v', h2, h3, h4⟩, h5⟩ => .refl ⟨e, a', v', g', h3, h4, S, n, w, h1, h2, h5⟩

omit [Floor] in
theorem came_push {b : Frame} {y : Code} {k : List Item} {cs : List Frame} {e : Exit} {a : Act} {g : Goroutine} (he : e ≠ .normal) (h : Came b (.code y :: k) cs e a g) : Came b k cs e a g := by
  cases e with
  | normal => exact absurd rfl he
  | exit id => obtain ⟨k', h1, h2⟩ := h; exact ⟨k', by simpa [exitTo] using h1, h2⟩
  | ret => exact h
  | _ => exact h

theorem mw_seq {x y : Code} (hy : okCode P y = true) (hn : ∀ why, y ≠ .refuse why) (H : MW P x (Exit.then (fun a' v' => MW P y R a' v') R) a v) : MW P (.seq x y) R a v := by
  intro b k cs m t hb hk hcs hR h
  refine (h.step rfl (fun w => stepG_seq)).trans fun m1 t1 h1 => ?_
  have hk' : ∀ i ∈ (.code y :: k : List Item), okItem P i = true := fun i hi => by
    rcases List.mem_cons.1 hi with rfl | hi
    · exact hy
    · exact hk i hi
  refine (H b (.code y :: k) cs m1 t1 hb hk' hcs (fun e a' v' hr => ?_) h1).trans fun m2 t2 ⟨e, a', v', g, h2, h3, h4⟩ => ?_
  · cases e with
    | normal =>
      intro why e
      simp only [List.cons.injEq, Item.code.injEq] at e
      exact hn why e.1
    | exit id =>
      obtain ⟨k', h1, h2⟩ := hR _ _ _ hr
      exact ⟨k', by simpa [exitTo] using h1, h2⟩
    | ret => trivial
    | goto l => exact hR _ _ _ hr
    | panic c => exact hR _ _ _ hr
    | outgrown => exact hR _ _ _ hr
  · cases e with
    | normal =>
      obtain rfl : g = _ := h3
      exact h2 b k cs m2 t2 hb hk hcs hR h4
    | exit id => exact .refl ⟨_, a', v', g, h2, came_push (by simp) h3, h4⟩
    | ret => exact .refl ⟨_, a', v', g, h2, h3, h4⟩
    | goto l => exact (hR _ _ _ h2).elim
    | panic c => exact (hR _ _ _ h2).elim
    | outgrown => exact (hR _ _ _ h2).elim

theorem mw_seq_wp (hT : Tamed Q P) {x y : Code} (ha : a.defers = []) (hcd : okCode P x = true) (hy : okCode P y = true) (hn : ∀ why, y ≠ .refuse why) (H : ∀ T, x.wp Q (Exit.then (fun a' v' => MW P y R a' v') R) a (World.re v 0 T)) : MW P (.seq x y) R a v :=
  mw_seq hy hn (mw_wp hT ha hcd H)

theorem mw_region {id : Nat} {ops : Array Oper} (H : MO P ops (List.range ops.size) R a v) : MW P (.region id ops false) R a v := by
  intro b k cs m t hb hk hcs hR h
  exact (h.step rfl (fun w => stepG_region)).trans fun m1 t1 h1 => H b k cs m1 t1 hb hk hcs hR h1

theorem mo_nil {ops : Array Oper} (H : R .normal a v) : MO P ops [] R a v := by
  intro b k cs m t hb hk hcs hR h
  exact (h.step rfl (fun w => stepG_region_end)).trans fun m1 t1 h1 => .refl ⟨.normal, a, v, _, H, rfl, h1⟩

theorem mo_call {ops : Array Oper} {i : Nat} {rest : List Nat} {o : Oper} {f : FuncId} {args : Array Operand} {ats : Array TypeId} {Post : Value → World → Prop} (hops : ops.all (okOp P) = true) (ha : a.defers = []) (ho : ops[i]? = some o) (hw : Region.wanted o (yielded ops a.tmps) = true)
    (hop : o.op = .call { callee := .value (.func f), args, argTypes := ats }) {vs : Array Value} (hvs : args.map a.eval = vs) (hc : CallsM P f vs v Post) (H : ∀ r v', Post r v' → MO P ops rest R (a.put o.dst r) v') : MO P ops (i :: rest) R a v := by
  subst hvs
  intro b k cs m t hb hk hcs hR h
  obtain ⟨fn, c, hf, hname, hbody, hcall⟩ := hc
  have hbe : b.kind ≠ .early := by rw [hb]; simp
  have hbody' : fn.body.isNone = false := by rw [hbody]; rfl
  refine (h.step rfl (fun w => ?_)).trans fun m1 t1 h1 => (hcall b a ops i rest k cs m1 t1 ⟨hb, rfl, ha, fun x hx => ?_⟩ hcs h1).trans fun m2 t2 ⟨r, v', hp, h2⟩ => ?_
  · rw [stepG_enter ho hw hbe (run_call_body hop hf hname hbody'), enter_at _ hf hbody]
    have : listed P b.fn a o w = #[] := by unfold listed; rw [events_call_body hop hf hname hbody']; exact seen_none P _
    rw [this]
  · rcases List.mem_cons.1 hx with rfl | hx
    · exact hops
    · exact hk x hx
  · rw [ho] at h2
    exact H r v' hp b k cs m2 t2 hb hk hcs hR h2
end
end Go.Proofs.Yteaincbmnhehcab
