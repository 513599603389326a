/- Two runs in step: a goroutine's step. -/
import Derived.Test.YteaincbmnhehcabLift2
namespace Go.Proofs.Yteaincbmnhehcab
open Go

/-- 'Q' is 'P', the bodies of some functions refused. -/
structure Stubbed (Q P : Program) : Prop where
  eq : Q = { P with funcs := Q.funcs }
  size : Q.funcs.size = P.funcs.size
  fn : ∀ f : FuncId, Q.funcs[f]? = P.funcs[f]? ∨ ∃ (g : Func) (why : String), P.funcs[f]? = some g ∧ Q.funcs[f]? = some { g with body := some (.refuse why) }

/-- The frame that lies below all others in the lone run: whoever comes back to it stands still. -/
def bottom : Frame := { fn := 0, tmps := #[], todo := [.code (.refuse "")], defers := [{ target := .nil, args := #[] }], mode := .run, kind := .normal }
/-- A goroutine of the company, as it stands in the lone run. -/
def ext (g : Goroutine) : Goroutine := { g with callers := g.callers ++ [bottom] }
/-- It has just entered a function whose body is refused, or come back to the bottom. -/
def Stub (g : Goroutine) : Prop := g.dying = none ∧ g.status = .running ∧ ((∃ why, g.frame.todo = [.code (.refuse why)] ∧ g.frame.mode = .run) ∨ ∃ ch, g.frame.mode = .panicking ch ∧ g.frame.defers = [{ target := .nil, args := #[] }])

def Agree (c : Nat) (v w : World) : Prop := ∀ i, i < c → v.tape (v.drawn + i) = w.tape (w.drawn + i)

/-- The two steps have done the same. -/
def Went (S : Nat → Prop) (x : GStep) (c : Nat) (v w v1 : World) (g' : Goroutine) (es : Array Event) : Prop :=
  v1.drawn = v.drawn + c ∧ v1.tape = v.tape ∧ ∃ w1, x = .go g' w1 es ∧ w1.drawn = w.drawn + c ∧ w1.tape = w.tape ∧ Cp S v1 w1 ∧ w.heap.size ≤ w1.heap.size ∧ ∀ e ∈ es, OkE S w1.heap.size e

/-- The lone step ends the run, or leads to a stub, or the two do the same. -/
def Fin1 (S : Nat → Prop) (K : Goroutine → Prop) (x y : GStep) (c : Nat) (v w : World) : Prop :=
  (∃ o v' es, x = .ended o v' es) ∨ ∃ g' v1 es, x = .go g' v1 es ∧ (Stub g' ∨ ∃ gc, g' = ext gc ∧ K gc ∧ Went S y c v w v1 gc es)
/-- What is shown of a step: 'x' the lone one, 'y' the one in company. -/
def InStep (S : Nat → Prop) (K : Goroutine → Prop) (x : World → GStep) (y : GStep) (w : World) : Prop :=
  ∃ c, ∀ v, Cp S v w → Agree c v w → Fin1 S K (x v) y c v w

section
variable {Q P : Program} {S : Nat → Prop} {K : Goroutine → Prop}

theorem seen_same (h : Stubbed Q P) (fn : FuncId) (es : Array Event) : seen Q fn es = seen P fn es := by
  have hq : ∀ f : FuncId, (Q.funcs[f]?).any (·.norace) = (P.funcs[f]?).any (·.norace) := fun f => by
    rcases h.fn f with e | ⟨g, why, e1, e2⟩
    · rw [e]
    · rw [e1, e2]; rfl
  unfold seen
  simp only [hq]

theorem seen_mem {p : Program} {fn : FuncId} {es : Array Event} {e : Event} (h : e ∈ seen p fn es) : e ∈ es := by
  obtain ⟨l⟩ := es
  unfold seen at h
  simp only [List.foldl_toArray'] at h
  have key : ∀ (l : List Event) (z : Bool × Array Event), e ∈ (l.foldl (fun (x : Bool × Array Event) e => match e.loc with
      | .mark (.extern f) => ((p.funcs[f]?).any (·.norace), x.2)
      | _ => (x.1, if x.1 && !e.sync then x.2 else x.2.push e)) z).2 → e ∈ z.2 ∨ e ∈ l := by
    intro l
    induction l with
    | nil => intro z h; exact .inl h
    | cons a l ih =>
      intro z h
      rw [List.foldl_cons] at h
      rcases ih _ h with h | h
      · split at h
        · exact .inl h
        · dsimp only at h
          split at h
          · exact .inl h
          · rcases Array.mem_push.1 h with h | h
            · exact .inl h
            · subst h; exact .inr (by simp)
      · exact .inr (by simp [h])
  rcases key l _ h with h | h
  · simp at h
  · simpa using h

theorem enterF_same (h : Stubbed Q P) (f : FuncId) (args : Array Value) (k : CallKind) (cs : List Frame) :
    Stub { frame := Frame.enter Q f args k, callers := cs, status := .running, dying := none } ∨ Frame.enter Q f args k = Frame.enter P f args k := by
  rcases h.fn f with e | ⟨g, why, e1, e2⟩
  · right; unfold Frame.enter; rw [e]
  · left
    exact ⟨rfl, rfl, .inl ⟨why, by simp [Frame.enter, e2], rfl⟩⟩

theorem Stubbed.follows (h : Stubbed Q P) (d : Departure) : Q.follows d = P.follows d := congrArg (fun p => p.follows d) h.eq
theorem went (hst : Stubbed Q P) {fn : FuncId} {us : Array Event} {G G' : Goroutine} {v w v2 w2 : World} {c : Nat} (hG : Stub G ∨ (G = ext G' ∧ K G')) (c2 : Cp S v2 w2) (t1 : v2.tape = v.tape) (t2 : w2.tape = w.tape) (hsz : w.heap.size ≤ w2.heap.size)
    (d1 : v2.drawn = v.drawn + c) (d2 : w2.drawn = w.drawn + c) (hok : ∀ e ∈ us, OkE S w2.heap.size e) :
    Fin1 S K (GStep.after (seen Q fn us) (.go G v2)) (GStep.after (seen P fn us) (.go G' w2)) c v w := by
  refine .inr ⟨_, _, _, rfl, ?_⟩
  rcases hG with h | ⟨rfl, hK⟩
  · exact .inl h
  · refine .inr ⟨G', rfl, hK, d1, t1, w2, ?_, d2, t2, c2, hsz, fun e he => ?_⟩
    · simp only [GStep.after, seen_same hst]
    · rcases Array.mem_append.1 he with he | he
      · exact hok e (seen_mem he)
      · simp at he

/-- It enters a function whose body is refused. -/
def ZN (Q : Program) : Next → Prop
  | .enter f _ => ∃ (g : Func) (why : String), Q.funcs[f]? = some { g with body := some (.refuse why) }
  | _ => False
theorem stub_enter {f : FuncId} {args : Array Value} (h : ZN Q (.enter f args)) (k : CallKind) (cs : List Frame) : Stub { frame := Frame.enter Q f args k, callers := cs, status := .running, dying := none } := by
  obtain ⟨g, why, e⟩ := h
  exact ⟨rfl, rfl, .inl ⟨why, by simp [Frame.enter, e], rfl⟩⟩

/-- What an operation in use may yield. -/
def OkNext : Next → Prop
  | .value _ | .skip | .enter _ _ => True
  | _ => False

theorem apply_couple (hst : Stubbed Q P) {fr : Frame} {cs : List Frame} (hk : (fr.kind == .early) = false) {s : Sem Next} (hs : Tame Q P S (ZN Q) OkNext s)
    (k1 : ∀ v, K { frame := fr.finish v, callers := cs, status := .running, dying := none })
    (k2 : ∀ f args, Frame.enter Q f args (match fr.todo with | .call _ true _ _ :: _ => .wrapped | _ => .normal) = Frame.enter P f args (match fr.todo with | .call _ true _ _ :: _ => .wrapped | _ => .normal) →
      K { frame := Frame.enter P f args (match fr.todo with | .call _ true _ _ :: _ => .wrapped | _ => .normal), callers := fr :: cs, status := .running, dying := none })
    (k3 : ∀ ch, K { frame := fr.raise ch, callers := cs, status := .running, dying := none }) (w : World) :
    InStep S K (stepG.apply Q true fr (cs ++ [bottom]) none s) (stepG.apply P true fr cs none s w) w := by
  refine ⟨(Result.w (s.runT P w #[]).1).drawn - w.drawn, fun v hc ha => ?_⟩
  rcases run_couple s v w #[] hs hc (fun i hi => ha i (by omega)) with (⟨h, v', hd, hE⟩ | ⟨a, v', hd, hZ⟩) | ⟨us, v2, w2, c2, t1, t2, hsz, ⟨c, d1, d2⟩, hok, hb⟩
  case inl.inr =>
    obtain ⟨r, e⟩ : ∃ r, s.runT Q v #[] = r := ⟨_, rfl⟩
    obtain ⟨r1, r2⟩ := r
    rw [e] at hd
    obtain rfl : r1 = .ok a v' := hd
    simp only [stepG.apply, e, if_true]
    cases a with
    | enter f args => exact .inr ⟨_, _, _, rfl, .inl (stub_enter hZ _ _)⟩
    | _ => exact hZ.elim
  · obtain ⟨r, e⟩ : ∃ r, s.runT Q v #[] = r := ⟨_, rfl⟩
    obtain ⟨r1, r2⟩ := r
    rw [e] at hd
    obtain rfl : r1 = .halt h v' := hd
    simp only [stepG.apply, e, if_true]
    cases h with
    | stuck m => exact .inl ⟨_, _, _, rfl⟩
    | unsupported u => cases u <;> first | exact hE.elim | exact .inl ⟨_, _, _, rfl⟩
    | _ => exact hE.elim
  · rcases hb with ⟨a, hA, e1, e2⟩ | ⟨h, hn, e1, e2⟩
    · have hcd : (Result.w (s.runT P w #[]).1).drawn - w.drawn = c := by rw [e2]; show w2.drawn - w.drawn = c; omega
      rw [hcd]
      simp only [stepG.apply, e1, e2, if_true, hk, Bool.false_eq_true, if_false, Array.empty_append]
      cases a with
      | value x => exact went hst (.inr ⟨rfl, k1 _⟩) c2 t1 t2 hsz d1 d2 hok
      | skip => exact went hst (.inr ⟨rfl, k1 _⟩) c2 t1 t2 hsz d1 d2 hok
      | enter f args => exact went hst ((enterF_same hst f args _ _).imp id (fun e => ⟨congrArg (fun x => ({ frame := x, callers := fr :: (cs ++ [bottom]), status := .running, dying := none } : Goroutine)) e, k2 f args e⟩)) c2 t1 t2 hsz d1 d2 hok
      | _ => exact hA.elim
    · have hcd : (Result.w (s.runT P w #[]).1).drawn - w.drawn = c := by rw [e2]; show w2.drawn - w.drawn = c; omega
      rw [hcd]
      simp only [stepG.apply, e1, e2, if_true, hk, Bool.false_eq_true, if_false, Array.empty_append]
      cases h with
      | panic x => exact went hst (.inr ⟨rfl, k3 _⟩) c2 t1 t2 hsz d1 d2 hok
      | unsupported u => cases u <;> first | exact hn.elim | exact .inl ⟨_, _, _, rfl⟩
      | stuck x => exact .inl ⟨_, _, _, rfl⟩
      | _ => exact hn.elim
end
end Go.Proofs.Yteaincbmnhehcab
