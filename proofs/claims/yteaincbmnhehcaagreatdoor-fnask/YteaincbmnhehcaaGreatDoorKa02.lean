/- Two runs in step: a goroutine's step. -/
import Derived.Test.YteaincbmnhehcaaGreatDoorKa01
namespace Go.Proofs.YteaincbmnhehcaaGreatDoor
open Go
structure Stubbed (Q P : Program) : Prop where
 eq : Q = { P with funcs := Q.funcs }
 size : Q.funcs.size = P.funcs.size
 fn : ∀ f : FuncId, Q.funcs[f]? = P.funcs[f]? ∨ ∃ (g : Func) (why : String), P.funcs[f]? = some g ∧ Q.funcs[f]? = some { g with body := some (.refuse why) }
def bottom : Frame := { fn := 0, tmps := #[], todo := [.code (.refuse "")], defers := [{ target := .nil, args := #[] }], mode := .run, kind := .normal }
def ext (g : Goroutine) : Goroutine := { g with callers := g.callers ++ [bottom] }
def Stub (g : Goroutine) : Prop := g.dying = none ∧ g.status = .running ∧ ((∃ why, g.frame.todo = [.code (.refuse why)] ∧ g.frame.mode = .run) ∨ ∃ ch, g.frame.mode = .panicking ch ∧ g.frame.defers = [{ target := .nil, args := #[] }])
def Agree (c : Nat) (v w : World) : Prop := ∀ i, i < c → v.tape (v.drawn + i) = w.tape (w.drawn + i)
def Went (S : Sh) (x : GStep) (c : Nat) (v w v1 : World) (g' : Goroutine) (es : Array Event) : Prop :=
 v1.drawn = v.drawn + c ∧ v1.tape = v.tape ∧ ∃ w1, x = .go g' w1 es ∧ w1.drawn = w.drawn + c ∧ w1.tape = w.tape ∧ Cp S v1 w1 ∧ w.heap.size ≤ w1.heap.size ∧ ∀ e ∈ es, OkE S w1.heap.size e
def Fin1 (S : Sh) (K : Goroutine → Prop) (x y : GStep) (c : Nat) (v w : World) : Prop :=
 (∃ o v' es, x = .ended o v' es) ∨ ∃ g' v1 es, x = .go g' v1 es ∧ (Stub g' ∨ ∃ gc, g' = ext gc ∧ K gc ∧ Went S y c v w v1 gc es)
def InStep (S : Sh) (K : Goroutine → Prop) (x : World → GStep) (y : GStep) (w : World) : Prop :=
 ∃ c, ∀ v, Cp S v w → Agree c v w → Fin1 S K (x v) y c v w
section
variable {Q P : Program} {S : Sh} {K : Goroutine → Prop}
theorem seen_same (h : Stubbed Q P) (fn : FuncId) (es : Array Event) : seen Q fn es = seen P fn es := by
 have hq : ∀ f : FuncId, (Q.funcs[f]?).any (·.norace) = (P.funcs[f]?).any (·.norace) := fun f => by
  rcases h.fn f with e | ⟨g, why, e1, e2⟩
  ·rw [e]
  ·rw [e1, e2]; rfl
 unfold seen
 simp only [hq]
theorem seen_mem {p : Program} {fn : FuncId} {es : Array Event} {e : Event} (h : e ∈ seen p fn es) : e ∈ es ∧ ∀ f, e.loc ≠ .mark (.extern f) := by
 obtain ⟨l⟩ := es
 unfold seen at h
 simp only [List.foldl_toArray'] at h
 have key : ∀ (l : List Event) (z : Bool × Array Event), e ∈ (l.foldl (fun (x : Bool × Array Event) e => match e.loc with
   | .mark (.extern f) => ((p.funcs[f]?).any (·.norace), x.2)
   | _ => (x.1, if x.1 && !e.sync then x.2 else x.2.push e)) z).2 → e ∈ z.2 ∨ (e ∈ l ∧ ∀ f, e.loc ≠ .mark (.extern f)) := by
  intro l
  induction l with
  | nil => intro z h; exact .inl h
  | cons a l ih =>
   intro z h
   rw [List.foldl_cons] at h
   rcases ih _ h with h | h
   ·split at h
    ·exact .inl h
    ·rename_i hn
     dsimp only at h
     split at h
     ·exact .inl h
     ·rcases Array.mem_push.1 h with h | h
      ·exact .inl h
      ·subst h; exact .inr ⟨by simp, fun f hf => hn f hf⟩
   ·exact .inr ⟨by simp [h.1], h.2⟩
 rcases key l _ h with h | h
 ·simp at h
 ·exact ⟨by simpa using h.1, h.2⟩
theorem seen_ok {p : Program} {fn : FuncId} {us : Array Event} {B : Nat} (hok : ∀ e ∈ us, OkE0 S B e) {e : Event} (h : e ∈ seen p fn us) : OkE S B e := by
 obtain ⟨h1, h2⟩ := seen_mem h
 exact (hok e h1).elim id fun ⟨f, hf⟩ => absurd hf (h2 f)
theorem enterF_same (h : Stubbed Q P) (f : FuncId) (args : Array Value) (k : CallKind) (cs : List Frame) :
  Stub { frame := Frame.enter Q f args k, callers := cs, status := .running, dying := none } ∨ Frame.enter Q f args k = Frame.enter P f args k := by
 rcases h.fn f with e | ⟨g, why, e1, e2⟩
 ·right; unfold Frame.enter; rw [e]
 ·left
  exact ⟨rfl, rfl, .inl ⟨why, by simp [Frame.enter, e2], rfl⟩⟩
theorem Stubbed.follows (h : Stubbed Q P) (d : Departure) : Q.follows d = P.follows d := congrArg (fun p => p.follows d) h.eq
theorem went (hst : Stubbed Q P) {fn : FuncId} {us : Array Event} {G G' : Goroutine} {v w v2 w2 : World} {c : Nat} (hG : Stub G ∨ (G = ext G' ∧ K G')) (c2 : Cp S v2 w2) (t1 : v2.tape = v.tape) (t2 : w2.tape = w.tape) (hsz : w.heap.size ≤ w2.heap.size)
  (d1 : v2.drawn = v.drawn + c) (d2 : w2.drawn = w.drawn + c) (hok : ∀ e ∈ us, OkE0 S w2.heap.size e) :
  Fin1 S K (GStep.after (seen Q fn us) (.go G v2)) (GStep.after (seen P fn us) (.go G' w2)) c v w := by
 refine .inr ⟨_, _, _, rfl, ?_⟩
 rcases hG with h | ⟨rfl, hK⟩
 ·exact .inl h
 ·refine .inr ⟨G', rfl, hK, d1, t1, w2, ?_, d2, t2, c2, hsz, fun e he => ?_⟩
  ·simp only [GStep.after, seen_same hst]
  ·rcases Array.mem_append.1 he with he | he
   ·exact seen_ok hok he
   ·simp at he
def ZN (Q : Program) : Next → Prop
 | .enter f _ => ∃ (g : Func) (why : String), Q.funcs[f]? = some { g with body := some (.refuse why) }
 | _ => False
theorem stub_enter {f : FuncId} {args : Array Value} (h : ZN Q (.enter f args)) (k : CallKind) (cs : List Frame) : Stub { frame := Frame.enter Q f args k, callers := cs, status := .running, dying := none } := by
 obtain ⟨g, why, e⟩ := h
 exact ⟨rfl, rfl, .inl ⟨why, by simp [Frame.enter, e], rfl⟩⟩
def OkNext : Next → Prop
 | .value _ | .skip | .enter _ _ => True
 | .round _ _ _ a b => synCode a = true ∧ synCode b = true
 | _ => False
theorem apply_couple (hst : Stubbed Q P) {fr : Frame} {cs : List Frame} (hk : (fr.kind == .early) = false) {s : Sem Next} (hs : Tame Q P S (ZN Q) OkNext s)
  (k1 : ∀ v, K { frame := fr.finish v, callers := cs, status := .running, dying := none })
  (k2 : ∀ f args, Frame.enter Q f args (match fr.todo with | .call _ true _ _ :: _ => .wrapped | _ => .normal) = Frame.enter P f args (match fr.todo with | .call _ true _ _ :: _ => .wrapped | _ => .normal) →
   K { frame := Frame.enter P f args (match fr.todo with | .call _ true _ _ :: _ => .wrapped | _ => .normal), callers := fr :: cs, status := .running, dying := none })
  (k3 : ∀ ch, K { frame := fr.raise ch, callers := cs, status := .running, dying := none })
  (k4 : ∀ l f tmps a b, synCode a = true → synCode b = true → K { frame := Frame.round l f tmps a b .normal, callers := fr :: cs, status := .running, dying := none }) (w : World) :
  InStep S K (stepG.apply Q true fr (cs ++ [bottom]) none s) (stepG.apply P true fr cs none s w) w := by
 refine ⟨(Result.w (s.runT P w #[]).1).drawn - w.drawn, fun v hc ha => ?_⟩
 rcases run_couple s v w #[] hs hc (fun i hi => ha i (by omega)) with (⟨h, v', hd, hE⟩ | ⟨a, v', hd, hZ⟩) | ⟨us, v2, w2, c2, t1, t2, hsz, ⟨c, d1, d2⟩, hok, hb⟩
 case inl.inr =>
  obtain ⟨r, e⟩ : ∃ r, s.runT Q v #[] = r := ⟨_, rfl⟩
  obtain ⟨r1, r2⟩ := r
  rw [e] at hd
  obtain rfl : r1 = .ok a v' := hd
  simp only [stepG.apply, e, if_true]
  cases a with
  | enter f args => exact .inr ⟨_, _, _, rfl, .inl (stub_enter hZ _ _)⟩
  | _ => exact hZ.elim
 ·obtain ⟨r, e⟩ : ∃ r, s.runT Q v #[] = r := ⟨_, rfl⟩
  obtain ⟨r1, r2⟩ := r
  rw [e] at hd
  obtain rfl : r1 = .halt h v' := hd
  simp only [stepG.apply, e, if_true]
  cases h with
  | stuck m => exact .inl ⟨_, _, _, rfl⟩
  | unsupported u => cases u <;> first | exact hE.elim | exact .inl ⟨_, _, _, rfl⟩
  | _ => exact hE.elim
 ·rcases hb with ⟨a, hA, e1, e2⟩ | ⟨h, hn, e1, e2⟩
  ·have hcd : (Result.w (s.runT P w #[]).1).drawn - w.drawn = c := by rw [e2]; show w2.drawn - w.drawn = c; omega
   rw [hcd]
   simp only [stepG.apply, e1, e2, if_true, hk, Bool.false_eq_true, if_false, Array.empty_append]
   cases a with
   | value x => exact went hst (.inr ⟨rfl, k1 _⟩) c2 t1 t2 hsz d1 d2 hok
   | skip => exact went hst (.inr ⟨rfl, k1 _⟩) c2 t1 t2 hsz d1 d2 hok
   | enter f args => exact went hst ((enterF_same hst f args _ _).imp id (fun e => ⟨congrArg (fun x => ({ frame := x, callers := fr :: (cs ++ [bottom]), status := .running, dying := none } : Goroutine)) e, k2 f args e⟩)) c2 t1 t2 hsz d1 d2 hok
   | round l f tmps a b => exact went hst (.inr ⟨rfl, k4 l f tmps a b hA.1 hA.2⟩) c2 t1 t2 hsz d1 d2 hok
   | _ => exact hA.elim
  ·have hcd : (Result.w (s.runT P w #[]).1).drawn - w.drawn = c := by rw [e2]; show w2.drawn - w.drawn = c; omega
   rw [hcd]
   simp only [stepG.apply, e1, e2, if_true, hk, Bool.false_eq_true, if_false, Array.empty_append]
   cases h with
   | panic x => exact went hst (.inr ⟨rfl, k3 _⟩) c2 t1 t2 hsz d1 d2 hok
   | unsupported u => cases u <;> first | exact hn.elim | exact .inl ⟨_, _, _, rfl⟩
   | stuck x => exact .inl ⟨_, _, _, rfl⟩
   | _ => exact hn.elim
theorem Fin1.after (hst : Stubbed Q P) {fn : FuncId} {us : Array Event} {x y : GStep} {c c0 : Nat} {v w v2 w2 : World} (t1 : v2.tape = v.tape) (t2 : w2.tape = w.tape) (hsz : w.heap.size ≤ w2.heap.size)
  (d1 : v2.drawn = v.drawn + c0) (d2 : w2.drawn = w.drawn + c0) (hok : ∀ e ∈ us, OkE0 S w2.heap.size e) (h : Fin1 S K x y c v2 w2) : Fin1 S K (GStep.after (seen Q fn us) x) (GStep.after (seen P fn us) y) (c0 + c) v w := by
 rcases h with ⟨o, v', es, rfl⟩ | ⟨g', v1, es, rfl, h⟩
 ·exact .inl ⟨_, _, _, rfl⟩
 ·refine .inr ⟨_, _, _, rfl, ?_⟩
  rcases h with h | ⟨gc, rfl, hK, e1, e2, w1, rfl, e3, e4, e5, e6, e7⟩
  ·exact .inl h
  ·refine .inr ⟨gc, rfl, hK, by omega, e2.trans t1, w1, ?_, by omega, e4.trans t2, e5, Nat.le_trans hsz e6, fun e he => ?_⟩
   ·simp only [GStep.after, seen_same hst]
   ·rcases Array.mem_append.1 he with he | he
    ·exact (seen_ok hok he).mono e6
    ·exact e7 e he
theorem then_couple (hst : Stubbed Q P) {α : Type} {s : Sem α} {A : α → Prop} (hs : Tame Q P S (fun _ => False) A s) {fn : FuncId} {X Y : α → World → GStep} {hq hp : Halt → World → GStep} (hX : ∀ a, A a → ∀ w2, InStep S K (X a) (Y a w2) w2)
  (hE : ∀ h v, (∀ x, h ≠ .panic x) → ∃ o v' es, hq h v = .ended o v' es) (hPn : ∀ x, (∃ G, K G ∧ (∀ v, hq (.panic x) v = .go (ext G) v) ∧ ∀ w, hp (.panic x) w = .go G w) ∨ ∀ v, ∃ o v' es, hq (.panic x) v = .ended o v' es) (w : World) :
  InStep S K (fun v => GStep.after (seen Q fn (s.runT Q v #[]).2) (match (s.runT Q v #[]).1 with | .ok a v => X a v | .halt h v => hq h v))
   (GStep.after (seen P fn (s.runT P w #[]).2) (match (s.runT P w #[]).1 with | .ok a w => Y a w | .halt h w => hp h w)) w := by
 have key : ∀ c2, (∀ a w2, (s.runT P w #[]).1 = .ok a w2 → A a → ∀ v, Cp S v w2 → Agree c2 v w2 → Fin1 S K (X a v) (Y a w2) c2 v w2) → InStep S K (fun v => GStep.after (seen Q fn (s.runT Q v #[]).2) (match (s.runT Q v #[]).1 with | .ok a v => X a v | .halt h v => hq h v))
   (GStep.after (seen P fn (s.runT P w #[]).2) (match (s.runT P w #[]).1 with | .ok a w => Y a w | .halt h w => hp h w)) w := by
  intro c2 hc2
  refine ⟨((Result.w (s.runT P w #[]).1).drawn - w.drawn) + (match (s.runT P w #[]).1 with | .ok _ _ => c2 | .halt _ _ => 0), fun v hc ha => ?_⟩
  rcases run_couple s v w #[] hs hc (fun i hi => ha i (by omega)) with (⟨h, v', hd, hEn⟩ | ⟨_, _, _, hz⟩) | ⟨us, v2, w2, cc2, t1, t2, hsz, ⟨c, d1, d2⟩, hok, hb⟩
  ·simp only [hd]
   obtain ⟨o, v3, es, e⟩ := hE h v' (fun x e => by rw [e] at hEn; exact hEn)
   rw [e]
   exact .inl ⟨_, _, _, rfl⟩
  ·exact hz.elim
  ·rcases hb with ⟨a, hA, e1, e2⟩ | ⟨h, hn, e1, e2⟩
   ·have hcd : (Result.w (s.runT P w #[]).1).drawn - w.drawn = c := by rw [e2]; show w2.drawn - w.drawn = c; omega
    have hag : Agree (c + c2) v w := by
     rw [hcd, e2] at ha
     exact ha
    rw [hcd]
    simp only [e1, e2, Array.empty_append]
    refine Fin1.after hst t1 t2 hsz d1 d2 hok (hc2 a w2 (by rw [e2]) hA v2 cc2 fun i hi => ?_)
    have := hag (c + i) (by omega)
    rw [t1, t2, d1, d2, Nat.add_assoc, Nat.add_assoc]
    exact this
   ·have hcd : (Result.w (s.runT P w #[]).1).drawn - w.drawn = c := by rw [e2]; show w2.drawn - w.drawn = c; omega
    rw [hcd]
    simp only [e1, e2, Array.empty_append]
    by_cases hpan : ∃ x, h = .panic x
    ·obtain ⟨x, rfl⟩ := hpan
     rcases hPn x with ⟨G, hG, g1, g2⟩ | g
     ·rw [g1, g2]
      have := went hst (fn := fn) (us := us) (K := K) (v := v) (w := w) (.inr ⟨rfl, hG⟩) cc2 t1 t2 hsz d1 d2 hok
      simpa using this
     ·obtain ⟨o, v3, es, e⟩ := g v2
      rw [e]
      exact .inl ⟨_, _, _, rfl⟩
    ·obtain ⟨o, v3, es, e⟩ := hE h v2 (fun x e => hpan ⟨x, e⟩)
     rw [e]
     exact .inl ⟨_, _, _, rfl⟩
 cases hr : (s.runT P w #[]).1 with
 | halt h w2 => exact hr ▸ key 0 (fun a w2 e => by rw [hr] at e; cases e)
 | ok a w2 =>
  by_cases hA : A a
  ·obtain ⟨c2, hc2⟩ := hX a hA w2
   exact hr ▸ key c2 (fun a' w2' e _ => by
    rw [hr] at e
    cases e
    exact hc2)
  ·exact hr ▸ key 0 (fun a' w2' e hA' => by
    rw [hr] at e
    cases e
    exact absurd hA' hA)
end
end Go.Proofs.YteaincbmnhehcaaGreatDoor
