/- Programs whose functions in use are tame: what is kept on the way. -/
import Derived.Test.YteaincbmnhehcabLift14
namespace Go.Proofs.Yteaincbmnhehcab
open Go

def okCode (p : Program) : Code → Bool
  | .seq a b => okCode p a && okCode p b
  | .cond _ a b => okCode p a && okCode p b
  | .block _ c => okCode p c
  | .loop c => okCode p c
  | .region _ ops _ => ops.all (okOp p)
  | .skip | .label _ | .exit _ | .goto _ | .ret | .refuse _ => true
  | _ => false
def okItem (p : Program) : Item → Bool
  | .code c => okCode p c
  | .inLoop c => okCode p c
  | .inBlock _ => true
  | .inRegion ops _ => ops.all (okOp p)
  | _ => false
structure FrameOk (p : Program) (fr : Frame) : Prop where
  kind : fr.kind = .normal
  round : fr.roundOf = none
  defers : fr.defers = []
  todo : ∀ i ∈ fr.todo, okItem p i = true
structure Ok (p : Program) (g : Goroutine) : Prop where
  run : g.status = .running
  dying : g.dying = none
  frame : FrameOk p g.frame
  callers : ∀ c ∈ g.callers, FrameOk p c

/-- The two programs: one's functions in use are tame, the others are refused. -/
structure Tamed (Q P : Program) : Prop where
  st : Stubbed Q P
  bodied : Bodied Q
  code : ∀ (f : Nat) (fn : Func) (c : Code), Q.funcs[f]? = some fn → fn.body = some c → okCode P c = true

section
variable {Q P : Program} {S : Nat → Prop}

theorem exit_ok {p : Program} {id : Nat} : ∀ {k k' : List Item}, exitTo id k = some k' → (∀ i ∈ k, okItem p i = true) → ∀ i ∈ k', okItem p i = true
  | [], _, h, _ => by cases h
  | x :: k, k', h, hk => by
    have hk' : ∀ i ∈ k, okItem p i = true := fun i hi => hk i (by simp [hi])
    cases x
    case inBlock id' =>
      simp only [exitTo] at h
      split at h
      · cases h; exact hk'
      · exact exit_ok h hk'
    all_goals exact exit_ok (k := k) (by simpa [exitTo] using h) hk'
theorem goto_ok {p : Program} {l : Nat} : ∀ {k k' : List Item}, gotoIn l k = some k' → (∀ i ∈ k, okItem p i = true) → ∀ i ∈ k', okItem p i = true
  | [], _, h, _ => by cases h
  | x :: k, k', h, hk => by
    have hk' : ∀ i ∈ k, okItem p i = true := fun i hi => hk i (by simp [hi])
    cases x
    case inScope c => exact absurd (hk (.inScope c) (by simp)) (by simp [okItem])
    all_goals exact goto_ok (k := k) (by simpa [gotoIn] using h) hk'
theorem leads_ok {p : Program} {fr : Frame} {l k : List Item} (h : Leads fr l k) (hl : ∀ i ∈ l, okItem p i = true) : ∀ i ∈ k, okItem p i = true := by
  cases h with
  | drop => exact fun i hi => hl i (by simp [hi])
  | exit h => exact exit_ok h fun i hi => hl i (by simp [hi])
  | goto h => exact goto_ok h fun i hi => hl i (by simp [hi])
  | scope => exact absurd (hl _ (List.mem_cons_self ..)) (by simp [okItem, okCode])
  | cond t =>
    have h0 := hl _ (List.mem_cons_self ..)
    simp only [okItem, okCode, Bool.and_eq_true] at h0
    intro i hi
    rcases List.mem_cons.1 hi with rfl | hi
    · cases t
      · exact h0.2
      · exact h0.1
    · exact hl i (by simp [hi])
  | seq =>
    have h0 := hl _ (List.mem_cons_self ..)
    simp only [okItem, okCode, Bool.and_eq_true] at h0
    intro i hi
    rcases List.mem_cons.1 hi with rfl | hi
    · exact h0.1
    · rcases List.mem_cons.1 hi with rfl | hi
      · exact h0.2
      · exact hl i (by simp [hi])
  | block =>
    have h0 := hl _ (List.mem_cons_self ..)
    intro i hi
    rcases List.mem_cons.1 hi with rfl | hi
    · exact h0
    · rcases List.mem_cons.1 hi with rfl | hi
      · rfl
      · exact hl i (by simp [hi])
  | loop =>
    have h0 := hl _ (List.mem_cons_self ..)
    intro i hi
    rcases List.mem_cons.1 hi with rfl | hi
    · exact h0
    · rcases List.mem_cons.1 hi with rfl | hi
      · exact h0
      · exact hl i (by simp [hi])
  | again =>
    have h0 := hl _ (List.mem_cons_self ..)
    intro i hi
    rcases List.mem_cons.1 hi with rfl | hi
    · exact h0
    · rcases List.mem_cons.1 hi with rfl | hi
      · exact h0
      · exact hl i (by simp [hi])
  | region is =>
    have h0 := hl _ (List.mem_cons_self ..)
    intro i hi
    rcases List.mem_cons.1 hi with rfl | hi
    · exact h0
    · exact hl i (by simp [hi])
theorem finish_ok {p : Program} {fr : Frame} (h : FrameOk p fr) (v : Value) : FrameOk p (fr.finish v) := by
  obtain ⟨fn, tmps, todo, defers, mode, kind, ro⟩ := fr
  obtain ⟨h1, h2, h3, h4⟩ := h
  dsimp only at h1 h2 h3 h4
  unfold Frame.finish
  dsimp only
  split
  · refine ⟨h1, h2, h3, fun i hi => ?_⟩
    rcases List.mem_cons.1 hi with rfl | hi
    · have h0 := h4 _ (List.mem_cons_self ..)
      exact h0
    · exact h4 i (by simp [hi])
  · exact absurd (h4 _ (List.mem_cons_self ..)) (by simp [okItem])
  · exact absurd (h4 _ (List.mem_cons_self ..)) (by simp [okItem])
  all_goals first
    | exact ⟨h1, h2, h3, h4⟩
    | exact absurd (h4 _ (List.mem_cons_self ..)) (by simp [okItem])
theorem raise_ok {p : Program} {fr : Frame} (h : FrameOk p fr) (ch : List PanicEntry) : FrameOk p (fr.raise ch) := by
  unfold Frame.raise
  split <;> exact ⟨h.kind, h.round, h.defers, h.todo⟩
theorem enterF_ok (hT : Tamed Q P) {f : FuncId} {args : Array Value} : FrameOk P (Frame.enter Q f args .normal) := by
  refine ⟨rfl, rfl, rfl, fun i hi => ?_⟩
  simp only [Frame.enter, List.mem_singleton] at hi
  subst hi
  cases hf : Q.funcs[f]? with
  | none => rfl
  | some fn =>
    simp only [Option.bind_some]
    cases hb : fn.body with
    | none => rfl
    | some c => exact hT.code f fn c hf hb

theorem tm_results (hst : Stubbed Q P) {fn : Func} {tmps : Array Value} : Tm Q P S (results fn tmps) := by
  refine tmb (tm_mapM (fun r => ?_) _) fun _ => tm_pure
  cases r with
  | tmp t => exact tm_pure
  | cell a t => exact tmb (t_asAddr hst fun _ => trivial) fun _ => tm_loadVar hst

theorem kept (hT : Tamed Q P) : Kept Q P S (Ok P) := by
  refine ⟨fun g h => h.run, fun g w h => ?_⟩
  have hf := h.frame
  have hcal := h.callers
  refine step_couple hT.st ⟨h.run, h.dying, by rw [hf.kind]; rfl, hf.round, fun _ => ?_, fun _ => ⟨hf.defers, hf.kind, fun fn _ => tm_results hT.st⟩⟩ (fun _ => ?_) ?_ ?_ w
  · unfold TopOk
    split
    · rename_i ops i rest k htd
      intro o ho
      have h1 : okItem P (.inRegion ops (i :: rest)) = true := hf.todo _ (by rw [htd]; simp)
      have h2 : okOp P o = true := by
        simp only [okItem, Array.all_eq_true'] at h1
        exact h1 o (Array.mem_of_getElem? ho)
      exact okOp_tame hT.st hT.bodied (fun _ => rfl) h2
    all_goals first
      | trivial
      | (rename_i htd; exact absurd (hf.todo _ (by rw [htd]; exact List.mem_cons_self ..)) (by simp [okItem, okCode]))
  · refine ⟨fun todo hl => ⟨rfl, rfl, ⟨hf.kind, hf.round, hf.defers, leads_ok hl hf.todo⟩, hcal⟩, fun v => ⟨rfl, rfl, finish_ok hf v, hcal⟩, fun f args e => ⟨rfl, rfl, e ▸ enterF_ok hT, fun c hc => ?_⟩, fun ch => ⟨rfl, rfl, raise_ok hf ch, hcal⟩, ⟨rfl, rfl, ⟨hf.kind, hf.round, hf.defers, hf.todo⟩, hcal⟩⟩
    rcases List.mem_cons.1 hc with rfl | hc
    · exact hf
    · exact hcal c hc
  · intro c rest y e
    exact ⟨rfl, rfl, finish_ok (hcal c (by rw [e]; simp)) y, fun x hx => hcal x (by rw [e]; simp [hx])⟩
  · intro c rest ch e
    exact ⟨rfl, rfl, raise_ok (hcal c (by rw [e]; simp)) ch, fun x hx => hcal x (by rw [e]; simp [hx])⟩
end
end Go.Proofs.Yteaincbmnhehcab
