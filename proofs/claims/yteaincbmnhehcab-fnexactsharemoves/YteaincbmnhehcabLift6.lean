/- A goroutine's step in company, whatever its mode; the way in company, put together. -/
import Derived.Test.YteaincbmnhehcabLift5
namespace Go.Proofs.Yteaincbmnhehcab
open Go
section
variable {Q P : Program} {S : Nat → Prop} {K : Goroutine → Prop}

/-- What is asked of a goroutine ahead of its step. -/
structure StepOk (Q P : Program) (S : Nat → Prop) (g : Goroutine) : Prop where
  run : g.status = .running
  dying : g.dying = none
  kind : (g.frame.kind == .early) = false
  round : g.frame.roundOf = none
  top : g.frame.mode = .run → TopOk Q P S g.frame g.frame.todo
  leave : g.frame.mode ≠ .run → LeaveOk Q P S g.frame

theorem step_couple (hst : Stubbed Q P) {g : Goroutine} (h : StepOk Q P S g) (hK : g.frame.mode = .run → Steady Q P K g.frame g.callers)
    (k1 : ∀ c rest y, g.callers = c :: rest → K { frame := c.finish y, callers := rest, status := .running, dying := none })
    (k2 : ∀ c rest ch, g.callers = c :: rest → K { frame := c.raise ch, callers := rest, status := .running, dying := none }) (w : World) : InStep S K (fun v => stepG Q true (ext g) v) (stepG P true g w) w := by
  obtain ⟨fr, cs, st, dy, off⟩ := g
  obtain ⟨h1, h2, h3, h4, h5, h6⟩ := h
  dsimp only at h1 h2 h3 h4 h5 h6 hK k1 k2
  subst h2
  cases hm : fr.mode with
  | run =>
    unfold stepG ext
    simp only [hm]
    exact exec_couple hst h3 h4 (h5 hm) (hK hm) w
  | returning =>
    unfold stepG ext
    simp only [hm]
    exact unwind_couple hst (h6 (by rw [hm]; simp)) (by rw [hm]; simp) k1 k2 w
  | panicking ch =>
    unfold stepG ext
    simp only [hm]
    exact unwind_couple hst (h6 (by rw [hm]; simp)) (by rw [hm]; simp) k1 k2 w

theorem Rb.trans {X Y : Goroutine → World → Prop} {g : Goroutine} {w : World} (h : Rb P S X g w) (hXY : ∀ g w, (∀ w₁, Sim S w w₁ → X g w₁) → Rb P S Y g w) : Rb P S Y g w := by
  induction h with
  | stop h => exact hXY _ _ h
  | step G W E h1 h2 h3 h4 _ ih => exact .step G W E h1 h2 h3 h4 ih
end
end Go.Proofs.Yteaincbmnhehcab
