/- A goroutine that alone comes to a stop on every tape comes to it in company too, whatever the draws between its steps. -/
import Derived.Test.YteaincbmnhehcabLift4
namespace Go.Proofs.Yteaincbmnhehcab
open Go

/-- Alone: it comes to a stop within n of its steps. -/
def Rn (Q : Program) (Stop : Goroutine → World → Prop) : Nat → Goroutine → World → Prop
  | 0, g, v => Stop g v
  | n + 1, g, v => Stop g v ∨ ∃ g' v' es, stepG Q true g v = .go g' v' es ∧ Rn Q Stop n g' v'

/-- Whatever the lone run sees of 'w' it sees of 'w₁'. -/
def Sim (S : Nat → Prop) (w w₁ : World) : Prop := w₁.heap.size = w.heap.size ∧ ∀ v, Cp S v w → Cp S v w₁
theorem Sim.refl (S : Nat → Prop) (w : World) : Sim S w w := ⟨rfl, fun _ h => h⟩
theorem Sim.trans {S : Nat → Prop} {w w₁ w₂ : World} (h : Sim S w w₁) (h' : Sim S w₁ w₂) : Sim S w w₂ := ⟨h'.1.trans h.1, fun v hv => h'.2 v (h.2 v hv)⟩
theorem Sim.at (S : Nat → Prop) (w : World) (d : Nat) : Sim S w (w.at d) := ⟨rfl, fun _ h => ⟨h.size, h.low, h.out, h.brk, h.os, h.output⟩⟩

/-- In company of those that turn nothing that the lone run sees: it comes to a stop. -/
inductive Rb (P : Program) (S : Nat → Prop) (X : Goroutine → World → Prop) : Goroutine → World → Prop
  | stop {g : Goroutine} {w : World} : (∀ w₁, Sim S w w₁ → X g w₁) → Rb P S X g w
  | step {g : Goroutine} {w : World} (G : World → Goroutine) (W : World → World) (E : World → Array Event) : g.status = .running → (∀ w₁, Sim S w w₁ → stepG P true g w₁ = .go (G w₁) (W w₁) (E w₁)) →
      (∀ w₁, Sim S w w₁ → ∀ e ∈ E w₁, OkE S (W w₁).heap.size e) → (∀ w₁, Sim S w w₁ → w.heap.size ≤ (W w₁).heap.size) → (∀ w₁, Sim S w w₁ → Rb P S X (G w₁) (W w₁)) → Rb P S X g w

def World.re (v : World) (K : Nat) (T : Nat → Question → Nat) : World := { v with drawn := K, tape := T }

section
variable {Q P : Program} {S : Nat → Prop}

theorem Cp.re' {v w : World} (h : Cp S v w) (K : Nat) (T : Nat → Question → Nat) : Cp S (World.re v K T) w := ⟨h.size, h.low, h.out, h.brk, h.os, h.output⟩
theorem Cp.unique {v v' w : World} (h : Cp S v w) (h' : Cp S v' w) (hd : v.drawn = v'.drawn) (ht : v.tape = v'.tape) : v = v' := by
  have hh : v.heap = v'.heap := by
    refine Array.ext_getElem? fun b => ?_
    by_cases hb : S b
    · obtain ⟨t, c, f, e1, e2⟩ := h.brk b hb
      obtain ⟨t', c', f', e1', e2'⟩ := h'.brk b hb
      rw [e2] at e2'
      cases e2'
      rw [e1, e1']
    · rw [h.out b hb, h'.out b hb]
  have ho := h.os.trans h'.os.symm
  have hu := h.output.trans h'.output.symm
  cases v; cases v'
  simp_all

theorem stub_ends {g : Goroutine} (h : Stub g) (v : World) : ∃ o v' es, stepG Q true g v = .ended o v' es := by
  obtain ⟨h3, _, ⟨why, h1, h2⟩ | ⟨ch, h1, h2⟩⟩ := h
  · unfold stepG
    simp only [h2, h3]
    unfold stepG.exec
    simp only [h1]
    exact ⟨_, _, _, rfl⟩
  · unfold stepG
    simp only [h1, h3]
    unfold unwind
    simp only [h2]
    unfold callDeferred
    simp only [h1]
    exact ⟨_, _, _, rfl⟩
theorem stub_stays {g : Goroutine} (h : Stub g) (v : World) (g' : Goroutine) (v' : World) (es : Array Event) : stepG Q true g v ≠ .go g' v' es := by
  obtain ⟨o, v2, es2, e⟩ := stub_ends (Q := Q) h v
  rw [e]
  intro h; cases h
theorem ext_inj {g g' : Goroutine} (h : ext g = ext g') : g = g' := by
  obtain ⟨a, b, c, d, e⟩ := g
  obtain ⟨a', b', c', d', e'⟩ := g'
  simp only [ext, Goroutine.mk.injEq, List.append_cancel_right_eq] at h
  simp [h]

/-- What is asked of the goroutines on the way. -/
structure Kept (Q P : Program) (S : Nat → Prop) (Ok : Goroutine → Prop) : Prop where
  run : ∀ g, Ok g → g.status = .running
  step : ∀ g w, Ok g → InStep S Ok (fun v => stepG Q true (ext g) v) (stepG P true g w) w

/-- A state of the company from which it would never come to its stop, and all that is known of the way there. -/
structure Bad (Q P : Program) (S : Nat → Prop) (Ok : Goroutine → Prop) (Stop : Goroutine → World → Prop) where
  g : Goroutine
  w : World
  v : World
  K : Nat
  T : Nat → Question → Nat
  cp : Cp S v w
  ok : Ok g
  ends : ∀ T', (∀ i, i < K → T' i = T i) → ∃ n, Rn Q Stop n (ext g) (World.re v K T')
  bad : ¬ Rb P S (fun g w => ∃ v, Cp S v w ∧ Stop (ext g) v) g w

variable {Ok : Goroutine → Prop} {Stop : Goroutine → World → Prop}

theorem Bad.next (hk : Kept Q P S Ok) (hstub : ∀ g v, Stub g → ¬ Stop g v) (s : Bad Q P S Ok Stop) :
    ∃ s' : Bad Q P S Ok Stop, s.K ≤ s'.K ∧ (∀ i, i < s.K → s'.T i = s.T i) ∧ (∀ K T, ¬ Stop (ext s.g) (World.re s.v K T)) ∧
      ∀ T', (∀ i, i < s'.K → T' i = s'.T i) → ∃ es, stepG Q true (ext s.g) (World.re s.v s.K T') = .go (ext s'.g) (World.re s'.v s'.K T') es := by
  have hns : ∀ K T, ¬ Stop (ext s.g) (World.re s.v K T) := fun K T h => s.bad (.stop fun w₁ h₁ => ⟨_, (h₁.2 _ s.cp).re' K T, h⟩)
  -- in each world: the step
  have hst : ∀ w₁ : { w₁ // Sim S s.w w₁ }, ∃ c, ∃ g' w' es, stepG P true s.g w₁.1 = .go g' w' es ∧ (∀ e ∈ es, OkE S w'.heap.size e) ∧ s.w.heap.size ≤ w'.heap.size ∧ Ok g' ∧ ∃ v', Cp S v' w' ∧
      ∀ T', (∀ i, i < s.K → T' i = s.T i) → (∀ i, i < c → T' (s.K + i) = w₁.1.tape (w₁.1.drawn + i)) → ∃ es, stepG Q true (ext s.g) (World.re s.v s.K T') = .go (ext g') (World.re v' (s.K + c) T') es := by
    intro ⟨w₁, hw₁⟩
    obtain ⟨c, hc⟩ := hk.step s.g w₁ s.ok
    have one : ∀ T', (∀ i, i < s.K → T' i = s.T i) → (∀ i, i < c → T' (s.K + i) = w₁.tape (w₁.drawn + i)) →
        ∃ g' v1 es w1, stepG Q true (ext s.g) (World.re s.v s.K T') = .go (ext g') v1 es ∧ Ok g' ∧ v1.drawn = s.K + c ∧ v1.tape = T' ∧ stepG P true s.g w₁ = .go g' w1 es ∧ Cp S v1 w1 ∧ s.w.heap.size ≤ w1.heap.size ∧ ∀ e ∈ es, OkE S w1.heap.size e := by
      intro T' h1 h2
      obtain ⟨n, hn⟩ := s.ends T' h1
      cases n with
      | zero => exact absurd hn (hns _ _)
      | succ n =>
        rcases hn with hn | ⟨g', v1, es, hgo, hrest⟩
        · exact absurd hn (hns _ _)
        have nostub : ¬ Stub g' := fun hs => by
          cases n with
          | zero => exact hstub _ _ hs hrest
          | succ n =>
            rcases hrest with h | ⟨g2, v2, es2, h, _⟩
            · exact hstub _ _ hs h
            · exact stub_stays hs _ _ _ _ h
        rcases hc _ ((hw₁.2 _ s.cp).re' s.K T') (fun i hi => h2 i hi) with ⟨_, _, _, he⟩ | ⟨g2, v2, es2, he, hrest2⟩
        · have he' := hgo.symm.trans he; cases he'
        replace he := hgo.symm.trans he
        simp only [GStep.go.injEq] at he
        obtain ⟨rfl, rfl, rfl⟩ := he
        rcases hrest2 with h | ⟨gc, rfl, hok', d1, t1, w1, e1, _, _, c1, sz, oke⟩
        · exact absurd h nostub
        · exact ⟨gc, v1, es, w1, hgo, hok', d1, t1, e1, c1, hw₁.1 ▸ sz, oke⟩
    obtain ⟨g', v1, es, w1, hgo, hok, hd, ht, e1, c1, sz, oke⟩ := one (fun i => if i < s.K then s.T i else w₁.tape (w₁.drawn + (i - s.K))) (fun i hi => by simp [hi]) (fun i hi => by
      have : ¬ (s.K + i < s.K) := by omega
      simp [this])
    refine ⟨c, g', w1, es, e1, oke, sz, hok, v1, c1, fun T' h1 h2 => ?_⟩
    obtain ⟨g'', v2, es2, w2, hgo2, _, hd2, ht2, e2, c2, _, _⟩ := one T' h1 h2
    rw [e1] at e2
    simp only [GStep.go.injEq] at e2
    obtain ⟨rfl, rfl, rfl⟩ := e2
    have : v2 = World.re v1 (s.K + c) T' := c2.unique (c1.re' _ _) (by rw [hd2]; rfl) (by rw [ht2]; rfl)
    exact ⟨_, this ▸ hgo2⟩
  obtain ⟨f, hf⟩ := Classical.axiomOfChoice (r := fun (w₁ : { w₁ // Sim S s.w w₁ }) (z : Nat × Goroutine × World × Array Event × World) => stepG P true s.g w₁.1 = .go z.2.1 z.2.2.1 z.2.2.2.1 ∧ (∀ e ∈ z.2.2.2.1, OkE S z.2.2.1.heap.size e) ∧ s.w.heap.size ≤ z.2.2.1.heap.size ∧ Ok z.2.1 ∧ Cp S z.2.2.2.2 z.2.2.1 ∧
      ∀ T', (∀ i, i < s.K → T' i = s.T i) → (∀ i, i < z.1 → T' (s.K + i) = w₁.1.tape (w₁.1.drawn + i)) → ∃ es, stepG Q true (ext s.g) (World.re s.v s.K T') = .go (ext z.2.1) (World.re z.2.2.2.2 (s.K + z.1) T') es)
    (fun w₁ => by
      obtain ⟨c, g', w', es, a1, a2, a3, a4, v', a5, a6⟩ := hst w₁
      exact ⟨(c, g', w', es, v'), a1, a2, a3, a4, a5, a6⟩)
  by_cases hall : ∀ w₁ (h₁ : Sim S s.w w₁), Rb P S (fun g w => ∃ v, Cp S v w ∧ Stop (ext g) v) (f ⟨w₁, h₁⟩).2.1 (f ⟨w₁, h₁⟩).2.2.1
  · classical
    refine absurd (Rb.step (fun w₁ => if h : Sim S s.w w₁ then (f ⟨w₁, h⟩).2.1 else default) (fun w₁ => if h : Sim S s.w w₁ then (f ⟨w₁, h⟩).2.2.1 else default) (fun w₁ => if h : Sim S s.w w₁ then (f ⟨w₁, h⟩).2.2.2.1 else #[]) (hk.run _ s.ok) (fun w₁ h => ?_) (fun w₁ h => ?_) (fun w₁ h => ?_) (fun w₁ h => ?_)) s.bad
    · simp only [h, dif_pos]; exact (hf ⟨w₁, h⟩).1
    · simp only [h, dif_pos]; exact (hf ⟨w₁, h⟩).2.1
    · simp only [h, dif_pos]; exact (hf ⟨w₁, h⟩).2.2.1
    · simp only [h, dif_pos]; exact hall w₁ h
  obtain ⟨w₁, hd⟩ := Classical.not_forall.1 hall
  obtain ⟨hw₁, hd⟩ := Classical.not_forall.1 hd
  obtain ⟨h1, h2, h3, h4, h5, h6⟩ := hf ⟨w₁, hw₁⟩
  generalize f ⟨w₁, hw₁⟩ = z at h1 h2 h3 h4 h5 h6 hd
  obtain ⟨c, g1, w2, es1, v2⟩ := z
  dsimp only at h1 h2 h3 h4 h5 h6 hd
  have hT : ∀ T', (∀ i, i < s.K + c → T' i = if i < s.K then s.T i else w₁.tape (w₁.drawn + (i - s.K))) → ∃ es, stepG Q true (ext s.g) (World.re s.v s.K T') = .go (ext g1) (World.re v2 (s.K + c) T') es := fun T' h =>
    h6 T' (fun i hi => by rw [h i (by omega)]; simp [hi]) (fun i hi => by
      have hn : ¬ (s.K + i < s.K) := by omega
      rw [h (s.K + i) (by omega)]; simp [hn])
  refine ⟨⟨g1, w2, v2, s.K + c, fun i => if i < s.K then s.T i else w₁.tape (w₁.drawn + (i - s.K)), h5, h4, fun T' h => ?_, hd⟩, Nat.le_add_right _ _, fun i hi => by simp [hi], hns, hT⟩
  obtain ⟨es, he⟩ := hT T' h
  obtain ⟨n, hn⟩ := s.ends T' (fun i hi => by rw [h i (by omega)]; simp [hi])
  cases n with
  | zero => exact absurd hn (hns _ _)
  | succ n =>
    rcases hn with hn | ⟨g', v1, es', hgo, hrest⟩
    · exact absurd hn (hns _ _)
    · rw [he] at hgo
      simp only [GStep.go.injEq] at hgo
      obtain ⟨rfl, rfl, _⟩ := hgo
      exact ⟨n, hrest⟩

/-- ████ A goroutine that alone, on every tape, comes to a stop comes to it in company. ████ -/
theorem lift (hk : Kept Q P S Ok) (hstub : ∀ g v, Stub g → ¬ Stop g v) {g : Goroutine} {v w : World} (hc : Cp S v w) (hok : Ok g)
    (H : ∀ T, ∃ n, Rn Q Stop n (ext g) (World.re v 0 T)) : Rb P S (fun g w => ∃ v, Cp S v w ∧ Stop (ext g) v) g w := by
  refine Classical.byContradiction fun hbad => ?_
  classical
  let s0 : Bad Q P S Ok Stop := ⟨g, w, v, 0, v.tape, hc, hok, fun T' _ => H T', hbad⟩
  obtain ⟨nx, hnx⟩ := Classical.axiomOfChoice (fun s : Bad Q P S Ok Stop => Bad.next hk hstub s)
  have hK := fun s => (hnx s).1
  have hT := fun s => (hnx s).2.1
  have hN := fun s => (hnx s).2.2.1
  have hS := fun s => (hnx s).2.2.2
  let ch : Nat → Bad Q P S Ok Stop := fun j => Nat.rec s0 (fun _ s => nx s) j
  have hmono : ∀ j, (ch j).K ≤ (ch (j + 1)).K := fun j => hK (ch j)
  have hmono' : ∀ j k, j ≤ k → (ch j).K ≤ (ch k).K := fun j k h => by
    induction h with
    | refl => exact Nat.le_refl _
    | step _ ih => exact Nat.le_trans ih (hmono _)
  have hcoh : ∀ j k, j ≤ k → ∀ i, i < (ch j).K → (ch k).T i = (ch j).T i := fun j k h => by
    induction h with
    | refl => exact fun i _ => rfl
    | @step k h ih => exact fun i hi => (hT (ch k) i (Nat.lt_of_lt_of_le hi (hmono' j k h))).trans (ih i hi)
  -- the tape on which it would run for ever
  let T : Nat → Question → Nat := fun i => if h : ∃ j, i < (ch j).K then (ch h.choose).T i else fun _ => 0
  have hTT : ∀ j i, i < (ch j).K → T i = (ch j).T i := fun j i hi => by
    have h : ∃ j, i < (ch j).K := ⟨j, hi⟩
    show (if h : ∃ j, i < (ch j).K then (ch h.choose).T i else fun _ => 0) = _
    rw [dif_pos h]
    rcases Nat.le_total h.choose j with e | e
    · exact (hcoh _ _ e i h.choose_spec).symm
    · exact hcoh _ _ e i hi
  obtain ⟨n, hn⟩ := H T
  have key : ∀ n j, ¬ Rn Q Stop n (ext (ch j).g) (World.re (ch j).v (ch j).K T) := fun n => by
    induction n with
    | zero => exact fun j => hN (ch j) _ _
    | succ n ih =>
      intro j h
      rcases h with h | ⟨g', v', es, hgo, hrest⟩
      · exact hN (ch j) _ _ h
      · obtain ⟨es', he⟩ := hS (ch j) T (fun i hi => hTT (j + 1) i hi)
        rw [he] at hgo
        simp only [GStep.go.injEq] at hgo
        obtain ⟨rfl, rfl, _⟩ := hgo
        exact ih (j + 1) hrest
  exact key n 0 hn
end
end Go.Proofs.Yteaincbmnhehcab
