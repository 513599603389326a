/- From the lone machine's steps to the way in company. -/
import Derived.Test.YteaincbmnhehcabLift15
import Derived.Conc.LoneCalls
namespace Go.Proofs.Yteaincbmnhehcab
open Go Go.Conc
section
variable {Q P : Program} {S : Nat → Prop}

theorem step_solo_ended {a : Goroutine} {w w' : World} {o : Outcome} {es : Array Event} (hs : a.status = .running) (h : stepG Q true a w = .ended o w' es) : step Q (solo a w) = .ended o w' := by
  rw [step, stepT_solo hs]
  simp [runT, solo, Array.swapAt!, Array.swapAt, h]

theorem solo_inj {g g' : Goroutine} {w w' : World} (h : solo g w = solo g' w') : g = g' ∧ w = w' := by
  simp only [solo, Machine.mk.injEq] at h
  exact ⟨by simpa using h.2.1, h.1⟩

/-- World 'w' with v's tape. -/
theorem Cp.same {v w : World} (h : Cp S v w) : Cp S v { w with tape := v.tape, drawn := v.drawn } := ⟨h.size, h.low, h.out, h.brk, h.os, h.output⟩

theorem rn_of_runN (hT : Tamed Q P) {Stop : Goroutine → World → Prop} : ∀ (n : Nat) (g : Goroutine) (v w : World) (g1 : Goroutine) (v1 : World), Ok P g → Cp S v w → runN Q n (solo (ext g) v) = .next (solo g1 v1) → Stop g1 v1 → Rn Q Stop n (ext g) v := by
  intro n
  induction n with
  | zero =>
    intro g v w g1 v1 _ _ hr hs
    simp only [runN] at hr
    obtain ⟨rfl, rfl⟩ := solo_inj (Stepped.next.inj hr)
    exact hs
  | succ n ih =>
    intro g v w g1 v1 hok hc hr hs
    obtain ⟨c, hstep⟩ := (kept (S := S) hT).step g { w with tape := v.tape, drawn := v.drawn } hok
    have hrun : (ext g).status = .running := hok.run
    rcases hstep v hc.same (fun i _ => rfl) with ⟨o, v', es, he⟩ | ⟨g', v2, es, he, hrest⟩
    · exfalso
      simp only [runN, step_solo_ended hrun he] at hr
      cases hr
    · have hst := step_solo_go hrun he
      simp only [runN, hst] at hr
      refine .inr ⟨g', v2, es, he, ?_⟩
      rcases hrest with hstub | ⟨gc, rfl, hok', _, _, w1, _, _, _, c1, _, _⟩
      · cases n with
        | zero =>
          simp only [runN] at hr
          obtain ⟨rfl, rfl⟩ := solo_inj (Stepped.next.inj hr)
          exact hs
        | succ n =>
          exfalso
          obtain ⟨o, v', es', he'⟩ := stub_ends (Q := Q) hstub v2
          simp only [runN, step_solo_ended hstub.2.1 he'] at hr
          cases hr
      · exact ih gc v2 w1 g1 v1 hok' c1 hr hs

/-! ### pieces of code -/
/-- Where the goroutine stands when a piece of code has been left. -/
def Came (b : Frame) (k : List Item) (cs : List Frame) : Exit → Act → Goroutine → Prop
  | .normal, a, g => g = G (b.at a k) cs
  | .exit id, a, g => ∃ k', exitTo id k = some k' ∧ g = G (b.at a k') cs
  | .ret, a, g => ∃ todo, g = G { b.at a todo with mode := .returning } cs
  | _, _, _ => False
/-- No item is a lone refusal. -/
def Willing (k : List Item) : Prop := ∀ why, k ≠ [.code (.refuse why)]
/-- The ways out that are allowed. -/
def Ways (k : List Item) : Exit → Prop
  | .normal => Willing k
  | .exit id => ∃ k', exitTo id k = some k' ∧ Willing k'
  | .ret => True
  | _ => False

theorem ext_G (fr : Frame) (cs : List Frame) : ext (G fr cs) = G fr (cs ++ [bottom]) := rfl
theorem came_ext {b : Frame} {k : List Item} {cs : List Frame} {e : Exit} {a : Act} {g : Goroutine} (h : Came b k (cs ++ [bottom]) e a (ext g)) : Came b k cs e a g := by
  cases e with
  | normal => exact ext_inj (h.trans (ext_G _ _).symm)
  | exit id => obtain ⟨k', h1, h2⟩ := h; exact ⟨k', h1, ext_inj (h2.trans (ext_G _ _).symm)⟩
  | ret => obtain ⟨todo, h⟩ := h; exact ⟨todo, ext_inj (h.trans (ext_G _ _).symm)⟩
  | _ => exact h.elim
theorem came_willing {b : Frame} {k : List Item} {cs : List Frame} {e : Exit} {a : Act} {g : Goroutine} (h : Came b k cs e a g) (hw : Ways k e) : ¬ Stub g := by
  rintro ⟨_, _, h2⟩
  cases e with
  | normal =>
    obtain rfl : g = G (b.at a k) cs := h
    rcases h2 with ⟨why, h2, _⟩ | ⟨ch, h2, _⟩
    · exact hw why h2
    · cases h2
  | exit id =>
    obtain ⟨k', h1, rfl⟩ := h
    obtain ⟨k2, h3, h4⟩ := hw
    rw [h1] at h3
    obtain rfl := Option.some.inj h3
    rcases h2 with ⟨why, h2, _⟩ | ⟨ch, h2, _⟩
    · exact h4 why h2
    · cases h2
  | ret =>
    obtain ⟨todo, rfl⟩ := h
    rcases h2 with ⟨why, _, h2⟩ | ⟨ch, h2, _⟩ <;> cases h2
  | _ => exact h.elim

/-- A goroutine that alone arrives, on every tape, arrives in company. -/
theorem rb_arrives (hT : Tamed Q P) {b : Frame} {a : Act} {k todo : List Item} {cs : List Frame} {v w : World} {R : Exit → Act → World → Prop} (hb : b.kind = .normal) (ha : a.defers = []) (hk : ∀ i ∈ todo, okItem P i = true) (hcs : ∀ c ∈ cs, FrameOk P c)
    (hc : Cp S v w) (H : ∀ T, ∃ e a' v', R e a' v' ∧ Arrives Q (lone (b.at a todo) (cs ++ [bottom]) (World.re v 0 T)) b k (cs ++ [bottom]) e a' v') (hR : ∀ e a' v', R e a' v' → Ways k e) :
    Rb P S (fun g w => ∃ e a' v', Cp S v' w ∧ R e a' v' ∧ Came b k cs e a' g) (G (b.at a todo) cs) w := by
  have hok : Ok P (G (b.at a todo) cs) := ⟨rfl, rfl, ⟨hb, rfl, ha, hk⟩, hcs⟩
  have key := lift (Stop := fun g v' => ∃ e a', R e a' v' ∧ Came b k (cs ++ [bottom]) e a' g) (kept hT) (fun g v' hs ⟨e, a', hr, hcm⟩ => came_willing hcm (hR _ _ _ hr) hs) hc hok (fun T => ?_)
  · refine Rb.trans key fun g w h => .stop fun w₁ h₁ => ?_
    obtain ⟨v', hc', e, a', hr, hcm⟩ := h w₁ h₁
    exact ⟨e, a', v', hc', hr, came_ext hcm⟩
  · obtain ⟨e, a', v', hr, harr⟩ := H T
    have hw := hR _ _ _ hr
    have hc' : Cp S (World.re v 0 T) w := hc.re' 0 T
    rw [lone_eq_solo, ← ext_G] at harr
    cases e with
    | normal =>
      obtain ⟨n, hn⟩ := harr
      exact ⟨n, rn_of_runN hT n _ _ w _ _ hok hc' hn ⟨.normal, a', hr, rfl⟩⟩
    | exit id =>
      obtain ⟨k', h1, _⟩ := hw
      obtain ⟨n, hn⟩ := harr k' h1
      exact ⟨n, rn_of_runN hT n _ _ w _ _ hok hc' hn ⟨.exit id, a', hr, k', h1, rfl⟩⟩
    | ret =>
      obtain ⟨todo', n, hn⟩ := harr
      exact ⟨n, rn_of_runN hT n _ _ w _ _ hok hc' hn ⟨.ret, a', hr, todo', rfl⟩⟩
    | _ => exact hw.elim

theorem rb_wp (hT : Tamed Q P) {b : Frame} {a : Act} {c : Code} {k : List Item} {cs : List Frame} {v w : World} {R : Exit → Act → World → Prop} (hb : b.kind = .normal) (ha : a.defers = []) (hcd : okCode P c = true) (hk : ∀ i ∈ k, okItem P i = true) (hcs : ∀ c ∈ cs, FrameOk P c)
    (hc : Cp S v w) (H : ∀ T, c.wp Q R a (World.re v 0 T)) (hR : ∀ e a' v', R e a' v' → Ways k e) :
    Rb P S (fun g w => ∃ e a' v', Cp S v' w ∧ R e a' v' ∧ Came b k cs e a' g) (G (b.at a (.code c :: k)) cs) w :=
  rb_arrives hT hb ha (fun i hi => by
    rcases List.mem_cons.1 hi with rfl | hi
    · exact hcd
    · exact hk i hi) hcs hc (fun T => H T b k (cs ++ [bottom])) hR

theorem rb_ops (hT : Tamed Q P) {b : Frame} {a : Act} {ops : Array Oper} {l : List Nat} {k : List Item} {cs : List Frame} {v w : World} {R : Exit → Act → World → Prop} (hb : b.kind = .normal) (ha : a.defers = []) (hcd : ops.all (okOp P) = true) (hk : ∀ i ∈ k, okItem P i = true) (hcs : ∀ c ∈ cs, FrameOk P c)
    (hc : Cp S v w) (H : ∀ T, wpOps Q ops R l a (World.re v 0 T)) (hR : ∀ e a' v', R e a' v' → Ways k e) :
    Rb P S (fun g w => ∃ e a' v', Cp S v' w ∧ R e a' v' ∧ Came b k cs e a' g) (G (b.at a (.inRegion ops l :: k)) cs) w :=
  rb_arrives hT hb ha (fun i hi => by
    rcases List.mem_cons.1 hi with rfl | hi
    · exact hcd
    · exact hk i hi) hcs hc (fun T => wp_ops l a _ (H T) b k (cs ++ [bottom])) hR
end
end Go.Proofs.Yteaincbmnhehcab
