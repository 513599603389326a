/- The way in company, carried out by the machine beside those that are only leaving. -/
import Derived.Test.YteaincbmnhehcabLift16
import Derived.Conc.CrowdTrace
namespace Go.Proofs.Yteaincbmnhehcab
open Go Go.Conc Go.ConcN

/-- The cells of shunned blocks. -/
def ShOf (S : Nat → Prop) : Loc → Prop := fun l => ∃ a, l = .cell a ∧ S a.block
/-- Whatever place it touches lies below B. -/
def TLow (B : Nat) (op : MemOp) : Prop := ∀ x, op.act.touch? = some x → x.loc.low B
/-- What is held of the trace between two calls that go: n goroutines there have been; every address lies below B. -/
structure Tr (S : Nat → Prop) (B n : Nat) (t : Trace) : Prop where
  ct : CT (ShOf S) (fun _ _ => False) (fun _ _ => False) t (n - 1)
  over : t.HandedOver
  hears : Deaf t 0 = 0
  seen : ∀ op ∈ t, TLow B op

section
variable {P : Program} {S : Nat → Prop} {B n : Nat} {t : Trace}

theorem low_of_okE {e : Event} (h : OkE S B e) : (MemAct.ofEvent e).low B := by
  obtain ⟨loc, wr, sy⟩ := e
  cases loc with
  | cell a => exact h.2
  | obj r =>
    obtain ⟨_, h2, h3⟩ := h
    cases wr <;> cases sy <;> first | exact h2 | cases h3
  | mark m => cases m <;> first | exact h.elim | trivial
  | _ => exact h.elim
theorem tlow_of_okE {e : Event} (h : OkE S B e) {x : Touch} (hx : (MemAct.ofEvent e).touch? = some x) : x.loc.low B := by
  obtain ⟨loc, wr, sy⟩ := e
  cases loc with
  | cell b =>
    simp only [MemAct.ofEvent, MemAct.touch?, Option.some.injEq] at hx
    subst hx
    exact h.2
  | obj r =>
    obtain ⟨_, h2, h3⟩ := h
    cases wr <;> cases sy <;> simp only [MemAct.ofEvent, MemAct.touch?, Option.some.injEq] at hx <;> first | (cases hx; done) | (subst hx; exact h2)
  | mark m => cases m <;> first | exact h.elim | (simp [MemAct.ofEvent, MemAct.touch?] at hx)
  | _ => exact h.elim
theorem touch_of_okE {e : Event} (h : OkE S B e) {x : Touch} (hx : (MemAct.ofEvent e).touch? = some x) : ¬ ShOf S x.loc := by
  obtain ⟨loc, wr, sy⟩ := e
  rintro ⟨a, ha, hs⟩
  cases loc with
  | cell b =>
    simp only [MemAct.ofEvent, MemAct.touch?, Option.some.injEq] at hx
    subst hx
    cases ha
    exact h.1 hs
  | obj r =>
    cases wr <;> cases sy <;> simp only [MemAct.ofEvent, MemAct.touch?, Option.some.injEq] at hx <;> first | (cases hx; done) | (subst hx; cases ha)
  | mark m => cases m <;> first | exact h.elim | (simp [MemAct.ofEvent, MemAct.touch?] at hx)
  | _ => exact h.elim
theorem still_of_okE {e : Event} (h : OkE S B e) : e.loc ≠ .mark .disable ∧ e.loc ≠ .mark .enable := by
  obtain ⟨loc, wr, sy⟩ := e
  cases loc with
  | mark m => cases m <;> first | exact h.elim | exact ⟨by simp, by simp⟩
  | _ => exact ⟨by simp, by simp⟩
theorem apart_none (Sh : Loc → Prop) : Apart Sh (fun _ _ => False) (fun _ _ => False) := ⟨fun _ _ _ h => h.elim, fun _ _ _ h => h.elim, fun _ _ h => h.elim, fun _ _ h => h.elim⟩

theorem Tr.mono {B' : Nat} (h : Tr S B n t) (hB : B ≤ B') : Tr S B' n t := ⟨h.ct, h.over, h.hears, fun op hop x hx => Loc.low_mono hB (h.seen op hop x hx)⟩
/-- Goroutine 0's own step. -/
theorem Tr.own (h : Tr S B n t) {fn : FuncId} {pos : String} {es : Array Event} (hes : ∀ e ∈ es, OkE S B e) : Tr S B n (t ++ MemOp.ofEvents 0 fn pos es) := by
  have hg : ∀ op ∈ MemOp.ofEvents 0 fn pos es, op.g = 0 := fun op hop => by obtain ⟨e, _, rfl⟩ := Go.Conc.mem_ofEvents hop; rfl
  refine ⟨h.ct.app0 (apart_none _) fun op hop => ?_, handedOver_app h.over fun op hop => .inl (hg op hop), ?_, fun op hop => ?_⟩
  · obtain ⟨e, he, rfl⟩ := Go.Conc.mem_ofEvents hop
    exact ⟨rfl, fun x hx => .inr ⟨touch_of_okE (hes e he) hx, fun _ _ _ h => h, fun _ _ _ _ h => h⟩⟩
  · rw [Deaf_own, deafBehind_still (fun e he => still_of_okE (hes e he))]
    exact h.hears
  · rcases Array.mem_append.1 hop with hop | hop
    · exact h.seen op hop
    · obtain ⟨e, he, rfl⟩ := Go.Conc.mem_ofEvents hop
      exact fun x hx => tlow_of_okE (hes e he) hx
/-- A leaver's step. -/
theorem Tr.mute (h : Tr S B n t) {g : Nat} (hg : 1 ≤ g) (hgn : g < n) {fn : FuncId} {pos : String} {es : Array Event} (hm : ∀ e ∈ es, e.mute = true) : Tr S B n (t ++ MemOp.ofEvents g fn pos es) := by
  refine ⟨h.ct.appW (apart_none _) hg (by omega) fun op hop => ?_, handedOver_app h.over fun op hop => .inr ?_, ?_, fun op hop => ?_⟩
  · obtain ⟨e, he, rfl⟩ := Go.Conc.mem_ofEvents hop
    exact ⟨rfl, fun x hx => by rw [touch_mute (hm e he)] at hx; cases hx⟩
  · obtain ⟨e, he, rfl⟩ := Go.Conc.mem_ofEvents hop
    exact touch_mute (hm e he)
  · rw [Deaf_other t (g' := g) (by omega) _ (fun op hop => by obtain ⟨e, _, rfl⟩ := Go.Conc.mem_ofEvents hop; rfl)]
    exact h.hears
  · rcases Array.mem_append.1 hop with hop | hop
    · exact h.seen op hop
    · obtain ⟨e, he, rfl⟩ := Go.Conc.mem_ofEvents hop
      exact fun x hx => by rw [touch_mute (hm e he)] at hx; cases hx
/-- There is a bound. -/
theorem low_bound (t : Trace) (B : Nat) : ∃ B', B ≤ B' ∧ ∀ op ∈ t, op.act.low B' := by
  have one : ∀ (x : MemAct) (B : Nat), ∃ B', B ≤ B' ∧ x.low B' := by
    intro x B
    cases x with
    | access e =>
      obtain ⟨loc, wr, sy⟩ := e
      cases loc with
      | cell a => exact ⟨max B (a.block + 1), by omega, show a.block < _ by omega⟩
      | obj r => exact ⟨max B (r + 1), by omega, show r < _ by omega⟩
      | _ => exact ⟨B, by omega, trivial⟩
    | mark m => cases m <;> first | exact ⟨B, by omega, trivial⟩ | (rename_i a; exact ⟨max B (a.block + 1), by omega, show a.block < _ by omega⟩)
    | go _ => exact ⟨B, by omega, trivial⟩
    | start => exact ⟨B, by omega, trivial⟩
    | send c _ => exact ⟨max B (c + 1), by omega, show c < _ by omega⟩
    | sendDone c _ => exact ⟨max B (c + 1), by omega, show c < _ by omega⟩
    | recv c _ _ => exact ⟨max B (c + 1), by omega, show c < _ by omega⟩
    | recvDone c _ => exact ⟨max B (c + 1), by omega, show c < _ by omega⟩
    | close c => exact ⟨max B (c + 1), by omega, show c < _ by omega⟩
    | recvClosed c => exact ⟨max B (c + 1), by omega, show c < _ by omega⟩
  have key : ∀ (l : List MemOp) (B : Nat), ∃ B', B ≤ B' ∧ ∀ op ∈ l, op.act.low B' := by
    intro l
    induction l with
    | nil => exact fun B => ⟨B, Nat.le_refl _, by simp⟩
    | cons y l ih =>
      intro B
      obtain ⟨B1, h1, h2⟩ := ih B
      obtain ⟨B2, h3, h4⟩ := one y.act B1
      refine ⟨B2, by omega, fun op hop => ?_⟩
      rcases List.mem_cons.1 hop with rfl | hop
      · exact h4
      · exact MemAct.low_mono h3 (h2 op hop)
  obtain ⟨B', h1, h2⟩ := key t.toList B
  exact ⟨B', h1, fun op hop => h2 op (by simpa using hop)⟩
theorem Tr.past (h : Tr S B n t) : ∃ B', B ≤ B' ∧ Past (ShOf S) B' t := by
  obtain ⟨B', hB', hlow⟩ := low_bound t B
  refine ⟨B', hB', h.ct.nr, fun i a ha hm => ?_, h.over, h.hears, hlow⟩
  by_cases hs : ShOf S a.loc
  · obtain ⟨op, hop, hoa⟩ := touch_of ha
    obtain ⟨h1, h2⟩ := h.ct.quiet i op a hop hoa hs
    cases hk : a.kind with
    | plain => exact absurd hk h1
    | atomic => exact .inr ⟨hs, rfl⟩
    | said =>
      have := knows_own hop
      rw [h2 hk] at this
      exact .inl this
  · exact .inl (h.ct.free a.loc hs (fun _ _ _ => ⟨fun h => h, fun h => h⟩) i a ha rfl)

theorem leavers_step {gs : Array Goroutine} {q : Nat → Nat} {g g' : Goroutine} {w' : World} {i : Nat} {fn : FuncId} {pos : String} {es : Array Event} (hL : Leavers P t gs q) (hi : i < gs.size) :
    (∀ j x, 0 < j → j ≠ i → ((gs.map (woken P g g' w')).setIfInBounds i g')[j]? = some x → QuitsD P (q j) (Deaf (t ++ MemOp.ofEvents i fn pos es) j) x) ∧ ∀ j, gs.size ≤ j → Deaf (t ++ MemOp.ofEvents i fn pos es) j = 0 := by
  have ho : ∀ op ∈ MemOp.ofEvents i fn pos es, op.g = i := fun op hop => by obtain ⟨e, _, rfl⟩ := Go.Conc.mem_ofEvents hop; rfl
  refine ⟨fun j x hj hji hx => ?_, fun j hj => ?_⟩
  · rw [Array.getElem?_setIfInBounds_ne (Ne.symm hji), Array.getElem?_map] at hx
    obtain ⟨y, hy, rfl⟩ := Option.map_eq_some_iff.1 hx
    have hq := hL.old j y hj hy
    rw [woken_quitsD hq, Deaf_other t (Ne.symm hji) _ ho]
    exact hq
  · rw [Deaf_other t (g' := i) (by omega) _ ho]
    exact hL.above j hj

/-- ████ THE WAY IN COMPANY, CARRIED OUT. ████ -/
theorem co_rb {X : Goroutine → World → Prop} {a : Goroutine} {w : World} (h : Rb P S X a w) : ∀ (d0 : Nat) (gs : Array Goroutine) (sl : Option (Nat × Nat)) (t : Trace) (q : Nat → Nat), gs[0]? = some a → Leavers P t gs q → Tr S w.heap.size gs.size t →
    ∃ (N : Nat) (gs' : Array Goroutine) (a' : Goroutine) (w' : World) (sl' : Option (Nat × Nat)) (t' : Trace) (q' : Nat → Nat), runNT P N (crowd gs (w.at d0) sl) t = (.next (crowd gs' w' sl'), t') ∧ gs'.size = gs.size ∧ gs'[0]? = some a' ∧ (∀ w₁, Sim S w' w₁ → X a' w₁) ∧ Leavers P t' gs' q' ∧ Tr S w'.heap.size gs'.size t' := by
  induction h with
  | @stop g w hX => exact fun d0 gs sl t q h0 hL hT => ⟨0, gs, g, w.at d0, sl, t, q, rfl, rfl, h0, fun w₁ h₁ => hX w₁ ((Sim.at S w d0).trans h₁), hL, hT⟩
  | @step g w Gn Wn En hrun hstep hE hsz _ ih =>
    intro d0 gs sl t q h0 hL hT
    have key : ∀ (M d0 : Nat) (gs : Array Goroutine) (sl : Option (Nat × Nat)) (t : Trace) (q : Nat → Nat), sumTo gs.size q < M → gs[0]? = some g → Leavers P t gs q → Tr S w.heap.size gs.size t →
        ∃ (N : Nat) (gs' : Array Goroutine) (a' : Goroutine) (w' : World) (sl' : Option (Nat × Nat)) (t' : Trace) (q' : Nat → Nat), runNT P N (crowd gs (w.at d0) sl) t = (.next (crowd gs' w' sl'), t') ∧ gs'.size = gs.size ∧ gs'[0]? = some a' ∧ (∀ w₁, Sim S w' w₁ → X a' w₁) ∧ Leavers P t' gs' q' ∧ Tr S w'.heap.size gs'.size t' := by
      intro M
      induction M with
      | zero => exact fun d0 gs sl t q hM => absurd hM (Nat.not_lt_zero _)
      | succ M ihM =>
        intro d0 gs sl t q hM h0 hL hT
        have haw : ∀ x ∈ gs, awake x := by
          intro x hx
          obtain ⟨i, hi, rfl⟩ := Array.mem_iff_getElem.1 hx
          rcases Nat.eq_zero_or_pos i with rfl | hpos
          · have : gs[0] = g := by simpa [Array.getElem?_eq_getElem hi] using h0
            rw [this]; exact awake_of (.inl hrun)
          · exact awake_of ((hL.old i _ hpos (Array.getElem?_eq_getElem hi)).status.elim .inl fun x => .inr (.inr x))
        obtain ⟨i, x, d, sl', hi, hx, hst⟩ := crowd_pick (P := P) (w := w.at d0) (sl := sl) haw ⟨0, g, h0, hrun⟩
        replace hst : stepT P (crowd gs (w.at d0) sl) = runT P (crowd gs (w.at d) sl') i := hst
        have hlt : i < gs.size := (Array.getElem?_eq_some_iff.1 hi).1
        rcases Nat.eq_zero_or_pos i with rfl | hpos
        · obtain rfl : x = g := by rw [h0] at hi; exact (Option.some.inj hi).symm
          have hrunT := runT_crowd_go (P := P) (sl := sl') (i := 0) hi (show stepG P (0 == 0) x (w.at d) = _ from hstep (w.at d) (Sim.at S w d))
          have hsz' : ((gs.map (woken P x (Gn (w.at d)) (Wn (w.at d)))).setIfInBounds 0 (Gn (w.at d))).size = gs.size := by simp
          obtain ⟨l1, l2⟩ := leavers_step (fn := x.frame.fn) (pos := x.frame.place) (es := En (w.at d)) (g := x) (g' := Gn (w.at d)) (w' := Wn (w.at d)) hL hlt
          obtain ⟨N, gs', a', w', sl'', t', q', hr, hs', h0', hX, hL', hT'⟩ := ih (w.at d) (Sim.at S w d) (Wn (w.at d)).drawn ((gs.map (woken P x (Gn (w.at d)) (Wn (w.at d)))).setIfInBounds 0 (Gn (w.at d))) sl' (t ++ MemOp.ofEvents 0 x.frame.fn x.frame.place (En (w.at d))) q (by simp [hlt])
            ⟨fun j y hj hy => l1 j y hj (by omega) hy, fun j hj => l2 j (by simpa using hj)⟩ (by rw [hsz']; exact (hT.mono (hsz _ (Sim.at S w d))).own (hE _ (Sim.at S w d)))
          exact ⟨N + 1, gs', a', w', sl'', t', q', by simp only [runNT, hst, hrunT]; exact hr, hs'.trans hsz', h0', hX, hL', hT'⟩
        · have hq := hL.old i x hpos hi
          have hi0 : (i == 0) = false := by simp; omega
          cases hqi : q i with
          | zero => rw [hqi] at hq; rw [hq.1] at hx; cases hx
          | succ k =>
            rw [hqi] at hq
            rcases hq with ⟨hf, _⟩ | ⟨_, g', es, hm, hstp, hq'⟩
            · rw [hf] at hx; cases hx
            have hrunT := runT_crowd_go (P := P) (sl := sl') (i := i) hi (by rw [hi0]; exact hstp (w.at d))
            have hsz' : ((gs.map (woken P x g' (w.at d))).setIfInBounds i g').size = gs.size := by simp
            have hsum : sumTo gs.size (upd q i k) + (k + 1) = sumTo gs.size q + k := by
              have := sumTo_upd q k id hlt
              simpa [hqi] using this
            obtain ⟨l1, l2⟩ := leavers_step (fn := x.frame.fn) (pos := x.frame.place) (es := es) (g := x) (g' := g') (w' := w.at d) hL hlt
            obtain ⟨N, gs', a', w', sl'', t', q', hr, hs', h0', hX, hL', hT'⟩ := ihM d ((gs.map (woken P x g' (w.at d))).setIfInBounds i g') sl' (t ++ MemOp.ofEvents i x.frame.fn x.frame.place es) (upd q i k) (by rw [hsz']; omega)
              (by
                have hne : i ≠ 0 := by omega
                rw [Array.getElem?_setIfInBounds_ne hne, Array.getElem?_map, h0]
                simp [woken_run hrun])
              ⟨fun j y hj hy => by
                by_cases hji : j = i
                · subst hji
                  rw [Array.getElem?_setIfInBounds_self_of_lt (by simpa using hlt)] at hy
                  obtain rfl := Option.some.inj hy
                  rw [upd_same, Deaf_own]
                  exact hq'
                · rw [upd_ne q k hji]
                  exact l1 j y hj hji hy, fun j hj => l2 j (by simpa using hj)⟩
              (by rw [hsz']; exact hT.mute hpos hlt hm)
            exact ⟨N + 1, gs', a', w', sl'', t', q', by simp only [runNT, hst, hrunT]; exact hr, hs'.trans hsz', h0', hX, hL', hT'⟩
    exact key _ d0 gs sl t q (Nat.lt_succ_self _) h0 hL hT

/-- Goroutine 0 stands at the run's last step. -/
def Last (P : Program) (S : Nat → Prop) (Post : Value → World → Prop) (g : Goroutine) (w : World) : Prop :=
  g.status = .running ∧ ∃ v es, stepG P true g w = .ended (.done v) w es ∧ (∀ e ∈ es, OkE S w.heap.size e) ∧ Post v w
theorem evL_of_okE {B : Nat} {e : Event} (h : OkE S B e) : EvL (ShOf S) B e :=
  ⟨fun _ hx hs => absurd hs (touch_of_okE h hx), (still_of_okE h).1, (still_of_okE h).2, low_of_okE h⟩
theorem co_end {Post : Value → World → Prop} {gs : Array Goroutine} {a : Goroutine} {w : World} {sl : Option (Nat × Nat)} {q : Nat → Nat} (h0 : gs[0]? = some a) (hL : Leavers P t gs q) (hT : Tr S w.heap.size gs.size t) (h : ∀ w₁, Sim S w w₁ → Last P S Post a w₁) :
    ∃ N last o w' t', runNT P (N + 1) (crowd gs w sl) t = (.ended o w', t') ∧ runN P N (crowd gs w sl) = .next last ∧ step P last = .ended o w' ∧ Good P Post last o w' t' := by
  obtain ⟨B', hB', hP⟩ := hT.past
  exact beside_ends (D := fun _ _ _ => False) (B := B') (Shun := ShOf S) (n := 0) (fun _ _ _ h => h.elim) h0 hL hP (fun w1 hw1 => by
    obtain ⟨d, rfl⟩ := hw1
    obtain ⟨h1, v, es, h2, h3, h4⟩ := h _ (Sim.at S w d)
    exact ⟨h1, v, es, h2, fun e he => evL_of_okE ((h3 e he).mono hB'), h4⟩)
end
end Go.Proofs.Yteaincbmnhehcab
