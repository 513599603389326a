/- Goroutine 0 beside those that are only leaving, step by step; from there to the crew. -/
import Derived.Test.YteaincbmnhehcabCrew12
import Derived.Conc.Starve
namespace Go.Proofs.Yteaincbmnhehcab
open Go Go.Conc Go.ConcN
open Go.ConcR (KK wgBlock WgAt stA smA rd wr mk Payload DC0 Bk g_of_ofEvents)

/-- Goroutine 0 stands here; all others only leave; n there are. -/
def Beside (P : Program) (S : Nat → Prop) (n : Nat) (a : Goroutine) (w : World) (m : Machine) (t : Trace) : Prop :=
  ∃ gs sl q d, m = crowd gs (w.at d) sl ∧ gs[0]? = some a ∧ gs.size = n ∧ Leavers P t gs q ∧ Tr S w.heap.size n t

section
variable {P : Program} {S : Nat → Prop} {n : Nat} {a a' : Goroutine} {w w' : World} {m : Machine} {t : Trace}

theorem Beside.stepN {Nx : Goroutine → World → Prop} (h : Beside P S n a w m t) (hrun : a.status = .running) (hst : ∀ d, ∃ a' w' d' es, stepG P true a (w.at d) = .go a' (w'.at d') es ∧ (∀ e ∈ es, OkE S w'.heap.size e) ∧ w.heap.size ≤ w'.heap.size ∧ Nx a' w') :
    Rch P m t (fun m' t' => ∃ a' w', Nx a' w' ∧ Beside P S n a' w' m' t') := by
  obtain ⟨gs, sl, q, d0, rfl, h0, hn, hL, hT⟩ := h
  have key : ∀ (M d0 : Nat) (gs : Array Goroutine) (sl : Option (Nat × Nat)) (t : Trace) (q : Nat → Nat), sumTo gs.size q < M → gs[0]? = some a → gs.size = n → Leavers P t gs q → Tr S w.heap.size n t → Rch P (crowd gs (w.at d0) sl) t (fun m' t' => ∃ a' w', Nx a' w' ∧ Beside P S n a' w' m' t') := by
    intro M
    induction M with
    | zero => exact fun d0 gs sl t q hM => absurd hM (Nat.not_lt_zero _)
    | succ M ihM =>
      intro d0 gs sl t q hM h0 hn hL hT
      have haw : ∀ x ∈ gs, awake x := by
        intro x hx
        obtain ⟨i, hi, rfl⟩ := Array.mem_iff_getElem.1 hx
        rcases Nat.eq_zero_or_pos i with rfl | hpos
        · have : gs[0] = a := by simpa [Array.getElem?_eq_getElem hi] using h0
          rw [this]; exact awake_of (.inl hrun)
        · exact awake_of ((hL.old i _ hpos (Array.getElem?_eq_getElem hi)).status.elim .inl fun x => .inr (.inr x))
      obtain ⟨i, x, d, sl', hi, hx, hstep⟩ := crowd_pick (P := P) (w := w.at d0) (sl := sl) haw ⟨0, a, h0, hrun⟩
      replace hstep : stepT P (crowd gs (w.at d0) sl) = runT P (crowd gs (w.at d) sl') i := hstep
      have hlt : i < gs.size := (Array.getElem?_eq_some_iff.1 hi).1
      rcases Nat.eq_zero_or_pos i with rfl | hpos
      · obtain rfl : x = a := by rw [h0] at hi; exact (Option.some.inj hi).symm
        obtain ⟨a', w', d', es, hgo, hE, hsz, hNx⟩ := hst d
        have hrunT := runT_crowd_go (P := P) (sl := sl') (i := 0) hi (show stepG P (0 == 0) x (w.at d) = _ from hgo)
        obtain ⟨l1, l2⟩ := leavers_step (fn := x.frame.fn) (pos := x.frame.place) (es := es) (g := x) (g' := a') (w' := w'.at d') hL hlt
        refine ⟨1, crowd ((gs.map (woken P x a' (w'.at d'))).setIfInBounds 0 a') (w'.at d') sl', t ++ MemOp.ofEvents 0 x.frame.fn x.frame.place es, by simp only [runNT, hstep, hrunT], a', w', hNx, _, sl', q, d', rfl, by simp [hlt], by simp [hn], ⟨fun j y hj hy => l1 j y hj (by omega) hy, fun j hj => l2 j (by simpa using hj)⟩, (hT.mono hsz).own hE⟩
      · have hq := hL.old i x hpos hi
        have hi0 : (i == 0) = false := by simp; omega
        cases hqi : q i with
        | zero => rw [hqi] at hq; rw [hq.1] at hx; cases hx
        | succ k =>
          rw [hqi] at hq
          rcases hq with ⟨hf, _⟩ | ⟨_, g', es', hm, hstp, hq'⟩
          · rw [hf] at hx; cases hx
          have hrunT := runT_crowd_go (P := P) (sl := sl') (i := i) hi (by rw [hi0]; exact hstp (w.at d))
          have hsz' : ((gs.map (woken P x g' (w.at d))).setIfInBounds i g').size = gs.size := by simp
          have hsum : sumTo gs.size (upd q i k) + (k + 1) = sumTo gs.size q + k := by
            have := sumTo_upd q k id hlt
            simpa [hqi] using this
          obtain ⟨l1, l2⟩ := leavers_step (fn := x.frame.fn) (pos := x.frame.place) (es := es') (g := x) (g' := g') (w' := w.at d) hL hlt
          obtain ⟨N, m', t', hr, hB⟩ := ihM d ((gs.map (woken P x g' (w.at d))).setIfInBounds i g') sl' (t ++ MemOp.ofEvents i x.frame.fn x.frame.place es') (upd q i k) (by rw [hsz']; omega)
            (by
              have hne : i ≠ 0 := by omega
              rw [Array.getElem?_setIfInBounds_ne hne, Array.getElem?_map, h0]
              simp [woken_run hrun])
            (hsz'.trans hn)
            ⟨fun j y hj hy => by
              by_cases hji : j = i
              · subst hji
                rw [Array.getElem?_setIfInBounds_self_of_lt (by simpa using hlt)] at hy
                obtain rfl := Option.some.inj hy
                rw [upd_same, Deaf_own]
                exact hq'
              · rw [upd_ne q k hji]
                exact l1 j y hj hji hy, fun j hj => l2 j (by simpa using hj)⟩
            (hT.mute hpos (by omega) hm)
          exact ⟨N + 1, m', t', by simp only [runNT, hstep, hrunT]; exact hr, hB⟩
  exact key _ d0 gs sl t q (Nat.lt_succ_self _) h0 hn hL hT

theorem Beside.step {es : Array Event} (h : Beside P S n a w m t) (hrun : a.status = .running) (hst : ∀ d, ∃ d', stepG P true a (w.at d) = .go a' (w'.at d') es) (hE : ∀ e ∈ es, OkE S w'.heap.size e) (hsz : w.heap.size ≤ w'.heap.size) :
    Rch P m t (fun m' t' => Beside P S n a' w' m' t') :=
  (h.stepN hrun (Nx := fun x y => x = a' ∧ y = w') fun d => let ⟨d', h⟩ := hst d; ⟨a', w', d', es, h, hE, hsz, rfl, rfl⟩).trans fun _ _ ⟨_, _, ⟨hx, hy⟩, h⟩ => .refl (by subst hx; subst hy; exact h)

theorem Beside.goes {Stop : Goroutine → World → Prop} : ∀ (k : Nat) (a : Goroutine) (w0 : World) (m : Machine) (t : Trace), Goes P true (fun _ _ => True) DC0 Stop k a w0 → Beside P S n a w m t →
    Rch P m t (fun m' t' => ∃ a', (∀ w₁, Stop a' w₁) ∧ Beside P S n a' w m' t') := by
  intro k
  induction k with
  | zero => exact fun a w0 m t hg h => .refl ⟨a, fun w₁ => hg w₁ trivial, h⟩
  | succ k ih =>
    intro a w0 m t hg h
    rcases hg with hs | ⟨hrun, hstep⟩
    · exact .refl ⟨a, fun w₁ => hs w₁ trivial, h⟩
    · refine (h.stepN hrun (Nx := fun a' w' => w' = w ∧ ∃ w1, Goes P true (fun _ _ => True) DC0 Stop k a' w1) fun d => ?_).trans fun m' t' ⟨a', w', ⟨e, w1, hg'⟩, h'⟩ => ih a' w1 m' t' hg' (by rw [← e]; exact h')
      obtain ⟨g', w', es, hgo, ⟨rfl, rfl⟩, hg'⟩ := goes_elim (hstep (w.at d) trivial)
      exact ⟨g', w, d, #[], hgo, by simp, Nat.le_refl _, rfl, _, hg'⟩

/-- Of places that nobody has touched yet. -/
theorem Tr.shun {S' : Nat → Prop} {B : Nat} (h : Tr S B n t) (hs : ∀ b, S b → S' b) (hn : ∀ b, S' b → ¬ S b → B ≤ b) : Tr S' B n t := by
  have hsh : ∀ l, ShOf S l → ShOf S' l := fun l ⟨a, e, h⟩ => ⟨a, e, hs _ h⟩
  refine ⟨⟨fun i op a hop hoa hS => ?_, fun _ _ _ _ h => h.elim, fun _ _ _ _ h => h.elim, fun l hl _ => h.ct.free l (fun x => hl (hsh l x)) (fun _ _ _ => ⟨id, id⟩), fun l hl _ => h.ct.mine l (fun x => hl (hsh l x)) (fun _ _ _ => id), h.ct.nr, h.ct.gs⟩, h.over, h.hears, h.seen⟩
  by_cases hx : ShOf S a.loc
  · exact h.ct.quiet i op a hop hoa hx
  · exfalso
    obtain ⟨b, hb, hb'⟩ := hS
    have h1 := h.seen op (Array.mem_of_getElem? hop) a hoa
    rw [hb] at h1
    have h2 : b.block < B := h1
    have := hn _ hb' (fun x => hx ⟨b, hb, x⟩)
    omega
theorem Beside.shun {S' : Nat → Prop} (h : Beside P S n a w m t) (hs : ∀ b, S b → S' b) (hn : ∀ b, S' b → ¬ S b → w.heap.size ≤ b) : Beside P S' n a w m t := by
  obtain ⟨gs, sl, q, d, h1, h2, h3, h4, h5⟩ := h
  exact ⟨gs, sl, q, d, h1, h2, h3, h4, h5.shun hs hn⟩
end

section
variable [Payload] {P : Program} {ty nty : TypeId} {S : Nat → Prop} {B0 : Nat} {bit : Nat → Nat} {n : Nat} {a : Goroutine} {v w : World} {m : Machine} {t : Trace}
/-- The crew's beginning. -/
theorem Here.begin (h : Beside P (S3 S B0) n a w m t) (hn : 1 ≤ n) (hno : NAt nty B0 0 w) (hwg : WgAt ty (B0 + 2) w 0 0) (hcp : Cp (SJ S B0 0) v w) (r : Nat) (hroom : B0 + 3 ≤ w.heap.size) : ∃ T0, Here P ty nty S B0 n bit T0 0 0 (.sp r 5) 0 a v 0 m t := by
  obtain ⟨gs, sl, q, d, rfl, h0, rfl, hL, hT⟩ := h
  refine ⟨t.size, gs, w.at d, sl, fun _ => ⟨1, 0, 0⟩, fun _ => false, q, 0, 0, rfl, h0, ?_, (Sim.at _ w d).2 v hcp, by simp [Vc, sumTo]⟩
  refine ⟨hn, by omega, fun i g hi hib hg => hL.old i g hi hg, fun i hi => absurd hi (Nat.not_lt_zero _), ?_, fun i hi e => ?_, Nat.le_refl _, hT.hears, fun i hi => absurd hi (Nat.not_lt_zero _), fun i hi => hL.above i (by omega), fun i hi => absurd hi (Nat.not_lt_zero _), fun i g hi hg => ?_, fun i hi => absurd hi (Nat.not_lt_zero _), (show NAt nty B0 0 w from hno), hwg, ?_, hT.seen, fun i x hx hns => .inr ?_, fun i g hg h0' _ hc => hT.over i g hg h0' hc, hroom⟩
  · exact ⟨hT.ct.quiet, fun _ _ _ _ h => h.elim, fun k _ hk l hl => by have := hl.1; omega, fun l hs _ => hT.ct.free l hs (fun _ _ _ => ⟨id, id⟩), fun l hs _ => hT.ct.mine l hs (fun _ _ _ => id), hT.ct.nr, fun i op hi => by have := hT.ct.gs i op hi; omega⟩
  · obtain ⟨op, ho, _⟩ := Option.map_eq_some_iff.1 e
    have := lt_size_of_getElem? ho
    omega
  · obtain ⟨op, ho, hog⟩ := Option.map_eq_some_iff.1 hg
    have := hT.ct.gs i op ho
    omega
  · have e : (0 : Int) = ((Vc 0 (fun _ => (⟨1, 0, 0⟩ : WD)) + pend (.sp r 5) : Nat) : Int) * KK := by simp [Vc, sumTo, pend]
    have key : Go.ConcN.Mode 0 (fun _ => (⟨1, 0, 0⟩ : WD)) (.sp r 5) (((Vc 0 (fun _ => (⟨1, 0, 0⟩ : WD)) + pend (.sp r 5) : Nat) : Int) * KK) 0 := .opn trivial (fun i hi => absurd hi (Nat.not_lt_zero _)) (fun vs h => by cases h)
    rw [← e] at key
    exact key
  · exact hT.ct.free x.loc hns (fun _ _ _ => ⟨id, id⟩) i x hx rfl
end
end Go.Proofs.Yteaincbmnhehcab
