/- The others go on till the starter's turn comes. -/
import Derived.Test.YteaincbmnhehcabCrew4
namespace Go.Proofs.Yteaincbmnhehcab
open Go Go.Conc Go.ConcN
open Go.ConcR (KK wgBlock WgAt stA smA rd wr Payload DC0 Bk g_of_ofEvents again_blocked)

/-- How far all are. -/
def MLt (j base : Nat) (D' : Nat → WD) (q' : Nat → Nat) (D : Nat → WD) (q : Nat → Nat) : Prop :=
  Ssum j D' < Ssum j D ∨ (Ssum j D' = Ssum j D ∧ Fsum j D' + sumTo base q' < Fsum j D + sumTo base q)
theorem MLt.trans {j base : Nat} {D D' D2 : Nat → WD} {q q' q2 : Nat → Nat} (h : MLt j base D2 q2 D' q') (h' : MLt j base D' q' D q) : MLt j base D2 q2 D q := by
  unfold MLt at *; omega
theorem MLt.induct {j base : Nat} {C : (Nat → WD) → (Nat → Nat) → Prop} (h : ∀ D q, (∀ D' q', MLt j base D' q' D q → C D' q') → C D q) : ∀ D q, C D q := by
  have key : ∀ A B D q, Ssum j D < A → Fsum j D + sumTo base q < B → C D q := by
    intro A
    induction A with
    | zero => exact fun B D q h => absurd h (Nat.not_lt_zero _)
    | succ A ihA =>
      intro B
      induction B with
      | zero => exact fun D q _ h => absurd h (Nat.not_lt_zero _)
      | succ B ihB =>
        intro D q hA hB
        refine h D q fun D' q' hlt => ?_
        rcases hlt with hlt | ⟨h1, h2⟩
        · exact ihA _ D' q' (by omega) (Nat.lt_succ_self _)
        · exact ihB D' q' (by omega) (by omega)
  exact fun D q => key _ _ D q (Nat.lt_succ_self _) (Nat.lt_succ_self _)

section
variable [Payload] {P : Program} {ty nty : TypeId} {S : Nat → Prop} {B0 base : Nat} {bit : Nat → Nat}
variable {j : Nat} {tag : CTag} {d0 T0 N0 : Nat} {gs : Array Goroutine} {w : World} {t : Trace} {D : Nat → WD} {Ad : Nat → Bool} {q : Nat → Nat} {st sm : Int}

theorem Cw.at (h : Cw P ty nty S B0 base bit j tag d0 T0 N0 gs w t D Ad q st sm) (d : Nat) : Cw P ty nty S B0 base bit j tag d0 T0 N0 gs (w.at d) t D Ad q st sm :=
  ⟨h.base1, h.size, h.old, fun i hi => let ⟨g, hg, hs⟩ := h.wk i hi; ⟨g, hg, hs.rely (RW.at w d)⟩, h.ct, h.norel, h.begun, h.deaf0, h.deafW, h.above, h.rel, h.early, h.box, h.noted, h.wg, h.mode, h.seen, h.kn, h.over, h.room⟩
theorem Cw.retag (h : Cw P ty nty S B0 base bit j .blk d0 T0 N0 gs w t D Ad q st sm) : Cw P ty nty S B0 base bit j .w3 d0 T0 N0 gs w t D Ad q st sm :=
  ⟨h.base1, h.size, h.old, h.wk, h.ct, h.norel, h.begun, h.deaf0, h.deafW, h.above, h.rel, h.early, h.box, h.noted, h.wg, h.mode.retag (.inr ⟨rfl, rfl⟩), h.seen, h.kn, h.over, h.room⟩

/-- One step of another's. -/
theorem Cw.other (h : Cw P ty nty S B0 base bit j tag d0 T0 N0 gs w t D Ad q st sm) {a : Goroutine} (h0 : gs[0]? = some a) (hj : j + pend tag < 2147483648) (hbits : ∀ Ad', N0 + bitsIn bit j Ad' < 4294967296) {x : Nat} {g : Goroutine} (hx : gs[x]? = some g) (hx0 : 0 < x) (hrun : g.status = .running) (sl : Option (Nat × Nat)) :
    ∃ gs' w' u D' Ad' q' st' sm' tag' a', runT P (crowd gs w sl) x = (.next (crowd gs' w' sl), u) ∧ gs'[0]? = some a' ∧ Cw P ty nty S B0 base bit j tag' d0 T0 N0 gs' w' (t ++ u) D' Ad' q' st' sm' ∧ MLt j base D' q' D q ∧ Vc j D' ≤ Vc j D ∧ Sim (SJ S B0 j) w w' ∧
      ((a' = a ∨ a' = a.again w') ∧ (tag' = tag ∨ (tag = .blk ∧ tag' = .w3 ∧ a' = a.again w'))) := by
  have hb := h.base1
  have hlt : x < gs.size := (Array.getElem?_eq_some_iff.1 hx).1
  have hx1 : (x == 0) = false := by simp; omega
  rcases Nat.lt_or_ge x base with hxb | hxb
  · -- one that is only leaving
    have hq := h.old x g hx0 hxb hx
    cases hqi : q x with
    | zero => rw [hqi] at hq; rw [hq.1] at hrun; cases hrun
    | succ k =>
      rw [hqi] at hq
      rcases hq with ⟨hf, _⟩ | ⟨_, g', es, hm, hstp, hq'⟩
      · rw [hf] at hrun; cases hrun
      have hrunT := runT_crowd_go (P := P) (sl := sl) (i := x) hx (by rw [hx1]; exact hstp w)
      refine ⟨_, w, _, D, Ad, upd q x k, st, sm, tag, _, hrunT, by rw [get_other (by omega), h0]; rfl, h.stepOld hx0 hxb hm hq', .inr ⟨rfl, ?_⟩, Nat.le_refl _, Sim.refl _ w, ?_, .inl rfl⟩
      · have hsum : sumTo base (upd q x k) + (k + 1) = sumTo base q + k := by
          have := sumTo_upd q k id hxb
          simpa [hqi] using this
        omega
      · unfold Go.Conc.woken
        split
        · exact .inr rfl
        · exact .inl rfl
  · obtain ⟨i, rfl⟩ : ∃ i, x = base + i := ⟨x - base, by omega⟩
    have hi : i < j := by have := h.size; omega
    obtain ⟨g', w', es, D', Ad', st', sm', tag', hgo, hcw, hl, hv, hs, ht⟩ := h.worker hi hx hrun hj hbits
    have hrunT := runT_crowd_go (P := P) (sl := sl) (i := base + i) hx (by rw [hx1]; exact hgo)
    refine ⟨_, w', _, D', Ad', q, st', sm', tag', _, hrunT, by rw [get_other (by omega), h0]; rfl, hcw, ?_, hv, hs, ?_, ?_⟩
    · rcases hl with hl | ⟨h1, h2⟩
      · exact .inl hl
      · exact .inr ⟨h1, by omega⟩
    · unfold Go.Conc.woken
      split
      · exact .inr rfl
      · exact .inl rfl
    · exact ht.imp id fun ⟨h1, h2, h3⟩ => ⟨h1, h2, h3 a⟩

theorem Cw.awake (h : Cw P ty nty S B0 base bit j tag d0 T0 N0 gs w t D Ad q st sm) {a : Goroutine} (h0 : gs[0]? = some a) (ha : a.status = .running ∨ a.status = .blocked) : ∀ x ∈ gs, awake x := by
  intro x hx
  obtain ⟨i, hi, rfl⟩ := Array.mem_iff_getElem.1 hx
  rcases Nat.eq_zero_or_pos i with rfl | hpos
  · have : gs[0] = a := by simpa [Array.getElem?_eq_getElem hi] using h0
    rw [this]; exact awake_of (ha.imp id .inl)
  · rcases Nat.lt_or_ge i base with hb | hb
    · exact awake_of ((h.old i _ hpos hb (Array.getElem?_eq_getElem hi)).status.elim .inl fun x => .inr (.inr x))
    · obtain ⟨k, rfl⟩ : ∃ k, i = base + k := ⟨i - base, by omega⟩
      obtain ⟨g, hg, hs⟩ := h.wk k (by have := h.size; omega)
      rw [Array.getElem?_eq_getElem hi] at hg
      cases hg
      exact awake_of (hs.status.elim .inl fun x => .inr (.inr x))

/-- ████ THE STARTER's TURN COMES. ████ -/
theorem Cw.turn {a : Goroutine} (hrun : a.status = .running) (hj : j + pend tag < 2147483648) (hbits : ∀ Ad', N0 + bitsIn bit j Ad' < 4294967296) (hne : tag ≠ .blk) : ∀ (D : Nat → WD) (q : Nat → Nat) (gs : Array Goroutine) (w : World) (t : Trace) (Ad : Nat → Bool) (st sm : Int) (sl : Option (Nat × Nat)),
    Cw P ty nty S B0 base bit j tag d0 T0 N0 gs w t D Ad q st sm → gs[0]? = some a →
    ∃ N gs' w' sl' t' D' Ad' q' st' sm' d sl2, runNT P N (crowd gs w sl) t = (.next (crowd gs' w' sl'), t') ∧ gs'[0]? = some a ∧ Cw P ty nty S B0 base bit j tag d0 T0 N0 gs' (w'.at d) t' D' Ad' q' st' sm' ∧ Sim (SJ S B0 j) w (w'.at d) ∧ Vc j D' ≤ Vc j D ∧
      (MLt j base D' q' D q ∨ (D' = D ∧ q' = q)) ∧ stepT P (crowd gs' w' sl') = runT P (crowd gs' (w'.at d) sl2) 0 := by
  refine MLt.induct (j := j) (base := base) fun D q ih => ?_
  intro gs w t Ad st sm sl h h0
  obtain ⟨x, g, d, sl', hx, hg, hst⟩ := crowd_pick (P := P) (w := w) (sl := sl) (h.awake h0 (.inl hrun)) ⟨0, a, h0, hrun⟩
  rcases Nat.eq_zero_or_pos x with rfl | hpos
  · exact ⟨0, gs, w, sl, t, D, Ad, q, st, sm, d, sl', rfl, h0, h.at d, Sim.at _ w d, Nat.le_refl _, .inr ⟨rfl, rfl⟩, hst⟩
  · obtain ⟨gs1, w1, u, D1, Ad1, q1, st1, sm1, tag1, a1, hr1, h01, h1, hlt, hv, hs1, ha1, ht1⟩ := (h.at d).other h0 hj hbits hx hpos hg sl'
    obtain rfl : a1 = a := by
      rcases ha1 with rfl | rfl
      · rfl
      · exact again_running _ (.inl hrun)
    obtain rfl : tag1 = tag := by
      rcases ht1 with h | ⟨h, _⟩
      · exact h
      · exact absurd h hne
    obtain ⟨N, gs2, w2, sl2, t2, D2, Ad2, q2, st2, sm2, d2, sl3, hr2, h02, h2, hs2, hv2, hlt2, hst2⟩ := ih D1 q1 hlt gs1 w1 _ Ad1 st1 sm1 sl' h1 h01
    refine ⟨N + 1, gs2, w2, sl2, t2, D2, Ad2, q2, st2, sm2, d2, sl3, by simp only [runNT, hst, hr1]; exact hr2, h02, h2, ((Sim.at _ w d).trans hs1).trans hs2, Nat.le_trans hv2 hv, ?_, hst2⟩
    rcases hlt2 with h | ⟨rfl, rfl⟩
    · exact .inl (h.trans hlt)
    · exact .inl hlt

theorem WkS.running {i : Nat} {ad : Bool} {s m d : Nat} {g : Goroutine} (h : WkS P ty nty S B0 base bit i ad s m d g w) (hs : s ≠ 1) : g.status = .running := by
  cases h with
  | pre h => exact Goes.running (fun _ _ x => x.1) w (RWk.refl i w) h
  | go h =>
    cases h with
    | r0 h => exact Goes.running (fun _ _ x => x.1) w (RW.refl w) h
    | k1 h => exact Goes.running (fun _ _ x => x.1) w (RW.refl w) h
    | d1 h => exact Goes.running (fun _ _ x => x.1) w (RW.refl w) h
    | d2 h => exact Goes.running (fun _ _ x => x.1) w (RW.refl w) h
    | d3 h => exact Goes.running (fun _ _ x => x.1) w (RW.refl w) h
    | d4 h => exact Goes.running (fun _ _ x => x.1) w (RW.refl w) h
    | quit _ => exact absurd rfl hs

/-- .. also if it sleeps at the semaphore: somebody wakes it. -/
theorem Cw.woke {a : Goroutine} (hrun : a.status = .running) (hof : a.offers = none) (hj : j < 2147483648) (hbits : ∀ Ad', N0 + bitsIn bit j Ad' < 4294967296) : ∀ (D : Nat → WD) (q : Nat → Nat) (gs : Array Goroutine) (w : World) (t : Trace) (Ad : Nat → Bool) (st sm : Int) (sl : Option (Nat × Nat)),
    Cw P ty nty S B0 base bit j .blk d0 T0 N0 gs w t D Ad q st sm → gs[0]? = some { a with status := .blocked } →
    ∃ N gs' w' sl' t' D' Ad' q' st' sm', runNT P N (crowd gs w sl) t = (.next (crowd gs' w' sl'), t') ∧ gs'[0]? = some a ∧ Cw P ty nty S B0 base bit j .w3 d0 T0 N0 gs' w' t' D' Ad' q' st' sm' ∧ Sim (SJ S B0 j) w w' ∧ Vc j D' ≤ Vc j D ∧ MLt j base D' q' D q := by
  refine MLt.induct (j := j) (base := base) fun D q ih => ?_
  intro gs w t Ad st sm sl h h0
  have hsome : ∃ i, i < j ∧ (D i).stage ≠ 1 := by
    have hm := h.mode
    cases hm with
    | opn h1 _ _ => exact h1.elim
    | reg _ _ h3 =>
      refine Classical.byContradiction fun hn => ?_
      have h0 : Vc j D = 0 := by
        have : Vc j D = sumTo j (fun _ => 0) := sumTo_congr fun i hi => by
          have : (D i).stage = 1 := Classical.byContradiction fun h => hn ⟨i, hi, h⟩
          simp [cnt, this]
        rw [this]
        have := sumTo_le (f := fun _ => 0) (c := 0) (j := j) fun _ _ => Nat.le_refl _
        omega
      omega
    | last L _ h2 h3 _ => exact ⟨L, h2, by omega⟩
    | fin h1 _ => exact h1.elim
  obtain ⟨i, hi, hs1⟩ := hsome
  obtain ⟨gi, hgi, hsi⟩ := h.wk i hi
  obtain ⟨x, g, d, sl', hx, hg, hst⟩ := crowd_pick (P := P) (w := w) (sl := sl) (h.awake h0 (.inr rfl)) ⟨base + i, gi, hgi, hsi.running hs1⟩
  have hpos : 0 < x := by
    rcases Nat.eq_zero_or_pos x with rfl | hp
    · rw [h0] at hx; cases hx; cases hg
    · exact hp
  obtain ⟨gs1, w1, u, D1, Ad1, q1, st1, sm1, tag1, a1, hr1, h01, h1, hlt, hv, hs1', ha1, ht1⟩ := (h.at d).other h0 (by simpa [pend] using hj) hbits hx hpos hg sl'
  have hag : ({ a with status := .blocked } : Goroutine).again w1 = a := again_blocked hrun hof w1
  have hsim := (Sim.at _ w d).trans hs1'
  by_cases hw : a1 = a
  · subst hw
    refine ⟨1, gs1, w1, sl', _, D1, Ad1, q1, st1, sm1, by simp only [runNT, hst, hr1]; rfl, h01, ?_, hsim, hv, hlt⟩
    rcases ht1 with rfl | ⟨_, rfl, _⟩
    · exact h1.retag
    · exact h1
  · have e1 : a1 = { a with status := .blocked } := by
      rcases ha1 with h | h
      · exact h
      · exact absurd (h.trans hag) hw
    subst e1
    have e2 : tag1 = .blk := by
      rcases ht1 with h | ⟨_, _, h⟩
      · exact h
      · exact absurd (h.trans hag) hw
    subst e2
    obtain ⟨N, gs2, w2, sl2, t2, D2, Ad2, q2, st2, sm2, hr2, h02, h2, hs2, hv2, hlt2⟩ := ih D1 q1 hlt gs1 w1 _ Ad1 st1 sm1 sl' h1 h01
    exact ⟨N + 1, gs2, w2, sl2, t2, D2, Ad2, q2, st2, sm2, by simp only [runNT, hst, hr1]; exact hr2, h02, h2, hsim.trans hs2, Nat.le_trans hv2 hv, hlt2.trans hlt⟩
end
end Go.Proofs.Yteaincbmnhehcab
