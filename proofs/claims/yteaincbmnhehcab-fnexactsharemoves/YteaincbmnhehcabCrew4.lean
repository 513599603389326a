/- A worker's step, whichever it is. -/
import Derived.Test.YteaincbmnhehcabCrew3
namespace Go.Proofs.Yteaincbmnhehcab
open Go Go.Conc Go.ConcN
open Go.ConcR (KK wgBlock WgAt stA smA rd wr mk Payload DC0 Bk g_of_ofEvents ofEvent_loc_mark bk_of_mute)

section
variable [Payload] {P : Program} {ty nty : TypeId} {S : Nat → Prop} {B0 base : Nat} {bit : Nat → Nat}
variable {j : Nat} {tag : CTag} {d0 T0 N0 : Nat} {gs : Array Goroutine} {w : World} {t : Trace} {D : Nat → WD} {Ad : Nat → Bool} {q : Nat → Nat} {st sm : Int}

/-- What comes of a worker's step. -/
def Onward (P : Program) (ty nty : TypeId) (S : Nat → Prop) (B0 base : Nat) (bit : Nat → Nat) (j : Nat) (tag : CTag) (d0 T0 N0 : Nat) (gs : Array Goroutine) (w : World) (t : Trace) (D : Nat → WD) (q : Nat → Nat) (i : Nat) (g : Goroutine) : Prop :=
  ∃ g' w' es D' Ad' st' sm' tag', stepG P false g w = .go g' w' es ∧ Cw P ty nty S B0 base bit j tag' d0 T0 N0 ((gs.map (woken P g g' w')).setIfInBounds (base + i) g') w' (t ++ MemOp.ofEvents (base + i) g.frame.fn g.frame.place es) D' Ad' q st' sm' ∧
    Less j D' D ∧ Vc j D' ≤ Vc j D ∧ Sim (SJ S B0 j) w w' ∧ (tag' = tag ∨ (tag = .blk ∧ tag' = .w3 ∧ ∀ x, woken P g g' w' x = x.again w'))

/-- Bookkeeping: at most the group's block turns; behind its release. -/
theorem Cw.book (h : Cw P ty nty S B0 base bit j tag d0 T0 N0 gs w t D Ad q st sm) {i : Nat} (hi : i < j) {g g' : Goroutine} {w' : World} {es : Array Event} {s' m' dd' : Nat} {st' sm' : Int} {tag' : CTag} (hgo : stepG P false g w = .go g' w' es)
    (hA : Aside (B0 + 2) w w') (hwg : WgAt ty (B0 + 2) w' st' sm') (hbk : ∀ e ∈ es, Bk (B0 + 2) e) (hd : ∀ k e, es[k]? = some e → (MemAct.ofEvent e).touch? = none ∨ 0 < deafBehind (D i).deaf (es.extract 0 k)) (had : Ad i = true)
    (hs' : WSit P ty (B0 + 2) (B0 + 3 + i) 1 NoOwn (RdW S B0 base i) (B0 + 1) 1 (.int .i64 i) s' m' dd' g' w') (hdd : deafBehind (D i).deaf es = dd') (h6 : (D i).stage ≤ 6) (hmode : Go.ConcN.Mode j (upd D i ⟨s', m', dd'⟩) tag' st' sm')
    (hless : (s' < (D i).stage ∧ cnt ⟨s', m', dd'⟩ ≤ cnt (D i)) ∨ (s' = (D i).stage ∧ m' < (D i).fuel)) (htag : tag' = tag ∨ (tag = .blk ∧ tag' = .w3 ∧ ∀ x, woken P g g' w' x = x.again w')) : Onward P ty nty S B0 base bit j tag d0 T0 N0 gs w t D q i g := by
  have hroom := h.room
  refine ⟨g', w', es, upd D i ⟨s', m', dd'⟩, upd Ad i true, st', sm', tag', hgo, h.stepW hi (fun i' _ _ => wg_rwk hA hwg) (.go hs') (okW_bk hbk) (norel_of_Bk hbk) hdd (fun _ => ?_) ?_ ?_ hwg hmode hA.size (low_bk hbk (by omega)), ?_, ?_, ?_, htag⟩
  · obtain ⟨r, hr, hr'⟩ := h.rel i hi h6
    refine ⟨r, hr.book (h.deafW i hi) _ _ hbk hd, after_app hr' fun op hop _ b hb => ?_⟩
    obtain ⟨_, h2⟩ := okW_of_Bk (Own := NoOwn) (Rd := NoOwn) hbk op hop
    rcases h2 b hb with ⟨⟨x, h3, h4⟩, _⟩ | h3 | h3
    · exact ⟨x, h3, .inr (.inr h4)⟩
    · exact h3.elim
    · exact h3.1.elim
  · obtain ⟨cs, h1, h2⟩ := h.box i hi
    exact ⟨cs, (hA.block _ (by omega)).trans h1, h2⟩
  · rw [bitsIn_same had]
    exact noted_aside h.noted (hA.block _ (by omega))
  · rcases hless with ⟨h1, _⟩ | ⟨h1, h2⟩
    · exact less_stage hi h1
    · exact less_fuel hi h1 h2
  · rcases hless with ⟨_, h1⟩ | ⟨h1, _⟩
    · exact Vc_le_upd hi h1
    · exact Vc_le_upd hi (by simp only [cnt, h1]; exact Nat.le_refl _)
  · refine sim_cells hA.size hA.os hA.output (fun b hb => hA.block b fun e => hb (.inl (.inr (.inr e)))) (fun b _ => ?_)
    by_cases e : b = B0 + 2
    · subst e
      right
      intro c t f hc
      have h1 := h.wg
      unfold WgAt wgBlock at h1 hwg
      rw [h1] at hc
      cases hc
      exact ⟨_, hwg⟩
    · exact .inl (hA.block b e)

/-- A step of its own work: its own variable alone may turn. -/
theorem Cw.work (h : Cw P ty nty S B0 base bit j tag d0 T0 N0 gs w t D Ad q st sm) {i : Nat} (hi : i < j) {g g' : Goroutine} {w' : World} {es : Array Event} {m' : Nat} (hgo : stepG P false g w = .go g' w' es) (hD : DWk S B0 base i w w' es) (hst : (D i).stage = 7) (hde : (D i).deaf = 0)
    (hs' : WkS P ty nty S B0 base bit i (Ad i) 7 m' 0 g' w') (hm : m' < (D i).fuel) : Onward P ty nty S B0 base bit j tag d0 T0 N0 gs w t D q i g := by
  obtain ⟨hA, hev⟩ := hD
  simp only [Nat.sub_self] at hA
  have hroom := h.room
  refine ⟨g', w', es, upd D i ⟨7, m', 0⟩, upd Ad i (Ad i), st, sm, tag, hgo, h.stepW hi (fun i' _ e => aside_rwk hA e) hs' (okW_of hev) (fun e he => (hev e he).2.2.2) ?_ (fun h => by omega) (hA.pay (h.box i hi)) ?_ (h.wg.of_block (hA.block _ (by omega))) ?_ hA.size (low_evW hev (by omega)), less_fuel hi hst.symm hm, Vc_le_upd hi (by simp [cnt, hst]), aside_sim hA hi (h.box i hi), .inl rfl⟩
  · rw [hde]
    exact deafBehind_still (fun e he => ⟨(hev e he).2.1, (hev e he).2.2.1⟩) 0
  · rw [bitsIn_same rfl]
    exact noted_aside h.noted (hA.block _ (by omega))
  · have := h.mode.same (i := i) m' 0
    rwa [hst] at this

set_option maxHeartbeats 1000000 in
theorem Cw.worker (h : Cw P ty nty S B0 base bit j tag d0 T0 N0 gs w t D Ad q st sm) {i : Nat} (hi : i < j) {g : Goroutine} (hg : gs[base + i]? = some g) (hrun : g.status = .running) (hj : j + pend tag < 2147483648) (hbits : ∀ Ad', N0 + bitsIn bit j Ad' < 4294967296) :
    Onward P ty nty S B0 base bit j tag d0 T0 N0 gs w t D q i g := by
  have hroom := h.room
  obtain ⟨g₁, hg₁, hs⟩ := h.wk i hi
  obtain rfl : g = g₁ := by rw [hg] at hg₁; exact Option.some.inj hg₁
  generalize had : Ad i = ad at hs
  generalize hst : (D i).stage = s at hs
  generalize hfu : (D i).fuel = m at hs
  generalize hde : (D i).deaf = dd at hs
  have two : ∀ a : Addr, a.block = B0 + 2 → ∀ e ∈ #[rd a, wr a], Bk (B0 + 2) e := by
    intro a ha e he
    simp at he
    rcases he with rfl | rfl <;> exact bk_cell _ _ ha
  cases hs with
  | @pre M2 m0 _ _ hp =>
    rcases Goes.cases hp with hstop | ⟨m', rfl, hstep⟩
    · -- it adds its bit
      obtain ⟨_, hadd⟩ := hstop w (RWk.refl i w)
      have hb := bitsIn_upd (bit := bit) hi had
      have hlt := hbits (upd Ad i true)
      obtain ⟨g', hgo, hk⟩ := hadd _ (by omega) h.noted
      have hA : Aside (B0 + 1) w (w.setCell (nA B0) (.int .u32 ((N0 + bitsIn bit j Ad + bit i : Nat) : Int))) := aside_setCell w (nA B0) _
      have hev : ∀ e ∈ #[rd (nA B0), wr (nA B0)], e = rd (nA B0) ∨ e = wr (nA B0) := by intro e he; simpa using he
      have hops : ∀ op ∈ MemOp.ofEvents (base + i) g.frame.fn g.frame.place #[rd (nA B0), wr (nA B0)], ∀ x, op.act.touch? = some x → x.loc = .cell (nA B0) ∧ x.kind = .atomic := by
        intro op hop x hx
        obtain ⟨e, he, rfl⟩ := Go.Conc.mem_ofEvents hop
        rcases hev e he with rfl | rfl <;> simp [rd, wr, MemAct.ofEvent, MemAct.touch?] at hx <;> subst hx <;> exact ⟨rfl, rfl⟩
      refine ⟨g', _, _, upd D i ⟨7, M2, 0⟩, upd Ad i true, st, sm, tag, hgo, h.stepW hi (fun i' _ _ => ?_) (.go (.r0 hk)) (fun op hop => ?_) ?_ ?_ (fun h => by omega) ?_ ?_ (h.wg.of_block (hA.block _ (by omega))) ?_ hA.size (fun op hop x hx => ?_), less_fuel hi hst.symm (by rw [hfu]; dsimp only; omega), Vc_le_upd hi (by simp [cnt, hst]), sim_setCell (.inl (.inr (.inl rfl))) _, .inl rfl⟩
      · exact ⟨fun b hb _ _ => hA.block b (by omega), fun ⟨st, sm, hl⟩ => ⟨st, sm, hl.of_block (hA.block _ (by omega))⟩, fun ⟨cs, hc, hn⟩ => ⟨cs, (hA.block _ (by omega)).trans hc, hn⟩, cell_of_block (hA.block _ (by omega)) 0⟩
      · refine ⟨by obtain ⟨e, _, rfl⟩ := Go.Conc.mem_ofEvents hop; rfl, fun x hx => .inl ?_⟩
        obtain ⟨h1, h2⟩ := hops op hop x hx
        exact ⟨⟨nA B0, h1, .inr (.inl rfl)⟩, by rw [h2]; simp, by rw [h2]; simp⟩
      · intro e he
        rcases hev e he with rfl | rfl <;> simp [rd, wr]
      · rw [hde]; rfl
      · obtain ⟨cs, h1, h2⟩ := h.box i hi
        exact ⟨cs, (hA.block _ (by omega)).trans h1, h2⟩
      · rw [hb, ← Nat.add_assoc]
        have h1 := h.noted
        unfold NAt at h1 ⊢
        have hlt1 : B0 + 1 < w.heap.size := by omega
        simp only [World.setCell, nA, Array.getElem?_modify, if_true, h1, Option.map_some]
        rfl
      · have := h.mode.same (i := i) M2 0
        rwa [hst] at this
      · obtain ⟨h1, _⟩ := hops op hop x hx
        rw [h1]
        show B0 + 1 < _
        omega
    · obtain ⟨g', w', es, hgo, hD, hg'⟩ := hstep w (RWk.refl i w)
      exact h.work hi hgo hD hst hde (by rw [had]; exact .pre hg') (by rw [hfu]; omega)
  | go hs =>
    cases hs with
    | r0 hp =>
      rcases Goes.cases hp with hstop | ⟨m', rfl, hstep⟩
      · obtain ⟨_, hhas, g', hgo, m₂, hk⟩ := hstop w (RW.refl w)
        have hev : ∀ e ∈ #[Go.ConcR.mk (.releaseMerge (stA (B0 + 2)))], e = Go.ConcR.mk (.releaseMerge (stA (B0 + 2))) := by intro e he; simpa using he
        have hnt : ∀ op ∈ MemOp.ofEvents (base + i) g.frame.fn g.frame.place #[Go.ConcR.mk (.releaseMerge (stA (B0 + 2)))], op.act.touch? = none := by
          intro op hop
          obtain ⟨e, he, rfl⟩ := Go.Conc.mem_ofEvents hop
          rw [hev e he]; rfl
        refine ⟨g', w, _, upd D i ⟨6, m₂, 0⟩, upd Ad i true, st, sm, tag, hgo, h.stepW hi (fun i' _ _ => RWk.refl i' w) (.go (.k1 hk)) (fun op hop => ?_) ?_ ?_ (fun _ => ⟨t.size, RelBy.new (by rw [h.deafW i hi, hde]) _ _, fun x b hx _ hb => by
          obtain ⟨op, ho, _⟩ := touch_of hb
          have := lt_size_of_getElem? ho
          rw [ofEvents_eq] at this
          simp at this
          omega⟩) (h.box i hi) ?_ h.wg (h.mode.counted hi (by omega) (.inl rfl) _ _) rfl (fun op hop x hx => by rw [hnt op hop] at hx; cases hx), less_stage hi (by show 6 < _; omega), Vc_le_upd hi (by simp [cnt, hst]), Sim.refl _ w, .inl rfl⟩
        · exact ⟨by obtain ⟨e, _, rfl⟩ := Go.Conc.mem_ofEvents hop; rfl, fun x hx => by rw [hnt op hop] at hx; cases hx⟩
        · intro e he
          rw [hev e he]; simp [Go.ConcR.mk]
        · rw [hde]; rfl
        · rw [bitsIn_same had]; exact h.noted
      · obtain ⟨g', w', es, hgo, hD, hg'⟩ := hstep w (RW.refl w)
        exact h.work hi hgo hD hst hde (by rw [had]; exact .go (.r0 hg')) (by rw [hfu]; omega)
    | k1 hp =>
      rcases Goes.cases hp with hstop | ⟨m', rfl, hstep⟩
      · obtain ⟨_, g', hgo, m₂, hk⟩ := hstop w (RW.refl w)
        exact h.book hi hgo (.refl _ w) h.wg (by intro e he; simp at he; subst he; exact .inl rfl) (by intro k e he; exact .inl (by have := Array.mem_of_getElem? he; simp at this; subst this; rfl)) had (.d1 hk) (by rw [hde]; rfl) (by omega) (h.mode.counted hi (by omega) (.inr rfl) _ _) (.inl ⟨by omega, by simp [cnt, hst]⟩) (.inl rfl)
      · obtain ⟨g', w', es, hgo, ⟨rfl, rfl⟩, hg'⟩ := hstep w (RW.refl w)
        exact h.book hi hgo (.refl _ _) h.wg (by simp) (by simp) had (.k1 hg') (by rw [hde]; rfl) (by omega) (by have := h.mode.same (i := i) m' 0; rwa [hst] at this) (.inr ⟨hst.symm, by rw [hfu]; omega⟩) (.inl rfl)
    | d1 hp =>
      rcases Goes.cases hp with hstop | ⟨m', rfl, hstep⟩
      · obtain ⟨_, hall⟩ := hstop w (RW.refl w)
        obtain ⟨v, wt, hwt, hv, e1, e2, hl, hq⟩ := off_count h.mode hi hst hj
        have hwg := h.wg
        rw [e1, e2] at hwg
        obtain ⟨g', hgo, h1, h2⟩ := hall v wt hwt hv hwg
        have df : ∀ k e, (#[rd (stA (B0 + 2)), wr (stA (B0 + 2))] : Array Event)[k]? = some e → (MemAct.ofEvent e).touch? = none ∨ 0 < deafBehind (D i).deaf ((#[rd (stA (B0 + 2)), wr (stA (B0 + 2))] : Array Event).extract 0 k) := by
          intro k e he
          rw [hde]
          match k, he with
          | 0, _ => exact .inr (by simp [deafBehind])
          | 1, _ => exact .inr (by simp [deafBehind, rd])
          | k + 2, he => simp at he
        by_cases hc : v = 0 ∧ wt = 1
        · obtain ⟨m₂, hk⟩ := h1 hc
          exact h.book hi hgo (aside_setCell w (stA (B0 + 2)) _) (hwg.setSt _) (two _ rfl) df had (.d2 hk) (by rw [hde]; rfl) (by omega) (hl hc _) (.inl ⟨by omega, by simp [cnt]⟩) (.inl rfl)
        · obtain ⟨q', hk⟩ := h2 hc
          exact h.book hi hgo (aside_setCell w (stA (B0 + 2)) _) (hwg.setSt _) (two _ rfl) df had (.quit hk) (by rw [hde]; rfl) (by omega) (hq hc _) (.inl ⟨by omega, by simp [cnt]⟩) (.inl rfl)
      · obtain ⟨g', w', es, hgo, ⟨rfl, rfl⟩, hg'⟩ := hstep w (RW.refl w)
        exact h.book hi hgo (.refl _ _) h.wg (by simp) (by simp) had (.d1 hg') (by rw [hde]; rfl) (by omega) (by have := h.mode.same (i := i) m' 1; rwa [hst] at this) (.inr ⟨hst.symm, by rw [hfu]; omega⟩) (.inl rfl)
    | d2 hp =>
      rcases Goes.cases hp with hstop | ⟨m', rfl, hstep⟩
      · obtain ⟨_, hx⟩ := hstop w (RW.refl w)
        obtain ⟨e1, e2, _⟩ := last_on h.mode hi (by omega) (s' := 3) (.inl rfl) 0
        have hwg := h.wg
        rw [e1, e2] at hwg
        obtain ⟨g', hgo, m₂, hk⟩ := hx hwg
        obtain ⟨_, _, hm'⟩ := last_on h.mode hi (by omega) (s' := 3) (.inl rfl) m₂
        exact h.book hi hgo (.refl _ w) hwg (by intro e he; simp at he; subst he; exact bk_cell _ _ rfl) (by intro k e he; rw [hde]; match k, he with | 0, _ => exact .inr (by simp [deafBehind]) | k + 1, he => simp at he) had (.d3 hk) (by rw [hde]; rfl) (by omega) (by simpa using hm') (.inl ⟨by omega, by simp [cnt]⟩) (.inl rfl)
      · obtain ⟨g', w', es, hgo, ⟨rfl, rfl⟩, hg'⟩ := hstep w (RW.refl w)
        exact h.book hi hgo (.refl _ _) h.wg (by simp) (by simp) had (.d2 hg') (by rw [hde]; rfl) (by omega) (by have := h.mode.same (i := i) m' 1; rwa [hst] at this) (.inr ⟨hst.symm, by rw [hfu]; omega⟩) (.inl rfl)
    | d3 hp =>
      rcases Goes.cases hp with hstop | ⟨m', rfl, hstep⟩
      · obtain ⟨_, hx⟩ := hstop w (RW.refl w)
        obtain ⟨e1, e2, _⟩ := last_on h.mode hi (by omega) (s' := 2) (.inr rfl) 0
        have hwg := h.wg
        rw [e1, e2] at hwg
        obtain ⟨g', hgo, m₂, hk⟩ := hx hwg
        obtain ⟨_, _, hm'⟩ := last_on h.mode hi (by omega) (s' := 2) (.inr rfl) m₂
        exact h.book hi hgo (aside_setCell w (stA (B0 + 2)) _) (hwg.setSt 0) (by intro e he; simp at he; subst he; exact bk_cell _ _ rfl) (by intro k e he; rw [hde]; match k, he with | 0, _ => exact .inr (by simp [deafBehind]) | k + 1, he => simp at he) had (.d4 hk) (by rw [hde]; rfl) (by omega) (by simpa using hm') (.inl ⟨by omega, by simp [cnt]⟩) (.inl rfl)
      · obtain ⟨g', w', es, hgo, ⟨rfl, rfl⟩, hg'⟩ := hstep w (RW.refl w)
        exact h.book hi hgo (.refl _ _) h.wg (by simp) (by simp) had (.d3 hg') (by rw [hde]; rfl) (by omega) (by have := h.mode.same (i := i) m' 1; rwa [hst] at this) (.inr ⟨hst.symm, by rw [hfu]; omega⟩) (.inl rfl)
    | d4 hp =>
      rcases Goes.cases hp with hstop | ⟨m', rfl, hstep⟩
      · obtain ⟨_, hmw, hx⟩ := hstop w (RW.refl w)
        obtain ⟨e1, e2, _, _⟩ := last_up h.mode hi hst 0
        have hwg := h.wg
        rw [e1, e2] at hwg
        obtain ⟨g', hgo, q', hk⟩ := hx hwg
        obtain ⟨_, _, h3, hm'⟩ := last_up h.mode hi hst q'
        have hwake : ∀ x, woken P g g' (w.setCell (smA (B0 + 2)) (.int .u32 1)) x = x.again (w.setCell (smA (B0 + 2)) (.int .u32 1)) := fun x => by
          unfold Go.Conc.woken
          rcases hk.status with e | e <;> simp [hmw, e]
        refine h.book hi hgo (aside_setCell w (smA (B0 + 2)) _) (hwg.setSm 1) bk_sem ?_ had (.quit hk) (by rw [hde]; simp [deafBehind, semEvents]) (by omega) hm' (.inl ⟨by omega, by simp [cnt]⟩) ?_
        · intro k e he
          rw [hde]
          match k, he with
          | 0, he => simp [semEvents] at he; subst he; exact .inl rfl
          | 1, _ => exact .inr (by simp [deafBehind, semEvents])
          | 2, _ => exact .inr (by simp [deafBehind, semEvents])
          | 3, he => simp [semEvents] at he; subst he; exact .inl rfl
          | k + 4, he => simp [semEvents] at he
        · cases tag <;> first | exact h3.elim | exact .inl rfl | exact .inr ⟨rfl, rfl, hwake⟩
      · obtain ⟨g', w', es, hgo, ⟨rfl, rfl⟩, hg'⟩ := hstep w (RW.refl w)
        exact h.book hi hgo (.refl _ _) h.wg (by simp) (by simp) had (.d4 hg') (by rw [hde]; rfl) (by omega) (by have := h.mode.same (i := i) m' 1; rwa [hst] at this) (.inr ⟨hst.symm, by rw [hfu]; omega⟩) (.inl rfl)
    | quit hq =>
      cases m with
      | zero => rw [hq.1] at hrun; cases hrun
      | succ k =>
        rcases hq with ⟨hf, _⟩ | ⟨_, g', es, hmute, hstep, hq'⟩
        · rw [hf] at hrun; cases hrun
        · have hbk : ∀ e ∈ es, Bk (B0 + 2) e := fun e he => bk_of_mute (hmute e he)
          exact h.book hi (hstep w) (.refl _ w) h.wg hbk (fun k e he => .inl (touch_mute (hmute e (Array.mem_of_getElem? he)))) had (.quit hq') (by rw [hde]) (by omega) (by have := h.mode.same (i := i) k (deafBehind dd es); rwa [hst] at this) (.inr ⟨hst.symm, by rw [hfu]; omega⟩) (.inl rfl)
end
end Go.Proofs.Yteaincbmnhehcab
