/- A worker's step, whichever it is. The others go on till the starter's turn comes. -/
import Derived.Test.YtdafpnpfcmgfcaaGreatDoorKe07
namespace Go.Proofs.YtdafpnpfcmgfcaaGreatDoor
section
open Go Go.Conc Go.ConcN
open Go.ConcR (KK wgBlock WgAt stA smA rd wr mk Payload DC0 Bk g_of_ofEvents ofEvent_loc_mark bk_of_mute)
section
variable [Payload] {P : Program} {ty nty : TypeId} {S : Sh} {B0 base : Nat} {bit : Nat → Nat}
variable {j : Nat} {tag : CTag} {d0 T0 N0 : Nat} {gs : Array Goroutine} {w : World} {t : Trace} {D : Nat → WD} {Ad : Nat → Bool} {q : Nat → Nat} {st sm : Int}
def Onward (P : Program) (ty nty : TypeId) (S : Sh) (B0 base : Nat) (bit : Nat → Nat) (j : Nat) (tag : CTag) (d0 T0 N0 : Nat) (gs : Array Goroutine) (w : World) (t : Trace) (D : Nat → WD) (q : Nat → Nat) (i : Nat) (g : Goroutine) : Prop :=
 ∃ g' w' es D' Ad' st' sm' tag', stepG P false g w = .go g' w' es ∧ Cw P ty nty S B0 base bit j tag' d0 T0 N0 ((gs.map (woken P g g' w')).setIfInBounds (base + i) g') w' (t ++ MemOp.ofEvents (base + i) g.frame.fn g.frame.place es) D' Ad' q st' sm' ∧
  Less j D' D ∧ Vc j D' ≤ Vc j D ∧ Sim (SJ S B0 j) w w' ∧ (tag' = tag ∨ (tag = .blk ∧ tag' = .w3 ∧ ∀ x, woken P g g' w' x = x.again w'))
theorem Cw.book (h : Cw P ty nty S B0 base bit j tag d0 T0 N0 gs w t D Ad q st sm) {i : Nat} (hi : i < j) {g g' : Goroutine} {w' : World} {es : Array Event} {s' m' dd' : Nat} {st' sm' : Int} {tag' : CTag} (hgo : stepG P false g w = .go g' w' es)
  (hA : Aside (B0 + 2) w w') (hwg : WgAt ty (B0 + 2) w' st' sm') (hbk : ∀ e ∈ es, Bk (B0 + 2) e) (hd : ∀ k e, es[k]? = some e → (MemAct.ofEvent e).touch? = none ∨ 0 < deafBehind (D i).deaf (es.extract 0 k)) (had : Ad i = true)
  (hs' : WSit P ty (B0 + 2) (B0 + 3 + i) 1 NoOwn (RdW S B0 base i) (B0 + 1) 1 (.int .i64 i) s' m' dd' g' w') (hdd : deafBehind (D i).deaf es = dd') (h6 : (D i).stage ≤ 6) (hmode : Go.ConcN.Mode j (upd D i ⟨s', m', dd'⟩) tag' st' sm')
  (hless : (s' < (D i).stage ∧ cnt ⟨s', m', dd'⟩ ≤ cnt (D i)) ∨ (s' = (D i).stage ∧ m' < (D i).fuel)) (htag : tag' = tag ∨ (tag = .blk ∧ tag' = .w3 ∧ ∀ x, woken P g g' w' x = x.again w')) : Onward P ty nty S B0 base bit j tag d0 T0 N0 gs w t D q i g := by
 have hroom := h.room
 refine ⟨g', w', es, upd D i ⟨s', m', dd'⟩, upd Ad i true, st', sm', tag', hgo, h.stepW hi (fun i' _ _ => wg_rwk hA hwg) (.go hs') (okW_bk hbk) (norel_of_Bk hbk) hdd (fun _ => ?_) ?_ ?_ hwg hmode hA.size (low_bk hbk (by omega)), ?_, ?_, ?_, htag⟩
 ·obtain ⟨r, hr, hr'⟩ := h.rel i hi h6
  refine ⟨r, hr.book (h.deafW i hi) _ _ hbk hd, after_app hr' fun op hop _ b hb => ?_⟩
  obtain ⟨_, h2⟩ := okW_of_Bk (Own := NoOwn) (Rd := NoOwn) hbk op hop
  rcases h2 b hb with ⟨⟨x, h3, h4⟩, _⟩ | h3 | h3
  ·exact ⟨x, h3, Or.inr (Or.inr h4)⟩
  ·exact h3.elim
  ·exact h3.1.elim
 ·obtain ⟨cs, h1, h2⟩ := h.box i hi
  exact ⟨cs, (hA.block _ (by omega)).trans h1, h2⟩
 ·rw [bitsIn_same had]
  exact noted_aside h.noted (hA.block _ (by omega))
 ·rcases hless with ⟨h1, _⟩ | ⟨h1, h2⟩
  ·exact less_stage hi h1
  ·exact less_fuel hi h1 h2
 ·rcases hless with ⟨_, h1⟩ | ⟨h1, _⟩
  ·exact Vc_le_upd hi h1
  ·exact Vc_le_upd hi (by simp only [cnt, h1]; exact Nat.le_refl _)
 ·refine sim_cells hA.size hA.os hA.output (fun b hb => hA.block b fun e => hb (Or.inl (Or.inr (Or.inr e)))) (fun b _ => ?_)
  by_cases e : b = B0 + 2
  ·subst e
   right
   intro c t f hc
   have h1 := h.wg
   unfold WgAt wgBlock at h1 hwg
   rw [h1] at hc
   cases hc
   exact ⟨_, hwg⟩
  ·exact Or.inl (hA.block b e)
theorem Cw.work (h : Cw P ty nty S B0 base bit j tag d0 T0 N0 gs w t D Ad q st sm) {i : Nat} (hi : i < j) {g g' : Goroutine} {w' : World} {es : Array Event} {m' : Nat} (hgo : stepG P false g w = .go g' w' es) (hD : DWk S B0 base i w w' es) (hst : (D i).stage = 7) (hde : (D i).deaf = 0)
  (hs' : WkS P ty nty S B0 base bit i (Ad i) 7 m' 0 g' w') (hm : m' < (D i).fuel) : Onward P ty nty S B0 base bit j tag d0 T0 N0 gs w t D q i g := by
 obtain ⟨hA, hev⟩ := hD
 simp only [Nat.sub_self] at hA
 have hroom := h.room
 refine ⟨g', w', es, upd D i ⟨7, m', 0⟩, upd Ad i (Ad i), st, sm, tag, hgo, h.stepW hi (fun i' _ e => aside_rwk hA e) hs' (okW_of hev) (fun e he => (hev e he).2.2.2) ?_ (fun h => by omega) (hA.pay (h.box i hi)) ?_ (h.wg.of_block (hA.block _ (by omega))) ?_ hA.size (low_evW hev (by omega)), less_fuel hi hst.symm hm, Vc_le_upd hi (by simp [cnt, hst]), aside_sim hA hi (h.box i hi), Or.inl rfl⟩
 ·rw [hde]
  exact deafBehind_still (fun e he => ⟨(hev e he).2.1, (hev e he).2.2.1⟩) 0
 ·rw [bitsIn_same rfl]
  exact noted_aside h.noted (hA.block _ (by omega))
 ·have := h.mode.same (i := i) m' 0
  rwa [hst] at this
set_option maxHeartbeats 1000000 in
theorem Cw.worker (h : Cw P ty nty S B0 base bit j tag d0 T0 N0 gs w t D Ad q st sm) {i : Nat} (hi : i < j) {g : Goroutine} (hg : gs[base + i]? = some g) (hrun : g.status = .running) (hj : j + pend tag < 2147483648) (hbits : ∀ Ad', N0 + bitsIn bit j Ad' < 4294967296) :
  Onward P ty nty S B0 base bit j tag d0 T0 N0 gs w t D q i g := by
 have hroom := h.room
 obtain ⟨g₁, hg₁, hs⟩ := h.wk i hi
 obtain rfl : g = g₁ := by rw [hg] at hg₁; exact Option.some.inj hg₁
 generalize had : Ad i = ad at hs
 generalize hst : (D i).stage = s at hs
 generalize hfu : (D i).fuel = m at hs
 generalize hde : (D i).deaf = dd at hs
 have two : ∀ a : Addr, a.block = B0 + 2 → ∀ e ∈ #[rd a, wr a], Bk (B0 + 2) e := by
  intro a ha e he
  simp at he
  rcases he with rfl | rfl <;> exact bk_cell _ _ ha
 cases hs with
 | @pre M2 m0 _ _ hp =>
  rcases Goes.cases hp with hstop | ⟨m', rfl, hstep⟩
  ·-- it adds its bit
   obtain ⟨_, hadd⟩ := hstop w (RWk.refl i w)
   have hb := bitsIn_upd (bit := bit) hi had
   have hlt := hbits (upd Ad i true)
   obtain ⟨g', hgo, hk⟩ := hadd _ (by omega) h.noted
   have hA : Aside (B0 + 1) w (w.setCell (nA B0) (.int .u32 ((N0 + bitsIn bit j Ad + bit i : Nat) : Int))) := aside_setCell w (nA B0) _
   have hev : ∀ e ∈ #[rd (nA B0), wr (nA B0)], e = rd (nA B0) ∨ e = wr (nA B0) := by intro e he; simpa using he
   have hops : ∀ op ∈ MemOp.ofEvents (base + i) g.frame.fn g.frame.place #[rd (nA B0), wr (nA B0)], ∀ x, op.act.touch? = some x → x.loc = .cell (nA B0) ∧ x.kind = .atomic := by
    intro op hop x hx
    obtain ⟨e, he, rfl⟩ := Go.Conc.mem_ofEvents hop
    rcases hev e he with rfl | rfl <;> simp [rd, wr, MemAct.ofEvent, MemAct.touch?] at hx <;> subst hx <;> exact ⟨rfl, rfl⟩
   refine ⟨g', _, _, upd D i ⟨7, M2, 0⟩, upd Ad i true, st, sm, tag, hgo, h.stepW hi (fun i' _ _ => ?_) (.go (.r0 hk)) (fun op hop => ?_) ?_ ?_ (fun h => by omega) ?_ ?_ (h.wg.of_block (hA.block _ (by omega))) ?_ hA.size (fun op hop x hx => ?_), less_fuel hi hst.symm (by rw [hfu]; dsimp only; omega), Vc_le_upd hi (by simp [cnt, hst]), sim_setCell (Or.inl (Or.inr (Or.inl rfl))) _, Or.inl rfl⟩
   ·exact ⟨fun b hb _ _ => hA.block b (by omega), fun ⟨st, sm, hl⟩ => ⟨st, sm, hl.of_block (hA.block _ (by omega))⟩, fun ⟨cs, hc, hn⟩ => ⟨cs, (hA.block _ (by omega)).trans hc, hn⟩, cell_of_block (hA.block _ (by omega)) 0⟩
   ·refine ⟨by obtain ⟨e, _, rfl⟩ := Go.Conc.mem_ofEvents hop; rfl, fun x hx => Or.inl ?_⟩
    obtain ⟨h1, h2⟩ := hops op hop x hx
    exact ⟨⟨nA B0, h1, Or.inr (Or.inl rfl)⟩, by rw [h2]; simp, by rw [h2]; simp⟩
   ·intro e he
    rcases hev e he with rfl | rfl <;> simp [rd, wr]
   ·rw [hde]; rfl
   ·obtain ⟨cs, h1, h2⟩ := h.box i hi
    exact ⟨cs, (hA.block _ (by omega)).trans h1, h2⟩
   ·rw [hb, ← Nat.add_assoc]
    have h1 := h.noted
    unfold NAt at h1 ⊢
    have hlt1 : B0 + 1 < w.heap.size := by omega
    simp only [World.setCell, nA, Array.getElem?_modify, if_true, h1, Option.map_some]
    rfl
   ·have := h.mode.same (i := i) M2 0
    rwa [hst] at this
   ·obtain ⟨h1, _⟩ := hops op hop x hx
    rw [h1]
    show B0 + 1 < _
    omega
  ·obtain ⟨g', w', es, hgo, hD, hg'⟩ := hstep w (RWk.refl i w)
   exact h.work hi hgo hD hst hde (by rw [had]; exact .pre hg') (by rw [hfu]; omega)
 | go hs =>
  cases hs with
  | r0 hp =>
   rcases Goes.cases hp with hstop | ⟨m', rfl, hstep⟩
   ·obtain ⟨_, hhas, g', hgo, m₂, hk⟩ := hstop w (RW.refl w)
    have hev : ∀ e ∈ #[Go.ConcR.mk (.releaseMerge (stA (B0 + 2)))], e = Go.ConcR.mk (.releaseMerge (stA (B0 + 2))) := by intro e he; simpa using he
    have hnt : ∀ op ∈ MemOp.ofEvents (base + i) g.frame.fn g.frame.place #[Go.ConcR.mk (.releaseMerge (stA (B0 + 2)))], op.act.touch? = none := by
     intro op hop
     obtain ⟨e, he, rfl⟩ := Go.Conc.mem_ofEvents hop
     rw [hev e he]; rfl
    refine ⟨g', w, _, upd D i ⟨6, m₂, 0⟩, upd Ad i true, st, sm, tag, hgo, h.stepW hi (fun i' _ _ => RWk.refl i' w) (.go (.k1 hk)) (fun op hop => ?_) ?_ ?_ (fun _ => ⟨t.size, RelBy.new (by rw [h.deafW i hi, hde]) _ _, fun x b hx _ hb => by
     obtain ⟨op, ho, _⟩ := touch_of hb
     have := lt_size_of_getElem? ho
     rw [ofEvents_eq] at this
     simp at this
     omega⟩) (h.box i hi) ?_ h.wg (h.mode.counted hi (by omega) (Or.inl rfl) _ _) rfl (fun op hop x hx => by rw [hnt op hop] at hx; cases hx), less_stage hi (by show 6 < _; omega), Vc_le_upd hi (by simp [cnt, hst]), Sim.refl _ w, Or.inl rfl⟩
    ·exact ⟨by obtain ⟨e, _, rfl⟩ := Go.Conc.mem_ofEvents hop; rfl, fun x hx => by rw [hnt op hop] at hx; cases hx⟩
    ·intro e he
     rw [hev e he]; simp [Go.ConcR.mk]
    ·rw [hde]; rfl
    ·rw [bitsIn_same had]; exact h.noted
   ·obtain ⟨g', w', es, hgo, hD, hg'⟩ := hstep w (RW.refl w)
    exact h.work hi hgo hD hst hde (by rw [had]; exact .go (.r0 hg')) (by rw [hfu]; omega)
  | k1 hp =>
   rcases Goes.cases hp with hstop | ⟨m', rfl, hstep⟩
   ·obtain ⟨_, g', hgo, m₂, hk⟩ := hstop w (RW.refl w)
    exact h.book hi hgo (.refl _ w) h.wg (by intro e he; simp at he; subst he; exact Or.inl rfl) (by intro k e he; exact Or.inl (by have := Array.mem_of_getElem? he; simp at this; subst this; rfl)) had (.d1 hk) (by rw [hde]; rfl) (by omega) (h.mode.counted hi (by omega) (Or.inr rfl) _ _) (Or.inl ⟨by omega, by simp [cnt, hst]⟩) (Or.inl rfl)
   ·obtain ⟨g', w', es, hgo, ⟨rfl, rfl⟩, hg'⟩ := hstep w (RW.refl w)
    exact h.book hi hgo (.refl _ _) h.wg (by simp) (by simp) had (.k1 hg') (by rw [hde]; rfl) (by omega) (by have := h.mode.same (i := i) m' 0; rwa [hst] at this) (Or.inr ⟨hst.symm, by rw [hfu]; omega⟩) (Or.inl rfl)
  | d1 hp =>
   rcases Goes.cases hp with hstop | ⟨m', rfl, hstep⟩
   ·obtain ⟨_, hall⟩ := hstop w (RW.refl w)
    obtain ⟨v, wt, hwt, hv, e1, e2, hl, hq⟩ := off_count h.mode hi hst hj
    have hwg := h.wg
    rw [e1, e2] at hwg
    obtain ⟨g', hgo, h1, h2⟩ := hall v wt hwt hv hwg
    have df : ∀ k e, (#[rd (stA (B0 + 2)), wr (stA (B0 + 2))] : Array Event)[k]? = some e → (MemAct.ofEvent e).touch? = none ∨ 0 < deafBehind (D i).deaf ((#[rd (stA (B0 + 2)), wr (stA (B0 + 2))] : Array Event).extract 0 k) := by
     intro k e he
     rw [hde]
     match k, he with
     | 0, _ => exact Or.inr (by simp [deafBehind])
     | 1, _ => exact Or.inr (by simp [deafBehind, rd])
     | k + 2, he => simp at he
    by_cases hc : v = 0 ∧ wt = 1
    ·obtain ⟨m₂, hk⟩ := h1 hc
     exact h.book hi hgo (aside_setCell w (stA (B0 + 2)) _) (hwg.setSt _) (two _ rfl) df had (.d2 hk) (by rw [hde]; rfl) (by omega) (hl hc _) (Or.inl ⟨by omega, by simp [cnt]⟩) (Or.inl rfl)
    ·obtain ⟨q', hk⟩ := h2 hc
     exact h.book hi hgo (aside_setCell w (stA (B0 + 2)) _) (hwg.setSt _) (two _ rfl) df had (.quit hk) (by rw [hde]; rfl) (by omega) (hq hc _) (Or.inl ⟨by omega, by simp [cnt]⟩) (Or.inl rfl)
   ·obtain ⟨g', w', es, hgo, ⟨rfl, rfl⟩, hg'⟩ := hstep w (RW.refl w)
    exact h.book hi hgo (.refl _ _) h.wg (by simp) (by simp) had (.d1 hg') (by rw [hde]; rfl) (by omega) (by have := h.mode.same (i := i) m' 1; rwa [hst] at this) (Or.inr ⟨hst.symm, by rw [hfu]; omega⟩) (Or.inl rfl)
  | d2 hp =>
   rcases Goes.cases hp with hstop | ⟨m', rfl, hstep⟩
   ·obtain ⟨_, hx⟩ := hstop w (RW.refl w)
    obtain ⟨e1, e2, _⟩ := last_on h.mode hi (by omega) (s' := 3) (Or.inl rfl) 0
    have hwg := h.wg
    rw [e1, e2] at hwg
    obtain ⟨g', hgo, m₂, hk⟩ := hx hwg
    obtain ⟨_, _, hm'⟩ := last_on h.mode hi (by omega) (s' := 3) (Or.inl rfl) m₂
    exact h.book hi hgo (.refl _ w) hwg (by intro e he; simp at he; subst he; exact bk_cell _ _ rfl) (by intro k e he; rw [hde]; match k, he with | 0, _ => exact Or.inr (by simp [deafBehind]) | k + 1, he => simp at he) had (.d3 hk) (by rw [hde]; rfl) (by omega) (by simpa using hm') (Or.inl ⟨by omega, by simp [cnt]⟩) (Or.inl rfl)
   ·obtain ⟨g', w', es, hgo, ⟨rfl, rfl⟩, hg'⟩ := hstep w (RW.refl w)
    exact h.book hi hgo (.refl _ _) h.wg (by simp) (by simp) had (.d2 hg') (by rw [hde]; rfl) (by omega) (by have := h.mode.same (i := i) m' 1; rwa [hst] at this) (Or.inr ⟨hst.symm, by rw [hfu]; omega⟩) (Or.inl rfl)
  | d3 hp =>
   rcases Goes.cases hp with hstop | ⟨m', rfl, hstep⟩
   ·obtain ⟨_, hx⟩ := hstop w (RW.refl w)
    obtain ⟨e1, e2, _⟩ := last_on h.mode hi (by omega) (s' := 2) (Or.inr rfl) 0
    have hwg := h.wg
    rw [e1, e2] at hwg
    obtain ⟨g', hgo, m₂, hk⟩ := hx hwg
    obtain ⟨_, _, hm'⟩ := last_on h.mode hi (by omega) (s' := 2) (Or.inr rfl) m₂
    exact h.book hi hgo (aside_setCell w (stA (B0 + 2)) _) (hwg.setSt 0) (by intro e he; simp at he; subst he; exact bk_cell _ _ rfl) (by intro k e he; rw [hde]; match k, he with | 0, _ => exact Or.inr (by simp [deafBehind]) | k + 1, he => simp at he) had (.d4 hk) (by rw [hde]; rfl) (by omega) (by simpa using hm') (Or.inl ⟨by omega, by simp [cnt]⟩) (Or.inl rfl)
   ·obtain ⟨g', w', es, hgo, ⟨rfl, rfl⟩, hg'⟩ := hstep w (RW.refl w)
    exact h.book hi hgo (.refl _ _) h.wg (by simp) (by simp) had (.d3 hg') (by rw [hde]; rfl) (by omega) (by have := h.mode.same (i := i) m' 1; rwa [hst] at this) (Or.inr ⟨hst.symm, by rw [hfu]; omega⟩) (Or.inl rfl)
  | d4 hp =>
   rcases Goes.cases hp with hstop | ⟨m', rfl, hstep⟩
   ·obtain ⟨_, hmw, hx⟩ := hstop w (RW.refl w)
    obtain ⟨e1, e2, _, _⟩ := last_up h.mode hi hst 0
    have hwg := h.wg
    rw [e1, e2] at hwg
    obtain ⟨g', hgo, q', hk⟩ := hx hwg
    obtain ⟨_, _, h3, hm'⟩ := last_up h.mode hi hst q'
    have hwake : ∀ x, woken P g g' (w.setCell (smA (B0 + 2)) (.int .u32 1)) x = x.again (w.setCell (smA (B0 + 2)) (.int .u32 1)) := fun x => by
     unfold Go.Conc.woken
     rcases hk.status with e | e <;> simp [hmw, e]
    refine h.book hi hgo (aside_setCell w (smA (B0 + 2)) _) (hwg.setSm 1) bk_sem ?_ had (.quit hk) (by rw [hde]; simp [deafBehind, semEvents]) (by omega) hm' (Or.inl ⟨by omega, by simp [cnt]⟩) ?_
    ·intro k e he
     rw [hde]
     match k, he with
     | 0, he => simp [semEvents] at he; subst he; exact Or.inl rfl
     | 1, _ => exact Or.inr (by simp [deafBehind, semEvents])
     | 2, _ => exact Or.inr (by simp [deafBehind, semEvents])
     | 3, he => simp [semEvents] at he; subst he; exact Or.inl rfl
     | k + 4, he => simp [semEvents] at he
    ·cases tag <;> first | exact h3.elim | exact Or.inl rfl | exact Or.inr ⟨rfl, rfl, hwake⟩
   ·obtain ⟨g', w', es, hgo, ⟨rfl, rfl⟩, hg'⟩ := hstep w (RW.refl w)
    exact h.book hi hgo (.refl _ _) h.wg (by simp) (by simp) had (.d4 hg') (by rw [hde]; rfl) (by omega) (by have := h.mode.same (i := i) m' 1; rwa [hst] at this) (Or.inr ⟨hst.symm, by rw [hfu]; omega⟩) (Or.inl rfl)
  | quit hq =>
   cases m with
   | zero => rw [hq.1] at hrun; cases hrun
   | succ k =>
    rcases hq with ⟨hf, _⟩ | ⟨_, g', es, hmute, hstep, hq'⟩
    ·rw [hf] at hrun; cases hrun
    ·have hbk : ∀ e ∈ es, Bk (B0 + 2) e := fun e he => bk_of_mute (hmute e he)
     exact h.book hi (hstep w) (.refl _ w) h.wg hbk (fun k e he => Or.inl (touch_mute (hmute e (Array.mem_of_getElem? he)))) had (.quit hq') (by rw [hde]) (by omega) (by have := h.mode.same (i := i) k (deafBehind dd es); rwa [hst] at this) (Or.inr ⟨hst.symm, by rw [hfu]; omega⟩) (Or.inl rfl)
end
end
section
open Go Go.Conc Go.ConcN
open Go.ConcR (KK wgBlock WgAt stA smA rd wr Payload DC0 Bk g_of_ofEvents again_blocked)
def MLt (j base : Nat) (D' : Nat → WD) (q' : Nat → Nat) (D : Nat → WD) (q : Nat → Nat) : Prop :=
 Ssum j D' < Ssum j D ∨ (Ssum j D' = Ssum j D ∧ Fsum j D' + sumTo base q' < Fsum j D + sumTo base q)
theorem MLt.trans {j base : Nat} {D D' D2 : Nat → WD} {q q' q2 : Nat → Nat} (h : MLt j base D2 q2 D' q') (h' : MLt j base D' q' D q) : MLt j base D2 q2 D q := by
 unfold MLt at *; omega
theorem MLt.induct {j base : Nat} {C : (Nat → WD) → (Nat → Nat) → Prop} (h : ∀ D q, (∀ D' q', MLt j base D' q' D q → C D' q') → C D q) : ∀ D q, C D q := by
 have key : ∀ A B D q, Ssum j D < A → Fsum j D + sumTo base q < B → C D q := by
  intro A
  induction A with
  | zero => exact fun B D q h => absurd h (Nat.not_lt_zero _)
  | succ A ihA =>
   intro B
   induction B with
   | zero => exact fun D q _ h => absurd h (Nat.not_lt_zero _)
   | succ B ihB =>
    intro D q hA hB
    refine h D q fun D' q' hlt => ?_
    rcases hlt with hlt | ⟨h1, h2⟩
    ·exact ihA _ D' q' (by omega) (Nat.lt_succ_self _)
    ·exact ihB D' q' (by omega) (by omega)
 exact fun D q => key _ _ D q (Nat.lt_succ_self _) (Nat.lt_succ_self _)
section
variable [Payload] {P : Program} {ty nty : TypeId} {S : Sh} {B0 base : Nat} {bit : Nat → Nat}
variable {j : Nat} {tag : CTag} {d0 T0 N0 : Nat} {gs : Array Goroutine} {w : World} {t : Trace} {D : Nat → WD} {Ad : Nat → Bool} {q : Nat → Nat} {st sm : Int}
theorem Cw.at (h : Cw P ty nty S B0 base bit j tag d0 T0 N0 gs w t D Ad q st sm) (d : Nat) : Cw P ty nty S B0 base bit j tag d0 T0 N0 gs (w.at d) t D Ad q st sm :=
 ⟨h.base1, h.size, h.old, fun i hi => let ⟨g, hg, hs⟩ := h.wk i hi; ⟨g, hg, hs.rely (RW.at w d)⟩, h.ct, h.norel, h.begun, h.deaf0, h.deafW, h.above, h.rel, h.early, h.box, h.noted, h.wg, h.mode, h.seen, h.kn, h.over, h.room⟩
theorem Cw.retag (h : Cw P ty nty S B0 base bit j .blk d0 T0 N0 gs w t D Ad q st sm) : Cw P ty nty S B0 base bit j .w3 d0 T0 N0 gs w t D Ad q st sm :=
 ⟨h.base1, h.size, h.old, h.wk, h.ct, h.norel, h.begun, h.deaf0, h.deafW, h.above, h.rel, h.early, h.box, h.noted, h.wg, h.mode.retag (Or.inr ⟨rfl, rfl⟩), h.seen, h.kn, h.over, h.room⟩
theorem Cw.other (h : Cw P ty nty S B0 base bit j tag d0 T0 N0 gs w t D Ad q st sm) {a : Goroutine} (h0 : gs[0]? = some a) (hj : j + pend tag < 2147483648) (hbits : ∀ Ad', N0 + bitsIn bit j Ad' < 4294967296) {x : Nat} {g : Goroutine} (hx : gs[x]? = some g) (hx0 : 0 < x) (hrun : g.status = .running) (sl : Option (Nat × Nat)) :
  ∃ gs' w' u D' Ad' q' st' sm' tag' a', runT P (crowd gs w sl) x = (.next (crowd gs' w' sl), u) ∧ gs'[0]? = some a' ∧ Cw P ty nty S B0 base bit j tag' d0 T0 N0 gs' w' (t ++ u) D' Ad' q' st' sm' ∧ MLt j base D' q' D q ∧ Vc j D' ≤ Vc j D ∧ Sim (SJ S B0 j) w w' ∧
   ((a' = a ∨ a' = a.again w') ∧ (tag' = tag ∨ (tag = .blk ∧ tag' = .w3 ∧ a' = a.again w'))) := by
 have hb := h.base1
 have hlt : x < gs.size := (Array.getElem?_eq_some_iff.1 hx).1
 have hx1 : (x == 0) = false := by simp; omega
 rcases Nat.lt_or_ge x base with hxb | hxb
 ·-- one that is only leaving
  have hq := h.old x g hx0 hxb hx
  cases hqi : q x with
  | zero => rw [hqi] at hq; rw [hq.1] at hrun; cases hrun
  | succ k =>
   rw [hqi] at hq
   rcases hq with ⟨hf, _⟩ | ⟨_, g', es, hm, hstp, hq'⟩
   ·rw [hf] at hrun; cases hrun
   have hrunT := runT_crowd_go (P := P) (sl := sl) (i := x) hx (by rw [hx1]; exact hstp w)
   refine ⟨_, w, _, D, Ad, upd q x k, st, sm, tag, _, hrunT, by rw [get_other (by omega), h0]; rfl, h.stepOld hx0 hxb hm hq', Or.inr ⟨rfl, ?_⟩, Nat.le_refl _, Sim.refl _ w, ?_, Or.inl rfl⟩
   ·have hsum : sumTo base (upd q x k) + (k + 1) = sumTo base q + k := by
     have := sumTo_upd q k id hxb
     simpa [hqi] using this
    omega
   ·unfold Go.Conc.woken
    split
    ·exact Or.inr rfl
    ·exact Or.inl rfl
 ·obtain ⟨i, rfl⟩ : ∃ i, x = base + i := ⟨x - base, by omega⟩
  have hi : i < j := by have := h.size; omega
  obtain ⟨g', w', es, D', Ad', st', sm', tag', hgo, hcw, hl, hv, hs, ht⟩ := h.worker hi hx hrun hj hbits
  have hrunT := runT_crowd_go (P := P) (sl := sl) (i := base + i) hx (by rw [hx1]; exact hgo)
  refine ⟨_, w', _, D', Ad', q, st', sm', tag', _, hrunT, by rw [get_other (by omega), h0]; rfl, hcw, ?_, hv, hs, ?_, ?_⟩
  ·rcases hl with hl | ⟨h1, h2⟩
   ·exact Or.inl hl
   ·exact Or.inr ⟨h1, by omega⟩
  ·unfold Go.Conc.woken
   split
   ·exact Or.inr rfl
   ·exact Or.inl rfl
  ·exact ht.imp id fun ⟨h1, h2, h3⟩ => ⟨h1, h2, h3 a⟩
theorem Cw.awake (h : Cw P ty nty S B0 base bit j tag d0 T0 N0 gs w t D Ad q st sm) {a : Goroutine} (h0 : gs[0]? = some a) (ha : a.status = .running ∨ a.status = .blocked) : ∀ x ∈ gs, awake x := by
 intro x hx
 obtain ⟨i, hi, rfl⟩ := Array.mem_iff_getElem.1 hx
 rcases Nat.eq_zero_or_pos i with rfl | hpos
 ·have : gs[0] = a := by simpa [Array.getElem?_eq_getElem hi] using h0
  rw [this]; exact awake_of (ha.imp id Or.inl)
 ·rcases Nat.lt_or_ge i base with hb | hb
  ·exact awake_of ((h.old i _ hpos hb (Array.getElem?_eq_getElem hi)).status.elim Or.inl fun x => Or.inr (Or.inr x))
  ·obtain ⟨k, rfl⟩ : ∃ k, i = base + k := ⟨i - base, by omega⟩
   obtain ⟨g, hg, hs⟩ := h.wk k (by have := h.size; omega)
   rw [Array.getElem?_eq_getElem hi] at hg
   cases hg
   exact awake_of (hs.status.elim Or.inl fun x => Or.inr (Or.inr x))
theorem Cw.turn {a : Goroutine} (hrun : a.status = .running) (hj : j + pend tag < 2147483648) (hbits : ∀ Ad', N0 + bitsIn bit j Ad' < 4294967296) (hne : tag ≠ .blk) : ∀ (D : Nat → WD) (q : Nat → Nat) (gs : Array Goroutine) (w : World) (t : Trace) (Ad : Nat → Bool) (st sm : Int) (sl : Option (Nat × Nat)),
  Cw P ty nty S B0 base bit j tag d0 T0 N0 gs w t D Ad q st sm → gs[0]? = some a →
  ∃ N gs' w' sl' t' D' Ad' q' st' sm' d sl2, runNT P N (crowd gs w sl) t = (.next (crowd gs' w' sl'), t') ∧ gs'[0]? = some a ∧ Cw P ty nty S B0 base bit j tag d0 T0 N0 gs' (w'.at d) t' D' Ad' q' st' sm' ∧ Sim (SJ S B0 j) w (w'.at d) ∧ Vc j D' ≤ Vc j D ∧
   (MLt j base D' q' D q ∨ (D' = D ∧ q' = q)) ∧ stepT P (crowd gs' w' sl') = runT P (crowd gs' (w'.at d) sl2) 0 := by
 refine MLt.induct (j := j) (base := base) fun D q ih => ?_
 intro gs w t Ad st sm sl h h0
 obtain ⟨x, g, d, sl', hx, hg, hst⟩ := crowd_pick (P := P) (w := w) (sl := sl) (h.awake h0 (Or.inl hrun)) ⟨0, a, h0, hrun⟩
 rcases Nat.eq_zero_or_pos x with rfl | hpos
 ·exact ⟨0, gs, w, sl, t, D, Ad, q, st, sm, d, sl', rfl, h0, h.at d, Sim.at _ w d, Nat.le_refl _, Or.inr ⟨rfl, rfl⟩, hst⟩
 ·obtain ⟨gs1, w1, u, D1, Ad1, q1, st1, sm1, tag1, a1, hr1, h01, h1, hlt, hv, hs1, ha1, ht1⟩ := (h.at d).other h0 hj hbits hx hpos hg sl'
  obtain rfl : a1 = a := by
   rcases ha1 with rfl | rfl
   ·rfl
   ·exact again_running _ (Or.inl hrun)
  obtain rfl : tag1 = tag := by
   rcases ht1 with h | ⟨h, _⟩
   ·exact h
   ·exact absurd h hne
  obtain ⟨N, gs2, w2, sl2, t2, D2, Ad2, q2, st2, sm2, d2, sl3, hr2, h02, h2, hs2, hv2, hlt2, hst2⟩ := ih D1 q1 hlt gs1 w1 _ Ad1 st1 sm1 sl' h1 h01
  refine ⟨N + 1, gs2, w2, sl2, t2, D2, Ad2, q2, st2, sm2, d2, sl3, by simp only [runNT, hst, hr1]; exact hr2, h02, h2, ((Sim.at _ w d).trans hs1).trans hs2, Nat.le_trans hv2 hv, ?_, hst2⟩
  rcases hlt2 with h | ⟨rfl, rfl⟩
  ·exact Or.inl (h.trans hlt)
  ·exact Or.inl hlt
theorem WkS.running {i : Nat} {ad : Bool} {s m d : Nat} {g : Goroutine} (h : WkS P ty nty S B0 base bit i ad s m d g w) (hs : s ≠ 1) : g.status = .running := by
 cases h with
 | pre h => exact Goes.running (fun _ _ x => x.1) w (RWk.refl i w) h
 | go h =>
  cases h with
  | r0 h => exact Goes.running (fun _ _ x => x.1) w (RW.refl w) h
  | k1 h => exact Goes.running (fun _ _ x => x.1) w (RW.refl w) h
  | d1 h => exact Goes.running (fun _ _ x => x.1) w (RW.refl w) h
  | d2 h => exact Goes.running (fun _ _ x => x.1) w (RW.refl w) h
  | d3 h => exact Goes.running (fun _ _ x => x.1) w (RW.refl w) h
  | d4 h => exact Goes.running (fun _ _ x => x.1) w (RW.refl w) h
  | quit _ => exact absurd rfl hs
theorem Cw.woke {a : Goroutine} (hrun : a.status = .running) (hof : a.offers = none) (hj : j < 2147483648) (hbits : ∀ Ad', N0 + bitsIn bit j Ad' < 4294967296) : ∀ (D : Nat → WD) (q : Nat → Nat) (gs : Array Goroutine) (w : World) (t : Trace) (Ad : Nat → Bool) (st sm : Int) (sl : Option (Nat × Nat)),
  Cw P ty nty S B0 base bit j .blk d0 T0 N0 gs w t D Ad q st sm → gs[0]? = some { a with status := .blocked } →
  ∃ N gs' w' sl' t' D' Ad' q' st' sm', runNT P N (crowd gs w sl) t = (.next (crowd gs' w' sl'), t') ∧ gs'[0]? = some a ∧ Cw P ty nty S B0 base bit j .w3 d0 T0 N0 gs' w' t' D' Ad' q' st' sm' ∧ Sim (SJ S B0 j) w w' ∧ Vc j D' ≤ Vc j D ∧ MLt j base D' q' D q := by
 refine MLt.induct (j := j) (base := base) fun D q ih => ?_
 intro gs w t Ad st sm sl h h0
 have hsome : ∃ i, i < j ∧ (D i).stage ≠ 1 := by
  have hm := h.mode
  cases hm with
  | opn h1 _ _ => exact h1.elim
  | reg _ _ h3 =>
   refine Classical.byContradiction fun hn => ?_
   have h0 : Vc j D = 0 := by
    have : Vc j D = sumTo j (fun _ => 0) := sumTo_congr fun i hi => by
     have : (D i).stage = 1 := Classical.byContradiction fun h => hn ⟨i, hi, h⟩
     simp [cnt, this]
    rw [this]
    have := sumTo_le (f := fun _ => 0) (c := 0) (j := j) fun _ _ => Nat.le_refl _
    omega
   omega
  | last L _ h2 h3 _ => exact ⟨L, h2, by omega⟩
  | fin h1 _ => exact h1.elim
 obtain ⟨i, hi, hs1⟩ := hsome
 obtain ⟨gi, hgi, hsi⟩ := h.wk i hi
 obtain ⟨x, g, d, sl', hx, hg, hst⟩ := crowd_pick (P := P) (w := w) (sl := sl) (h.awake h0 (Or.inr rfl)) ⟨base + i, gi, hgi, hsi.running hs1⟩
 have hpos : 0 < x := by
  rcases Nat.eq_zero_or_pos x with rfl | hp
  ·rw [h0] at hx; cases hx; cases hg
  ·exact hp
 obtain ⟨gs1, w1, u, D1, Ad1, q1, st1, sm1, tag1, a1, hr1, h01, h1, hlt, hv, hs1', ha1, ht1⟩ := (h.at d).other h0 (by simpa [pend] using hj) hbits hx hpos hg sl'
 have hag : ({ a with status := .blocked } : Goroutine).again w1 = a := again_blocked hrun hof w1
 have hsim := (Sim.at _ w d).trans hs1'
 by_cases hw : a1 = a
 ·subst hw
  refine ⟨1, gs1, w1, sl', _, D1, Ad1, q1, st1, sm1, by simp only [runNT, hst, hr1]; rfl, h01, ?_, hsim, hv, hlt⟩
  rcases ht1 with rfl | ⟨_, rfl, _⟩
  ·exact h1.retag
  ·exact h1
 ·have e1 : a1 = { a with status := .blocked } := by
   rcases ha1 with h | h
   ·exact h
   ·exact absurd (h.trans hag) hw
  subst e1
  have e2 : tag1 = .blk := by
   rcases ht1 with h | ⟨_, _, h⟩
   ·exact h
   ·exact absurd (h.trans hag) hw
  subst e2
  obtain ⟨N, gs2, w2, sl2, t2, D2, Ad2, q2, st2, sm2, hr2, h02, h2, hs2, hv2, hlt2⟩ := ih D1 q1 hlt gs1 w1 _ Ad1 st1 sm1 sl' h1 h01
  exact ⟨N + 1, gs2, w2, sl2, t2, D2, Ad2, q2, st2, sm2, by simp only [runNT, hst, hr1]; exact hr2, h02, h2, hsim.trans hs2, Nat.le_trans hv2 hv, hlt2.trans hlt⟩
end
end
end Go.Proofs.YtdafpnpfcmgfcaaGreatDoor
