/- The others go on till the starter's turn comes. The starter's own steps. The group's code in company: where it stops. -/
import Derived.Test.YtdafpnpfcmgfcaaGreatDoorKb08
import Derived.Conc.CrowdSpec
namespace Go.Proofs.YtdafpnpfcmgfcaaGreatDoor
section
open Go Go.Conc Go.ConcN
open Go.ConcR (KK wgBlock WgAt stA smA rd wr Payload DC0 Bk g_of_ofEvents again_blocked)
def MLt (j base : Nat) (D' : Nat → WD) (q' : Nat → Nat) (D : Nat → WD) (q : Nat → Nat) : Prop :=
 Ssum j D' < Ssum j D ∨ (Ssum j D' = Ssum j D ∧ Fsum j D' + sumTo base q' < Fsum j D + sumTo base q)
theorem MLt.trans {j base : Nat} {D D' D2 : Nat → WD} {q q' q2 : Nat → Nat} (h : MLt j base D2 q2 D' q') (h' : MLt j base D' q' D q) : MLt j base D2 q2 D q := by
 unfold MLt at *; omega
theorem MLt.induct {j base : Nat} {C : (Nat → WD) → (Nat → Nat) → Prop} (h : ∀ D q, (∀ D' q', MLt j base D' q' D q → C D' q') → C D q) : ∀ D q, C D q := by
 have key : ∀ A B D q, Ssum j D < A → Fsum j D + sumTo base q < B → C D q := by
  intro A
  induction A with
  | zero => exact fun B D q h => absurd h (Nat.not_lt_zero _)
  | succ A ihA =>
   intro B
   induction B with
   | zero => exact fun D q _ h => absurd h (Nat.not_lt_zero _)
   | succ B ihB =>
    intro D q hA hB
    refine h D q fun D' q' hlt => ?_
    rcases hlt with hlt | ⟨h1, h2⟩
    ·exact ihA _ D' q' (by omega) (Nat.lt_succ_self _)
    ·exact ihB D' q' (by omega) (by omega)
 exact fun D q => key _ _ D q (Nat.lt_succ_self _) (Nat.lt_succ_self _)
section
variable [Payload] {P : Program} {ty nty : TypeId} {S : Sh} {B0 base : Nat} {bit : Nat → Nat}
variable {j : Nat} {tag : CTag} {d0 T0 N0 : Nat} {gs : Array Goroutine} {w : World} {t : Trace} {D : Nat → WD} {Ad : Nat → Bool} {q : Nat → Nat} {st sm : Int}
theorem Cw.at (h : Cw P ty nty S B0 base bit j tag d0 T0 N0 gs w t D Ad q st sm) (d : Nat) : Cw P ty nty S B0 base bit j tag d0 T0 N0 gs (w.at d) t D Ad q st sm :=
 ⟨h.base1, h.size, h.old, fun i hi => let ⟨g, hg, hs⟩ := h.wk i hi; ⟨g, hg, hs.rely (RW.at w d)⟩, h.ct, h.norel, h.begun, h.deaf0, h.deafW, h.above, h.rel, h.early, h.box, h.noted, h.wg, h.mode, h.seen, h.kn, h.over, h.room⟩
theorem Cw.retag (h : Cw P ty nty S B0 base bit j .blk d0 T0 N0 gs w t D Ad q st sm) : Cw P ty nty S B0 base bit j .w3 d0 T0 N0 gs w t D Ad q st sm :=
 ⟨h.base1, h.size, h.old, h.wk, h.ct, h.norel, h.begun, h.deaf0, h.deafW, h.above, h.rel, h.early, h.box, h.noted, h.wg, h.mode.retag (Or.inr ⟨rfl, rfl⟩), h.seen, h.kn, h.over, h.room⟩
theorem Cw.other (h : Cw P ty nty S B0 base bit j tag d0 T0 N0 gs w t D Ad q st sm) {a : Goroutine} (h0 : gs[0]? = some a) (hj : j + pend tag < 2147483648) (hbits : ∀ Ad', N0 + bitsIn bit j Ad' < 4294967296) {x : Nat} {g : Goroutine} (hx : gs[x]? = some g) (hx0 : 0 < x) (hrun : g.status = .running) (sl : Option (Nat × Nat)) :
  ∃ gs' w' u D' Ad' q' st' sm' tag' a', runT P (crowd gs w sl) x = (.next (crowd gs' w' sl), u) ∧ gs'[0]? = some a' ∧ Cw P ty nty S B0 base bit j tag' d0 T0 N0 gs' w' (t ++ u) D' Ad' q' st' sm' ∧ MLt j base D' q' D q ∧ Vc j D' ≤ Vc j D ∧ Sim (SJ S B0 j) w w' ∧
   ((a' = a ∨ a' = a.again w') ∧ (tag' = tag ∨ (tag = .blk ∧ tag' = .w3 ∧ a' = a.again w'))) := by
 have hb := h.base1
 have hlt : x < gs.size := (Array.getElem?_eq_some_iff.1 hx).1
 have hx1 : (x == 0) = false := by simp; omega
 rcases Nat.lt_or_ge x base with hxb | hxb
 ·-- one that is only leaving
  have hq := h.old x g hx0 hxb hx
  cases hqi : q x with
  | zero => rw [hqi] at hq; rw [hq.1] at hrun; cases hrun
  | succ k =>
   rw [hqi] at hq
   rcases hq with ⟨hf, _⟩ | ⟨_, g', es, hm, hstp, hq'⟩
   ·rw [hf] at hrun; cases hrun
   have hrunT := runT_crowd_go (P := P) (sl := sl) (i := x) hx (by rw [hx1]; exact hstp w)
   refine ⟨_, w, _, D, Ad, upd q x k, st, sm, tag, _, hrunT, by rw [get_other (by omega), h0]; rfl, h.stepOld hx0 hxb hm hq', Or.inr ⟨rfl, ?_⟩, Nat.le_refl _, Sim.refl _ w, ?_, Or.inl rfl⟩
   ·have hsum : sumTo base (upd q x k) + (k + 1) = sumTo base q + k := by
     have := sumTo_upd q k id hxb
     simpa [hqi] using this
    omega
   ·unfold Go.Conc.woken
    split
    ·exact Or.inr rfl
    ·exact Or.inl rfl
 ·obtain ⟨i, rfl⟩ : ∃ i, x = base + i := ⟨x - base, by omega⟩
  have hi : i < j := by have := h.size; omega
  obtain ⟨g', w', es, D', Ad', st', sm', tag', hgo, hcw, hl, hv, hs, ht⟩ := h.worker hi hx hrun hj hbits
  have hrunT := runT_crowd_go (P := P) (sl := sl) (i := base + i) hx (by rw [hx1]; exact hgo)
  refine ⟨_, w', _, D', Ad', q, st', sm', tag', _, hrunT, by rw [get_other (by omega), h0]; rfl, hcw, ?_, hv, hs, ?_, ?_⟩
  ·rcases hl with hl | ⟨h1, h2⟩
   ·exact Or.inl hl
   ·exact Or.inr ⟨h1, by omega⟩
  ·unfold Go.Conc.woken
   split
   ·exact Or.inr rfl
   ·exact Or.inl rfl
  ·exact ht.imp id fun ⟨h1, h2, h3⟩ => ⟨h1, h2, h3 a⟩
theorem Cw.awake (h : Cw P ty nty S B0 base bit j tag d0 T0 N0 gs w t D Ad q st sm) {a : Goroutine} (h0 : gs[0]? = some a) (ha : a.status = .running ∨ a.status = .blocked) : ∀ x ∈ gs, awake x := by
 intro x hx
 obtain ⟨i, hi, rfl⟩ := Array.mem_iff_getElem.1 hx
 rcases Nat.eq_zero_or_pos i with rfl | hpos
 ·have : gs[0] = a := by simpa [Array.getElem?_eq_getElem hi] using h0
  rw [this]; exact awake_of (ha.imp id Or.inl)
 ·rcases Nat.lt_or_ge i base with hb | hb
  ·exact awake_of ((h.old i _ hpos hb (Array.getElem?_eq_getElem hi)).status.elim Or.inl fun x => Or.inr (Or.inr x))
  ·obtain ⟨k, rfl⟩ : ∃ k, i = base + k := ⟨i - base, by omega⟩
   obtain ⟨g, hg, hs⟩ := h.wk k (by have := h.size; omega)
   rw [Array.getElem?_eq_getElem hi] at hg
   cases hg
   exact awake_of (hs.status.elim Or.inl fun x => Or.inr (Or.inr x))
theorem Cw.turn {a : Goroutine} (hrun : a.status = .running) (hj : j + pend tag < 2147483648) (hbits : ∀ Ad', N0 + bitsIn bit j Ad' < 4294967296) (hne : tag ≠ .blk) : ∀ (D : Nat → WD) (q : Nat → Nat) (gs : Array Goroutine) (w : World) (t : Trace) (Ad : Nat → Bool) (st sm : Int) (sl : Option (Nat × Nat)),
  Cw P ty nty S B0 base bit j tag d0 T0 N0 gs w t D Ad q st sm → gs[0]? = some a →
  ∃ N gs' w' sl' t' D' Ad' q' st' sm' d sl2, runNT P N (crowd gs w sl) t = (.next (crowd gs' w' sl'), t') ∧ gs'[0]? = some a ∧ Cw P ty nty S B0 base bit j tag d0 T0 N0 gs' (w'.at d) t' D' Ad' q' st' sm' ∧ Sim (SJ S B0 j) w (w'.at d) ∧ Vc j D' ≤ Vc j D ∧
   (MLt j base D' q' D q ∨ (D' = D ∧ q' = q)) ∧ stepT P (crowd gs' w' sl') = runT P (crowd gs' (w'.at d) sl2) 0 := by
 refine MLt.induct (j := j) (base := base) fun D q ih => ?_
 intro gs w t Ad st sm sl h h0
 obtain ⟨x, g, d, sl', hx, hg, hst⟩ := crowd_pick (P := P) (w := w) (sl := sl) (h.awake h0 (Or.inl hrun)) ⟨0, a, h0, hrun⟩
 rcases Nat.eq_zero_or_pos x with rfl | hpos
 ·exact ⟨0, gs, w, sl, t, D, Ad, q, st, sm, d, sl', rfl, h0, h.at d, Sim.at _ w d, Nat.le_refl _, Or.inr ⟨rfl, rfl⟩, hst⟩
 ·obtain ⟨gs1, w1, u, D1, Ad1, q1, st1, sm1, tag1, a1, hr1, h01, h1, hlt, hv, hs1, ha1, ht1⟩ := (h.at d).other h0 hj hbits hx hpos hg sl'
  obtain rfl : a1 = a := by
   rcases ha1 with rfl | rfl
   ·rfl
   ·exact again_running _ (Or.inl hrun)
  obtain rfl : tag1 = tag := by
   rcases ht1 with h | ⟨h, _⟩
   ·exact h
   ·exact absurd h hne
  obtain ⟨N, gs2, w2, sl2, t2, D2, Ad2, q2, st2, sm2, d2, sl3, hr2, h02, h2, hs2, hv2, hlt2, hst2⟩ := ih D1 q1 hlt gs1 w1 _ Ad1 st1 sm1 sl' h1 h01
  refine ⟨N + 1, gs2, w2, sl2, t2, D2, Ad2, q2, st2, sm2, d2, sl3, by simp only [runNT, hst, hr1]; exact hr2, h02, h2, ((Sim.at _ w d).trans hs1).trans hs2, Nat.le_trans hv2 hv, ?_, hst2⟩
  rcases hlt2 with h | ⟨rfl, rfl⟩
  ·exact Or.inl (h.trans hlt)
  ·exact Or.inl hlt
theorem WkS.running {i : Nat} {ad : Bool} {s m d : Nat} {g : Goroutine} (h : WkS P ty nty S B0 base bit i ad s m d g w) (hs : s ≠ 1) : g.status = .running := by
 cases h with
 | pre h => exact Goes.running (fun _ _ x => x.1) w (RWk.refl i w) h
 | go h =>
  cases h with
  | r0 h => exact Goes.running (fun _ _ x => x.1) w (RW.refl w) h
  | k1 h => exact Goes.running (fun _ _ x => x.1) w (RW.refl w) h
  | d1 h => exact Goes.running (fun _ _ x => x.1) w (RW.refl w) h
  | d2 h => exact Goes.running (fun _ _ x => x.1) w (RW.refl w) h
  | d3 h => exact Goes.running (fun _ _ x => x.1) w (RW.refl w) h
  | d4 h => exact Goes.running (fun _ _ x => x.1) w (RW.refl w) h
  | quit _ => exact absurd rfl hs
theorem Cw.woke {a : Goroutine} (hrun : a.status = .running) (hof : a.offers = none) (hj : j < 2147483648) (hbits : ∀ Ad', N0 + bitsIn bit j Ad' < 4294967296) : ∀ (D : Nat → WD) (q : Nat → Nat) (gs : Array Goroutine) (w : World) (t : Trace) (Ad : Nat → Bool) (st sm : Int) (sl : Option (Nat × Nat)),
  Cw P ty nty S B0 base bit j .blk d0 T0 N0 gs w t D Ad q st sm → gs[0]? = some { a with status := .blocked } →
  ∃ N gs' w' sl' t' D' Ad' q' st' sm', runNT P N (crowd gs w sl) t = (.next (crowd gs' w' sl'), t') ∧ gs'[0]? = some a ∧ Cw P ty nty S B0 base bit j .w3 d0 T0 N0 gs' w' t' D' Ad' q' st' sm' ∧ Sim (SJ S B0 j) w w' ∧ Vc j D' ≤ Vc j D ∧ MLt j base D' q' D q := by
 refine MLt.induct (j := j) (base := base) fun D q ih => ?_
 intro gs w t Ad st sm sl h h0
 have hsome : ∃ i, i < j ∧ (D i).stage ≠ 1 := by
  have hm := h.mode
  cases hm with
  | opn h1 _ _ => exact h1.elim
  | reg _ _ h3 =>
   refine Classical.byContradiction fun hn => ?_
   have h0 : Vc j D = 0 := by
    have : Vc j D = sumTo j (fun _ => 0) := sumTo_congr fun i hi => by
     have : (D i).stage = 1 := Classical.byContradiction fun h => hn ⟨i, hi, h⟩
     simp [cnt, this]
    rw [this]
    have := sumTo_le (f := fun _ => 0) (c := 0) (j := j) fun _ _ => Nat.le_refl _
    omega
   omega
  | last L _ h2 h3 _ => exact ⟨L, h2, by omega⟩
  | fin h1 _ => exact h1.elim
 obtain ⟨i, hi, hs1⟩ := hsome
 obtain ⟨gi, hgi, hsi⟩ := h.wk i hi
 obtain ⟨x, g, d, sl', hx, hg, hst⟩ := crowd_pick (P := P) (w := w) (sl := sl) (h.awake h0 (Or.inr rfl)) ⟨base + i, gi, hgi, hsi.running hs1⟩
 have hpos : 0 < x := by
  rcases Nat.eq_zero_or_pos x with rfl | hp
  ·rw [h0] at hx; cases hx; cases hg
  ·exact hp
 obtain ⟨gs1, w1, u, D1, Ad1, q1, st1, sm1, tag1, a1, hr1, h01, h1, hlt, hv, hs1', ha1, ht1⟩ := (h.at d).other h0 (by simpa [pend] using hj) hbits hx hpos hg sl'
 have hag : ({ a with status := .blocked } : Goroutine).again w1 = a := again_blocked hrun hof w1
 have hsim := (Sim.at _ w d).trans hs1'
 by_cases hw : a1 = a
 ·subst hw
  refine ⟨1, gs1, w1, sl', _, D1, Ad1, q1, st1, sm1, by simp only [runNT, hst, hr1]; rfl, h01, ?_, hsim, hv, hlt⟩
  rcases ht1 with rfl | ⟨_, rfl, _⟩
  ·exact h1.retag
  ·exact h1
 ·have e1 : a1 = { a with status := .blocked } := by
   rcases ha1 with h | h
   ·exact h
   ·exact absurd (h.trans hag) hw
  subst e1
  have e2 : tag1 = .blk := by
   rcases ht1 with h | ⟨_, _, h⟩
   ·exact h
   ·exact absurd (h.trans hag) hw
  subst e2
  obtain ⟨N, gs2, w2, sl2, t2, D2, Ad2, q2, st2, sm2, hr2, h02, h2, hs2, hv2, hlt2⟩ := ih D1 q1 hlt gs1 w1 _ Ad1 st1 sm1 sl' h1 h01
  exact ⟨N + 1, gs2, w2, sl2, t2, D2, Ad2, q2, st2, sm2, by simp only [runNT, hst, hr1]; exact hr2, h02, h2, hsim.trans hs2, Nat.le_trans hv2 hv, hlt2.trans hlt⟩
end
end
section
open Go Go.Conc Go.ConcN
open Go.ConcR (KK wgBlock WgAt stA smA rd wr Payload DC0 Bk g_of_ofEvents)
section
variable [Payload] {P : Program} {ty nty : TypeId} {S : Sh} {B0 base : Nat} {bit : Nat → Nat}
variable {j : Nat} {tag : CTag} {d0 T0 N0 : Nat} {gs : Array Goroutine} {w : World} {t : Trace} {D : Nat → WD} {Ad : Nat → Bool} {q : Nat → Nat} {st sm : Int}
structure Leaves (B0 j : Nat) (w w' : World) : Prop where
 low : ∀ b, b ≤ B0 → w'.heap[b]? = w.heap[b]?
 box : ∀ i, i < j → w'.heap[B0 + 3 + i]? = w.heap[B0 + 3 + i]?
 num : w'.heap[B0 + 1]? = w.heap[B0 + 1]?
 size : w.heap.size ≤ w'.heap.size
theorem Cw.step0 (h : Cw P ty nty S B0 base bit j tag d0 T0 N0 gs w t D Ad q st sm) {a a' : Goroutine} (h0 : gs[0]? = some a) {w' : World} {es : Array Event} {tag' : CTag} {st' sm' : Int} (hgo : stepG P true a w = .go a' w' es)
  (hl : Leaves B0 j w w') (hok : ∀ op ∈ MemOp.ofEvents 0 a.frame.fn a.frame.place es, Ok0 (ShOf (S3 S B0)) NoOwn (RdP S B0 base) (base + j - 1) op ∧ TLow w'.heap.size op) (hnr : ∀ e ∈ es, e.loc ≠ .mark (.release (stA (B0 + 2))))
  (hwg : WgAt ty (B0 + 2) w' st' sm') (hmode : Go.ConcN.Mode j D tag' st' sm') (sl : Option (Nat × Nat)) :
  ∃ gs', runT P (crowd gs w sl) 0 = (.next (crowd gs' w' sl), MemOp.ofEvents 0 a.frame.fn a.frame.place es) ∧ gs'[0]? = some a' ∧ Cw P ty nty S B0 base bit j tag' (deafBehind d0 es) T0 N0 gs' w' (t ++ MemOp.ofEvents 0 a.frame.fn a.frame.place es) D Ad q st' sm' := by
 have hb := h.base1
 have hlt : 0 < gs.size := (Array.getElem?_eq_some_iff.1 h0).1
 have hrely : ∀ i, i < j → RWk ty B0 i w w' := fun i hi => ⟨fun b hb _ _ => hl.low b (by omega), fun _ => ⟨_, _, hwg⟩, fun ⟨cs, hc, hn⟩ => ⟨cs, (hl.box i hi).trans hc, hn⟩, cell_of_block (hl.box i hi) 0⟩
 refine ⟨_, runT_crowd_go (P := P) (sl := sl) (i := 0) h0 (show stepG P (0 == 0) a w = _ from hgo), by simp [hlt], ?_⟩
 refine ⟨hb, by simp [h.size], fun k x hk hkb hx => ?_, fun i hi => ?_, h.ct.app0 apart3 fun op hop => (hok op hop).1, norel_app h.norel (norel_of hnr), by have := h.begun; simp; omega, by rw [Deaf_own, h.deaf0], fun i hi => by rw [Deaf_other t (by omega) _ g_of_ofEvents, h.deafW i hi], fun k hk => by rw [Deaf_other t (by omega) _ g_of_ofEvents, h.above k hk], fun i hi hst => ?_, early_app h.begun h.early, fun i hi => (hrely i hi).pay (h.box i hi), noted_aside h.noted hl.num, hwg, hmode, fun op hop => ?_, known_app g_of_ofEvents h.kn (Or.inr (Or.inl rfl)), over_app g_of_ofEvents h.over (Or.inr (Or.inl rfl)), Nat.le_trans h.room hl.size⟩
 ·rw [get_other (by omega)] at hx
  obtain ⟨y, hy, rfl⟩ := Option.map_eq_some_iff.1 hx
  have hq := h.old k y hk hkb hy
  rw [woken_quitsD hq, Deaf_other t (by omega) _ g_of_ofEvents]
  exact hq
 ·obtain ⟨x, hx, hsx⟩ := h.wk i hi
  exact ⟨x, by rw [get_other (by omega), hx, Option.map_some, hsx.woken], hsx.rely (hrely i hi)⟩
 ·obtain ⟨r, hr, hr'⟩ := h.rel i hi hst
  exact ⟨r, hr.appOther g_of_ofEvents (by omega), after_other g_of_ofEvents (by omega) hr'⟩
 ·rcases Array.mem_append.1 hop with hop | hop
  ·exact fun x hx => Loc.low_mono hl.size (h.seen op hop x hx)
  ·exact (hok op hop).2
theorem Cw.spawn (h : Cw P ty nty S B0 base bit j tag 0 T0 N0 gs w t D Ad q st sm) {a a' child : Goroutine} (h0 : gs[0]? = some a) (hgo : stepG P true a w = .spawn a' child w #[]) {ad : Bool} {m : Nat} (hc : WkS P ty nty S B0 base bit j ad 7 m 0 child w) (hbit : ad = true → bit j = 0)
  (hbox : PayAt (B0 + 3 + j) 1 w) {tag' : CTag} (hmode : Go.ConcN.Mode (j + 1) (upd D j ⟨7, m, 0⟩) tag' st sm) (hroom : B0 + 3 + (j + 1) ≤ w.heap.size) (sl : Option (Nat × Nat)) :
  ∃ gs' u, runT P (crowd gs w sl) 0 = (.next (crowd gs' w sl), u) ∧ gs'[0]? = some a' ∧ Cw P ty nty S B0 base bit (j + 1) tag' 0 T0 N0 gs' w (t ++ u) (upd D j ⟨7, m, 0⟩) (upd Ad j ad) q st sm := by
 have hb := h.base1
 have hlt : 0 < gs.size := (Array.getElem?_eq_some_iff.1 h0).1
 have hrun := runT_crowd_spawn (P := P) (sl := sl) (i := 0) h0 (show stepG P (0 == 0) a w = _ from hgo)
 have hu : ((MemOp.ofEvents 0 a.frame.fn a.frame.place #[]).push { g := 0, fn := a.frame.fn, pos := a.frame.place, act := .go gs.size } |>.push { g := gs.size, fn := child.frame.fn, pos := a.frame.place, act := .start }) =
   #[{ g := 0, fn := a.frame.fn, pos := a.frame.place, act := .go gs.size }, { g := gs.size, fn := child.frame.fn, pos := a.frame.place, act := .start }] := by
  rw [ofEvents_eq]; simp
 rw [hu, h.size] at hrun
 generalize hx : ({ g := 0, fn := a.frame.fn, pos := a.frame.place, act := .go (base + j) } : MemOp) = x at hrun
 generalize hy : ({ g := base + j, fn := child.frame.fn, pos := a.frame.place, act := .start } : MemOp) = y at hrun
 have hx1 : x.g = 0 ∧ x.act = .go (base + j) := by subst hx; exact ⟨rfl, rfl⟩
 have hy1 : y.g = base + j ∧ y.act = .start := by subst hy; exact ⟨rfl, rfl⟩
 have hm : ∀ op ∈ #[x, y], op = x ∨ op = y := by intro op hop; simpa using hop
 have hst : ∀ op ∈ #[x, y], op.act ≠ .mark .disable ∧ op.act ≠ .mark .enable := by
  intro op hop
  rcases hm op hop with rfl | rfl
  ·rw [hx1.2]; exact ⟨by simp, by simp⟩
  ·rw [hy1.2]; exact ⟨by simp, by simp⟩
 have hnt : ∀ op ∈ #[x, y], op.act.touch? = none := by
  intro op hop
  rcases hm op hop with rfl | rfl
  ·rw [hx1.2]; rfl
  ·rw [hy1.2]; rfl
 have hsz1 : (gs.setIfInBounds 0 a').size = base + j := by simp [h.size]
 have old : ∀ k x, k < base + j → k ≠ 0 → (((gs.setIfInBounds 0 a').push child)[k]? = some x ↔ gs[k]? = some x) := fun k x hk h0' => by
  rw [Array.getElem?_push_lt (by omega), ← Array.getElem?_eq_getElem, Array.getElem?_setIfInBounds_ne (by omega)]
 have hct : CT (ShOf (S3 S B0)) NoOwn (RdP S B0 base) (t ++ #[x, y]) (base + j - 1 + 1) := h.ct.fork apart3 ⟨hx1.1, by rw [hx1.2]; congr 1; omega⟩ ⟨by rw [hy1.1]; omega, hy1.2⟩ h.deaf0
 refine ⟨_, _, hrun, ?_, hb, by simp [h.size]; omega, fun k g hk hkb hg => ?_, fun i hi => ?_, by rw [show base + (j + 1) - 1 = base + j - 1 + 1 by omega]; exact hct, norel_app h.norel fun op hop => ?_, by have := h.begun; simp; omega, by rw [Deaf_still t 0 _ hst, h.deaf0], fun i hi => ?_, fun k hk => by rw [Deaf_still t k _ hst, h.above k (by omega)], fun i hi hs => ?_, early_app h.begun h.early, fun i hi => ?_, ?_, h.wg, hmode, fun op hop => ?_, fun i b hi hn => ?_, fun i g hg h1 h2 hcn => ?_, hroom⟩
 ·rw [Array.getElem?_push_lt (by omega)]
  simp
 ·rw [Deaf_still t k _ hst]
  exact h.old k g hk hkb ((old k g (by omega) (by omega)).1 hg)
 ·rcases Nat.lt_or_ge i j with hij | hij
  ·obtain ⟨g, hg, hs⟩ := h.wk i hij
   exact ⟨g, (old _ g (by omega) (by omega)).2 hg, by rw [upd_ne D _ (by omega), upd_ne Ad _ (by omega)]; exact hs⟩
  ·obtain rfl : i = j := by omega
   refine ⟨child, ?_, by rw [upd_same, upd_same]; exact hc⟩
   rw [← hsz1, Array.getElem?_push_size]
 ·rcases hm op hop with rfl | rfl
  ·rw [hx1.2]; simp
  ·rw [hy1.2]; simp
 ·rw [Deaf_still t _ _ hst]
  rcases Nat.lt_or_ge i j with hij | hij
  ·rw [h.deafW i hij, upd_ne D _ (by omega)]
  ·obtain rfl : i = j := by omega
   rw [upd_same]
   exact h.above _ (Nat.le_refl _)
 ·rcases Nat.lt_or_ge i j with hij | hij
  ·rw [upd_ne D _ (by omega)] at hs
   obtain ⟨r, hr, hr'⟩ := h.rel i hij hs
   refine ⟨r, hr.appNot fun op hop => ?_, after_app hr' fun op hop _ b hb => by rw [hnt op hop] at hb; cases hb⟩
   rcases hm op hop with rfl | rfl
   ·rw [hx1.1]; omega
   ·rw [hy1.1]; omega
  ·obtain rfl : i = j := by omega
   rw [upd_same] at hs
   simp at hs
 ·rcases Nat.lt_or_ge i j with hij | hij
  ·exact h.box i hij
  ·obtain rfl : i = j := by omega
   exact hbox
 ·have e : bitsIn bit (j + 1) (upd Ad j ad) = bitsIn bit j Ad := by
   unfold bitsIn
   simp only [sumTo, upd_same]
   rw [sumTo_congr (g := fun i => if Ad i = true then bit i else 0) fun i hi => by rw [upd_ne Ad _ (by omega)]]
   cases ad
   ·simp
   ·simp [hbit rfl]
  rw [e]
  exact h.noted
 ·rcases Array.mem_append.1 hop with hop | hop
  ·exact h.seen op hop
  ·exact fun z hz => by rw [hnt op hop] at hz; cases hz
 ·obtain ⟨z, hz, hza⟩ := touch_of hi
  rcases getElem?_append_cases hz with ⟨hlt', hz'⟩ | ⟨_, hzu⟩
  ·rcases h.kn i b (by rw [touchAt_of hz']; exact hza) hn with ⟨k, h1, h3⟩ | h1
   ·exact Or.inl ⟨k, h1, by rw [g?_old hlt']; exact h3⟩
   ·exact Or.inr (h1.app _)
  ·rw [hnt z hzu] at hza; cases hza
 ·obtain ⟨b, hb', _⟩ := hcn
  obtain ⟨z, hz, hza⟩ := touch_of hb'
  rcases getElem?_append_cases hz with ⟨hlt', hz'⟩ | ⟨_, hzu⟩
  ·obtain ⟨x', hx', hb2⟩ := h.over i g (by rw [← g?_old (u := #[x, y]) hlt']; exact hg) h1 h2 ((counts_old hlt').1 ⟨b, hb', by assumption⟩)
   have hxl : x' < t.size := by
    unfold Trace.g? at hx'
    obtain ⟨z2, hz2, _⟩ := Option.map_eq_some_iff.1 hx'
    exact lt_size_of_getElem? hz2
   exact ⟨x', by rw [g?_old hxl]; exact hx', hb_app _ hb2⟩
  ·rw [hnt z hzu] at hza; cases hza
end
end
section
open Go Go.Conc Go.ConcN
open Go.ConcR (KK wgBlock WgAt stA smA rd wr mk Payload DC0)
def RS (ty : TypeId) (Wg : Nat) (w w₁ : World) : Prop := WgLive ty Wg w → WgLive ty Wg w₁
theorem rs_rely {ty : TypeId} {Wg : Nat} {w w₁ : World} (h : WgLive ty Wg w) (r : RS ty Wg w w₁) : WgLive ty Wg w₁ := r h
section
variable (P : Program) (ty : TypeId) (Wg : Nat)
def AtWord (m : Mark) (Next : Goroutine → World → Prop) (g : Goroutine) (w : World) : Prop :=
 g.status = .running ∧ ∃ g', stepG P true g w = .go g' w #[mk m] ∧ ∃ k, Goes P true (RS ty Wg) DC0 Next k g' w
def AtMid (Next : Goroutine → World → Prop) (g : Goroutine) (w : World) : Prop := AtWord P ty Wg (.read ⟨Wg, 1, none⟩) (AtWord P ty Wg .enable Next) g w ∨ AtWord P ty Wg .enable Next g w
def AtPlus (Next : Goroutine → World → Prop) (g : Goroutine) (w : World) : Prop :=
 g.status = .running ∧ ∀ v : Nat, v < 2147483647 → WgAt ty Wg w (v * KK) 0 → ∃ g', stepG P true g w = .go g' (w.setCell (stA Wg) (.int .u64 ((v + 1) * KK))) #[rd (stA Wg), wr (stA Wg)] ∧
  ∃ k, Goes P true (RS ty Wg) DC0 (AtMid P ty Wg Next) k g' (w.setCell (stA Wg) (.int .u64 ((v + 1) * KK)))
end
section
variable (P : Program) (ty : TypeId) (Wg : Nat) (Ret Anch : Goroutine → World → Prop)
def AtJoin : Goroutine → World → Prop := AtWord P ty Wg .enable (AtWord P ty Wg (.acquire (stA Wg)) Ret)
def AtLook (g : Goroutine) (w : World) : Prop := g.status = .running ∧ (WgAt ty Wg w 0 0 → ∃ g', stepG P true g w = .go g' w #[rd (stA Wg)] ∧ ∃ k, Goes P true (RS ty Wg) DC0 (AtJoin P ty Wg Ret) k g' w)
def AtSem (g : Goroutine) (w : World) : Prop :=
 g.status = .running ∧ g.offers = none ∧ ((∃ st, WgAt ty Wg w st 0) → stepG P true g w = .go { g with status := .blocked } w #[]) ∧
  (WgAt ty Wg w 0 1 → ∃ g', stepG P true g w = .go g' (w.setCell (smA Wg) (.int .u32 0)) (semEvents (smA Wg)) ∧ ∃ k, Goes P true (RS ty Wg) DC0 (AtLook P ty Wg Ret) k g' (w.setCell (smA Wg) (.int .u32 0)))
def AtCas (vs : Nat) (g : Goroutine) (w : World) : Prop :=
 g.status = .running ∧ ∀ v : Nat, v < 2147483648 → WgAt ty Wg w (v * KK) 0 →
  (v = vs → ∃ g', stepG P true g w = .go g' (w.setCell (stA Wg) (.int .u64 (v * KK + 1))) #[rd (stA Wg), wr (stA Wg)] ∧ ∃ k, Goes P true (RS ty Wg) DC0 (AtWord P ty Wg (.write ⟨Wg, 1, none⟩) (AtSem P ty Wg Ret)) k g' (w.setCell (stA Wg) (.int .u64 (v * KK + 1)))) ∧
  (v ≠ vs → ∃ g', stepG P true g w = .go g' w #[rd (stA Wg)] ∧ ∃ k, Goes P true (RS ty Wg) DC0 Anch k g' w)
def AtSee (g : Goroutine) (w : World) : Prop :=
 g.status = .running ∧ ∀ v : Nat, v < 2147483648 → WgAt ty Wg w (v * KK) 0 → ∃ g', stepG P true g w = .go g' w #[rd (stA Wg)] ∧
  (v = 0 → ∃ k, Goes P true (RS ty Wg) DC0 (AtJoin P ty Wg Ret) k g' w) ∧ (v ≠ 0 → ∃ k, Goes P true (RS ty Wg) DC0 (AtCas P ty Wg Ret Anch v) k g' w)
end
end
end Go.Proofs.YtdafpnpfcmgfcaaGreatDoor
