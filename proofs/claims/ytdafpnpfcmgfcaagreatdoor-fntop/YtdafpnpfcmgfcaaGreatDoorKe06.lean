/- From the lone machine's steps to the way in company. The way in company, carried out by the machine beside those that are only leaving. -/
import Derived.Test.YtdafpnpfcmgfcaaGreatDoorKe05
import Derived.Conc.LoneCalls
import Derived.Conc.CrowdTrace
namespace Go.Proofs.YtdafpnpfcmgfcaaGreatDoor
section
open Go Go.Conc
section
variable {Q P : Program} {S : Sh}
theorem step_solo_ended {a : Goroutine} {w w' : World} {o : Outcome} {es : Array Event} (hs : a.status = .running) (h : stepG Q true a w = .ended o w' es) : step Q (solo a w) = .ended o w' := by
 rw [step, stepT_solo hs]
 simp [runT, solo, Array.swapAt!, Array.swapAt, h]
theorem solo_inj {g g' : Goroutine} {w w' : World} (h : solo g w = solo g' w') : g = g' ∧ w = w' := by
 simp only [solo, Machine.mk.injEq] at h
 exact ⟨by simpa using h.2.1, h.1⟩
theorem Cp.same {v w : World} (h : Cp S v w) : Cp S v { w with tape := v.tape, drawn := v.drawn } := ⟨h.size, h.low, h.out, h.brk, h.os, h.output, h.mark, h.cold⟩
theorem rn_of_runN (hT : Tamed Q P) {Stop : Goroutine → World → Prop} : ∀ (n : Nat) (g : Goroutine) (v w : World) (g1 : Goroutine) (v1 : World), Ok P g → Cp S v w → runN Q n (solo (ext g) v) = .next (solo g1 v1) → Stop g1 v1 → Rn Q Stop n (ext g) v := by
 intro n
 induction n with
 | zero =>
  intro g v w g1 v1 _ _ hr hs
  simp only [runN] at hr
  obtain ⟨rfl, rfl⟩ := solo_inj (Stepped.next.inj hr)
  exact hs
 | succ n ih =>
  intro g v w g1 v1 hok hc hr hs
  obtain ⟨c, hstep⟩ := (kept (S := S) hT).step g { w with tape := v.tape, drawn := v.drawn } hok
  have hrun : (ext g).status = .running := hok.run
  rcases hstep v hc.same (fun i _ => rfl) with ⟨o, v', es, he⟩ | ⟨g', v2, es, he, hrest⟩
  ·exfalso
   simp only [runN, step_solo_ended hrun he] at hr
   cases hr
  ·have hst := step_solo_go hrun he
   simp only [runN, hst] at hr
   refine .inr ⟨g', v2, es, he, ?_⟩
   rcases hrest with hstub | ⟨gc, rfl, hok', _, _, w1, _, _, _, c1, _, _⟩
   ·cases n with
    | zero =>
     simp only [runN] at hr
     obtain ⟨rfl, rfl⟩ := solo_inj (Stepped.next.inj hr)
     exact hs
    | succ n =>
     exfalso
     obtain ⟨o, v', es', he'⟩ := stub_ends (Q := Q) hstub v2
     simp only [runN, step_solo_ended hstub.2.1 he'] at hr
     cases hr
   ·exact ih gc v2 w1 g1 v1 hok' c1 hr hs
def Came (b : Frame) (k : List Item) (cs : List Frame) : Exit → Act → Goroutine → Prop
 | .normal, a, g => g = G (b.at a k) cs
 | .exit id, a, g => ∃ k', exitTo id k = some k' ∧ g = G (b.at a k') cs
 | .ret, a, g => ∃ todo, g = G { b.at a todo with mode := .returning } cs
 | _, _, _ => False
def Willing (k : List Item) : Prop := ∀ why, k ≠ [.code (.refuse why)]
def Ways (k : List Item) : Exit → Prop
 | .normal => Willing k
 | .exit id => ∃ k', exitTo id k = some k' ∧ Willing k'
 | .ret => True
 | _ => False
theorem ext_G (fr : Frame) (cs : List Frame) : ext (G fr cs) = G fr (cs ++ [bottom]) := rfl
theorem came_ext {b : Frame} {k : List Item} {cs : List Frame} {e : Exit} {a : Act} {g : Goroutine} (h : Came b k (cs ++ [bottom]) e a (ext g)) : Came b k cs e a g := by
 cases e with
 | normal => exact ext_inj (h.trans (ext_G _ _).symm)
 | exit id => obtain ⟨k', h1, h2⟩ := h; exact ⟨k', h1, ext_inj (h2.trans (ext_G _ _).symm)⟩
 | ret => obtain ⟨todo, h⟩ := h; exact ⟨todo, ext_inj (h.trans (ext_G _ _).symm)⟩
 | _ => exact h.elim
theorem came_willing {b : Frame} {k : List Item} {cs : List Frame} {e : Exit} {a : Act} {g : Goroutine} (h : Came b k cs e a g) (hw : Ways k e) : ¬ Stub g := by
 rintro ⟨_, _, h2⟩
 cases e with
 | normal =>
  obtain rfl : g = G (b.at a k) cs := h
  rcases h2 with ⟨why, h2, _⟩ | ⟨ch, h2, _⟩
  ·exact hw why h2
  ·cases h2
 | exit id =>
  obtain ⟨k', h1, rfl⟩ := h
  obtain ⟨k2, h3, h4⟩ := hw
  rw [h1] at h3
  obtain rfl := Option.some.inj h3
  rcases h2 with ⟨why, h2, _⟩ | ⟨ch, h2, _⟩
  ·exact h4 why h2
  ·cases h2
 | ret =>
  obtain ⟨todo, rfl⟩ := h
  rcases h2 with ⟨why, _, h2⟩ | ⟨ch, h2, _⟩ <;> cases h2
 | _ => exact h.elim
theorem rb_arrives (hT : Tamed Q P) {b : Frame} {a : Act} {k todo : List Item} {cs : List Frame} {v w : World} {R : Exit → Act → World → Prop} (hb : b.kind = .normal) (ha : a.defers = []) (hk : ∀ i ∈ todo, okItem P i = true) (hcs : ∀ c ∈ cs, FrameOk P c)
  (hc : Cp S v w) (H : ∀ T, ∃ e a' v', R e a' v' ∧ Arrives Q (lone (b.at a todo) (cs ++ [bottom]) (World.re v 0 T)) b k (cs ++ [bottom]) e a' v') (hR : ∀ e a' v', R e a' v' → Ways k e) :
  Rb P S (fun g w => ∃ e a' v', Cp S v' w ∧ R e a' v' ∧ Came b k cs e a' g) (G (b.at a todo) cs) w := by
 have hok : Ok P (G (b.at a todo) cs) := ⟨rfl, rfl, ⟨hb, fun d hd => (by have hd' : d ∈ a.defers := hd; rw [ha] at hd'; cases hd'), hk⟩, hcs⟩
 have key := lift (Stop := fun g v' => ∃ e a', R e a' v' ∧ Came b k (cs ++ [bottom]) e a' g) (kept hT) (fun g v' hs ⟨e, a', hr, hcm⟩ => came_willing hcm (hR _ _ _ hr) hs) hc hok (fun T => ?_)
 ·refine Rb.trans key fun g w h => .stop fun w₁ h₁ => ?_
  obtain ⟨v', hc', e, a', hr, hcm⟩ := h w₁ h₁
  exact ⟨e, a', v', hc', hr, came_ext hcm⟩
 ·obtain ⟨e, a', v', hr, harr⟩ := H T
  have hw := hR _ _ _ hr
  have hc' : Cp S (World.re v 0 T) w := hc.re' 0 T
  rw [lone_eq_solo, ← ext_G] at harr
  cases e with
  | normal =>
   obtain ⟨n, hn⟩ := harr
   exact ⟨n, rn_of_runN hT n _ _ w _ _ hok hc' hn ⟨.normal, a', hr, rfl⟩⟩
  | exit id =>
   obtain ⟨k', h1, _⟩ := hw
   obtain ⟨n, hn⟩ := harr k' h1
   exact ⟨n, rn_of_runN hT n _ _ w _ _ hok hc' hn ⟨.exit id, a', hr, k', h1, rfl⟩⟩
  | ret =>
   obtain ⟨todo', n, hn⟩ := harr
   exact ⟨n, rn_of_runN hT n _ _ w _ _ hok hc' hn ⟨.ret, a', hr, todo', rfl⟩⟩
  | _ => exact hw.elim
theorem rb_wp (hT : Tamed Q P) {b : Frame} {a : Act} {c : Code} {k : List Item} {cs : List Frame} {v w : World} {R : Exit → Act → World → Prop} (hb : b.kind = .normal) (ha : a.defers = []) (hcd : okCode P c = true) (hk : ∀ i ∈ k, okItem P i = true) (hcs : ∀ c ∈ cs, FrameOk P c)
  (hc : Cp S v w) (H : ∀ T, c.wp Q R a (World.re v 0 T)) (hR : ∀ e a' v', R e a' v' → Ways k e) :
  Rb P S (fun g w => ∃ e a' v', Cp S v' w ∧ R e a' v' ∧ Came b k cs e a' g) (G (b.at a (.code c :: k)) cs) w :=
 rb_arrives hT hb ha (fun i hi => by
  rcases List.mem_cons.1 hi with rfl | hi
  ·exact hcd
  ·exact hk i hi) hcs hc (fun T => H T b k (cs ++ [bottom])) hR
end
end
section
open Go Go.Conc Go.ConcN
def ShOf (S : Sh) : Loc → Prop := fun l => ∃ a, l = .cell a ∧ S a.block
def TLow (B : Nat) (op : MemOp) : Prop := ∀ x, op.act.touch? = some x → x.loc.low B
structure Tr (S : Sh) (B n : Nat) (t : Trace) : Prop where
 ct : CT (ShOf S) (fun _ _ => False) (fun _ _ => False) t (n - 1)
 over : t.HandedOver
 hears : Deaf t 0 = 0
 seen : ∀ op ∈ t, TLow B op
section
variable {P : Program} {S : Sh} {B n : Nat} {t : Trace}
theorem low_of_okE {e : Event} (h : OkE S B e) : (MemAct.ofEvent e).low B := by
 obtain ⟨loc, wr, sy⟩ := e
 cases loc with
 | cell a => exact h.2
 | obj r =>
  obtain ⟨_, h2, h3⟩ := h
  cases wr <;> cases sy <;> first | exact h2 | cases h3
 | mark m => cases m <;> first | exact h.elim | trivial
 | output => trivial
 | _ => exact h.elim
theorem tlow_of_okE {e : Event} (h : OkE S B e) {x : Touch} (hx : (MemAct.ofEvent e).touch? = some x) : x.loc.low B := by
 obtain ⟨loc, wr, sy⟩ := e
 cases loc with
 | cell b =>
  simp only [MemAct.ofEvent, MemAct.touch?, Option.some.injEq] at hx
  subst hx
  exact h.2
 | obj r =>
  obtain ⟨_, h2, h3⟩ := h
  cases wr <;> cases sy <;> simp only [MemAct.ofEvent, MemAct.touch?, Option.some.injEq] at hx <;> first | (cases hx; done) | (subst hx; exact h2)
 | mark m => cases m <;> first | exact h.elim | (simp [MemAct.ofEvent, MemAct.touch?] at hx)
 | output =>
  simp only [MemAct.ofEvent, MemAct.touch?, Option.some.injEq] at hx
  subst hx
  trivial
 | _ => exact h.elim
theorem touch_of_okE {e : Event} (h : OkE S B e) {x : Touch} (hx : (MemAct.ofEvent e).touch? = some x) : ¬ ShOf S x.loc := by
 obtain ⟨loc, wr, sy⟩ := e
 rintro ⟨a, ha, hs⟩
 cases loc with
 | cell b =>
  simp only [MemAct.ofEvent, MemAct.touch?, Option.some.injEq] at hx
  subst hx
  cases ha
  exact h.1 hs
 | obj r =>
  cases wr <;> cases sy <;> simp only [MemAct.ofEvent, MemAct.touch?, Option.some.injEq] at hx <;> first | (cases hx; done) | (subst hx; cases ha)
 | mark m => cases m <;> first | exact h.elim | (simp [MemAct.ofEvent, MemAct.touch?] at hx)
 | output =>
  simp only [MemAct.ofEvent, MemAct.touch?, Option.some.injEq] at hx
  subst hx
  cases ha
 | _ => exact h.elim
theorem still_of_okE {e : Event} (h : OkE S B e) : e.loc ≠ .mark .disable ∧ e.loc ≠ .mark .enable := by
 obtain ⟨loc, wr, sy⟩ := e
 cases loc with
 | mark m => cases m <;> first | exact h.elim | exact ⟨by simp, by simp⟩
 | _ => exact ⟨by simp, by simp⟩
theorem apart_none (Sh : Loc → Prop) : Apart Sh (fun _ _ => False) (fun _ _ => False) := ⟨fun _ _ _ h => h.elim, fun _ _ _ h => h.elim, fun _ _ h => h.elim, fun _ _ h => h.elim⟩
theorem Tr.mono {B' : Nat} (h : Tr S B n t) (hB : B ≤ B') : Tr S B' n t := ⟨h.ct, h.over, h.hears, fun op hop x hx => Loc.low_mono hB (h.seen op hop x hx)⟩
theorem Tr.own (h : Tr S B n t) {fn : FuncId} {pos : String} {es : Array Event} (hes : ∀ e ∈ es, OkE S B e) : Tr S B n (t ++ MemOp.ofEvents 0 fn pos es) := by
 have hg : ∀ op ∈ MemOp.ofEvents 0 fn pos es, op.g = 0 := fun op hop => by obtain ⟨e, _, rfl⟩ := Go.Conc.mem_ofEvents hop; rfl
 refine ⟨h.ct.app0 (apart_none _) fun op hop => ?_, handedOver_app h.over fun op hop => .inl (hg op hop), ?_, fun op hop => ?_⟩
 ·obtain ⟨e, he, rfl⟩ := Go.Conc.mem_ofEvents hop
  exact ⟨rfl, fun x hx => .inr ⟨touch_of_okE (hes e he) hx, fun _ _ _ h => h, fun _ _ _ _ h => h⟩⟩
 ·rw [Deaf_own, deafBehind_still (fun e he => still_of_okE (hes e he))]
  exact h.hears
 ·rcases Array.mem_append.1 hop with hop | hop
  ·exact h.seen op hop
  ·obtain ⟨e, he, rfl⟩ := Go.Conc.mem_ofEvents hop
   exact fun x hx => tlow_of_okE (hes e he) hx
theorem Tr.mute (h : Tr S B n t) {g : Nat} (hg : 1 ≤ g) (hgn : g < n) {fn : FuncId} {pos : String} {es : Array Event} (hm : ∀ e ∈ es, e.mute = true) : Tr S B n (t ++ MemOp.ofEvents g fn pos es) := by
 refine ⟨h.ct.appW (apart_none _) hg (by omega) fun op hop => ?_, handedOver_app h.over fun op hop => .inr ?_, ?_, fun op hop => ?_⟩
 ·obtain ⟨e, he, rfl⟩ := Go.Conc.mem_ofEvents hop
  exact ⟨rfl, fun x hx => by rw [touch_mute (hm e he)] at hx; cases hx⟩
 ·obtain ⟨e, he, rfl⟩ := Go.Conc.mem_ofEvents hop
  exact touch_mute (hm e he)
 ·rw [Deaf_other t (g' := g) (by omega) _ (fun op hop => by obtain ⟨e, _, rfl⟩ := Go.Conc.mem_ofEvents hop; rfl)]
  exact h.hears
 ·rcases Array.mem_append.1 hop with hop | hop
  ·exact h.seen op hop
  ·obtain ⟨e, he, rfl⟩ := Go.Conc.mem_ofEvents hop
   exact fun x hx => by rw [touch_mute (hm e he)] at hx; cases hx
theorem low_bound (t : Trace) (B : Nat) : ∃ B', B ≤ B' ∧ ∀ op ∈ t, op.act.low B' := by
 have one : ∀ (x : MemAct) (B : Nat), ∃ B', B ≤ B' ∧ x.low B' := by
  intro x B
  cases x with
  | access e =>
   obtain ⟨loc, wr, sy⟩ := e
   cases loc with
   | cell a => exact ⟨max B (a.block + 1), by omega, show a.block < _ by omega⟩
   | obj r => exact ⟨max B (r + 1), by omega, show r < _ by omega⟩
   | _ => exact ⟨B, by omega, trivial⟩
  | mark m => cases m <;> first | exact ⟨B, by omega, trivial⟩ | (rename_i a; exact ⟨max B (a.block + 1), by omega, show a.block < _ by omega⟩)
  | go _ => exact ⟨B, by omega, trivial⟩
  | start => exact ⟨B, by omega, trivial⟩
  | send c _ => exact ⟨max B (c + 1), by omega, show c < _ by omega⟩
  | sendDone c _ => exact ⟨max B (c + 1), by omega, show c < _ by omega⟩
  | recv c _ _ => exact ⟨max B (c + 1), by omega, show c < _ by omega⟩
  | recvDone c _ => exact ⟨max B (c + 1), by omega, show c < _ by omega⟩
  | close c => exact ⟨max B (c + 1), by omega, show c < _ by omega⟩
  | recvClosed c => exact ⟨max B (c + 1), by omega, show c < _ by omega⟩
 have key : ∀ (l : List MemOp) (B : Nat), ∃ B', B ≤ B' ∧ ∀ op ∈ l, op.act.low B' := by
  intro l
  induction l with
  | nil => exact fun B => ⟨B, Nat.le_refl _, by simp⟩
  | cons y l ih =>
   intro B
   obtain ⟨B1, h1, h2⟩ := ih B
   obtain ⟨B2, h3, h4⟩ := one y.act B1
   refine ⟨B2, by omega, fun op hop => ?_⟩
   rcases List.mem_cons.1 hop with rfl | hop
   ·exact h4
   ·exact MemAct.low_mono h3 (h2 op hop)
 obtain ⟨B', h1, h2⟩ := key t.toList B
 exact ⟨B', h1, fun op hop => h2 op (by simpa using hop)⟩
theorem Tr.past (h : Tr S B n t) : ∃ B', B ≤ B' ∧ Past (ShOf S) B' t := by
 obtain ⟨B', hB', hlow⟩ := low_bound t B
 refine ⟨B', hB', h.ct.nr, fun i a ha hm => ?_, h.over, h.hears, hlow⟩
 by_cases hs : ShOf S a.loc
 ·obtain ⟨op, hop, hoa⟩ := touch_of ha
  obtain ⟨h1, h2⟩ := h.ct.quiet i op a hop hoa hs
  cases hk : a.kind with
  | plain => exact absurd hk h1
  | atomic => exact .inr ⟨hs, rfl⟩
  | said =>
   have := knows_own hop
   rw [h2 hk] at this
   exact .inl this
 ·exact .inl (h.ct.free a.loc hs (fun _ _ _ => ⟨fun h => h, fun h => h⟩) i a ha rfl)
theorem leavers_step {gs : Array Goroutine} {q : Nat → Nat} {g g' : Goroutine} {w' : World} {i : Nat} {fn : FuncId} {pos : String} {es : Array Event} (hL : Leavers P t gs q) (hi : i < gs.size) :
  (∀ j x, 0 < j → j ≠ i → ((gs.map (woken P g g' w')).setIfInBounds i g')[j]? = some x → QuitsD P (q j) (Deaf (t ++ MemOp.ofEvents i fn pos es) j) x) ∧ ∀ j, gs.size ≤ j → Deaf (t ++ MemOp.ofEvents i fn pos es) j = 0 := by
 have ho : ∀ op ∈ MemOp.ofEvents i fn pos es, op.g = i := fun op hop => by obtain ⟨e, _, rfl⟩ := Go.Conc.mem_ofEvents hop; rfl
 refine ⟨fun j x hj hji hx => ?_, fun j hj => ?_⟩
 ·rw [Array.getElem?_setIfInBounds_ne (Ne.symm hji), Array.getElem?_map] at hx
  obtain ⟨y, hy, rfl⟩ := Option.map_eq_some_iff.1 hx
  have hq := hL.old j y hj hy
  rw [woken_quitsD hq, Deaf_other t (Ne.symm hji) _ ho]
  exact hq
 ·rw [Deaf_other t (g' := i) (by omega) _ ho]
  exact hL.above j hj
theorem co_rb {X : Goroutine → World → Prop} {a : Goroutine} {w : World} (h : Rb P S X a w) : ∀ (d0 : Nat) (gs : Array Goroutine) (sl : Option (Nat × Nat)) (t : Trace) (q : Nat → Nat), gs[0]? = some a → Leavers P t gs q → Tr S w.heap.size gs.size t →
  ∃ (N : Nat) (gs' : Array Goroutine) (a' : Goroutine) (w' : World) (sl' : Option (Nat × Nat)) (t' : Trace) (q' : Nat → Nat), runNT P N (crowd gs (w.at d0) sl) t = (.next (crowd gs' w' sl'), t') ∧ gs'.size = gs.size ∧ gs'[0]? = some a' ∧ (∀ w₁, Sim S w' w₁ → X a' w₁) ∧ Leavers P t' gs' q' ∧ Tr S w'.heap.size gs'.size t' := by
 induction h with
 | @stop g w hX => exact fun d0 gs sl t q h0 hL hT => ⟨0, gs, g, w.at d0, sl, t, q, rfl, rfl, h0, fun w₁ h₁ => hX w₁ ((Sim.at S w d0).trans h₁), hL, hT⟩
 | @step g w Gn Wn En hrun hstep hE hsz _ ih =>
  intro d0 gs sl t q h0 hL hT
  have key : ∀ (M d0 : Nat) (gs : Array Goroutine) (sl : Option (Nat × Nat)) (t : Trace) (q : Nat → Nat), sumTo gs.size q < M → gs[0]? = some g → Leavers P t gs q → Tr S w.heap.size gs.size t →
    ∃ (N : Nat) (gs' : Array Goroutine) (a' : Goroutine) (w' : World) (sl' : Option (Nat × Nat)) (t' : Trace) (q' : Nat → Nat), runNT P N (crowd gs (w.at d0) sl) t = (.next (crowd gs' w' sl'), t') ∧ gs'.size = gs.size ∧ gs'[0]? = some a' ∧ (∀ w₁, Sim S w' w₁ → X a' w₁) ∧ Leavers P t' gs' q' ∧ Tr S w'.heap.size gs'.size t' := by
   intro M
   induction M with
   | zero => exact fun d0 gs sl t q hM => absurd hM (Nat.not_lt_zero _)
   | succ M ihM =>
    intro d0 gs sl t q hM h0 hL hT
    have haw : ∀ x ∈ gs, awake x := by
     intro x hx
     obtain ⟨i, hi, rfl⟩ := Array.mem_iff_getElem.1 hx
     rcases Nat.eq_zero_or_pos i with rfl | hpos
     ·have : gs[0] = g := by simpa [Array.getElem?_eq_getElem hi] using h0
      rw [this]; exact awake_of (.inl hrun)
     ·exact awake_of ((hL.old i _ hpos (Array.getElem?_eq_getElem hi)).status.elim .inl fun x => .inr (.inr x))
    obtain ⟨i, x, d, sl', hi, hx, hst⟩ := crowd_pick (P := P) (w := w.at d0) (sl := sl) haw ⟨0, g, h0, hrun⟩
    replace hst : stepT P (crowd gs (w.at d0) sl) = runT P (crowd gs (w.at d) sl') i := hst
    have hlt : i < gs.size := (Array.getElem?_eq_some_iff.1 hi).1
    rcases Nat.eq_zero_or_pos i with rfl | hpos
    ·obtain rfl : x = g := by rw [h0] at hi; exact (Option.some.inj hi).symm
     have hrunT := runT_crowd_go (P := P) (sl := sl') (i := 0) hi (show stepG P (0 == 0) x (w.at d) = _ from hstep (w.at d) (Sim.at S w d))
     have hsz' : ((gs.map (woken P x (Gn (w.at d)) (Wn (w.at d)))).setIfInBounds 0 (Gn (w.at d))).size = gs.size := by simp
     obtain ⟨l1, l2⟩ := leavers_step (fn := x.frame.fn) (pos := x.frame.place) (es := En (w.at d)) (g := x) (g' := Gn (w.at d)) (w' := Wn (w.at d)) hL hlt
     obtain ⟨N, gs', a', w', sl'', t', q', hr, hs', h0', hX, hL', hT'⟩ := ih (w.at d) (Sim.at S w d) (Wn (w.at d)).drawn ((gs.map (woken P x (Gn (w.at d)) (Wn (w.at d)))).setIfInBounds 0 (Gn (w.at d))) sl' (t ++ MemOp.ofEvents 0 x.frame.fn x.frame.place (En (w.at d))) q (by simp [hlt])
      ⟨fun j y hj hy => l1 j y hj (by omega) hy, fun j hj => l2 j (by simpa using hj)⟩ (by rw [hsz']; exact (hT.mono (hsz _ (Sim.at S w d))).own (hE _ (Sim.at S w d)))
     exact ⟨N + 1, gs', a', w', sl'', t', q', by simp only [runNT, hst, hrunT]; exact hr, hs'.trans hsz', h0', hX, hL', hT'⟩
    ·have hq := hL.old i x hpos hi
     have hi0 : (i == 0) = false := by simp; omega
     cases hqi : q i with
     | zero => rw [hqi] at hq; rw [hq.1] at hx; cases hx
     | succ k =>
      rw [hqi] at hq
      rcases hq with ⟨hf, _⟩ | ⟨_, g', es, hm, hstp, hq'⟩
      ·rw [hf] at hx; cases hx
      have hrunT := runT_crowd_go (P := P) (sl := sl') (i := i) hi (by rw [hi0]; exact hstp (w.at d))
      have hsz' : ((gs.map (woken P x g' (w.at d))).setIfInBounds i g').size = gs.size := by simp
      have hsum : sumTo gs.size (upd q i k) + (k + 1) = sumTo gs.size q + k := by
       have := sumTo_upd q k id hlt
       simpa [hqi] using this
      obtain ⟨l1, l2⟩ := leavers_step (fn := x.frame.fn) (pos := x.frame.place) (es := es) (g := x) (g' := g') (w' := w.at d) hL hlt
      obtain ⟨N, gs', a', w', sl'', t', q', hr, hs', h0', hX, hL', hT'⟩ := ihM d ((gs.map (woken P x g' (w.at d))).setIfInBounds i g') sl' (t ++ MemOp.ofEvents i x.frame.fn x.frame.place es) (upd q i k) (by rw [hsz']; omega)
       (by
        have hne : i ≠ 0 := by omega
        rw [Array.getElem?_setIfInBounds_ne hne, Array.getElem?_map, h0]
        simp [woken_run hrun])
       ⟨fun j y hj hy => by
        by_cases hji : j = i
        ·subst hji
         rw [Array.getElem?_setIfInBounds_self_of_lt (by simpa using hlt)] at hy
         obtain rfl := Option.some.inj hy
         rw [upd_same, Deaf_own]
         exact hq'
        ·rw [upd_ne q k hji]
         exact l1 j y hj hji hy, fun j hj => l2 j (by simpa using hj)⟩
       (by rw [hsz']; exact hT.mute hpos hlt hm)
      exact ⟨N + 1, gs', a', w', sl'', t', q', by simp only [runNT, hst, hrunT]; exact hr, hs'.trans hsz', h0', hX, hL', hT'⟩
  exact key _ d0 gs sl t q (Nat.lt_succ_self _) h0 hL hT
def Last (P : Program) (S : Sh) (Post : Value → World → Prop) (g : Goroutine) (w : World) : Prop :=
 g.status = .running ∧ ∃ v es, stepG P true g w = .ended (.done v) w es ∧ (∀ e ∈ es, OkE S w.heap.size e) ∧ Post v w
theorem evL_of_okE {B : Nat} {e : Event} (h : OkE S B e) : EvL (ShOf S) B e :=
 ⟨fun _ hx hs => absurd hs (touch_of_okE h hx), (still_of_okE h).1, (still_of_okE h).2, low_of_okE h⟩
theorem co_end {Post : Value → World → Prop} {gs : Array Goroutine} {a : Goroutine} {w : World} {sl : Option (Nat × Nat)} {q : Nat → Nat} (h0 : gs[0]? = some a) (hL : Leavers P t gs q) (hT : Tr S w.heap.size gs.size t) (h : ∀ w₁, Sim S w w₁ → Last P S Post a w₁) :
  ∃ N last o w' t', runNT P (N + 1) (crowd gs w sl) t = (.ended o w', t') ∧ runN P N (crowd gs w sl) = .next last ∧ step P last = .ended o w' ∧ Good P Post last o w' t' := by
 obtain ⟨B', hB', hP⟩ := hT.past
 exact beside_ends (D := fun _ _ _ => False) (B := B') (Shun := ShOf S) (n := 0) (fun _ _ _ h => h.elim) h0 hL hP (fun w1 hw1 => by
  obtain ⟨d, rfl⟩ := hw1
  obtain ⟨h1, v, es, h2, h3, h4⟩ := h _ (Sim.at S w d)
  exact ⟨h1, v, es, h2, fun e he => evL_of_okE ((h3 e he).mono hB'), h4⟩)
end
end
end Go.Proofs.YtdafpnpfcmgfcaaGreatDoor
