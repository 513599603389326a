/- The way in company, carried out by the machine beside those that are only leaving. Workers each of which may add its own bit to one number, atomically, beside one that starts and awaits them: what is held of all of them at every moment. -/
import Derived.Test.YtdafpnpfcmgfcaaGreatDoorKb06
import Derived.Conc.CrowdTrace
import Derived.Conc.CrowdStepC2
namespace Go.Proofs.YtdafpnpfcmgfcaaGreatDoor
section
open Go Go.Conc Go.ConcN
def ShOf (S : Sh) : Loc → Prop := fun l => ∃ a, l = .cell a ∧ S a.block
def TLow (B : Nat) (op : MemOp) : Prop := ∀ x, op.act.touch? = some x → x.loc.low B
structure Tr (S : Sh) (B n : Nat) (t : Trace) : Prop where
 ct : CT (ShOf S) (fun _ _ => False) (fun _ _ => False) t (n - 1)
 over : t.HandedOver
 hears : Deaf t 0 = 0
 seen : ∀ op ∈ t, TLow B op
section
variable {P : Program} {S : Sh} {B n : Nat} {t : Trace}
theorem low_of_okE {e : Event} (h : OkE S B e) : (MemAct.ofEvent e).low B := by
 obtain ⟨loc, wr, sy⟩ := e
 cases loc with
 | cell a => exact h.2
 | obj r =>
  obtain ⟨_, h2, h3⟩ := h
  cases wr <;> cases sy <;> first | exact h2 | cases h3
 | mark m => cases m <;> first | exact h.elim | trivial
 | output => trivial
 | _ => exact h.elim
theorem tlow_of_okE {e : Event} (h : OkE S B e) {x : Touch} (hx : (MemAct.ofEvent e).touch? = some x) : x.loc.low B := by
 obtain ⟨loc, wr, sy⟩ := e
 cases loc with
 | cell b =>
  simp only [MemAct.ofEvent, MemAct.touch?, Option.some.injEq] at hx
  subst hx
  exact h.2
 | obj r =>
  obtain ⟨_, h2, h3⟩ := h
  cases wr <;> cases sy <;> simp only [MemAct.ofEvent, MemAct.touch?, Option.some.injEq] at hx <;> first | (cases hx; done) | (subst hx; exact h2)
 | mark m => cases m <;> first | exact h.elim | (simp [MemAct.ofEvent, MemAct.touch?] at hx)
 | output =>
  simp only [MemAct.ofEvent, MemAct.touch?, Option.some.injEq] at hx
  subst hx
  trivial
 | _ => exact h.elim
theorem touch_of_okE {e : Event} (h : OkE S B e) {x : Touch} (hx : (MemAct.ofEvent e).touch? = some x) : ¬ ShOf S x.loc := by
 obtain ⟨loc, wr, sy⟩ := e
 rintro ⟨a, ha, hs⟩
 cases loc with
 | cell b =>
  simp only [MemAct.ofEvent, MemAct.touch?, Option.some.injEq] at hx
  subst hx
  cases ha
  exact h.1 hs
 | obj r =>
  cases wr <;> cases sy <;> simp only [MemAct.ofEvent, MemAct.touch?, Option.some.injEq] at hx <;> first | (cases hx; done) | (subst hx; cases ha)
 | mark m => cases m <;> first | exact h.elim | (simp [MemAct.ofEvent, MemAct.touch?] at hx)
 | output =>
  simp only [MemAct.ofEvent, MemAct.touch?, Option.some.injEq] at hx
  subst hx
  cases ha
 | _ => exact h.elim
theorem still_of_okE {e : Event} (h : OkE S B e) : e.loc ≠ .mark .disable ∧ e.loc ≠ .mark .enable := by
 obtain ⟨loc, wr, sy⟩ := e
 cases loc with
 | mark m => cases m <;> first | exact h.elim | exact ⟨by simp, by simp⟩
 | _ => exact ⟨by simp, by simp⟩
theorem apart_none (Sh : Loc → Prop) : Apart Sh (fun _ _ => False) (fun _ _ => False) := ⟨fun _ _ _ h => h.elim, fun _ _ _ h => h.elim, fun _ _ h => h.elim, fun _ _ h => h.elim⟩
theorem Tr.mono {B' : Nat} (h : Tr S B n t) (hB : B ≤ B') : Tr S B' n t := ⟨h.ct, h.over, h.hears, fun op hop x hx => Loc.low_mono hB (h.seen op hop x hx)⟩
theorem Tr.own (h : Tr S B n t) {fn : FuncId} {pos : String} {es : Array Event} (hes : ∀ e ∈ es, OkE S B e) : Tr S B n (t ++ MemOp.ofEvents 0 fn pos es) := by
 have hg : ∀ op ∈ MemOp.ofEvents 0 fn pos es, op.g = 0 := fun op hop => by obtain ⟨e, _, rfl⟩ := Go.Conc.mem_ofEvents hop; rfl
 refine ⟨h.ct.app0 (apart_none _) fun op hop => ?_, handedOver_app h.over fun op hop => .inl (hg op hop), ?_, fun op hop => ?_⟩
 ·obtain ⟨e, he, rfl⟩ := Go.Conc.mem_ofEvents hop
  exact ⟨rfl, fun x hx => .inr ⟨touch_of_okE (hes e he) hx, fun _ _ _ h => h, fun _ _ _ _ h => h⟩⟩
 ·rw [Deaf_own, deafBehind_still (fun e he => still_of_okE (hes e he))]
  exact h.hears
 ·rcases Array.mem_append.1 hop with hop | hop
  ·exact h.seen op hop
  ·obtain ⟨e, he, rfl⟩ := Go.Conc.mem_ofEvents hop
   exact fun x hx => tlow_of_okE (hes e he) hx
theorem Tr.mute (h : Tr S B n t) {g : Nat} (hg : 1 ≤ g) (hgn : g < n) {fn : FuncId} {pos : String} {es : Array Event} (hm : ∀ e ∈ es, e.mute = true) : Tr S B n (t ++ MemOp.ofEvents g fn pos es) := by
 refine ⟨h.ct.appW (apart_none _) hg (by omega) fun op hop => ?_, handedOver_app h.over fun op hop => .inr ?_, ?_, fun op hop => ?_⟩
 ·obtain ⟨e, he, rfl⟩ := Go.Conc.mem_ofEvents hop
  exact ⟨rfl, fun x hx => by rw [touch_mute (hm e he)] at hx; cases hx⟩
 ·obtain ⟨e, he, rfl⟩ := Go.Conc.mem_ofEvents hop
  exact touch_mute (hm e he)
 ·rw [Deaf_other t (g' := g) (by omega) _ (fun op hop => by obtain ⟨e, _, rfl⟩ := Go.Conc.mem_ofEvents hop; rfl)]
  exact h.hears
 ·rcases Array.mem_append.1 hop with hop | hop
  ·exact h.seen op hop
  ·obtain ⟨e, he, rfl⟩ := Go.Conc.mem_ofEvents hop
   exact fun x hx => by rw [touch_mute (hm e he)] at hx; cases hx
theorem low_bound (t : Trace) (B : Nat) : ∃ B', B ≤ B' ∧ ∀ op ∈ t, op.act.low B' := by
 have one : ∀ (x : MemAct) (B : Nat), ∃ B', B ≤ B' ∧ x.low B' := by
  intro x B
  cases x with
  | access e =>
   obtain ⟨loc, wr, sy⟩ := e
   cases loc with
   | cell a => exact ⟨max B (a.block + 1), by omega, show a.block < _ by omega⟩
   | obj r => exact ⟨max B (r + 1), by omega, show r < _ by omega⟩
   | _ => exact ⟨B, by omega, trivial⟩
  | mark m => cases m <;> first | exact ⟨B, by omega, trivial⟩ | (rename_i a; exact ⟨max B (a.block + 1), by omega, show a.block < _ by omega⟩)
  | go _ => exact ⟨B, by omega, trivial⟩
  | start => exact ⟨B, by omega, trivial⟩
  | send c _ => exact ⟨max B (c + 1), by omega, show c < _ by omega⟩
  | sendDone c _ => exact ⟨max B (c + 1), by omega, show c < _ by omega⟩
  | recv c _ _ => exact ⟨max B (c + 1), by omega, show c < _ by omega⟩
  | recvDone c _ => exact ⟨max B (c + 1), by omega, show c < _ by omega⟩
  | close c => exact ⟨max B (c + 1), by omega, show c < _ by omega⟩
  | recvClosed c => exact ⟨max B (c + 1), by omega, show c < _ by omega⟩
 have key : ∀ (l : List MemOp) (B : Nat), ∃ B', B ≤ B' ∧ ∀ op ∈ l, op.act.low B' := by
  intro l
  induction l with
  | nil => exact fun B => ⟨B, Nat.le_refl _, by simp⟩
  | cons y l ih =>
   intro B
   obtain ⟨B1, h1, h2⟩ := ih B
   obtain ⟨B2, h3, h4⟩ := one y.act B1
   refine ⟨B2, by omega, fun op hop => ?_⟩
   rcases List.mem_cons.1 hop with rfl | hop
   ·exact h4
   ·exact MemAct.low_mono h3 (h2 op hop)
 obtain ⟨B', h1, h2⟩ := key t.toList B
 exact ⟨B', h1, fun op hop => h2 op (by simpa using hop)⟩
theorem Tr.past (h : Tr S B n t) : ∃ B', B ≤ B' ∧ Past (ShOf S) B' t := by
 obtain ⟨B', hB', hlow⟩ := low_bound t B
 refine ⟨B', hB', h.ct.nr, fun i a ha hm => ?_, h.over, h.hears, hlow⟩
 by_cases hs : ShOf S a.loc
 ·obtain ⟨op, hop, hoa⟩ := touch_of ha
  obtain ⟨h1, h2⟩ := h.ct.quiet i op a hop hoa hs
  cases hk : a.kind with
  | plain => exact absurd hk h1
  | atomic => exact .inr ⟨hs, rfl⟩
  | said =>
   have := knows_own hop
   rw [h2 hk] at this
   exact .inl this
 ·exact .inl (h.ct.free a.loc hs (fun _ _ _ => ⟨fun h => h, fun h => h⟩) i a ha rfl)
theorem leavers_step {gs : Array Goroutine} {q : Nat → Nat} {g g' : Goroutine} {w' : World} {i : Nat} {fn : FuncId} {pos : String} {es : Array Event} (hL : Leavers P t gs q) (hi : i < gs.size) :
  (∀ j x, 0 < j → j ≠ i → ((gs.map (woken P g g' w')).setIfInBounds i g')[j]? = some x → QuitsD P (q j) (Deaf (t ++ MemOp.ofEvents i fn pos es) j) x) ∧ ∀ j, gs.size ≤ j → Deaf (t ++ MemOp.ofEvents i fn pos es) j = 0 := by
 have ho : ∀ op ∈ MemOp.ofEvents i fn pos es, op.g = i := fun op hop => by obtain ⟨e, _, rfl⟩ := Go.Conc.mem_ofEvents hop; rfl
 refine ⟨fun j x hj hji hx => ?_, fun j hj => ?_⟩
 ·rw [Array.getElem?_setIfInBounds_ne (Ne.symm hji), Array.getElem?_map] at hx
  obtain ⟨y, hy, rfl⟩ := Option.map_eq_some_iff.1 hx
  have hq := hL.old j y hj hy
  rw [woken_quitsD hq, Deaf_other t (Ne.symm hji) _ ho]
  exact hq
 ·rw [Deaf_other t (g' := i) (by omega) _ ho]
  exact hL.above j hj
theorem co_rb {X : Goroutine → World → Prop} {a : Goroutine} {w : World} (h : Rb P S X a w) : ∀ (d0 : Nat) (gs : Array Goroutine) (sl : Option (Nat × Nat)) (t : Trace) (q : Nat → Nat), gs[0]? = some a → Leavers P t gs q → Tr S w.heap.size gs.size t →
  ∃ (N : Nat) (gs' : Array Goroutine) (a' : Goroutine) (w' : World) (sl' : Option (Nat × Nat)) (t' : Trace) (q' : Nat → Nat), runNT P N (crowd gs (w.at d0) sl) t = (.next (crowd gs' w' sl'), t') ∧ gs'.size = gs.size ∧ gs'[0]? = some a' ∧ (∀ w₁, Sim S w' w₁ → X a' w₁) ∧ Leavers P t' gs' q' ∧ Tr S w'.heap.size gs'.size t' := by
 induction h with
 | @stop g w hX => exact fun d0 gs sl t q h0 hL hT => ⟨0, gs, g, w.at d0, sl, t, q, rfl, rfl, h0, fun w₁ h₁ => hX w₁ ((Sim.at S w d0).trans h₁), hL, hT⟩
 | @step g w Gn Wn En hrun hstep hE hsz _ ih =>
  intro d0 gs sl t q h0 hL hT
  have key : ∀ (M d0 : Nat) (gs : Array Goroutine) (sl : Option (Nat × Nat)) (t : Trace) (q : Nat → Nat), sumTo gs.size q < M → gs[0]? = some g → Leavers P t gs q → Tr S w.heap.size gs.size t →
    ∃ (N : Nat) (gs' : Array Goroutine) (a' : Goroutine) (w' : World) (sl' : Option (Nat × Nat)) (t' : Trace) (q' : Nat → Nat), runNT P N (crowd gs (w.at d0) sl) t = (.next (crowd gs' w' sl'), t') ∧ gs'.size = gs.size ∧ gs'[0]? = some a' ∧ (∀ w₁, Sim S w' w₁ → X a' w₁) ∧ Leavers P t' gs' q' ∧ Tr S w'.heap.size gs'.size t' := by
   intro M
   induction M with
   | zero => exact fun d0 gs sl t q hM => absurd hM (Nat.not_lt_zero _)
   | succ M ihM =>
    intro d0 gs sl t q hM h0 hL hT
    have haw : ∀ x ∈ gs, awake x := by
     intro x hx
     obtain ⟨i, hi, rfl⟩ := Array.mem_iff_getElem.1 hx
     rcases Nat.eq_zero_or_pos i with rfl | hpos
     ·have : gs[0] = g := by simpa [Array.getElem?_eq_getElem hi] using h0
      rw [this]; exact awake_of (.inl hrun)
     ·exact awake_of ((hL.old i _ hpos (Array.getElem?_eq_getElem hi)).status.elim .inl fun x => .inr (.inr x))
    obtain ⟨i, x, d, sl', hi, hx, hst⟩ := crowd_pick (P := P) (w := w.at d0) (sl := sl) haw ⟨0, g, h0, hrun⟩
    replace hst : stepT P (crowd gs (w.at d0) sl) = runT P (crowd gs (w.at d) sl') i := hst
    have hlt : i < gs.size := (Array.getElem?_eq_some_iff.1 hi).1
    rcases Nat.eq_zero_or_pos i with rfl | hpos
    ·obtain rfl : x = g := by rw [h0] at hi; exact (Option.some.inj hi).symm
     have hrunT := runT_crowd_go (P := P) (sl := sl') (i := 0) hi (show stepG P (0 == 0) x (w.at d) = _ from hstep (w.at d) (Sim.at S w d))
     have hsz' : ((gs.map (woken P x (Gn (w.at d)) (Wn (w.at d)))).setIfInBounds 0 (Gn (w.at d))).size = gs.size := by simp
     obtain ⟨l1, l2⟩ := leavers_step (fn := x.frame.fn) (pos := x.frame.place) (es := En (w.at d)) (g := x) (g' := Gn (w.at d)) (w' := Wn (w.at d)) hL hlt
     obtain ⟨N, gs', a', w', sl'', t', q', hr, hs', h0', hX, hL', hT'⟩ := ih (w.at d) (Sim.at S w d) (Wn (w.at d)).drawn ((gs.map (woken P x (Gn (w.at d)) (Wn (w.at d)))).setIfInBounds 0 (Gn (w.at d))) sl' (t ++ MemOp.ofEvents 0 x.frame.fn x.frame.place (En (w.at d))) q (by simp [hlt])
      ⟨fun j y hj hy => l1 j y hj (by omega) hy, fun j hj => l2 j (by simpa using hj)⟩ (by rw [hsz']; exact (hT.mono (hsz _ (Sim.at S w d))).own (hE _ (Sim.at S w d)))
     exact ⟨N + 1, gs', a', w', sl'', t', q', by simp only [runNT, hst, hrunT]; exact hr, hs'.trans hsz', h0', hX, hL', hT'⟩
    ·have hq := hL.old i x hpos hi
     have hi0 : (i == 0) = false := by simp; omega
     cases hqi : q i with
     | zero => rw [hqi] at hq; rw [hq.1] at hx; cases hx
     | succ k =>
      rw [hqi] at hq
      rcases hq with ⟨hf, _⟩ | ⟨_, g', es, hm, hstp, hq'⟩
      ·rw [hf] at hx; cases hx
      have hrunT := runT_crowd_go (P := P) (sl := sl') (i := i) hi (by rw [hi0]; exact hstp (w.at d))
      have hsz' : ((gs.map (woken P x g' (w.at d))).setIfInBounds i g').size = gs.size := by simp
      have hsum : sumTo gs.size (upd q i k) + (k + 1) = sumTo gs.size q + k := by
       have := sumTo_upd q k id hlt
       simpa [hqi] using this
      obtain ⟨l1, l2⟩ := leavers_step (fn := x.frame.fn) (pos := x.frame.place) (es := es) (g := x) (g' := g') (w' := w.at d) hL hlt
      obtain ⟨N, gs', a', w', sl'', t', q', hr, hs', h0', hX, hL', hT'⟩ := ihM d ((gs.map (woken P x g' (w.at d))).setIfInBounds i g') sl' (t ++ MemOp.ofEvents i x.frame.fn x.frame.place es) (upd q i k) (by rw [hsz']; omega)
       (by
        have hne : i ≠ 0 := by omega
        rw [Array.getElem?_setIfInBounds_ne hne, Array.getElem?_map, h0]
        simp [woken_run hrun])
       ⟨fun j y hj hy => by
        by_cases hji : j = i
        ·subst hji
         rw [Array.getElem?_setIfInBounds_self_of_lt (by simpa using hlt)] at hy
         obtain rfl := Option.some.inj hy
         rw [upd_same, Deaf_own]
         exact hq'
        ·rw [upd_ne q k hji]
         exact l1 j y hj hji hy, fun j hj => l2 j (by simpa using hj)⟩
       (by rw [hsz']; exact hT.mute hpos hlt hm)
      exact ⟨N + 1, gs', a', w', sl'', t', q', by simp only [runNT, hst, hrunT]; exact hr, hs'.trans hsz', h0', hX, hL', hT'⟩
  exact key _ d0 gs sl t q (Nat.lt_succ_self _) h0 hL hT
def Last (P : Program) (S : Sh) (Post : Value → World → Prop) (g : Goroutine) (w : World) : Prop :=
 g.status = .running ∧ ∃ v es, stepG P true g w = .ended (.done v) w es ∧ (∀ e ∈ es, OkE S w.heap.size e) ∧ Post v w
theorem evL_of_okE {B : Nat} {e : Event} (h : OkE S B e) : EvL (ShOf S) B e :=
 ⟨fun _ hx hs => absurd hs (touch_of_okE h hx), (still_of_okE h).1, (still_of_okE h).2, low_of_okE h⟩
theorem co_end {Post : Value → World → Prop} {gs : Array Goroutine} {a : Goroutine} {w : World} {sl : Option (Nat × Nat)} {q : Nat → Nat} (h0 : gs[0]? = some a) (hL : Leavers P t gs q) (hT : Tr S w.heap.size gs.size t) (h : ∀ w₁, Sim S w w₁ → Last P S Post a w₁) :
  ∃ N last o w' t', runNT P (N + 1) (crowd gs w sl) t = (.ended o w', t') ∧ runN P N (crowd gs w sl) = .next last ∧ step P last = .ended o w' ∧ Good P Post last o w' t' := by
 obtain ⟨B', hB', hP⟩ := hT.past
 exact beside_ends (D := fun _ _ _ => False) (B := B') (Shun := ShOf S) (n := 0) (fun _ _ _ h => h.elim) h0 hL hP (fun w1 hw1 => by
  obtain ⟨d, rfl⟩ := hw1
  obtain ⟨h1, v, es, h2, h3, h4⟩ := h _ (Sim.at S w d)
  exact ⟨h1, v, es, h2, fun e he => evL_of_okE ((h3 e he).mono hB'), h4⟩)
end
end
section
open Go Go.Conc Go.ConcN
open Go.ConcR (KK wgBlock WgAt stA smA rd wr mk Payload DC0 Bk g_of_ofEvents)
def NoOwn : Nat → Loc → Prop := fun _ _ => False
section
variable [Payload] (P : Program) (ty nty : TypeId) (S : Sh) (B0 base : Nat) (bit : Nat → Nat)
def NAt (N : Nat) (w : World) : Prop := w.heap[B0 + 1]? = some (.cells #[.int .u32 N] nty)
def nA : Addr := ⟨B0 + 1, 0, none⟩
def S3 : Sh := ⟨fun b => S b ∨ b = B0 + 1 ∨ b = B0 + 2, S.start⟩
def SJ (j : Nat) : Sh := ⟨fun b => S3 S B0 b ∨ ∃ i, i < j ∧ b = B0 + 3 + i, S.start⟩
def RdP (k : Nat) (l : Loc) : Prop := base ≤ k ∧ ∃ a, l = .cell a ∧ (a.block ≤ B0 ∨ a.block = B0 + 3 + (k - base)) ∧ ¬ S a.block
def RdW (i : Nat) : Nat → Loc → Prop := fun _ l => RdP S B0 base (base + i) l
def RWk (i : Nat) : World → World → Prop := RW ty (B0 + 2) (B0 + 3 + i) 1 (B0 + 1) 0
def DWk (i : Nat) : World → World → Array Event → Prop := DWs (B0 + 2) NoOwn (RdW S B0 base i) (B0 + 3 + i) 1 1
def R0k (i : Nat) : Goroutine → World → Prop := AtR0 P ty (B0 + 2) (B0 + 3 + i) 1 (B0 + 1) 1 (.int .i64 i)
def AtAdd (i M2 : Nat) (g : Goroutine) (w : World) : Prop :=
 g.status = .running ∧ ∀ N : Nat, N + bit i < 4294967296 → NAt nty B0 N w → ∃ g', stepG P false g w = .go g' (w.setCell (nA B0) (.int .u32 ((N + bit i : Nat) : Int))) #[rd (nA B0), wr (nA B0)] ∧
  Goes P false (RWk ty B0 i) (DWk S B0 base i) (R0k P ty B0 i) M2 g' (w.setCell (nA B0) (.int .u32 ((N + bit i : Nat) : Int)))
inductive WkS (i : Nat) : Bool → Nat → Nat → Nat → Goroutine → World → Prop
 | pre {M2 m : Nat} {g : Goroutine} {w : World} : Goes P false (RWk ty B0 i) (DWk S B0 base i) (AtAdd P ty nty S B0 base bit i M2) m g w → WkS i false 7 (m + M2 + 1) 0 g w
 | go {s m d : Nat} {g : Goroutine} {w : World} : WSit P ty (B0 + 2) (B0 + 3 + i) 1 NoOwn (RdW S B0 base i) (B0 + 1) 1 (.int .i64 i) s m d g w → WkS i true s m d g w
def After (t : Trace) (k r : Nat) : Prop := ∀ x b, r < x → t.g? x = some k → touchAt t x = some b → ShOf (S3 S B0) b.loc
def bitsIn (j : Nat) (Ad : Nat → Bool) : Nat := sumTo j fun i => if Ad i = true then bit i else 0
structure Cw (j : Nat) (tag : CTag) (d0 T0 N0 : Nat) (gs : Array Goroutine) (w : World) (t : Trace) (D : Nat → WD) (Ad : Nat → Bool) (q : Nat → Nat) (st sm : Int) : Prop where
 base1 : 1 ≤ base
 size : gs.size = base + j
 old : ∀ i g, 0 < i → i < base → gs[i]? = some g → QuitsD P (q i) (Deaf t i) g
 wk : ∀ i, i < j → ∃ g, gs[base + i]? = some g ∧ WkS P ty nty S B0 base bit i (Ad i) (D i).stage (D i).fuel (D i).deaf g w
 ct : CT (ShOf (S3 S B0)) NoOwn (RdP S B0 base) t (base + j - 1)
 norel : ∀ i, T0 ≤ i → t.act? i ≠ some (.mark (.release (stA (B0 + 2))))
 begun : T0 ≤ t.size
 deaf0 : Deaf t 0 = d0
 deafW : ∀ i, i < j → Deaf t (base + i) = (D i).deaf
 above : ∀ i, base + j ≤ i → Deaf t i = 0
 rel : ∀ i, i < j → (D i).stage ≤ 6 → ∃ r, RelBy (stA (B0 + 2)) t (base + i) r ∧ After S B0 t (base + i) r
 early : ∀ i g, i < T0 → t.g? i = some g → g < base
 box : ∀ i, i < j → PayAt (B0 + 3 + i) 1 w
 noted : NAt nty B0 (N0 + bitsIn bit j Ad) w
 wg : WgAt ty (B0 + 2) w st sm
 mode : Go.ConcN.Mode j D tag st sm
 seen : ∀ op ∈ t, TLow w.heap.size op
 kn : ∀ i a, touchAt t i = some a → ¬ ShOf (S3 S B0) a.loc → (∃ k, base ≤ k ∧ t.g? i = some k) ∨ Knows t 0 i
 over : ∀ i g, t.g? i = some g → g ≠ 0 → g < base → t.counts i → ∃ x, t.g? x = some 0 ∧ HappensBefore t i x
 room : B0 + 3 + j ≤ w.heap.size
end
section
variable {S : Sh} {B0 base : Nat}
theorem apart3 : Apart (ShOf (S3 S B0)) NoOwn (RdP S B0 base) := by
 refine ⟨fun _ _ _ h => h.elim, fun _ _ _ h => h.elim, fun _ _ h => h.elim, ?_⟩
 rintro k l ⟨_, a, rfl, h1, h2⟩ ⟨b, hb, h3⟩
 cases hb
 rcases h3 with h3 | h3 | h3
 ·exact h2 h3
 ·omega
 ·omega
theorem get_other {gs : Array Goroutine} {f : Goroutine → Goroutine} {x : Nat} {y : Goroutine} {b : Nat} (hb : x ≠ b) : ((gs.map f).setIfInBounds x y)[b]? = (gs[b]?).map f := by
 rw [Array.getElem?_setIfInBounds_ne hb, Array.getElem?_map]
variable {t : Trace}
theorem early_app {u : Trace} {T0 : Nat} (hT : T0 ≤ t.size) (h : ∀ i g, i < T0 → t.g? i = some g → g < base) : ∀ i g, i < T0 → (t ++ u).g? i = some g → g < base :=
 fun i g hi hg => h i g hi (by rw [← g?_old (u := u) (by omega)]; exact hg)
theorem after_app {u : Trace} {k r : Nat} (h : After S B0 t k r) (hu : ∀ op ∈ u, op.g = k → ∀ b, op.act.touch? = some b → ShOf (S3 S B0) b.loc) : After S B0 (t ++ u) k r := by
 intro x b hx hg hb
 obtain ⟨op, ho, hob⟩ := touch_of hb
 rcases getElem?_append_cases ho with ⟨hlt, ho'⟩ | ⟨_, hou⟩
 ·exact h x b hx (by rw [← g?_old (u := u) hlt]; exact hg) (by rw [touchAt_of ho']; exact hob)
 ·exact hu op hou (by simpa [Trace.g?, ho] using hg) b hob
theorem after_other {u : Trace} {k r g : Nat} (hg : ∀ op ∈ u, op.g = g) (hne : g ≠ k) (h : After S B0 t k r) : After S B0 (t ++ u) k r :=
 after_app h fun op hop e => absurd ((hg op hop).symm.trans e) hne
theorem norel_app {u : Trace} {a : Addr} {T0 : Nat} (h : ∀ i, T0 ≤ i → t.act? i ≠ some (.mark (.release a))) (hu : ∀ op ∈ u, op.act ≠ .mark (.release a)) : ∀ i, T0 ≤ i → (t ++ u).act? i ≠ some (.mark (.release a)) := by
 intro i hi e
 obtain ⟨op, ho, hoa⟩ := Option.map_eq_some_iff.1 e
 rcases getElem?_append_cases ho with ⟨_, ho'⟩ | ⟨_, hou⟩
 ·exact h i hi (by rw [act?_of ho', hoa])
 ·exact hu op hou hoa
theorem known_app {u : Trace} {k : Nat} (hk : ∀ op ∈ u, op.g = k)
  (h : ∀ i a, touchAt t i = some a → ¬ ShOf (S3 S B0) a.loc → (∃ k, base ≤ k ∧ t.g? i = some k) ∨ Knows t 0 i) (h2 : base ≤ k ∨ k = 0 ∨ ∀ op ∈ u, op.act.touch? = none) :
  ∀ i a, touchAt (t ++ u) i = some a → ¬ ShOf (S3 S B0) a.loc → (∃ k, base ≤ k ∧ (t ++ u).g? i = some k) ∨ Knows (t ++ u) 0 i := by
 intro i a ha hn
 obtain ⟨x, hx, hxa⟩ := touch_of ha
 rcases getElem?_append_cases hx with ⟨hi, hx'⟩ | ⟨_, hxu⟩
 ·rcases h i a (by rw [touchAt_of hx']; exact hxa) hn with ⟨k, h1, h3⟩ | h
  ·exact Or.inl ⟨k, h1, by rw [g?_old hi]; exact h3⟩
  ·exact Or.inr (h.app u)
 ·rcases h2 with h2 | h2 | h2
  ·exact Or.inl ⟨k, h2, by simp [Trace.g?, hx, hk x hxu]⟩
  ·have := knows_own hx
   rw [hk x hxu, h2] at this
   exact Or.inr this
  ·rw [h2 x hxu] at hxa; cases hxa
theorem over_app {u : Trace} {k : Nat} (hk : ∀ op ∈ u, op.g = k) (h : ∀ i g, t.g? i = some g → g ≠ 0 → g < base → t.counts i → ∃ x, t.g? x = some 0 ∧ HappensBefore t i x)
  (h2 : base ≤ k ∨ k = 0 ∨ ∀ op ∈ u, op.act.touch? = none) : ∀ i g, (t ++ u).g? i = some g → g ≠ 0 → g < base → (t ++ u).counts i → ∃ x, (t ++ u).g? x = some 0 ∧ HappensBefore (t ++ u) i x := by
 intro i g hg h0 hb hc
 rcases Nat.lt_or_ge i t.size with hlt | hge
 ·obtain ⟨x, hx, hb'⟩ := h i g (by rw [← g?_old (u := u) hlt]; exact hg) h0 hb ((counts_old hlt).1 hc)
  have hxl : x < t.size := by
   unfold Trace.g? at hx
   obtain ⟨z, hz, _⟩ := Option.map_eq_some_iff.1 hx
   exact lt_size_of_getElem? hz
  exact ⟨x, by rw [g?_old hxl]; exact hx, hb_app u hb'⟩
 ·obtain ⟨op, ho, hog⟩ := Option.map_eq_some_iff.1 hg
  rcases getElem?_append_cases ho with ⟨hlt, _⟩ | ⟨_, hou⟩
  ·omega
  ·have := hk op hou
   rcases h2 with h2 | h2 | h2
   ·omega
   ·omega
   ·obtain ⟨x, hx, _⟩ := hc
    obtain ⟨y, hy, hya⟩ := touch_of hx
    rw [ho] at hy
    cases hy
    rw [h2 op hou] at hya
    cases hya
end
section
variable [Payload] {P : Program} {ty nty : TypeId} {S : Sh} {B0 base : Nat} {bit : Nat → Nat}
theorem RWk.refl (i : Nat) (w : World) : RWk ty B0 i w w := RW.refl w
theorem RWk.trans {i : Nat} {a b c : World} (h : RWk ty B0 i a b) (h' : RWk ty B0 i b c) : RWk ty B0 i a c := RW.trans h h'
theorem WkS.rely {i : Nat} {ad : Bool} {s m d : Nat} {g : Goroutine} {w w₁ : World} (h : WkS P ty nty S B0 base bit i ad s m d g w) (hr : RWk ty B0 i w w₁) : WkS P ty nty S B0 base bit i ad s m d g w₁ := by
 cases h with
 | pre h => exact .pre (Goes.rely (R := RWk ty B0 i) (fun _ _ _ a b => RWk.trans a b) h hr)
 | go h => exact .go (h.rely hr)
theorem WkS.status {i : Nat} {ad : Bool} {s m d : Nat} {g : Goroutine} {w : World} (h : WkS P ty nty S B0 base bit i ad s m d g w) : g.status = .running ∨ g.status = .finished := by
 cases h with
 | pre h => exact Or.inl (Goes.running (fun _ _ x => x.1) w (RWk.refl i w) h)
 | go h => exact h.status
theorem WkS.woken {i : Nat} {ad : Bool} {s m d : Nat} {g : Goroutine} {w : World} (h : WkS P ty nty S B0 base bit i ad s m d g w) (a a' : Goroutine) (w' : World) : woken P a a' w' g = g := by
 unfold Go.Conc.woken
 split
 ·exact again_running _ h.status
 ·rfl
variable {j : Nat} {tag : CTag} {d0 T0 N0 : Nat} {gs : Array Goroutine} {w : World} {t : Trace} {D : Nat → WD} {Ad : Nat → Bool} {q : Nat → Nat} {st sm : Int}
theorem Cw.stepW (h : Cw P ty nty S B0 base bit j tag d0 T0 N0 gs w t D Ad q st sm) {i : Nat} (hi : i < j) {g g' : Goroutine} {w' : World} {fn : FuncId} {pos : String} {es : Array Event} {ad' : Bool} {s' m' dd' : Nat} {tag' : CTag} {st' sm' : Int}
  (hrw : ∀ i', i' < j → i' ≠ i → RWk ty B0 i' w w') (hs' : WkS P ty nty S B0 base bit i ad' s' m' dd' g' w')
  (hok : ∀ op ∈ MemOp.ofEvents (base + i) fn pos es, OkW (ShOf (S3 S B0)) NoOwn (RdP S B0 base) (base + i) op) (hnr : ∀ e ∈ es, e.loc ≠ .mark (.release (stA (B0 + 2)))) (hdeaf : deafBehind (D i).deaf es = dd')
  (hrel : s' ≤ 6 → ∃ r, RelBy (stA (B0 + 2)) (t ++ MemOp.ofEvents (base + i) fn pos es) (base + i) r ∧ After S B0 (t ++ MemOp.ofEvents (base + i) fn pos es) (base + i) r) (hbox : PayAt (B0 + 3 + i) 1 w') (hno : NAt nty B0 (N0 + bitsIn bit j (upd Ad i ad')) w') (hwg : WgAt ty (B0 + 2) w' st' sm')
  (hmode : Go.ConcN.Mode j (upd D i ⟨s', m', dd'⟩) tag' st' sm') (hsz : w'.heap.size = w.heap.size) (hlow : ∀ op ∈ MemOp.ofEvents (base + i) fn pos es, TLow w.heap.size op) :
  Cw P ty nty S B0 base bit j tag' d0 T0 N0 ((gs.map (woken P g g' w')).setIfInBounds (base + i) g') w' (t ++ MemOp.ofEvents (base + i) fn pos es) (upd D i ⟨s', m', dd'⟩) (upd Ad i ad') q st' sm' := by
 have hb := h.base1
 refine ⟨hb, by simp [h.size], fun k x hk hkb hx => ?_, fun i' hi' => ?_, h.ct.appW apart3 (by omega) (by omega) hok, norel_app h.norel (norel_of hnr), by have := h.begun; simp; omega, by rw [Deaf_other t (by omega) _ g_of_ofEvents, h.deaf0], fun i' hi' => ?_, fun k hk => by rw [Deaf_other t (by omega) _ g_of_ofEvents, h.above k hk], fun i' hi' hst => ?_, early_app h.begun h.early, fun i' hi' => ?_, hno, hwg, hmode, fun op hop => ?_, known_app g_of_ofEvents h.kn (Or.inl (by omega)), over_app g_of_ofEvents h.over (Or.inl (by omega)), by rw [hsz]; exact h.room⟩
 ·rw [get_other (by omega)] at hx
  obtain ⟨y, hy, rfl⟩ := Option.map_eq_some_iff.1 hx
  have hq := h.old k y hk hkb hy
  rw [woken_quitsD hq, Deaf_other t (by omega) _ g_of_ofEvents]
  exact hq
 ·by_cases e : i' = i
  ·subst e
   exact ⟨g', by simp [h.size, hi], by rw [upd_same, upd_same]; exact hs'⟩
  ·obtain ⟨x, hx, hsx⟩ := h.wk i' hi'
   refine ⟨x, by rw [get_other (by omega), hx, Option.map_some, hsx.woken], ?_⟩
   rw [upd_ne D _ e, upd_ne Ad _ e]
   exact hsx.rely (hrw i' hi' e)
 ·by_cases e : i' = i
  ·subst e; rw [Deaf_own, h.deafW i' hi', upd_same]; exact hdeaf
  ·rw [Deaf_other t (by omega) _ g_of_ofEvents, h.deafW i' hi', upd_ne D _ e]
 ·by_cases e : i' = i
  ·subst e; rw [upd_same] at hst; exact hrel hst
  ·rw [upd_ne D _ e] at hst
   obtain ⟨r, hr, hr'⟩ := h.rel i' hi' hst
   exact ⟨r, hr.appOther g_of_ofEvents (by omega), after_other g_of_ofEvents (by omega) hr'⟩
 ·by_cases e : i' = i
  ·subst e; exact hbox
  ·exact (hrw i' hi' e).pay (h.box i' hi')
 ·rcases Array.mem_append.1 hop with hop | hop
  ·rw [hsz]; exact h.seen op hop
  ·rw [hsz]; exact hlow op hop
theorem Cw.stepOld (h : Cw P ty nty S B0 base bit j tag d0 T0 N0 gs w t D Ad q st sm) {k kq : Nat} (hk : 0 < k) (hkb : k < base) {g g' : Goroutine} {fn : FuncId} {pos : String} {es : Array Event} (hm : ∀ e ∈ es, Event.mute e = true) (hq : QuitsD P kq (deafBehind (Deaf t k) es) g') :
  Cw P ty nty S B0 base bit j tag d0 T0 N0 ((gs.map (woken P g g' w)).setIfInBounds k g') w (t ++ MemOp.ofEvents k fn pos es) D Ad (upd q k kq) st sm := by
 have hb := h.base1
 have hnt : ∀ op ∈ MemOp.ofEvents k fn pos es, op.act.touch? = none := fun op hop => by obtain ⟨e, he, rfl⟩ := Go.Conc.mem_ofEvents hop; exact touch_mute (hm e he)
 refine ⟨hb, by simp [h.size], fun k' x hk' hkb' hx => ?_, fun i' hi' => ?_, h.ct.appW (k := k) apart3 (by omega) (by omega) fun op hop => ?_, norel_app h.norel fun op hop => ?_, by have := h.begun; simp; omega, by rw [Deaf_other t (by omega) _ g_of_ofEvents, h.deaf0], fun i' hi' => by rw [Deaf_other t (by omega) _ g_of_ofEvents, h.deafW i' hi'], fun k' hk' => by rw [Deaf_other t (by omega) _ g_of_ofEvents, h.above k' hk'], fun i' hi' hst => ?_, early_app h.begun h.early, h.box, h.noted, h.wg, h.mode, fun op hop => ?_, known_app g_of_ofEvents h.kn (Or.inr (Or.inr hnt)), over_app g_of_ofEvents h.over (Or.inr (Or.inr hnt)), h.room⟩
 ·by_cases e : k' = k
  ·subst e
   rw [Array.getElem?_setIfInBounds_self_of_lt (by simp [h.size]; omega)] at hx
   obtain rfl := Option.some.inj hx
   rw [upd_same, Deaf_own]
   exact hq
  ·rw [get_other (Ne.symm e)] at hx
   obtain ⟨y, hy, rfl⟩ := Option.map_eq_some_iff.1 hx
   have hq := h.old k' y hk' hkb' hy
   rw [upd_ne q _ e, woken_quitsD hq, Deaf_other t (by omega) _ g_of_ofEvents]
   exact hq
 ·obtain ⟨x, hx, hsx⟩ := h.wk i' hi'
  exact ⟨x, by rw [get_other (by omega), hx, Option.map_some, hsx.woken], hsx⟩
 ·obtain ⟨e, he, rfl⟩ := Go.Conc.mem_ofEvents hop
  exact ⟨rfl, fun x hx => by rw [touch_mute (hm e he)] at hx; cases hx⟩
 ·obtain ⟨e, he, rfl⟩ := Go.Conc.mem_ofEvents hop
  intro e2
  have := hm e he
  obtain ⟨loc, wr, sy⟩ := e
  cases loc with
  | mark m => cases m <;> simp_all [Event.mute, MemAct.ofEvent]
  | obj r => cases wr <;> cases sy <;> simp_all [Event.mute, MemAct.ofEvent]
  | _ => simp_all [Event.mute, MemAct.ofEvent]
 ·obtain ⟨r, hr, hr'⟩ := h.rel i' hi' hst
  exact ⟨r, hr.appOther g_of_ofEvents (by omega), after_other g_of_ofEvents (by omega) hr'⟩
 ·rcases Array.mem_append.1 hop with hop | hop
  ·exact h.seen op hop
  ·exact fun x hx => by rw [hnt op hop] at hx; cases hx
end
end
end Go.Proofs.YtdafpnpfcmgfcaaGreatDoor
