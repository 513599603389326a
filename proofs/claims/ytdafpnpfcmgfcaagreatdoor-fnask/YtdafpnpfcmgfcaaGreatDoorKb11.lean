/- The starter beside its workers: the join, the go statement, and what is left behind. Goroutine 0 beside those that are only leaving, step by step; from there to the crew. The starter's own steps between the group's: a new variable, its value, a go statement, a look at the number. Beside leavers: a new variable. -/
import Derived.Test.YtdafpnpfcmgfcaaGreatDoorKb10
import Derived.Conc.Starve
namespace Go.Proofs.YtdafpnpfcmgfcaaGreatDoor
section
open Go Go.Conc Go.ConcN
open Go.ConcR (KK wgBlock WgAt stA smA rd wr mk Payload DC0 Bk g_of_ofEvents)
structure Like (B0 j : Nat) (v v' : World) : Prop where
 size : v'.heap.size = v.heap.size
 out : ∀ b, ¬ (B0 + 3 ≤ b ∧ b < B0 + 3 + j) → v'.heap[b]? = v.heap[b]?
 os : v'.os = v.os
 output : v'.output = v.output
section
variable {S : Sh} {B0 j : Nat} {v w : World}
theorem unshun (h : Cp (SJ S B0 j) v w) (hS : ∀ b, S b → b < B0) : ∃ v', Cp (SJ S B0 0) v' w ∧ Like B0 j v v' := by
 have hm : ∀ b, (v.heap.mapIdx fun i o => if B0 + 3 ≤ i ∧ i < B0 + 3 + j then (w.heap[i]?).getD o else o)[b]? = v.heap[b]?.map fun o => if B0 + 3 ≤ b ∧ b < B0 + 3 + j then (w.heap[b]?).getD o else o := fun b => by rw [Array.getElem?_mapIdx]
 refine ⟨{ v with heap := v.heap.mapIdx fun i o => if B0 + 3 ≤ i ∧ i < B0 + 3 + j then (w.heap[i]?).getD o else o }, ⟨by simpa using h.size, fun b hb => ?_, fun b hb => ?_, fun b hb => ?_, h.os, h.output, fun b o hX hb => ?_, fun a ha => ?_⟩, ⟨by simp, fun b hb => ?_, rfl, rfl⟩⟩
 ·rcases hb with hb | ⟨i, hi, _⟩
  ·simpa using h.low b (Or.inl hb)
  ·omega
 ·dsimp only
  rw [hm b]
  by_cases hx : B0 + 3 ≤ b ∧ b < B0 + 3 + j
  ·obtain ⟨i, rfl⟩ : ∃ i, b = B0 + 3 + i := ⟨b - (B0 + 3), by omega⟩
   obtain ⟨t, c, f, e1, e2⟩ := h.brk _ (Or.inr ⟨i, by omega, rfl⟩)
   rw [e1, e2]
   rw [Option.map_some, if_pos hx, Option.getD_some, Option.map_some, veil_of odd_row]
  ·have : (fun o : Obj => if B0 + 3 ≤ b ∧ b < B0 + 3 + j then (w.heap[b]?).getD o else o) = id := by funext o; simp [hx]
   rw [this]
   simp only [Option.map_id, id]
   refine h.out b fun hs => ?_
   rcases hs with hs | ⟨i, hi, rfl⟩
   ·exact hb (Or.inl hs)
   ·exact hx ⟨by omega, by omega⟩
 ·dsimp only
  rw [hm b]
  have hx : ¬ (B0 + 3 ≤ b ∧ b < B0 + 3 + j) := by
   rcases hb with (hb | hb | hb) | ⟨i, hi, _⟩
   ·have := hS b hb; omega
   ·omega
   ·omega
   ·omega
  obtain ⟨t, c, f, e1, e2⟩ := h.brk b (hb.elim Or.inl fun ⟨i, hi, _⟩ => absurd hi (Nat.not_lt_zero _))
  exact ⟨t, c, f, by rw [e1]; simp [hx], e2⟩
 ·have hb' : (v.heap.mapIdx fun i o => if B0 + 3 ≤ i ∧ i < B0 + 3 + j then (w.heap[i]?).getD o else o)[b]? = some o := hb
  rw [hm b] at hb'
  by_cases hx : B0 + 3 ≤ b ∧ b < B0 + 3 + j
  ·obtain ⟨i, rfl⟩ : ∃ i, b = B0 + 3 + i := ⟨b - (B0 + 3), by omega⟩
   obtain ⟨t, c, f, e1, e2⟩ := h.brk _ (Or.inr ⟨i, by omega, rfl⟩)
   rw [e1, Option.map_some, if_pos hx, e2, Option.getD_some] at hb'
   exact absurd (Option.some.inj hb' ▸ hX) isX_row
  ·have : (fun o : Obj => if B0 + 3 ≤ b ∧ b < B0 + 3 + j then (w.heap[b]?).getD o else o) = id := by funext o; simp [hx]
   rw [this] at hb'
   simp only [Option.map_id, id] at hb'
   exact h.mark b o hX hb'
 ·have hx : ¬ (B0 + 3 ≤ a.block ∧ a.block < B0 + 3 + j) := by
   rcases ha with (hb | hb | hb) | ⟨i, hi, _⟩
   ·have := hS _ hb; omega
   ·omega
   ·omega
   ·omega
  have hc := h.cold a (ha.elim Or.inl fun ⟨i, hi, _⟩ => absurd hi (Nat.not_lt_zero _))
  unfold World.frozen? at hc ⊢
  dsimp only
  rw [hm a.block]
  have : (fun o : Obj => if B0 + 3 ≤ a.block ∧ a.block < B0 + 3 + j then (w.heap[a.block]?).getD o else o) = id := by funext o; simp [hx]
  rw [this, Option.map_id]
  exact hc
 ·dsimp only
  rw [hm b]
  cases v.heap[b]? with
  | none => rfl
  | some o => simp [hb]
end
section
variable [Payload] {P : Program} {ty nty : TypeId} {S : Sh} {B0 base : Nat} {bit : Nat → Nat} {T0 N0 : Nat} {j : Nat} {tag : CTag} {d0 : Nat} {a : Goroutine} {v : World} {vm : Nat} {m : Machine} {t : Trace}
theorem Here.join {Ret : Goroutine → World → Prop} (h : Here P ty nty S B0 base bit T0 N0 j .ke 1 a v vm m t) (hs : ∀ w₁, WgLive ty (B0 + 2) w₁ → AtJoin P ty (B0 + 2) Ret a w₁) (hj : j < 2147483648) (hbits : ∀ Ad', N0 + bitsIn bit j Ad' < 4294967296) (hN : N0 + sumTo j bit < 4294967296) (hS : ∀ b, S b → b < B0) :
  Rch P m t (fun m' t' => ∃ a' v', (∀ w₁, WgLive ty (B0 + 2) w₁ → Ret a' w₁) ∧ Like B0 j v v' ∧ Here P ty nty S B0 (base + j) bit T0 (N0 + sumTo j bit) 0 .ke 0 a' v' 0 m' t') := by
 refine (h.word hs (Or.inr (Or.inl rfl)) (by simp) (by simpa [pend] using hj) hbits).trans fun m1 t1 ⟨a1, hs1, h1⟩ => ?_
 have e0 : deafBehind 1 #[mk .enable] = 0 := rfl
 rw [e0] at h1
 obtain ⟨gs, w, sl, D, Ad, q, st, sm, rfl, h0, hc, hcp, hv⟩ := h1
 have hrun := (hs1 w ⟨_, _, hc.wg⟩).1
 obtain ⟨N, gs1, w1, sl1, t2, D1, Ad1, q1, st1, sm1, d, sl2, hr, h01, hc1, hsim, hv1, _, hst⟩ := Cw.turn hrun (by simpa [pend] using hj) hbits (by simp) D q gs w t1 Ad st sm sl hc h0
 obtain ⟨hall, rfl, rfl⟩ := hc1.mode.fin_inv trivial
 obtain ⟨_, g', hgo, k, hk⟩ := hs1 _ ⟨_, _, hc1.wg⟩
 obtain ⟨w1ok, w1nr⟩ := word_touch (S := S) (B0 := B0) (base := base) (mm := .acquire (stA (B0 + 2))) (Or.inr (Or.inr (Or.inl ⟨_, rfl⟩))) (B := (w1.at d).heap.size) (k := base + j - 1) (by have := hc1.room; omega) (fn := a1.frame.fn) (pos := a1.frame.place)
 obtain ⟨gs2, hr2, h02, hc2⟩ := hc1.step0 h01 hgo (leaves_refl _) w1ok w1nr hc1.wg hc1.mode sl2
 have e1 : deafBehind 0 #[mk (.acquire (stA (B0 + 2)))] = 0 := rfl
 rw [e1] at hc2
 have hjn := hc1.joined hc2 hall trivial
 obtain ⟨v', hcp', hlike⟩ := unshun (hsim.2 v hcp) hS
 have hH : Here P ty nty S B0 (base + j) bit T0 (N0 + sumTo j bit) 0 .ke 0 g' v' 0 (crowd gs2 (w1.at d) sl2) (t2 ++ MemOp.ofEvents 0 a1.frame.fn a1.frame.place #[mk (.acquire (stA (B0 + 2)))]) :=
  ⟨gs2, _, sl2, D1, Ad1, _, 0, 0, rfl, h02, hjn, hcp', by simp [Vc, sumTo]⟩
 have hone : runNT P (N + 1) (crowd gs w sl) t1 = (.next (crowd gs2 (w1.at d) sl2), t2 ++ MemOp.ofEvents 0 a1.frame.fn a1.frame.place #[mk (.acquire (stA (B0 + 2)))]) := by
  rw [runNT_more N 1 _ _ _ _ hr]
  simp only [runNT, hst, hr2]
 have hb0 : ∀ Ad', N0 + sumTo j bit + bitsIn bit 0 Ad' < 4294967296 := fun Ad' => by simp [bitsIn, sumTo]; omega
 exact Rch.trans ⟨N + 1, _, _, hone, hH⟩ fun m3 t3 h3 => (Here.goes (by simp) (by simp [pend]) hb0 k g' _ m3 t3 hk h3).trans fun m4 t4 ⟨a4, hs4, h4⟩ => .refl ⟨a4, v', hs4, hlike, h4⟩
theorem Cw.free {gs : Array Goroutine} {w : World} {D : Nat → WD} {Ad : Nat → Bool} {q : Nat → Nat} {st sm : Int} (h : Cw P ty nty S B0 base bit 0 tag 0 T0 N0 gs w t D Ad q st sm) : Leavers P t gs q ∧ Tr (S3 S B0) w.heap.size gs.size t := by
 have hb := h.base1
 have hsz := h.size
 refine ⟨⟨fun i g hi hg => h.old i g hi ?_ hg, fun i hi => h.above i (by omega)⟩, ⟨?_, ?_, h.deaf0, h.seen⟩⟩
 ·have := (Array.getElem?_eq_some_iff.1 hg).1
  omega
 ·have hgs : ∀ i (op : MemOp), t[i]? = some op → op.g < base := fun i op hi => by have := h.ct.gs i op hi; omega
  have hperm : ∀ l, ¬ ShOf (S3 S B0) l → Perm t 0 l := fun l hl i a ha e => by
   rcases h.kn i a ha (by rw [e]; exact hl) with ⟨k, h1, h2⟩ | h1
   ·exfalso
    obtain ⟨op, ho, hog⟩ := Option.map_eq_some_iff.1 h2
    have := hgs i op ho
    omega
   ·exact h1
  exact ⟨h.ct.quiet, fun _ _ _ _ h => h.elim, fun _ _ _ _ h => h.elim, fun l hs _ => hperm l hs, fun l hs _ => PermW.of (hperm l hs), h.ct.nr, fun i op hi => by have := hgs i op hi; omega⟩
 ·intro i g hg h0 hc
  refine h.over i g hg h0 ?_ hc
  obtain ⟨op, ho, hog⟩ := Option.map_eq_some_iff.1 hg
  have := h.ct.gs i op ho
  omega
end
end
section
open Go Go.Conc Go.ConcN
open Go.ConcR (KK wgBlock WgAt stA smA rd wr mk Payload DC0 Bk g_of_ofEvents)
def Beside (P : Program) (S : Sh) (n : Nat) (a : Goroutine) (w : World) (m : Machine) (t : Trace) : Prop :=
 ∃ gs sl q d, m = crowd gs (w.at d) sl ∧ gs[0]? = some a ∧ gs.size = n ∧ Leavers P t gs q ∧ Tr S w.heap.size n t
section
variable {P : Program} {S : Sh} {n : Nat} {a a' : Goroutine} {w w' : World} {m : Machine} {t : Trace}
theorem Beside.stepN {Nx : Goroutine → World → Prop} (h : Beside P S n a w m t) (hrun : a.status = .running) (hst : ∀ d, ∃ a' w' d' es, stepG P true a (w.at d) = .go a' (w'.at d') es ∧ (∀ e ∈ es, OkE S w'.heap.size e) ∧ w.heap.size ≤ w'.heap.size ∧ Nx a' w') :
  Rch P m t (fun m' t' => ∃ a' w', Nx a' w' ∧ Beside P S n a' w' m' t') := by
 obtain ⟨gs, sl, q, d0, rfl, h0, hn, hL, hT⟩ := h
 have key : ∀ (M d0 : Nat) (gs : Array Goroutine) (sl : Option (Nat × Nat)) (t : Trace) (q : Nat → Nat), sumTo gs.size q < M → gs[0]? = some a → gs.size = n → Leavers P t gs q → Tr S w.heap.size n t → Rch P (crowd gs (w.at d0) sl) t (fun m' t' => ∃ a' w', Nx a' w' ∧ Beside P S n a' w' m' t') := by
  intro M
  induction M with
  | zero => exact fun d0 gs sl t q hM => absurd hM (Nat.not_lt_zero _)
  | succ M ihM =>
   intro d0 gs sl t q hM h0 hn hL hT
   have haw : ∀ x ∈ gs, awake x := by
    intro x hx
    obtain ⟨i, hi, rfl⟩ := Array.mem_iff_getElem.1 hx
    rcases Nat.eq_zero_or_pos i with rfl | hpos
    ·have : gs[0] = a := by simpa [Array.getElem?_eq_getElem hi] using h0
     rw [this]; exact awake_of (Or.inl hrun)
    ·exact awake_of ((hL.old i _ hpos (Array.getElem?_eq_getElem hi)).status.elim Or.inl fun x => Or.inr (Or.inr x))
   obtain ⟨i, x, d, sl', hi, hx, hstep⟩ := crowd_pick (P := P) (w := w.at d0) (sl := sl) haw ⟨0, a, h0, hrun⟩
   replace hstep : stepT P (crowd gs (w.at d0) sl) = runT P (crowd gs (w.at d) sl') i := hstep
   have hlt : i < gs.size := (Array.getElem?_eq_some_iff.1 hi).1
   rcases Nat.eq_zero_or_pos i with rfl | hpos
   ·obtain rfl : x = a := by rw [h0] at hi; exact (Option.some.inj hi).symm
    obtain ⟨a', w', d', es, hgo, hE, hsz, hNx⟩ := hst d
    have hrunT := runT_crowd_go (P := P) (sl := sl') (i := 0) hi (show stepG P (0 == 0) x (w.at d) = _ from hgo)
    obtain ⟨l1, l2⟩ := leavers_step (fn := x.frame.fn) (pos := x.frame.place) (es := es) (g := x) (g' := a') (w' := w'.at d') hL hlt
    refine ⟨1, crowd ((gs.map (woken P x a' (w'.at d'))).setIfInBounds 0 a') (w'.at d') sl', t ++ MemOp.ofEvents 0 x.frame.fn x.frame.place es, by simp only [runNT, hstep, hrunT], a', w', hNx, _, sl', q, d', rfl, by simp [hlt], by simp [hn], ⟨fun j y hj hy => l1 j y hj (by omega) hy, fun j hj => l2 j (by simpa using hj)⟩, (hT.mono hsz).own hE⟩
   ·have hq := hL.old i x hpos hi
    have hi0 : (i == 0) = false := by simp; omega
    cases hqi : q i with
    | zero => rw [hqi] at hq; rw [hq.1] at hx; cases hx
    | succ k =>
     rw [hqi] at hq
     rcases hq with ⟨hf, _⟩ | ⟨_, g', es', hm, hstp, hq'⟩
     ·rw [hf] at hx; cases hx
     have hrunT := runT_crowd_go (P := P) (sl := sl') (i := i) hi (by rw [hi0]; exact hstp (w.at d))
     have hsz' : ((gs.map (woken P x g' (w.at d))).setIfInBounds i g').size = gs.size := by simp
     have hsum : sumTo gs.size (upd q i k) + (k + 1) = sumTo gs.size q + k := by
      have := sumTo_upd q k id hlt
      simpa [hqi] using this
     obtain ⟨l1, l2⟩ := leavers_step (fn := x.frame.fn) (pos := x.frame.place) (es := es') (g := x) (g' := g') (w' := w.at d) hL hlt
     obtain ⟨N, m', t', hr, hB⟩ := ihM d ((gs.map (woken P x g' (w.at d))).setIfInBounds i g') sl' (t ++ MemOp.ofEvents i x.frame.fn x.frame.place es') (upd q i k) (by rw [hsz']; omega)
      (by
       have hne : i ≠ 0 := by omega
       rw [Array.getElem?_setIfInBounds_ne hne, Array.getElem?_map, h0]
       simp [woken_run hrun])
      (hsz'.trans hn)
      ⟨fun j y hj hy => by
       by_cases hji : j = i
       ·subst hji
        rw [Array.getElem?_setIfInBounds_self_of_lt (by simpa using hlt)] at hy
        obtain rfl := Option.some.inj hy
        rw [upd_same, Deaf_own]
        exact hq'
       ·rw [upd_ne q k hji]
        exact l1 j y hj hji hy, fun j hj => l2 j (by simpa using hj)⟩
      (hT.mute hpos (by omega) hm)
     exact ⟨N + 1, m', t', by simp only [runNT, hstep, hrunT]; exact hr, hB⟩
 exact key _ d0 gs sl t q (Nat.lt_succ_self _) h0 hn hL hT
theorem Beside.step {es : Array Event} (h : Beside P S n a w m t) (hrun : a.status = .running) (hst : ∀ d, ∃ d', stepG P true a (w.at d) = .go a' (w'.at d') es) (hE : ∀ e ∈ es, OkE S w'.heap.size e) (hsz : w.heap.size ≤ w'.heap.size) :
  Rch P m t (fun m' t' => Beside P S n a' w' m' t') :=
 (h.stepN hrun (Nx := fun x y => x = a' ∧ y = w') fun d => let ⟨d', h⟩ := hst d; ⟨a', w', d', es, h, hE, hsz, rfl, rfl⟩).trans fun _ _ ⟨_, _, ⟨hx, hy⟩, h⟩ => .refl (by subst hx; subst hy; exact h)
theorem Beside.goes {Stop : Goroutine → World → Prop} : ∀ (k : Nat) (a : Goroutine) (w0 : World) (m : Machine) (t : Trace), Goes P true (fun _ _ => True) DC0 Stop k a w0 → Beside P S n a w m t →
  Rch P m t (fun m' t' => ∃ a', (∀ w₁, Stop a' w₁) ∧ Beside P S n a' w m' t') := by
 intro k
 induction k with
 | zero => exact fun a w0 m t hg h => .refl ⟨a, fun w₁ => hg w₁ trivial, h⟩
 | succ k ih =>
  intro a w0 m t hg h
  rcases hg with hs | ⟨hrun, hstep⟩
  ·exact .refl ⟨a, fun w₁ => hs w₁ trivial, h⟩
  ·refine (h.stepN hrun (Nx := fun a' w' => w' = w ∧ ∃ w1, Goes P true (fun _ _ => True) DC0 Stop k a' w1) fun d => ?_).trans fun m' t' ⟨a', w', ⟨e, w1, hg'⟩, h'⟩ => ih a' w1 m' t' hg' (by rw [← e]; exact h')
   obtain ⟨g', w', es, hgo, ⟨rfl, rfl⟩, hg'⟩ := goes_elim (hstep (w.at d) trivial)
   exact ⟨g', w, d, #[], hgo, by simp, Nat.le_refl _, rfl, _, hg'⟩
theorem Tr.shun {S' : Sh} {B : Nat} (h : Tr S B n t) (hs : ∀ b, S b → S' b) (hn : ∀ b, S' b → ¬ S b → B ≤ b) : Tr S' B n t := by
 have hsh : ∀ l, ShOf S l → ShOf S' l := fun l ⟨a, e, h⟩ => ⟨a, e, hs _ h⟩
 refine ⟨⟨fun i op a hop hoa hS => ?_, fun _ _ _ _ h => h.elim, fun _ _ _ _ h => h.elim, fun l hl _ => h.ct.free l (fun x => hl (hsh l x)) (fun _ _ _ => ⟨id, id⟩), fun l hl _ => h.ct.mine l (fun x => hl (hsh l x)) (fun _ _ _ => id), h.ct.nr, h.ct.gs⟩, h.over, h.hears, h.seen⟩
 by_cases hx : ShOf S a.loc
 ·exact h.ct.quiet i op a hop hoa hx
 ·exfalso
  obtain ⟨b, hb, hb'⟩ := hS
  have h1 := h.seen op (Array.mem_of_getElem? hop) a hoa
  rw [hb] at h1
  have h2 : b.block < B := h1
  have := hn _ hb' (fun x => hx ⟨b, hb, x⟩)
  omega
theorem Beside.shun {S' : Sh} (h : Beside P S n a w m t) (hs : ∀ b, S b → S' b) (hn : ∀ b, S' b → ¬ S b → w.heap.size ≤ b) : Beside P S' n a w m t := by
 obtain ⟨gs, sl, q, d, h1, h2, h3, h4, h5⟩ := h
 exact ⟨gs, sl, q, d, h1, h2, h3, h4, h5.shun hs hn⟩
end
section
variable [Payload] {P : Program} {ty nty : TypeId} {S : Sh} {B0 : Nat} {bit : Nat → Nat} {n : Nat} {a : Goroutine} {v w : World} {m : Machine} {t : Trace}
theorem Here.begin (h : Beside P (S3 S B0) n a w m t) (hn : 1 ≤ n) (hno : NAt nty B0 0 w) (hwg : WgAt ty (B0 + 2) w 0 0) (hcp : Cp (SJ S B0 0) v w) (r : Nat) (hroom : B0 + 3 ≤ w.heap.size) : ∃ T0, Here P ty nty S B0 n bit T0 0 0 (.sp r 5) 0 a v 0 m t := by
 obtain ⟨gs, sl, q, d, rfl, h0, rfl, hL, hT⟩ := h
 refine ⟨t.size, gs, w.at d, sl, fun _ => ⟨1, 0, 0⟩, fun _ => false, q, 0, 0, rfl, h0, ?_, (Sim.at _ w d).2 v hcp, by simp [Vc, sumTo]⟩
 refine ⟨hn, by omega, fun i g hi hib hg => hL.old i g hi hg, fun i hi => absurd hi (Nat.not_lt_zero _), ?_, fun i hi e => ?_, Nat.le_refl _, hT.hears, fun i hi => absurd hi (Nat.not_lt_zero _), fun i hi => hL.above i (by omega), fun i hi => absurd hi (Nat.not_lt_zero _), fun i g hi hg => ?_, fun i hi => absurd hi (Nat.not_lt_zero _), (show NAt nty B0 0 w from hno), hwg, ?_, hT.seen, fun i x hx hns => Or.inr ?_, fun i g hg h0' _ hc => hT.over i g hg h0' hc, hroom⟩
 ·exact ⟨hT.ct.quiet, fun _ _ _ _ h => h.elim, fun k _ hk l hl => by have := hl.1; omega, fun l hs _ => hT.ct.free l hs (fun _ _ _ => ⟨id, id⟩), fun l hs _ => hT.ct.mine l hs (fun _ _ _ => id), hT.ct.nr, fun i op hi => by have := hT.ct.gs i op hi; omega⟩
 ·obtain ⟨op, ho, _⟩ := Option.map_eq_some_iff.1 e
  have := lt_size_of_getElem? ho
  omega
 ·obtain ⟨op, ho, hog⟩ := Option.map_eq_some_iff.1 hg
  have := hT.ct.gs i op ho
  omega
 ·have e : (0 : Int) = ((Vc 0 (fun _ => (⟨1, 0, 0⟩ : WD)) + pend (.sp r 5) : Nat) : Int) * KK := by simp [Vc, sumTo, pend]
  have key : Go.ConcN.Mode 0 (fun _ => (⟨1, 0, 0⟩ : WD)) (.sp r 5) (((Vc 0 (fun _ => (⟨1, 0, 0⟩ : WD)) + pend (.sp r 5) : Nat) : Int) * KK) 0 := .opn trivial (fun i hi => absurd hi (Nat.not_lt_zero _)) (fun vs h => by cases h)
  rw [← e] at key
  exact key
 ·exact hT.ct.free x.loc hns (fun _ _ _ => ⟨id, id⟩) i x hx rfl
end
end
section
open Go Go.Conc Go.ConcN
open Go.ConcR (KK wgBlock WgAt stA smA rd wr mk Payload DC0 Bk g_of_ofEvents)
section
variable (P : Program) (ty nty : TypeId) (B0 : Nat)
def AtNew (N : Nat) (o : Obj) (Next : Goroutine → World → Prop) (g : Goroutine) (w : World) : Prop :=
 g.status = .running ∧ (w.heap.size = N → ∃ g', stepG P true g w = .go g' (w.alloc o) #[] ∧ ∃ k, Goes P true (RS ty (B0 + 2)) DC0 Next k g' (w.alloc o))
def AtStore (N : Nat) (x : Value) (Next : Goroutine → World → Prop) (g : Goroutine) (w : World) : Prop :=
 g.status = .running ∧ ((∃ u t, w.heap[N]? = some (.cells #[u] t)) → ∃ g', stepG P true g w = .go g' (w.setCell ⟨N, 0, none⟩ x) #[⟨.cell ⟨N, 0, none⟩, true, false⟩] ∧ ∃ k, Goes P true (RS ty (B0 + 2)) DC0 Next k g' (w.setCell ⟨N, 0, none⟩ x))
def AtSpawn (child : Goroutine) (Next : Goroutine → World → Prop) (g : Goroutine) (w : World) : Prop :=
 g.status = .running ∧ ∃ g', stepG P true g w = .spawn g' child w #[] ∧ ∃ k, Goes P true (RS ty (B0 + 2)) DC0 Next k g' w
def AtRead (Next : Nat → Goroutine → World → Prop) (g : Goroutine) (w : World) : Prop :=
 g.status = .running ∧ ∀ N, NAt nty B0 N w → ∃ g', stepG P true g w = .go g' w #[rd (nA B0)] ∧ ∃ k, Goes P true (RS ty (B0 + 2)) DC0 (Next N) k g' w
end
theorem get_push {h : Array Obj} {o : Obj} {b : Nat} (hb : b < h.size) : (h.push o)[b]? = h[b]? := by
 rw [Array.getElem?_push]; simp; omega
section
variable [Payload] {P : Program} {ty nty : TypeId} {S : Sh} {B0 base : Nat} {bit : Nat → Nat} {T0 N0 : Nat} {j : Nat} {tag : CTag} {d0 : Nat} {a : Goroutine} {v : World} {vm : Nat} {m : Machine} {t : Trace}
theorem Here.run {Q : Goroutine → World → Prop} (h : Here P ty nty S B0 base bit T0 N0 j tag d0 a v vm m t) (hs : ∀ w₁, WgLive ty (B0 + 2) w₁ → Q a w₁) (hq : ∀ w, Q a w → a.status = .running) : a.status = .running := by
 obtain ⟨gs, w, sl, D, Ad, q, st, sm, _, _, hc, _⟩ := h
 exact hq _ (hs w ⟨_, _, hc.wg⟩)
theorem Here.new {N : Nat} {o : Obj} {Next : Goroutine → World → Prop} (h : Here P ty nty S B0 base bit T0 N0 j tag d0 a v vm m t) (hs : ∀ w₁, WgLive ty (B0 + 2) w₁ → AtNew P ty B0 N o Next a w₁) (hN : v.heap.size = N) (ho : odd o = false)
  (hne : tag ≠ .blk) (hj : j + pend tag < 2147483648) (hbits : ∀ Ad', N0 + bitsIn bit j Ad' < 4294967296) :
  Rch P m t (fun m' t' => ∃ a', (∀ w₁, WgLive ty (B0 + 2) w₁ → Next a' w₁) ∧ Here P ty nty S B0 base bit T0 N0 j tag d0 a' (v.alloc o) vm m' t') := by
 have hrun := h.run hs (fun _ x => x.1)
 refine (h.step hrun hne hj hbits (Nx := fun a' tag' d0' v' vm' => (∃ k w1, Goes P true (RS ty (B0 + 2)) DC0 Next k a' w1) ∧ tag' = tag ∧ d0' = d0 ∧ v' = v.alloc o ∧ vm' = vm) fun w t D Ad q st sm gs hc hcp hv => ?_).trans fun m' t' hx => by
   obtain ⟨a', tag', d0', v', vm', ⟨⟨k, w1, hg'⟩, rfl, rfl, rfl, rfl⟩, h'⟩ := hx
   exact Here.goes hne hj hbits k a' w1 m' t' hg' h'
 obtain ⟨_, hx⟩ := hs w ⟨_, _, hc.wg⟩
 obtain ⟨g', hgo, k, hk⟩ := hx (hcp.size.symm.trans hN)
 have hroom := hc.room
 refine ⟨g', _, _, tag, st, sm, v.alloc o, vm, hgo, ⟨fun b hb => get_push (by omega), fun i hi => get_push (by omega), get_push (by omega), show w.heap.size ≤ (w.heap.push o).size by simp⟩, fun op hop => by rw [ofEvents_eq] at hop; simp at hop, by simp, hc.wg.of_block (get_push (by omega)), hc.mode, hcp.push ho, hv, ⟨k, _, hk⟩, rfl, rfl, rfl, rfl⟩
theorem Here.store {x u : Value} {tt : TypeId} {Next : Goroutine → World → Prop} (h : Here P ty nty S B0 base bit T0 N0 j tag d0 a v vm m t) (hs : ∀ w₁, WgLive ty (B0 + 2) w₁ → AtStore P ty B0 (B0 + 3 + j) x Next a w₁) (hv0 : v.heap[B0 + 3 + j]? = some (.cells #[u] tt)) (hS : ∀ b, S b → b < B0)
  (hne : tag ≠ .blk) (hj : j + pend tag < 2147483648) (hbits : ∀ Ad', N0 + bitsIn bit j Ad' < 4294967296) :
  Rch P m t (fun m' t' => ∃ a', (∀ w₁, WgLive ty (B0 + 2) w₁ → Next a' w₁) ∧ Here P ty nty S B0 base bit T0 N0 j tag d0 a' (v.setCell ⟨B0 + 3 + j, 0, none⟩ x) vm m' t') := by
 have hrun := h.run hs (fun _ x => x.1)
 have hnS : ¬ SJ S B0 j (B0 + 3 + j) := by
  rintro ((h | h | h) | ⟨i, hi, h⟩)
  ·have := hS _ h; omega
  ·omega
  ·omega
  ·omega
 refine (h.step hrun hne hj hbits (Nx := fun a' tag' d0' v' vm' => (∃ k w1, Goes P true (RS ty (B0 + 2)) DC0 Next k a' w1) ∧ tag' = tag ∧ d0' = d0 ∧ v' = v.setCell ⟨B0 + 3 + j, 0, none⟩ x ∧ vm' = vm) fun w t D Ad q st sm gs hc hcp hv => ?_).trans fun m' t' hx => by
   obtain ⟨a', tag', d0', v', vm', ⟨⟨k, w1, hg'⟩, rfl, rfl, rfl, rfl⟩, h'⟩ := hx
   exact Here.goes hne hj hbits k a' w1 m' t' hg' h'
 have hw0 : w.heap[B0 + 3 + j]? = some (.cells #[u] tt) := by
  have := hcp.out _ hnS
  rw [hv0] at this
  obtain ⟨o, ho, hvo⟩ := Option.map_eq_some_iff.1 this.symm
  rw [ho, veil_cells.1 hvo]
 obtain ⟨_, hx⟩ := hs w ⟨_, _, hc.wg⟩
 obtain ⟨g', hgo, k, hk⟩ := hx ⟨u, tt, hw0⟩
 have hlt : B0 + 3 + j < w.heap.size := (Array.getElem?_eq_some_iff.1 hw0).1
 have hA := aside_setCell w ⟨B0 + 3 + j, 0, none⟩ x
 refine ⟨g', _, _, tag, st, sm, v.setCell ⟨B0 + 3 + j, 0, none⟩ x, vm, hgo, ⟨fun b hb => hA.block b (by simp; omega), fun i hi => hA.block _ (by simp; omega), hA.block _ (by simp; omega), Nat.le_of_eq hA.size.symm⟩, fun op hop => ?_, by simp, hc.wg.of_block (hA.block _ (by simp; omega)), hc.mode, hcp.setCell hnS x, hv, ⟨k, _, hk⟩, rfl, rfl, rfl, rfl⟩
 obtain ⟨e, he, rfl⟩ := Go.Conc.mem_ofEvents hop
 obtain rfl : e = ⟨.cell ⟨B0 + 3 + j, 0, none⟩, true, false⟩ := by simpa using he
 have key : ∀ y, (MemAct.ofEvent ⟨.cell ⟨B0 + 3 + j, 0, none⟩, true, false⟩).touch? = some y → y.loc = .cell ⟨B0 + 3 + j, 0, none⟩ := fun y hy => by
  simp only [MemAct.ofEvent, MemAct.touch?, Option.some.injEq] at hy
  subst hy; rfl
 refine ⟨⟨rfl, fun y hy => Or.inr ?_⟩, fun y hy => ?_⟩
 ·rw [key y hy]
  refine ⟨?_, fun _ _ _ h => h, fun _ k hk1 hk2 hrd => ?_⟩
  ·rintro ⟨b, hb, hs⟩
   cases hb
   exact hnS (Or.inl hs)
  ·obtain ⟨hb, b, hb', h1, _⟩ := hrd
   cases hb'
   simp at h1
   have := hc.base1
   omega
 ·rw [key y hy]
  rw [hA.size]
  exact hlt
theorem Here.start {r m0 : Nat} {ad : Bool} {child : Goroutine} {v2 : World} {Next : Goroutine → World → Prop} (h : Here P ty nty S B0 base bit T0 N0 j (.sp r 3) 0 a v vm m t) (hs : ∀ w₁, WgLive ty (B0 + 2) w₁ → AtSpawn P ty B0 child Next a w₁)
  (hc : ∀ w, Cp (SJ S B0 j) v w → WgLive ty (B0 + 2) w → WkS P ty nty S B0 base bit j ad 7 m0 0 child w) (hbit : ad = true → bit j = 0) (hbox : ∀ w, Cp (SJ S B0 j) v w → PayAt (B0 + 3 + j) 1 w ∧ B0 + 3 + (j + 1) ≤ w.heap.size) (hv2 : ∀ w, Cp (SJ S B0 j) v w → Cp (SJ S B0 (j + 1)) v2 w)
  (hj : j + 1 < 2147483648) (hbits : ∀ Ad', N0 + bitsIn bit j Ad' < 4294967296) (hbits' : ∀ Ad', N0 + bitsIn bit (j + 1) Ad' < 4294967296) :
  Rch P m t (fun m' t' => ∃ a', (∀ w₁, WgLive ty (B0 + 2) w₁ → Next a' w₁) ∧ Here P ty nty S B0 base bit T0 N0 (j + 1) (.sp r 5) 0 a' v2 (vm + 1) m' t') := by
 have hrun := h.run hs (fun _ x => x.1)
 obtain ⟨gs, w, sl, D, Ad, q, st, sm, rfl, h0, hcw, hcp, hv⟩ := h
 obtain ⟨N, gs1, w1, sl1, t1, D1, Ad1, q1, st1, sm1, d, sl2, hr, h01, hc1, hsim, hv1, _, hst⟩ := Cw.turn hrun (by simp [pend]; omega) hbits (by simp) D q gs w t Ad st sm sl hcw h0
 have hcp1 := hsim.2 v hcp
 have hlive : WgLive ty (B0 + 2) (w1.at d) := ⟨_, _, hc1.wg⟩
 obtain ⟨hb1, hb2⟩ := hbox _ hcp1
 obtain ⟨ho, hst1, hsm1, _⟩ := hc1.mode.open_inv trivial
 have eV : Vc (j + 1) (upd D1 j ⟨7, m0, 0⟩) = Vc j D1 + 1 := by
  simp only [Vc, sumTo, upd_same]
  rw [sumTo_upd_out D1 _ cnt (Nat.le_refl _)]
  rfl
 have hmode : Go.ConcN.Mode (j + 1) (upd D1 j ⟨7, m0, 0⟩) (.sp r 5) st1 sm1 := by
  subst hsm1
  have e : st1 = ((Vc (j + 1) (upd D1 j ⟨7, m0, 0⟩) + pend (.sp r 5) : Nat) : Int) * KK := by
   rw [hst1, eV]; simp [pend]
  rw [e]
  refine .opn trivial (fun i hi => ?_) (fun vs h => by cases h)
  rw [upd_stage]
  split
  ·simp
  ·exact ho i (by omega)
 obtain ⟨_, g', hgo, k, hk⟩ := hs _ hlive
 obtain ⟨gs2, u, hr2, h02, hc2⟩ := hc1.spawn h01 hgo (hc _ hcp1 hlive) hbit hb1 hmode hb2 sl2
 have hH : Here P ty nty S B0 base bit T0 N0 (j + 1) (.sp r 5) 0 g' v2 (vm + 1) (crowd gs2 (w1.at d) sl2) (t1 ++ u) := ⟨gs2, _, sl2, _, _, q1, st1, sm1, rfl, h02, hc2, hv2 _ hcp1, by rw [eV]; omega⟩
 have hone : runNT P (N + 1) (crowd gs w sl) t = (.next (crowd gs2 (w1.at d) sl2), t1 ++ u) := by
  rw [runNT_more N 1 _ _ _ _ hr]
  simp only [runNT, hst, hr2]
 exact Rch.trans ⟨N + 1, _, _, hone, hH⟩ fun m3 t3 h3 => Here.goes (by simp) (by simp [pend]; omega) hbits' k g' _ m3 t3 hk h3
theorem Here.read {Next : Nat → Goroutine → World → Prop} (h : Here P ty nty S B0 base bit T0 N0 0 .ke 0 a v vm m t) (hs : ∀ w₁, WgLive ty (B0 + 2) w₁ → AtRead P ty nty B0 Next a w₁) (hbits : N0 < 4294967296) :
  Rch P m t (fun m' t' => ∃ a', (∀ w₁, WgLive ty (B0 + 2) w₁ → Next N0 a' w₁) ∧ Here P ty nty S B0 base bit T0 N0 0 .ke 0 a' v vm m' t') := by
 have hrun := h.run hs (fun _ x => x.1)
 have hb0 : ∀ Ad', N0 + bitsIn bit 0 Ad' < 4294967296 := fun Ad' => by simpa [bitsIn, sumTo] using hbits
 refine (h.step hrun (by simp) (by simp [pend]) hb0 (Nx := fun a' tag' d0' v' vm' => (∃ k w1, Goes P true (RS ty (B0 + 2)) DC0 (Next N0) k a' w1) ∧ tag' = .ke ∧ d0' = 0 ∧ v' = v ∧ vm' = vm) fun w t D Ad q st sm gs hc hcp hv => ?_).trans fun m' t' hx => by
   obtain ⟨a', tag', d0', v', vm', ⟨⟨k, w1, hg'⟩, rfl, rfl, rfl, rfl⟩, h'⟩ := hx
   exact Here.goes (by simp) (by simp [pend]) hb0 k a' w1 m' t' hg' h'
 obtain ⟨_, hx⟩ := hs w ⟨_, _, hc.wg⟩
 have hno : NAt nty B0 N0 w := by simpa [bitsIn, sumTo] using hc.noted
 obtain ⟨g', hgo, k, hk⟩ := hx N0 hno
 have hroom := hc.room
 refine ⟨g', w, _, .ke, st, sm, v, vm, hgo, leaves_refl w, fun op hop => ?_, by simp [rd], hc.wg, hc.mode, hcp, hv, ⟨k, w, hk⟩, rfl, rfl, rfl, rfl⟩
 obtain ⟨e, he, rfl⟩ := Go.Conc.mem_ofEvents hop
 obtain rfl : e = rd (nA B0) := by simpa using he
 have key : ∀ y, (MemAct.ofEvent (rd (nA B0))).touch? = some y → y.loc = .cell (nA B0) ∧ y.kind ≠ .plain := fun y hy => by
  simp only [rd, MemAct.ofEvent, MemAct.touch?, Option.some.injEq] at hy
  subst hy
  exact ⟨rfl, by simp⟩
 refine ⟨⟨rfl, fun y hy => Or.inl ?_⟩, fun y hy => ?_⟩
 ·obtain ⟨h1, h2⟩ := key y hy
  exact ⟨⟨_, h1, Or.inr (Or.inl rfl)⟩, h2⟩
 ·rw [(key y hy).1]
  show B0 + 1 < w.heap.size
  omega
end
end
section
open Go Go.Conc Go.ConcN
open Go.ConcR (KK wgBlock WgAt stA smA rd wr mk Payload DC0 Bk g_of_ofEvents)
def RT (_ _ : World) : Prop := True
theorem tt_rely {w w₁ : World} (h : True) (_ : RT w w₁) : True := h
def AtNewB (P : Program) (N : Nat) (o : Obj) (Next : Goroutine → World → Prop) (g : Goroutine) (w : World) : Prop :=
 g.status = .running ∧ (w.heap.size = N → ∃ g', stepG P true g w = .go g' (w.alloc o) #[] ∧ ∃ k, Goes P true RT DC0 Next k g' (w.alloc o))
section
variable {P : Program} {S : Sh} {n : Nat} {a a' : Goroutine} {w w' : World} {m : Machine} {t : Trace}
theorem Beside.new {N : Nat} {o : Obj} {Next : Goroutine → World → Prop} (h : Beside P S n a w m t) (hs : ∀ w₁, AtNewB P N o Next a w₁) (hN : w.heap.size = N) :
  Rch P m t (fun m' t' => ∃ a', (∀ w₁, Next a' w₁) ∧ Beside P S n a' (w.alloc o) m' t') := by
 refine (h.stepN (hs w).1 (Nx := fun a' w' => w' = w.alloc o ∧ ∃ k w1, Goes P true RT DC0 Next k a' w1) fun d => ?_).trans fun m' t' ⟨a', w', ⟨e, k, w1, hg'⟩, h'⟩ => Beside.goes k a' w1 m' t' hg' (by rw [← e]; exact h')
 obtain ⟨_, hx⟩ := hs (w.at d)
 obtain ⟨g', hgo, k, hk⟩ := hx hN
 exact ⟨g', w.alloc o, d, #[], hgo, by simp, show w.heap.size ≤ (w.heap.push o).size by simp, rfl, k, _, hk⟩
end
end
end Go.Proofs.YtdafpnpfcmgfcaaGreatDoor
