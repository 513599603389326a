/- The starter at the semaphore; the join; a go statement. The join: all that the workers did is known. The starter beside its workers: the join, the go statement, and what is left behind. Goroutine 0 beside those that are only leaving, step by step; from there to the crew. -/
import Derived.Test.YtdafpnpfcmgfcaaGreatDoorKe09
import Derived.Conc.Starve
namespace Go.Proofs.YtdafpnpfcmgfcaaGreatDoor
section
open Go Go.Conc Go.ConcN
open Go.ConcR (KK wgBlock WgAt stA smA rd wr mk Payload DC0 Bk g_of_ofEvents)
theorem mode_w3 {j : Nat} {D : Nat → WD} {st sm : Int} (h : Go.ConcN.Mode j D .w3 st sm) : (sm = 0 ∧ Go.ConcN.Mode j D .blk st sm) ∨ (st = 0 ∧ sm = 1 ∧ AllQuit j D) := by
 cases h with
 | opn h1 _ _ => exact h1.elim
 | reg _ h2 h3 => exact Or.inl ⟨rfl, .reg trivial h2 h3⟩
 | last L _ h2 h3 h4 => exact Or.inl ⟨rfl, .last L trivial h2 h3 h4⟩
 | sema h => exact Or.inr ⟨rfl, rfl, h⟩
 | fin h1 _ => exact h1.elim
section
variable [Payload] {P : Program} {ty nty : TypeId} {S : Sh} {B0 base : Nat} {bit : Nat → Nat} {T0 N0 : Nat} {j : Nat} {tag : CTag} {d0 : Nat} {a : Goroutine} {v : World} {vm : Nat} {m : Machine} {t : Trace}
theorem sem_loop {Ret : Goroutine → World → Prop} (hs : ∀ w₁, WgLive ty (B0 + 2) w₁ → AtSem P ty (B0 + 2) Ret a w₁) (hrun : a.status = .running) (hof : a.offers = none) (hj : j < 2147483648) (hbits : ∀ Ad', N0 + bitsIn bit j Ad' < 4294967296) :
  ∀ (D : Nat → WD) (q : Nat → Nat) (gs : Array Goroutine) (w : World) (t : Trace) (Ad : Nat → Bool) (st sm : Int) (sl : Option (Nat × Nat)), Cw P ty nty S B0 base bit j .w3 1 T0 N0 gs w t D Ad q st sm → gs[0]? = some a → Cp (SJ S B0 j) v w → Vc j D ≤ vm →
  Rch P (crowd gs w sl) t (fun m' t' => ∃ a' k w1, Goes P true (RS ty (B0 + 2)) DC0 (AtLook P ty (B0 + 2) Ret) k a' w1 ∧ Here P ty nty S B0 base bit T0 N0 j .w4 1 a' v vm m' t') := by
 refine MLt.induct (j := j) (base := base) fun D q ih => ?_
 intro gs w t Ad st sm sl hc h0 hcp hv
 obtain ⟨N, gs1, w1, sl1, t1, D1, Ad1, q1, st1, sm1, d, sl2, hr, h01, hc1, hs1, hv1, hm1, hst⟩ := Cw.turn hrun (by simpa [pend] using hj) hbits (by simp) D q gs w t Ad st sm sl hc h0
 obtain ⟨_, _, hblk, hgo⟩ := hs _ ⟨_, _, hc1.wg⟩
 have hroom := hc1.room
 rcases mode_w3 hc1.mode with ⟨rfl, hb⟩ | ⟨rfl, rfl, hall⟩
 ·-- it sleeps
  obtain ⟨gs2, hr2, h02, hc2⟩ := hc1.step0 h01 (hblk ⟨_, hc1.wg⟩) (leaves_refl _) (fun op hop => by rw [ofEvents_eq] at hop; simp at hop) (by simp) hc1.wg hb sl2
  obtain ⟨N3, gs3, w3, sl3, t3, D3, Ad3, q3, st3, sm3, hr3, h03, hc3, hs3, hv3, hm3⟩ := Cw.woke hrun hof hj hbits _ _ _ _ _ _ _ _ sl2 hc2 h02
  have hlt : MLt j base D3 q3 D q := by
   rcases hm1 with h | ⟨rfl, rfl⟩
   ·exact hm3.trans h
   ·exact hm3
  obtain ⟨N4, m4, t4, hr4, h4⟩ := ih D3 q3 hlt gs3 w3 t3 Ad3 st3 sm3 sl3 hc3 h03 ((hs1.trans hs3).2 v hcp) (Nat.le_trans hv3 (Nat.le_trans hv1 hv))
  refine ⟨N + (1 + (N3 + N4)), m4, t4, ?_, h4⟩
  have hone : runNT P 1 (crowd gs1 w1 sl1) t1 = (.next (crowd gs2 (w1.at d) sl2), t1 ++ MemOp.ofEvents 0 a.frame.fn a.frame.place #[]) := by simp only [runNT, hst, hr2]
  rw [runNT_more N _ _ _ _ _ hr, runNT_more 1 _ _ _ _ _ hone, runNT_more N3 _ _ _ _ _ hr3]
  exact hr4
 ·-- it is let through
  obtain ⟨g', hgo', k, hk⟩ := hgo hc1.wg
  obtain ⟨gs2, hr2, h02, hc2⟩ := hc1.step0 h01 hgo' (leaves_wg (aside_setCell _ (smA (B0 + 2)) _)) (ok0_bk bk_sem (by simp [World.setCell]; omega)) (norel_of_Bk bk_sem) (hc1.wg.setSm 0) (Go.ConcN.Mode.fin (tag := .w4) trivial hall) sl2
  refine ⟨N + 1, crowd gs2 ((w1.at d).setCell (smA (B0 + 2)) (.int .u32 0)) sl2, t1 ++ MemOp.ofEvents 0 a.frame.fn a.frame.place (semEvents (smA (B0 + 2))), ?_, g', k, _, hk, gs2, _, sl2, D1, Ad1, q1, 0, 0, rfl, h02, ?_, (sim_setCell (a := smA (B0 + 2)) (Or.inl (Or.inr (Or.inr rfl))) (.int .u32 0)).2 v (hs1.2 v hcp), Nat.le_trans hv1 hv⟩
  ·rw [runNT_more N 1 _ _ _ _ hr]
   simp only [runNT, hst, hr2]
  ·have e : deafBehind 1 (semEvents (smA (B0 + 2))) = 1 := by simp [deafBehind, semEvents]
   rw [e] at hc2
   exact hc2
theorem Here.sem {Ret : Goroutine → World → Prop} (h : Here P ty nty S B0 base bit T0 N0 j .w3 1 a v vm m t) (hs : ∀ w₁, WgLive ty (B0 + 2) w₁ → AtSem P ty (B0 + 2) Ret a w₁) (hj : j < 2147483648) (hbits : ∀ Ad', N0 + bitsIn bit j Ad' < 4294967296) :
  Rch P m t (fun m' t' => ∃ a', (∀ w₁, WgLive ty (B0 + 2) w₁ → AtLook P ty (B0 + 2) Ret a' w₁) ∧ Here P ty nty S B0 base bit T0 N0 j .w4 1 a' v vm m' t') := by
 obtain ⟨gs, w, sl, D, Ad, q, st, sm, rfl, h0, hc, hcp, hv⟩ := h
 obtain ⟨hrun, hof, _⟩ := hs w ⟨_, _, hc.wg⟩
 refine (sem_loop hs hrun hof hj hbits D q gs w t Ad st sm sl hc h0 hcp hv).trans fun m' t' hx => ?_
 obtain ⟨a', k, w1, hg, h'⟩ := hx
 exact Here.goes (by simp) (by simpa [pend] using hj) hbits k a' w1 m' t' hg h'
theorem Here.look {Ret : Goroutine → World → Prop} (h : Here P ty nty S B0 base bit T0 N0 j .w4 1 a v vm m t) (hs : ∀ w₁, WgLive ty (B0 + 2) w₁ → AtLook P ty (B0 + 2) Ret a w₁) (hj : j < 2147483648) (hbits : ∀ Ad', N0 + bitsIn bit j Ad' < 4294967296) :
  Rch P m t (fun m' t' => ∃ a', (∀ w₁, WgLive ty (B0 + 2) w₁ → AtJoin P ty (B0 + 2) Ret a' w₁) ∧ Here P ty nty S B0 base bit T0 N0 j .ke 1 a' v vm m' t') := by
 have hrun : a.status = .running := by
  obtain ⟨gs, w, sl, D, Ad, q, st, sm, _, _, hc, _⟩ := h
  exact (hs w ⟨_, _, hc.wg⟩).1
 refine (h.step hrun (by simp) (by simpa [pend] using hj) hbits (Nx := fun a' tag' d0' v' vm' => (∃ k w1, Goes P true (RS ty (B0 + 2)) DC0 (AtJoin P ty (B0 + 2) Ret) k a' w1) ∧ tag' = .ke ∧ d0' = 1 ∧ v' = v ∧ vm' = vm) fun w t D Ad q st sm gs hc hcp hv => ?_).trans fun m' t' hx => by
   obtain ⟨a', tag', d0', v', vm', ⟨⟨k, w1, hg'⟩, rfl, rfl, rfl, rfl⟩, h'⟩ := hx
   exact Here.goes (by simp) (by simpa [pend] using hj) hbits k a' w1 m' t' hg' h'
 obtain ⟨hall, rfl, rfl⟩ := hc.mode.fin_inv trivial
 have hroom := hc.room
 have hbk : ∀ e ∈ #[rd (stA (B0 + 2))], Bk (B0 + 2) e := by intro e he; simp at he; subst he; exact bk_cell _ _ rfl
 obtain ⟨_, hx⟩ := hs w ⟨_, _, hc.wg⟩
 obtain ⟨g', hgo, k, hk⟩ := hx hc.wg
 exact ⟨g', w, _, .ke, 0, 0, v, vm, hgo, leaves_refl w, ok0_bk hbk (by omega), norel_of_Bk hbk, hc.wg, .fin trivial hall, hcp, hv, ⟨k, w, hk⟩, rfl, rfl, rfl, rfl⟩
theorem Here.wait {Ret Anch : Goroutine → World → Prop} {r : Nat} (hA : ∀ g w, Anch g w → ∃ k, Goes P true (RS ty (B0 + 2)) DC0 (AtSee P ty (B0 + 2) Ret Anch) k g w) (hj : j < 2147483648) (hbits : ∀ Ad', N0 + bitsIn bit j Ad' < 4294967296) :
  ∀ (vm : Nat) (a : Goroutine) (m : Machine) (t : Trace), Here P ty nty S B0 base bit T0 N0 j (.sp r 5) 1 a v vm m t → (∀ w₁, WgLive ty (B0 + 2) w₁ → Anch a w₁) →
  Rch P m t (fun m' t' => ∃ a' vm', (∀ w₁, WgLive ty (B0 + 2) w₁ → AtJoin P ty (B0 + 2) Ret a' w₁) ∧ Here P ty nty S B0 base bit T0 N0 j .ke 1 a' v vm' m' t') := by
 intro vm
 induction vm using Nat.strongRecOn with
 | _ vm ih =>
  intro a m t h hs
  have hg : ∃ k w1, Goes P true (RS ty (B0 + 2)) DC0 (AtSee P ty (B0 + 2) Ret Anch) k a w1 := by
   obtain ⟨gs, w, sl, D, Ad, q, st, sm, _, _, hc, _⟩ := h
   obtain ⟨k, hk⟩ := hA a w (hs w ⟨_, _, hc.wg⟩)
   exact ⟨k, w, hk⟩
  obtain ⟨k, w1, hg⟩ := hg
  refine (Here.goes (by simp) (by simpa [pend] using hj) hbits k a w1 m t hg h).trans fun m1 t1 ⟨a1, hs1, h1⟩ => (h1.see hs1 hj hbits).trans fun m2 t2 ⟨a2, hx⟩ => ?_
  rcases hx with ⟨h3, h4⟩ | ⟨vs, hvs, hvm, hs2, h2⟩
  ·exact .refl ⟨a2, vm, h3, h4⟩
  ·refine (h2.cas (r := r) hs2 hj hbits).trans fun m3 t3 ⟨a3, hx⟩ => ?_
   rcases hx with ⟨h3, h4⟩ | ⟨v2, hlt, hs3, h4⟩
   ·refine (h4.word h3 (Or.inr (Or.inr (Or.inr (Or.inr rfl)))) (by simp) (by simpa [pend] using hj) hbits).trans fun m4 t4 ⟨a4, hs4, h5⟩ => ?_
    exact (Here.sem h5 hs4 hj hbits).trans fun m5 t5 ⟨a5, hs5, h6⟩ => (Here.look h6 hs5 hj hbits).trans fun m6 t6 ⟨a6, hs6, h7⟩ => .refl ⟨a6, vs, hs6, h7⟩
   ·exact ih v2 (by omega) a3 m3 t3 h4 hs3
end
end
section
open Go Go.Conc Go.ConcN
open Go.ConcR (KK wgBlock WgAt stA smA rd wr mk Payload DC0 Bk g_of_ofEvents)
section
variable [Payload] {P : Program} {ty nty : TypeId} {S : Sh} {B0 base : Nat} {bit : Nat → Nat} {T0 N0 : Nat} {j : Nat} {tag : CTag} {d0 : Nat} {t : Trace}
 {gs gs1 : Array Goroutine} {w w1 : World} {D : Nat → WD} {Ad : Nat → Bool} {q : Nat → Nat} {st sm : Int} {fn : FuncId} {pos : String}
theorem Cw.joined (h : Cw P ty nty S B0 base bit j tag 0 T0 N0 gs w t D Ad q st sm) (h1 : Cw P ty nty S B0 base bit j tag 0 T0 N0 gs1 w1 (t ++ MemOp.ofEvents 0 fn pos #[Go.ConcR.mk (.acquire (stA (B0 + 2)))]) D Ad q 0 0) (hall : AllQuit j D) (hfin : isFin tag) :
  Cw P ty nty S B0 (base + j) bit 0 tag 0 T0 (N0 + sumTo j bit) gs1 w1 (t ++ MemOp.ofEvents 0 fn pos #[Go.ConcR.mk (.acquire (stA (B0 + 2)))]) D Ad (fun i => if i < base then q i else (D (i - base)).fuel) 0 0 := by
 have hb := h.base1
 have hu : MemOp.ofEvents 0 fn pos #[Go.ConcR.mk (.acquire (stA (B0 + 2)))] = #[{ g := 0, fn, pos, act := .mark (.acquire (stA (B0 + 2))) }] := by
  rw [ofEvents_eq]; simp [Go.ConcR.mk, MemAct.ofEvent]
 generalize hx : ({ g := 0, fn, pos, act := .mark (.acquire (stA (B0 + 2))) } : MemOp) = x at hu
 have hx1 : x.g = 0 ∧ x.act = .mark (.acquire (stA (B0 + 2))) := by subst hx; exact ⟨rfl, rfl⟩
 rw [hu] at h1 ⊢
 have hq : (t ++ #[x])[t.size]? = some x := by simp
 have hqa : (t ++ #[x]).act? t.size = some (.mark (.acquire (stA (B0 + 2)))) := by rw [act?_of hq, hx1.2]
 have hqg : (t ++ #[x]).g? t.size = some 0 := by simp [Trace.g?, hx1.1]
 have hqh : (t ++ #[x]).heard t.size := ⟨0, hqg, by rw [deaf_old (Nat.le_refl _)]; exact h.deaf0⟩
 have nt : x.act.touch? = none := by rw [hx1.2]; rfl
 have edge : ∀ i, i < j → ∃ r, r < t.size ∧ (t ++ #[x]).g? r = some (base + i) ∧ HappensBefore (t ++ #[x]) r t.size ∧ (∀ y, r < y → (t ++ #[x]).g? y = some (base + i) → ¬ (t ++ #[x]).counts y) ∧ (∀ y b, r < y → (t ++ #[x]).g? y = some (base + i) → touchAt (t ++ #[x]) y = some b → ShOf (S3 S B0) b.loc) ∧ touchAt (t ++ #[x]) r = none := by
  intro i hi
  obtain ⟨r, hr, hr'⟩ := h.rel i hi (by rw [hall i hi]; omega)
  have hlt : r < t.size := lt_of_act? hr.act
  have hone : ∀ op ∈ #[x], op.g = 0 := fun op hop => by
   have e : op = x := by simpa using hop
   rw [e]; exact hx1.1
  have hr1 : RelBy (stA (B0 + 2)) (t ++ #[x]) (base + i) r := hr.appOther hone (by omega)
  have hT : T0 ≤ r := Nat.le_of_not_lt fun hlt' => by
   have := h.early r (base + i) hlt' hr.g
   omega
  refine ⟨r, hlt, hr1.g, .single (Or.inr ⟨.marked hlt (Or.inr hr1.act) hqa (fun k hk _ => h1.norel k (by omega)), hr1.heard, hqh⟩), hr1.after, after_other hone (by omega) hr', ?_⟩
  unfold touchAt
  rw [hr1.act]; rfl
 have po : ∀ {y r k : Nat}, (t ++ #[x]).g? y = some k → (t ++ #[x]).g? r = some k → y < r → HappensBefore (t ++ #[x]) y r := fun h1 h2 h3 => .single (Or.inl ⟨h3, _, h1, h2⟩)
 have low : ∀ y k, (t ++ #[x]).g? y = some k → k < base + j ∨ k = 0 := fun y k hy => by
  obtain ⟨op, ho, hog⟩ := Option.map_eq_some_iff.1 hy
  have := h1.ct.gs y op ho
  omega
 have kn : ∀ i a, touchAt (t ++ #[x]) i = some a → ¬ ShOf (S3 S B0) a.loc → Knows (t ++ #[x]) 0 i := fun y a ha hn => by
  rcases h1.kn y a ha hn with ⟨k, hk, hg⟩ | h
  ·obtain ⟨i, rfl⟩ : ∃ i, k = base + i := ⟨k - base, by omega⟩
   have hi : i < j := by rcases low y _ hg with h | h <;> omega
   obtain ⟨r, hr1, hr2, hr3, hr4, hr5, hr6⟩ := edge i hi
   have hle : ¬ r < y := fun hlt => hn (hr5 y a hlt hg ha)
   have hne : y ≠ r := fun e => by rw [e, hr6] at ha; cases ha
   exact ⟨t.size, x, hq, hx1.1, Or.inr ((po hg hr2 (by omega)).trans hr3)⟩
  ·exact h
 refine ⟨by omega, by have := h1.size; omega, fun i g hi hib hg => ?_, fun i hi => absurd hi (Nat.not_lt_zero _), ?_, h1.norel, h1.begun, h1.deaf0, fun i hi => absurd hi (Nat.not_lt_zero _), fun i hi => h1.above i (by omega), fun i hi => absurd hi (Nat.not_lt_zero _), fun i g hi hg => Nat.lt_of_lt_of_le (h1.early i g hi hg) (by omega), fun i hi => absurd hi (Nat.not_lt_zero _), ?_, h1.wg, .fin hfin (fun i hi => absurd hi (Nat.not_lt_zero _)), h1.seen, fun i a ha hn => Or.inr (kn i a ha hn), fun y g hg h0 hgb hc => ?_, by have := h1.room; omega⟩
 ·rcases Nat.lt_or_ge i base with hlt | hge
  ·simp only [hlt, if_true]
   exact h1.old i g hi hlt hg
  ·have hn : ¬ i < base := by omega
   simp only [hn, if_false]
   obtain ⟨k, rfl⟩ : ∃ k, i = base + k := ⟨i - base, by omega⟩
   have hk : k < j := by omega
   obtain ⟨g', hg', hs⟩ := h1.wk k hk
   rw [hg] at hg'
   cases hg'
   rw [Nat.add_sub_cancel_left, h1.deafW k hk]
   have h1s := hall k hk
   generalize (D k).stage = s at hs h1s
   generalize Ad k = ad at hs
   subst h1s
   cases hs with
   | go hs => cases hs with
    | quit hq => exact hq
 ·have hperm : ∀ l, ¬ ShOf (S3 S B0) l → Perm (t ++ #[x]) 0 l := fun l hl i a ha e => kn i a ha (by rw [e]; exact hl)
  refine ⟨h1.ct.quiet, fun _ _ _ _ h => h.elim, fun k _ hk l hl => ?_, fun l hs _ => hperm l hs, fun l hs _ => PermW.of (hperm l hs), h1.ct.nr, fun i op hi => ?_⟩
  ·have := hl.1
   omega
  ·have := h1.ct.gs i op hi
   omega
 ·have e : bitsIn bit j Ad = sumTo j bit := sumTo_congr fun i hi => by
   obtain ⟨g, _, hs⟩ := h1.wk i hi
   have h1s := hall i hi
   generalize (D i).stage = s at hs h1s
   subst h1s
   generalize hA : Ad i = ad at hs
   cases hs with
   | go _ => simp
  have := h1.noted
  rw [e] at this
  exact this
 ·rcases Nat.lt_or_ge g base with hlt | hge
  ·exact h1.over y g hg h0 hlt hc
  ·obtain ⟨i, rfl⟩ : ∃ i, g = base + i := ⟨g - base, by omega⟩
   obtain ⟨r, hr1, hr2, hr3, hr4, _, _⟩ := edge i (by omega)
   have hle : ¬ r < y := fun hlt => hr4 y hlt hg hc
   refine ⟨t.size, hqg, ?_⟩
   rcases Nat.lt_or_ge y r with hyr | hyr
   ·exact (po hg hr2 hyr).trans hr3
   ·obtain rfl : y = r := by omega
    exact hr3
end
end
section
open Go Go.Conc Go.ConcN
open Go.ConcR (KK wgBlock WgAt stA smA rd wr mk Payload DC0 Bk g_of_ofEvents)
structure Like (B0 j : Nat) (v v' : World) : Prop where
 size : v'.heap.size = v.heap.size
 out : ∀ b, ¬ (B0 + 3 ≤ b ∧ b < B0 + 3 + j) → v'.heap[b]? = v.heap[b]?
 os : v'.os = v.os
 output : v'.output = v.output
section
variable {S : Sh} {B0 j : Nat} {v w : World}
theorem unshun (h : Cp (SJ S B0 j) v w) (hS : ∀ b, S b → b < B0) : ∃ v', Cp (SJ S B0 0) v' w ∧ Like B0 j v v' := by
 have hm : ∀ b, (v.heap.mapIdx fun i o => if B0 + 3 ≤ i ∧ i < B0 + 3 + j then (w.heap[i]?).getD o else o)[b]? = v.heap[b]?.map fun o => if B0 + 3 ≤ b ∧ b < B0 + 3 + j then (w.heap[b]?).getD o else o := fun b => by rw [Array.getElem?_mapIdx]
 refine ⟨{ v with heap := v.heap.mapIdx fun i o => if B0 + 3 ≤ i ∧ i < B0 + 3 + j then (w.heap[i]?).getD o else o }, ⟨by simpa using h.size, fun b hb => ?_, fun b hb => ?_, fun b hb => ?_, h.os, h.output, fun b o hX hb => ?_, fun a ha => ?_⟩, ⟨by simp, fun b hb => ?_, rfl, rfl⟩⟩
 ·rcases hb with hb | ⟨i, hi, _⟩
  ·simpa using h.low b (Or.inl hb)
  ·omega
 ·dsimp only
  rw [hm b]
  by_cases hx : B0 + 3 ≤ b ∧ b < B0 + 3 + j
  ·obtain ⟨i, rfl⟩ : ∃ i, b = B0 + 3 + i := ⟨b - (B0 + 3), by omega⟩
   obtain ⟨t, c, f, e1, e2⟩ := h.brk _ (Or.inr ⟨i, by omega, rfl⟩)
   rw [e1, e2]
   rw [Option.map_some, if_pos hx, Option.getD_some, Option.map_some, veil_of odd_row]
  ·have : (fun o : Obj => if B0 + 3 ≤ b ∧ b < B0 + 3 + j then (w.heap[b]?).getD o else o) = id := by funext o; simp [hx]
   rw [this]
   simp only [Option.map_id, id]
   refine h.out b fun hs => ?_
   rcases hs with hs | ⟨i, hi, rfl⟩
   ·exact hb (Or.inl hs)
   ·exact hx ⟨by omega, by omega⟩
 ·dsimp only
  rw [hm b]
  have hx : ¬ (B0 + 3 ≤ b ∧ b < B0 + 3 + j) := by
   rcases hb with (hb | hb | hb) | ⟨i, hi, _⟩
   ·have := hS b hb; omega
   ·omega
   ·omega
   ·omega
  obtain ⟨t, c, f, e1, e2⟩ := h.brk b (hb.elim Or.inl fun ⟨i, hi, _⟩ => absurd hi (Nat.not_lt_zero _))
  exact ⟨t, c, f, by rw [e1]; simp [hx], e2⟩
 ·have hb' : (v.heap.mapIdx fun i o => if B0 + 3 ≤ i ∧ i < B0 + 3 + j then (w.heap[i]?).getD o else o)[b]? = some o := hb
  rw [hm b] at hb'
  by_cases hx : B0 + 3 ≤ b ∧ b < B0 + 3 + j
  ·obtain ⟨i, rfl⟩ : ∃ i, b = B0 + 3 + i := ⟨b - (B0 + 3), by omega⟩
   obtain ⟨t, c, f, e1, e2⟩ := h.brk _ (Or.inr ⟨i, by omega, rfl⟩)
   rw [e1, Option.map_some, if_pos hx, e2, Option.getD_some] at hb'
   exact absurd (Option.some.inj hb' ▸ hX) isX_row
  ·have : (fun o : Obj => if B0 + 3 ≤ b ∧ b < B0 + 3 + j then (w.heap[b]?).getD o else o) = id := by funext o; simp [hx]
   rw [this] at hb'
   simp only [Option.map_id, id] at hb'
   exact h.mark b o hX hb'
 ·have hx : ¬ (B0 + 3 ≤ a.block ∧ a.block < B0 + 3 + j) := by
   rcases ha with (hb | hb | hb) | ⟨i, hi, _⟩
   ·have := hS _ hb; omega
   ·omega
   ·omega
   ·omega
  have hc := h.cold a (ha.elim Or.inl fun ⟨i, hi, _⟩ => absurd hi (Nat.not_lt_zero _))
  unfold World.frozen? at hc ⊢
  dsimp only
  rw [hm a.block]
  have : (fun o : Obj => if B0 + 3 ≤ a.block ∧ a.block < B0 + 3 + j then (w.heap[a.block]?).getD o else o) = id := by funext o; simp [hx]
  rw [this, Option.map_id]
  exact hc
 ·dsimp only
  rw [hm b]
  cases v.heap[b]? with
  | none => rfl
  | some o => simp [hb]
end
section
variable [Payload] {P : Program} {ty nty : TypeId} {S : Sh} {B0 base : Nat} {bit : Nat → Nat} {T0 N0 : Nat} {j : Nat} {tag : CTag} {d0 : Nat} {a : Goroutine} {v : World} {vm : Nat} {m : Machine} {t : Trace}
theorem Here.join {Ret : Goroutine → World → Prop} (h : Here P ty nty S B0 base bit T0 N0 j .ke 1 a v vm m t) (hs : ∀ w₁, WgLive ty (B0 + 2) w₁ → AtJoin P ty (B0 + 2) Ret a w₁) (hj : j < 2147483648) (hbits : ∀ Ad', N0 + bitsIn bit j Ad' < 4294967296) (hN : N0 + sumTo j bit < 4294967296) (hS : ∀ b, S b → b < B0) :
  Rch P m t (fun m' t' => ∃ a' v', (∀ w₁, WgLive ty (B0 + 2) w₁ → Ret a' w₁) ∧ Like B0 j v v' ∧ Here P ty nty S B0 (base + j) bit T0 (N0 + sumTo j bit) 0 .ke 0 a' v' 0 m' t') := by
 refine (h.word hs (Or.inr (Or.inl rfl)) (by simp) (by simpa [pend] using hj) hbits).trans fun m1 t1 ⟨a1, hs1, h1⟩ => ?_
 have e0 : deafBehind 1 #[mk .enable] = 0 := rfl
 rw [e0] at h1
 obtain ⟨gs, w, sl, D, Ad, q, st, sm, rfl, h0, hc, hcp, hv⟩ := h1
 have hrun := (hs1 w ⟨_, _, hc.wg⟩).1
 obtain ⟨N, gs1, w1, sl1, t2, D1, Ad1, q1, st1, sm1, d, sl2, hr, h01, hc1, hsim, hv1, _, hst⟩ := Cw.turn hrun (by simpa [pend] using hj) hbits (by simp) D q gs w t1 Ad st sm sl hc h0
 obtain ⟨hall, rfl, rfl⟩ := hc1.mode.fin_inv trivial
 obtain ⟨_, g', hgo, k, hk⟩ := hs1 _ ⟨_, _, hc1.wg⟩
 obtain ⟨w1ok, w1nr⟩ := word_touch (S := S) (B0 := B0) (base := base) (mm := .acquire (stA (B0 + 2))) (Or.inr (Or.inr (Or.inl ⟨_, rfl⟩))) (B := (w1.at d).heap.size) (k := base + j - 1) (by have := hc1.room; omega) (fn := a1.frame.fn) (pos := a1.frame.place)
 obtain ⟨gs2, hr2, h02, hc2⟩ := hc1.step0 h01 hgo (leaves_refl _) w1ok w1nr hc1.wg hc1.mode sl2
 have e1 : deafBehind 0 #[mk (.acquire (stA (B0 + 2)))] = 0 := rfl
 rw [e1] at hc2
 have hjn := hc1.joined hc2 hall trivial
 obtain ⟨v', hcp', hlike⟩ := unshun (hsim.2 v hcp) hS
 have hH : Here P ty nty S B0 (base + j) bit T0 (N0 + sumTo j bit) 0 .ke 0 g' v' 0 (crowd gs2 (w1.at d) sl2) (t2 ++ MemOp.ofEvents 0 a1.frame.fn a1.frame.place #[mk (.acquire (stA (B0 + 2)))]) :=
  ⟨gs2, _, sl2, D1, Ad1, _, 0, 0, rfl, h02, hjn, hcp', by simp [Vc, sumTo]⟩
 have hone : runNT P (N + 1) (crowd gs w sl) t1 = (.next (crowd gs2 (w1.at d) sl2), t2 ++ MemOp.ofEvents 0 a1.frame.fn a1.frame.place #[mk (.acquire (stA (B0 + 2)))]) := by
  rw [runNT_more N 1 _ _ _ _ hr]
  simp only [runNT, hst, hr2]
 have hb0 : ∀ Ad', N0 + sumTo j bit + bitsIn bit 0 Ad' < 4294967296 := fun Ad' => by simp [bitsIn, sumTo]; omega
 exact Rch.trans ⟨N + 1, _, _, hone, hH⟩ fun m3 t3 h3 => (Here.goes (by simp) (by simp [pend]) hb0 k g' _ m3 t3 hk h3).trans fun m4 t4 ⟨a4, hs4, h4⟩ => .refl ⟨a4, v', hs4, hlike, h4⟩
theorem Cw.free {gs : Array Goroutine} {w : World} {D : Nat → WD} {Ad : Nat → Bool} {q : Nat → Nat} {st sm : Int} (h : Cw P ty nty S B0 base bit 0 tag 0 T0 N0 gs w t D Ad q st sm) : Leavers P t gs q ∧ Tr (S3 S B0) w.heap.size gs.size t := by
 have hb := h.base1
 have hsz := h.size
 refine ⟨⟨fun i g hi hg => h.old i g hi ?_ hg, fun i hi => h.above i (by omega)⟩, ⟨?_, ?_, h.deaf0, h.seen⟩⟩
 ·have := (Array.getElem?_eq_some_iff.1 hg).1
  omega
 ·have hgs : ∀ i (op : MemOp), t[i]? = some op → op.g < base := fun i op hi => by have := h.ct.gs i op hi; omega
  have hperm : ∀ l, ¬ ShOf (S3 S B0) l → Perm t 0 l := fun l hl i a ha e => by
   rcases h.kn i a ha (by rw [e]; exact hl) with ⟨k, h1, h2⟩ | h1
   ·exfalso
    obtain ⟨op, ho, hog⟩ := Option.map_eq_some_iff.1 h2
    have := hgs i op ho
    omega
   ·exact h1
  exact ⟨h.ct.quiet, fun _ _ _ _ h => h.elim, fun _ _ _ _ h => h.elim, fun l hs _ => hperm l hs, fun l hs _ => PermW.of (hperm l hs), h.ct.nr, fun i op hi => by have := hgs i op hi; omega⟩
 ·intro i g hg h0 hc
  refine h.over i g hg h0 ?_ hc
  obtain ⟨op, ho, hog⟩ := Option.map_eq_some_iff.1 hg
  have := h.ct.gs i op ho
  omega
end
end
section
open Go Go.Conc Go.ConcN
open Go.ConcR (KK wgBlock WgAt stA smA rd wr mk Payload DC0 Bk g_of_ofEvents)
def Beside (P : Program) (S : Sh) (n : Nat) (a : Goroutine) (w : World) (m : Machine) (t : Trace) : Prop :=
 ∃ gs sl q d, m = crowd gs (w.at d) sl ∧ gs[0]? = some a ∧ gs.size = n ∧ Leavers P t gs q ∧ Tr S w.heap.size n t
section
variable {P : Program} {S : Sh} {n : Nat} {a a' : Goroutine} {w w' : World} {m : Machine} {t : Trace}
theorem Beside.stepN {Nx : Goroutine → World → Prop} (h : Beside P S n a w m t) (hrun : a.status = .running) (hst : ∀ d, ∃ a' w' d' es, stepG P true a (w.at d) = .go a' (w'.at d') es ∧ (∀ e ∈ es, OkE S w'.heap.size e) ∧ w.heap.size ≤ w'.heap.size ∧ Nx a' w') :
  Rch P m t (fun m' t' => ∃ a' w', Nx a' w' ∧ Beside P S n a' w' m' t') := by
 obtain ⟨gs, sl, q, d0, rfl, h0, hn, hL, hT⟩ := h
 have key : ∀ (M d0 : Nat) (gs : Array Goroutine) (sl : Option (Nat × Nat)) (t : Trace) (q : Nat → Nat), sumTo gs.size q < M → gs[0]? = some a → gs.size = n → Leavers P t gs q → Tr S w.heap.size n t → Rch P (crowd gs (w.at d0) sl) t (fun m' t' => ∃ a' w', Nx a' w' ∧ Beside P S n a' w' m' t') := by
  intro M
  induction M with
  | zero => exact fun d0 gs sl t q hM => absurd hM (Nat.not_lt_zero _)
  | succ M ihM =>
   intro d0 gs sl t q hM h0 hn hL hT
   have haw : ∀ x ∈ gs, awake x := by
    intro x hx
    obtain ⟨i, hi, rfl⟩ := Array.mem_iff_getElem.1 hx
    rcases Nat.eq_zero_or_pos i with rfl | hpos
    ·have : gs[0] = a := by simpa [Array.getElem?_eq_getElem hi] using h0
     rw [this]; exact awake_of (Or.inl hrun)
    ·exact awake_of ((hL.old i _ hpos (Array.getElem?_eq_getElem hi)).status.elim Or.inl fun x => Or.inr (Or.inr x))
   obtain ⟨i, x, d, sl', hi, hx, hstep⟩ := crowd_pick (P := P) (w := w.at d0) (sl := sl) haw ⟨0, a, h0, hrun⟩
   replace hstep : stepT P (crowd gs (w.at d0) sl) = runT P (crowd gs (w.at d) sl') i := hstep
   have hlt : i < gs.size := (Array.getElem?_eq_some_iff.1 hi).1
   rcases Nat.eq_zero_or_pos i with rfl | hpos
   ·obtain rfl : x = a := by rw [h0] at hi; exact (Option.some.inj hi).symm
    obtain ⟨a', w', d', es, hgo, hE, hsz, hNx⟩ := hst d
    have hrunT := runT_crowd_go (P := P) (sl := sl') (i := 0) hi (show stepG P (0 == 0) x (w.at d) = _ from hgo)
    obtain ⟨l1, l2⟩ := leavers_step (fn := x.frame.fn) (pos := x.frame.place) (es := es) (g := x) (g' := a') (w' := w'.at d') hL hlt
    refine ⟨1, crowd ((gs.map (woken P x a' (w'.at d'))).setIfInBounds 0 a') (w'.at d') sl', t ++ MemOp.ofEvents 0 x.frame.fn x.frame.place es, by simp only [runNT, hstep, hrunT], a', w', hNx, _, sl', q, d', rfl, by simp [hlt], by simp [hn], ⟨fun j y hj hy => l1 j y hj (by omega) hy, fun j hj => l2 j (by simpa using hj)⟩, (hT.mono hsz).own hE⟩
   ·have hq := hL.old i x hpos hi
    have hi0 : (i == 0) = false := by simp; omega
    cases hqi : q i with
    | zero => rw [hqi] at hq; rw [hq.1] at hx; cases hx
    | succ k =>
     rw [hqi] at hq
     rcases hq with ⟨hf, _⟩ | ⟨_, g', es', hm, hstp, hq'⟩
     ·rw [hf] at hx; cases hx
     have hrunT := runT_crowd_go (P := P) (sl := sl') (i := i) hi (by rw [hi0]; exact hstp (w.at d))
     have hsz' : ((gs.map (woken P x g' (w.at d))).setIfInBounds i g').size = gs.size := by simp
     have hsum : sumTo gs.size (upd q i k) + (k + 1) = sumTo gs.size q + k := by
      have := sumTo_upd q k id hlt
      simpa [hqi] using this
     obtain ⟨l1, l2⟩ := leavers_step (fn := x.frame.fn) (pos := x.frame.place) (es := es') (g := x) (g' := g') (w' := w.at d) hL hlt
     obtain ⟨N, m', t', hr, hB⟩ := ihM d ((gs.map (woken P x g' (w.at d))).setIfInBounds i g') sl' (t ++ MemOp.ofEvents i x.frame.fn x.frame.place es') (upd q i k) (by rw [hsz']; omega)
      (by
       have hne : i ≠ 0 := by omega
       rw [Array.getElem?_setIfInBounds_ne hne, Array.getElem?_map, h0]
       simp [woken_run hrun])
      (hsz'.trans hn)
      ⟨fun j y hj hy => by
       by_cases hji : j = i
       ·subst hji
        rw [Array.getElem?_setIfInBounds_self_of_lt (by simpa using hlt)] at hy
        obtain rfl := Option.some.inj hy
        rw [upd_same, Deaf_own]
        exact hq'
       ·rw [upd_ne q k hji]
        exact l1 j y hj hji hy, fun j hj => l2 j (by simpa using hj)⟩
      (hT.mute hpos (by omega) hm)
     exact ⟨N + 1, m', t', by simp only [runNT, hstep, hrunT]; exact hr, hB⟩
 exact key _ d0 gs sl t q (Nat.lt_succ_self _) h0 hn hL hT
theorem Beside.step {es : Array Event} (h : Beside P S n a w m t) (hrun : a.status = .running) (hst : ∀ d, ∃ d', stepG P true a (w.at d) = .go a' (w'.at d') es) (hE : ∀ e ∈ es, OkE S w'.heap.size e) (hsz : w.heap.size ≤ w'.heap.size) :
  Rch P m t (fun m' t' => Beside P S n a' w' m' t') :=
 (h.stepN hrun (Nx := fun x y => x = a' ∧ y = w') fun d => let ⟨d', h⟩ := hst d; ⟨a', w', d', es, h, hE, hsz, rfl, rfl⟩).trans fun _ _ ⟨_, _, ⟨hx, hy⟩, h⟩ => .refl (by subst hx; subst hy; exact h)
theorem Beside.goes {Stop : Goroutine → World → Prop} : ∀ (k : Nat) (a : Goroutine) (w0 : World) (m : Machine) (t : Trace), Goes P true (fun _ _ => True) DC0 Stop k a w0 → Beside P S n a w m t →
  Rch P m t (fun m' t' => ∃ a', (∀ w₁, Stop a' w₁) ∧ Beside P S n a' w m' t') := by
 intro k
 induction k with
 | zero => exact fun a w0 m t hg h => .refl ⟨a, fun w₁ => hg w₁ trivial, h⟩
 | succ k ih =>
  intro a w0 m t hg h
  rcases hg with hs | ⟨hrun, hstep⟩
  ·exact .refl ⟨a, fun w₁ => hs w₁ trivial, h⟩
  ·refine (h.stepN hrun (Nx := fun a' w' => w' = w ∧ ∃ w1, Goes P true (fun _ _ => True) DC0 Stop k a' w1) fun d => ?_).trans fun m' t' ⟨a', w', ⟨e, w1, hg'⟩, h'⟩ => ih a' w1 m' t' hg' (by rw [← e]; exact h')
   obtain ⟨g', w', es, hgo, ⟨rfl, rfl⟩, hg'⟩ := goes_elim (hstep (w.at d) trivial)
   exact ⟨g', w, d, #[], hgo, by simp, Nat.le_refl _, rfl, _, hg'⟩
theorem Tr.shun {S' : Sh} {B : Nat} (h : Tr S B n t) (hs : ∀ b, S b → S' b) (hn : ∀ b, S' b → ¬ S b → B ≤ b) : Tr S' B n t := by
 have hsh : ∀ l, ShOf S l → ShOf S' l := fun l ⟨a, e, h⟩ => ⟨a, e, hs _ h⟩
 refine ⟨⟨fun i op a hop hoa hS => ?_, fun _ _ _ _ h => h.elim, fun _ _ _ _ h => h.elim, fun l hl _ => h.ct.free l (fun x => hl (hsh l x)) (fun _ _ _ => ⟨id, id⟩), fun l hl _ => h.ct.mine l (fun x => hl (hsh l x)) (fun _ _ _ => id), h.ct.nr, h.ct.gs⟩, h.over, h.hears, h.seen⟩
 by_cases hx : ShOf S a.loc
 ·exact h.ct.quiet i op a hop hoa hx
 ·exfalso
  obtain ⟨b, hb, hb'⟩ := hS
  have h1 := h.seen op (Array.mem_of_getElem? hop) a hoa
  rw [hb] at h1
  have h2 : b.block < B := h1
  have := hn _ hb' (fun x => hx ⟨b, hb, x⟩)
  omega
theorem Beside.shun {S' : Sh} (h : Beside P S n a w m t) (hs : ∀ b, S b → S' b) (hn : ∀ b, S' b → ¬ S b → w.heap.size ≤ b) : Beside P S' n a w m t := by
 obtain ⟨gs, sl, q, d, h1, h2, h3, h4, h5⟩ := h
 exact ⟨gs, sl, q, d, h1, h2, h3, h4, h5.shun hs hn⟩
end
section
variable [Payload] {P : Program} {ty nty : TypeId} {S : Sh} {B0 : Nat} {bit : Nat → Nat} {n : Nat} {a : Goroutine} {v w : World} {m : Machine} {t : Trace}
theorem Here.begin (h : Beside P (S3 S B0) n a w m t) (hn : 1 ≤ n) (hno : NAt nty B0 0 w) (hwg : WgAt ty (B0 + 2) w 0 0) (hcp : Cp (SJ S B0 0) v w) (r : Nat) (hroom : B0 + 3 ≤ w.heap.size) : ∃ T0, Here P ty nty S B0 n bit T0 0 0 (.sp r 5) 0 a v 0 m t := by
 obtain ⟨gs, sl, q, d, rfl, h0, rfl, hL, hT⟩ := h
 refine ⟨t.size, gs, w.at d, sl, fun _ => ⟨1, 0, 0⟩, fun _ => false, q, 0, 0, rfl, h0, ?_, (Sim.at _ w d).2 v hcp, by simp [Vc, sumTo]⟩
 refine ⟨hn, by omega, fun i g hi hib hg => hL.old i g hi hg, fun i hi => absurd hi (Nat.not_lt_zero _), ?_, fun i hi e => ?_, Nat.le_refl _, hT.hears, fun i hi => absurd hi (Nat.not_lt_zero _), fun i hi => hL.above i (by omega), fun i hi => absurd hi (Nat.not_lt_zero _), fun i g hi hg => ?_, fun i hi => absurd hi (Nat.not_lt_zero _), (show NAt nty B0 0 w from hno), hwg, ?_, hT.seen, fun i x hx hns => Or.inr ?_, fun i g hg h0' _ hc => hT.over i g hg h0' hc, hroom⟩
 ·exact ⟨hT.ct.quiet, fun _ _ _ _ h => h.elim, fun k _ hk l hl => by have := hl.1; omega, fun l hs _ => hT.ct.free l hs (fun _ _ _ => ⟨id, id⟩), fun l hs _ => hT.ct.mine l hs (fun _ _ _ => id), hT.ct.nr, fun i op hi => by have := hT.ct.gs i op hi; omega⟩
 ·obtain ⟨op, ho, _⟩ := Option.map_eq_some_iff.1 e
  have := lt_size_of_getElem? ho
  omega
 ·obtain ⟨op, ho, hog⟩ := Option.map_eq_some_iff.1 hg
  have := hT.ct.gs i op ho
  omega
 ·have e : (0 : Int) = ((Vc 0 (fun _ => (⟨1, 0, 0⟩ : WD)) + pend (.sp r 5) : Nat) : Int) * KK := by simp [Vc, sumTo, pend]
  have key : Go.ConcN.Mode 0 (fun _ => (⟨1, 0, 0⟩ : WD)) (.sp r 5) (((Vc 0 (fun _ => (⟨1, 0, 0⟩ : WD)) + pend (.sp r 5) : Nat) : Int) * KK) 0 := .opn trivial (fun i hi => absurd hi (Nat.not_lt_zero _)) (fun vs h => by cases h)
  rw [← e] at key
  exact key
 ·exact hT.ct.free x.loc hns (fun _ _ _ => ⟨id, id⟩) i x hx rfl
end
end
end Go.Proofs.YtdafpnpfcmgfcaaGreatDoor
