/- The starter at the semaphore; the join; a go statement. -/
import Derived.Test.YteaincbmnhehcabCrew9
namespace Go.Proofs.Yteaincbmnhehcab
open Go Go.Conc Go.ConcN
open Go.ConcR (KK wgBlock WgAt stA smA rd wr mk Payload DC0 Bk g_of_ofEvents)

section
variable [Payload] {P : Program} {ty nty : TypeId} {S : Nat → Prop} {B0 base : Nat} {bit : Nat → Nat} {T0 N0 : Nat} {j : Nat} {tag : CTag} {d0 : Nat} {a : Goroutine} {v : World} {vm : Nat} {m : Machine} {t : Trace}

omit [Payload] in
theorem mode_w3 {D : Nat → WD} {st sm : Int} (h : Go.ConcN.Mode j D .w3 st sm) : (sm = 0 ∧ Go.ConcN.Mode j D .blk st sm) ∨ (st = 0 ∧ sm = 1 ∧ AllQuit j D) := by
  cases h with
  | opn h1 _ _ => exact h1.elim
  | reg _ h2 h3 => exact .inl ⟨rfl, .reg trivial h2 h3⟩
  | last L _ h2 h3 h4 => exact .inl ⟨rfl, .last L trivial h2 h3 h4⟩
  | sema h => exact .inr ⟨rfl, rfl, h⟩
  | fin h1 _ => exact h1.elim

theorem sem_loop {Ret : Goroutine → World → Prop} (hs : ∀ w₁, WgLive ty (B0 + 2) w₁ → AtSem P ty (B0 + 2) Ret a w₁) (hrun : a.status = .running) (hof : a.offers = none) (hj : j < 2147483648) (hbits : ∀ Ad', N0 + bitsIn bit j Ad' < 4294967296) :
    ∀ (D : Nat → WD) (q : Nat → Nat) (gs : Array Goroutine) (w : World) (t : Trace) (Ad : Nat → Bool) (st sm : Int) (sl : Option (Nat × Nat)), Cw P ty nty S B0 base bit j .w3 1 T0 N0 gs w t D Ad q st sm → gs[0]? = some a → Cp (SJ S B0 j) v w → Vc j D ≤ vm →
    Rch P (crowd gs w sl) t (fun m' t' => ∃ a' k w1, Goes P true (RS ty (B0 + 2)) DC0 (AtLook P ty (B0 + 2) Ret) k a' w1 ∧ Here P ty nty S B0 base bit T0 N0 j .w4 1 a' v vm m' t') := by
  refine MLt.induct (j := j) (base := base) fun D q ih => ?_
  intro gs w t Ad st sm sl hc h0 hcp hv
  obtain ⟨N, gs1, w1, sl1, t1, D1, Ad1, q1, st1, sm1, d, sl2, hr, h01, hc1, hs1, hv1, hm1, hst⟩ := Cw.turn hrun (by simpa [pend] using hj) hbits (by simp) D q gs w t Ad st sm sl hc h0
  obtain ⟨_, _, hblk, hgo⟩ := hs _ ⟨_, _, hc1.wg⟩
  have hroom := hc1.room
  rcases mode_w3 hc1.mode with ⟨rfl, hb⟩ | ⟨rfl, rfl, hall⟩
  · -- it sleeps
    obtain ⟨gs2, hr2, h02, hc2⟩ := hc1.step0 h01 (hblk ⟨_, hc1.wg⟩) (leaves_refl _) (fun op hop => by rw [ofEvents_eq] at hop; simp at hop) (by simp) hc1.wg hb sl2
    obtain ⟨N3, gs3, w3, sl3, t3, D3, Ad3, q3, st3, sm3, hr3, h03, hc3, hs3, hv3, hm3⟩ := Cw.woke hrun hof hj hbits _ _ _ _ _ _ _ _ sl2 hc2 h02
    have hlt : MLt j base D3 q3 D q := by
      rcases hm1 with h | ⟨rfl, rfl⟩
      · exact hm3.trans h
      · exact hm3
    obtain ⟨N4, m4, t4, hr4, h4⟩ := ih D3 q3 hlt gs3 w3 t3 Ad3 st3 sm3 sl3 hc3 h03 ((hs1.trans hs3).2 v hcp) (Nat.le_trans hv3 (Nat.le_trans hv1 hv))
    refine ⟨N + (1 + (N3 + N4)), m4, t4, ?_, h4⟩
    have hone : runNT P 1 (crowd gs1 w1 sl1) t1 = (.next (crowd gs2 (w1.at d) sl2), t1 ++ MemOp.ofEvents 0 a.frame.fn a.frame.place #[]) := by simp only [runNT, hst, hr2]
    rw [runNT_more N _ _ _ _ _ hr, runNT_more 1 _ _ _ _ _ hone, runNT_more N3 _ _ _ _ _ hr3]
    exact hr4
  · -- it is let through
    obtain ⟨g', hgo', k, hk⟩ := hgo hc1.wg
    obtain ⟨gs2, hr2, h02, hc2⟩ := hc1.step0 h01 hgo' (leaves_wg (aside_setCell _ (smA (B0 + 2)) _)) (ok0_bk bk_sem (by simp [World.setCell]; omega)) (norel_of_Bk bk_sem) (hc1.wg.setSm 0) (Go.ConcN.Mode.fin (tag := .w4) trivial hall) sl2
    refine ⟨N + 1, crowd gs2 ((w1.at d).setCell (smA (B0 + 2)) (.int .u32 0)) sl2, t1 ++ MemOp.ofEvents 0 a.frame.fn a.frame.place (semEvents (smA (B0 + 2))), ?_, g', k, _, hk, gs2, _, sl2, D1, Ad1, q1, 0, 0, rfl, h02, ?_, (sim_setCell (a := smA (B0 + 2)) (.inl (.inr (.inr rfl))) (.int .u32 0)).2 v (hs1.2 v hcp), Nat.le_trans hv1 hv⟩
    · rw [runNT_more N 1 _ _ _ _ hr]
      simp only [runNT, hst, hr2]
    · have e : deafBehind 1 (semEvents (smA (B0 + 2))) = 1 := by simp [deafBehind, semEvents]
      rw [e] at hc2
      exact hc2

theorem Here.sem {Ret : Goroutine → World → Prop} (h : Here P ty nty S B0 base bit T0 N0 j .w3 1 a v vm m t) (hs : ∀ w₁, WgLive ty (B0 + 2) w₁ → AtSem P ty (B0 + 2) Ret a w₁) (hj : j < 2147483648) (hbits : ∀ Ad', N0 + bitsIn bit j Ad' < 4294967296) :
    Rch P m t (fun m' t' => ∃ a', (∀ w₁, WgLive ty (B0 + 2) w₁ → AtLook P ty (B0 + 2) Ret a' w₁) ∧ Here P ty nty S B0 base bit T0 N0 j .w4 1 a' v vm m' t') := by
  obtain ⟨gs, w, sl, D, Ad, q, st, sm, rfl, h0, hc, hcp, hv⟩ := h
  obtain ⟨hrun, hof, _⟩ := hs w ⟨_, _, hc.wg⟩
  refine (sem_loop hs hrun hof hj hbits D q gs w t Ad st sm sl hc h0 hcp hv).trans fun m' t' hx => ?_
  obtain ⟨a', k, w1, hg, h'⟩ := hx
  exact Here.goes (by simp) (by simpa [pend] using hj) hbits k a' w1 m' t' hg h'

theorem Here.look {Ret : Goroutine → World → Prop} (h : Here P ty nty S B0 base bit T0 N0 j .w4 1 a v vm m t) (hs : ∀ w₁, WgLive ty (B0 + 2) w₁ → AtLook P ty (B0 + 2) Ret a w₁) (hj : j < 2147483648) (hbits : ∀ Ad', N0 + bitsIn bit j Ad' < 4294967296) :
    Rch P m t (fun m' t' => ∃ a', (∀ w₁, WgLive ty (B0 + 2) w₁ → AtJoin P ty (B0 + 2) Ret a' w₁) ∧ Here P ty nty S B0 base bit T0 N0 j .ke 1 a' v vm m' t') := by
  have hrun : a.status = .running := by
    obtain ⟨gs, w, sl, D, Ad, q, st, sm, _, _, hc, _⟩ := h
    exact (hs w ⟨_, _, hc.wg⟩).1
  refine (h.step hrun (by simp) (by simpa [pend] using hj) hbits (Nx := fun a' tag' d0' v' vm' => (∃ k w1, Goes P true (RS ty (B0 + 2)) DC0 (AtJoin P ty (B0 + 2) Ret) k a' w1) ∧ tag' = .ke ∧ d0' = 1 ∧ v' = v ∧ vm' = vm) fun w t D Ad q st sm gs hc hcp hv => ?_).trans fun m' t' hx => by
      obtain ⟨a', tag', d0', v', vm', ⟨⟨k, w1, hg'⟩, rfl, rfl, rfl, rfl⟩, h'⟩ := hx
      exact Here.goes (by simp) (by simpa [pend] using hj) hbits k a' w1 m' t' hg' h'
  obtain ⟨hall, rfl, rfl⟩ := hc.mode.fin_inv trivial
  have hroom := hc.room
  have hbk : ∀ e ∈ #[rd (stA (B0 + 2))], Bk (B0 + 2) e := by intro e he; simp at he; subst he; exact bk_cell _ _ rfl
  obtain ⟨_, hx⟩ := hs w ⟨_, _, hc.wg⟩
  obtain ⟨g', hgo, k, hk⟩ := hx hc.wg
  exact ⟨g', w, _, .ke, 0, 0, v, vm, hgo, leaves_refl w, ok0_bk hbk (by omega), norel_of_Bk hbk, hc.wg, .fin trivial hall, hcp, hv, ⟨k, w, hk⟩, rfl, rfl, rfl, rfl⟩

/-- The whole of Wait, from its loop's head. -/
theorem Here.wait {Ret Anch : Goroutine → World → Prop} {r : Nat} (hA : ∀ g w, Anch g w → ∃ k, Goes P true (RS ty (B0 + 2)) DC0 (AtSee P ty (B0 + 2) Ret Anch) k g w) (hj : j < 2147483648) (hbits : ∀ Ad', N0 + bitsIn bit j Ad' < 4294967296) :
    ∀ (vm : Nat) (a : Goroutine) (m : Machine) (t : Trace), Here P ty nty S B0 base bit T0 N0 j (.sp r 5) 1 a v vm m t → (∀ w₁, WgLive ty (B0 + 2) w₁ → Anch a w₁) →
    Rch P m t (fun m' t' => ∃ a' vm', (∀ w₁, WgLive ty (B0 + 2) w₁ → AtJoin P ty (B0 + 2) Ret a' w₁) ∧ Here P ty nty S B0 base bit T0 N0 j .ke 1 a' v vm' m' t') := by
  intro vm
  induction vm using Nat.strongRecOn with
  | _ vm ih =>
    intro a m t h hs
    have hg : ∃ k w1, Goes P true (RS ty (B0 + 2)) DC0 (AtSee P ty (B0 + 2) Ret Anch) k a w1 := by
      obtain ⟨gs, w, sl, D, Ad, q, st, sm, _, _, hc, _⟩ := h
      obtain ⟨k, hk⟩ := hA a w (hs w ⟨_, _, hc.wg⟩)
      exact ⟨k, w, hk⟩
    obtain ⟨k, w1, hg⟩ := hg
    refine (Here.goes (by simp) (by simpa [pend] using hj) hbits k a w1 m t hg h).trans fun m1 t1 ⟨a1, hs1, h1⟩ => (h1.see hs1 hj hbits).trans fun m2 t2 ⟨a2, hx⟩ => ?_
    rcases hx with ⟨h3, h4⟩ | ⟨vs, hvs, hvm, hs2, h2⟩
    · exact .refl ⟨a2, vm, h3, h4⟩
    · refine (h2.cas (r := r) hs2 hj hbits).trans fun m3 t3 ⟨a3, hx⟩ => ?_
      rcases hx with ⟨h3, h4⟩ | ⟨v2, hlt, hs3, h4⟩
      · refine (h4.word h3 (.inr (.inr (.inr (.inr rfl)))) (by simp) (by simpa [pend] using hj) hbits).trans fun m4 t4 ⟨a4, hs4, h5⟩ => ?_
        exact (Here.sem h5 hs4 hj hbits).trans fun m5 t5 ⟨a5, hs5, h6⟩ => (Here.look h6 hs5 hj hbits).trans fun m6 t6 ⟨a6, hs6, h7⟩ => .refl ⟨a6, vs, hs6, h7⟩
      · exact ih v2 (by omega) a3 m3 t3 h4 hs3
end
end Go.Proofs.Yteaincbmnhehcab
