/- The starter's way beside its workers, stop by stop. The starter at the semaphore; the join; a go statement. The join: all that the workers did is known. -/
import Derived.Test.YtdafpnpfcmgfcaaGreatDoorKb09
namespace Go.Proofs.YtdafpnpfcmgfcaaGreatDoor
section
open Go Go.Conc Go.ConcN
open Go.ConcR (KK wgBlock WgAt stA smA rd wr mk Payload DC0 Bk g_of_ofEvents)
def Rch (P : Program) (m : Machine) (t : Trace) (Gl : Machine → Trace → Prop) : Prop := ∃ N m' t', runNT P N m t = (.next m', t') ∧ Gl m' t'
theorem Rch.refl {P : Program} {m : Machine} {t : Trace} {Gl : Machine → Trace → Prop} (h : Gl m t) : Rch P m t Gl := ⟨0, m, t, rfl, h⟩
theorem runNT_more {P : Program} : ∀ (N M : Nat) (m m' : Machine) (t t' : Trace), runNT P N m t = (.next m', t') → runNT P (N + M) m t = runNT P M m' t' := by
 intro N
 induction N with
 | zero =>
  intro M m m' t t' h
  simp only [runNT, Prod.mk.injEq, Stepped.next.injEq] at h
  obtain ⟨rfl, rfl⟩ := h
  rw [Nat.zero_add]
 | succ N ih =>
  intro M m m' t t' h
  rw [show N + 1 + M = (N + M) + 1 by omega]
  simp only [runNT] at h ⊢
  generalize stepT P m = z at h
  obtain ⟨r, ops⟩ := z
  cases r with
  | next m1 => exact ih M m1 m' _ t' h
  | ended o w => simp at h
theorem Rch.trans {P : Program} {m : Machine} {t : Trace} {A B : Machine → Trace → Prop} (h : Rch P m t A) (h' : ∀ m t, A m t → Rch P m t B) : Rch P m t B := by
 obtain ⟨N, m1, t1, e1, h1⟩ := h
 obtain ⟨M, m2, t2, e2, h2⟩ := h' m1 t1 h1
 exact ⟨N + M, m2, t2, (runNT_more N M m m1 t t1 e1).trans e2, h2⟩
section
variable [Payload] (P : Program) (ty nty : TypeId) (S : Sh) (B0 base : Nat) (bit : Nat → Nat) (T0 N0 : Nat)
def Here (j : Nat) (tag : CTag) (d0 : Nat) (a : Goroutine) (v : World) (vm : Nat) (m : Machine) (t : Trace) : Prop :=
 ∃ gs w sl D Ad q st sm, m = crowd gs w sl ∧ gs[0]? = some a ∧ Cw P ty nty S B0 base bit j tag d0 T0 N0 gs w t D Ad q st sm ∧ Cp (SJ S B0 j) v w ∧ Vc j D ≤ vm
end
section
variable {S : Sh} {B0 base j : Nat}
theorem leaves_refl (w : World) : Leaves B0 j w w := ⟨fun _ _ => rfl, fun _ _ => rfl, rfl, Nat.le_refl _⟩
theorem leaves_wg {w w' : World} (h : Aside (B0 + 2) w w') : Leaves B0 j w w' := ⟨fun b hb => h.block b (by omega), fun i hi => h.block _ (by omega), h.block _ (by omega), Nat.le_of_eq h.size.symm⟩
theorem ok0_bk {fn : FuncId} {pos : String} {es : Array Event} {k B : Nat} (h : ∀ e ∈ es, Bk (B0 + 2) e) (hB : B0 + 2 < B) : ∀ op ∈ MemOp.ofEvents 0 fn pos es, Ok0 (ShOf (S3 S B0)) NoOwn (RdP S B0 base) k op ∧ TLow B op := by
 intro op hop
 refine ⟨?_, low_bk h hB op hop⟩
 obtain ⟨h1, h2⟩ := ok0_of_Bk (Own := NoOwn) (Rd := RdP S B0 base) (j := k) h op hop
 refine ⟨h1, fun x hx => ?_⟩
 obtain ⟨_, h3⟩ := okW_of_Bk (Own := NoOwn) (Rd := NoOwn) h op hop
 rcases h3 x hx with ⟨⟨b, h4, h5⟩, h6⟩ | h4 | h4
 ·exact Or.inl ⟨⟨b, h4, Or.inr (Or.inr h5)⟩, h6.1⟩
 ·exact h4.elim
 ·exact h4.1.elim
theorem word_touch {mm : Mark} (hm : mm = .disable ∨ mm = .enable ∨ (∃ a, mm = .acquire a) ∨ mm = .read ⟨B0 + 2, 1, none⟩ ∨ mm = .write ⟨B0 + 2, 1, none⟩) {B k : Nat} (hB : B0 + 2 < B) {fn : FuncId} {pos : String} :
  (∀ op ∈ MemOp.ofEvents 0 fn pos #[mk mm], Ok0 (ShOf (S3 S B0)) NoOwn (RdP S B0 base) k op ∧ TLow B op) ∧ ∀ e ∈ #[mk mm], e.loc ≠ .mark (.release (stA (B0 + 2))) := by
 have key : ∀ x, (MemAct.ofEvent (mk mm)).touch? = some x → x.loc = .cell ⟨B0 + 2, 1, none⟩ ∧ x.kind ≠ .plain := by
  intro x hx
  rcases hm with rfl | rfl | ⟨a, rfl⟩ | rfl | rfl <;> simp [mk, MemAct.ofEvent, MemAct.touch?] at hx <;> subst hx <;> exact ⟨rfl, by simp⟩
 refine ⟨fun op hop => ?_, fun e he => ?_⟩
 ·obtain ⟨e, he, rfl⟩ := Go.Conc.mem_ofEvents hop
  obtain rfl : e = mk mm := by simpa using he
  refine ⟨⟨rfl, fun x hx => Or.inl ?_⟩, fun x hx => ?_⟩
  ·obtain ⟨h1, h2⟩ := key x hx
   exact ⟨⟨_, h1, Or.inr (Or.inr rfl)⟩, h2⟩
  ·rw [(key x hx).1]
   exact hB
 ·obtain rfl : e = mk mm := by simpa using he
  rcases hm with rfl | rfl | ⟨a, rfl⟩ | rfl | rfl <;> simp [mk]
theorem two_bk {b : Addr} (hb : b.block = B0 + 2) : ∀ e ∈ #[rd b, wr b], Bk (B0 + 2) e := by
 intro e he
 simp at he
 rcases he with rfl | rfl <;> exact bk_cell _ _ hb
end
section
variable [Payload] {P : Program} {ty nty : TypeId} {S : Sh} {B0 base : Nat} {bit : Nat → Nat} {T0 N0 : Nat} {j : Nat} {tag : CTag} {d0 : Nat} {a : Goroutine} {v : World} {vm : Nat} {m : Machine} {t : Trace}
theorem Here.step (h : Here P ty nty S B0 base bit T0 N0 j tag d0 a v vm m t) (hrun : a.status = .running) (hne : tag ≠ .blk) (hj : j + pend tag < 2147483648) (hbits : ∀ Ad', N0 + bitsIn bit j Ad' < 4294967296) {Nx : Goroutine → CTag → Nat → World → Nat → Prop}
  (hact : ∀ w t D Ad q st sm gs, Cw P ty nty S B0 base bit j tag d0 T0 N0 gs w t D Ad q st sm → Cp (SJ S B0 j) v w → Vc j D ≤ vm → ∃ a' w' es tag' st' sm' v' vm', stepG P true a w = .go a' w' es ∧ Leaves B0 j w w' ∧
   (∀ op ∈ MemOp.ofEvents 0 a.frame.fn a.frame.place es, Ok0 (ShOf (S3 S B0)) NoOwn (RdP S B0 base) (base + j - 1) op ∧ TLow w'.heap.size op) ∧ (∀ e ∈ es, e.loc ≠ .mark (.release (stA (B0 + 2)))) ∧ WgAt ty (B0 + 2) w' st' sm' ∧ Go.ConcN.Mode j D tag' st' sm' ∧ Cp (SJ S B0 j) v' w' ∧ Vc j D ≤ vm' ∧ Nx a' tag' (deafBehind d0 es) v' vm') :
  Rch P m t (fun m' t' => ∃ a' tag' d0' v' vm', Nx a' tag' d0' v' vm' ∧ Here P ty nty S B0 base bit T0 N0 j tag' d0' a' v' vm' m' t') := by
 obtain ⟨gs, w, sl, D, Ad, q, st, sm, rfl, h0, hc, hcp, hv⟩ := h
 obtain ⟨N, gs1, w1, sl1, t1, D1, Ad1, q1, st1, sm1, d, sl2, hr, h01, hc1, hs, hv1, _, hst⟩ := Cw.turn hrun hj hbits hne D q gs w t Ad st sm sl hc h0
 obtain ⟨a', w', es, tag', st', sm', v', vm', hgo, hl, hok, hnr, hwg, hmode, hcp', hvm', hNx⟩ := hact _ _ _ _ _ _ _ _ hc1 (hs.2 v hcp) (Nat.le_trans hv1 hv)
 obtain ⟨gs2, hr2, h02, hc2⟩ := hc1.step0 h01 hgo hl hok hnr hwg hmode sl2
 refine ⟨N + 1, crowd gs2 w' sl2, _, ?_, a', tag', _, v', vm', hNx, gs2, w', sl2, D1, Ad1, q1, st', sm', rfl, h02, hc2, hcp', hvm'⟩
 rw [runNT_more N 1 _ _ _ _ hr]
 simp only [runNT, hst, hr2]
theorem Here.goes {Stop : Goroutine → World → Prop} (hne : tag ≠ .blk) (hj : j + pend tag < 2147483648) (hbits : ∀ Ad', N0 + bitsIn bit j Ad' < 4294967296) : ∀ (n : Nat) (a : Goroutine) (w0 : World) (m : Machine) (t : Trace), Goes P true (RS ty (B0 + 2)) DC0 Stop n a w0 →
  Here P ty nty S B0 base bit T0 N0 j tag d0 a v vm m t → Rch P m t (fun m' t' => ∃ a', (∀ w₁, WgLive ty (B0 + 2) w₁ → Stop a' w₁) ∧ Here P ty nty S B0 base bit T0 N0 j tag d0 a' v vm m' t') := by
 intro n
 induction n with
 | zero => exact fun a w0 m t hg h => .refl ⟨a, fun w₁ hw => hg w₁ (fun _ => hw), h⟩
 | succ n ih =>
  intro a w0 m t hg h
  rcases hg with hs | ⟨hrun, hstep⟩
  ·exact .refl ⟨a, fun w₁ hw => hs w₁ (fun _ => hw), h⟩
  ·refine (h.step hrun hne hj hbits (Nx := fun a' tag' d0' v' vm' => (∃ w1, Goes P true (RS ty (B0 + 2)) DC0 Stop n a' w1) ∧ tag' = tag ∧ d0' = d0 ∧ v' = v ∧ vm' = vm) fun w t D Ad q st sm gs hc hcp hv => ?_).trans fun m' t' hx => by
    obtain ⟨a', tag', d0', v', vm', ⟨⟨w1, hg'⟩, rfl, rfl, rfl, rfl⟩, h'⟩ := hx
    exact ih a' w1 m' t' hg' h'
   obtain ⟨g', w', es, hgo, ⟨rfl, rfl⟩, hg'⟩ := goes_elim (hstep w (fun _ => ⟨_, _, hc.wg⟩))
   exact ⟨g', w', #[], tag, st, sm, v, vm, hgo, leaves_refl _, fun op hop => by rw [ofEvents_eq] at hop; simp at hop, by simp, hc.wg, hc.mode, hcp, hv, ⟨w', hg'⟩, rfl, rfl, rfl, rfl⟩
theorem Here.word {mm : Mark} {Next : Goroutine → World → Prop} (h : Here P ty nty S B0 base bit T0 N0 j tag d0 a v vm m t) (hs : ∀ w₁, WgLive ty (B0 + 2) w₁ → AtWord P ty (B0 + 2) mm Next a w₁) (hm : mm = .disable ∨ mm = .enable ∨ (∃ a, mm = .acquire a) ∨ mm = .read ⟨B0 + 2, 1, none⟩ ∨ mm = .write ⟨B0 + 2, 1, none⟩)
  (hne : tag ≠ .blk) (hj : j + pend tag < 2147483648) (hbits : ∀ Ad', N0 + bitsIn bit j Ad' < 4294967296) :
  Rch P m t (fun m' t' => ∃ a', (∀ w₁, WgLive ty (B0 + 2) w₁ → Next a' w₁) ∧ Here P ty nty S B0 base bit T0 N0 j tag (deafBehind d0 #[mk mm]) a' v vm m' t') := by
 have hrun : a.status = .running := by
  obtain ⟨gs, w, sl, D, Ad, q, st, sm, _, _, hc, _⟩ := h
  exact (hs w ⟨_, _, hc.wg⟩).1
 refine (h.step hrun hne hj hbits (Nx := fun a' tag' d0' v' vm' => (∃ k w1, Goes P true (RS ty (B0 + 2)) DC0 Next k a' w1) ∧ tag' = tag ∧ d0' = deafBehind d0 #[mk mm] ∧ v' = v ∧ vm' = vm) fun w t D Ad q st sm gs hc hcp hv => ?_).trans fun m' t' hx => by
   obtain ⟨a', tag', d0', v', vm', ⟨⟨k, w1, hg'⟩, rfl, rfl, rfl, rfl⟩, h'⟩ := hx
   exact Here.goes hne hj hbits k a' w1 m' t' hg' h'
 obtain ⟨_, g', hgo, k, hg'⟩ := hs w ⟨_, _, hc.wg⟩
 obtain ⟨h1, h2⟩ := word_touch (S := S) (base := base) hm (B := w.heap.size) (k := base + j - 1) (by have := hc.room; omega) (fn := a.frame.fn) (pos := a.frame.place)
 exact ⟨g', w, _, tag, st, sm, v, vm, hgo, leaves_refl w, h1, h2, hc.wg, hc.mode, hcp, hv, ⟨k, w, hg'⟩, rfl, rfl, rfl, rfl⟩
theorem Here.plus {Next : Goroutine → World → Prop} {r : Nat} (h : Here P ty nty S B0 base bit T0 N0 j (.sp r 5) 1 a v vm m t) (hs : ∀ w₁, WgLive ty (B0 + 2) w₁ → AtPlus P ty (B0 + 2) Next a w₁)
  (hj : j + 1 < 2147483648) (hbits : ∀ Ad', N0 + bitsIn bit j Ad' < 4294967296) :
  Rch P m t (fun m' t' => ∃ a', (∀ w₁, WgLive ty (B0 + 2) w₁ → AtMid P ty (B0 + 2) Next a' w₁) ∧ Here P ty nty S B0 base bit T0 N0 j (.sp r 3) 1 a' v vm m' t') := by
 have hrun : a.status = .running := by
  obtain ⟨gs, w, sl, D, Ad, q, st, sm, _, _, hc, _⟩ := h
  exact (hs w ⟨_, _, hc.wg⟩).1
 refine (h.step hrun (by simp) (by simp [pend]; omega) hbits (Nx := fun a' tag' d0' v' vm' => (∃ k w1, Goes P true (RS ty (B0 + 2)) DC0 (AtMid P ty (B0 + 2) Next) k a' w1) ∧ tag' = .sp r 3 ∧ d0' = 1 ∧ v' = v ∧ vm' = vm) fun w t D Ad q st sm gs hc hcp hv => ?_).trans fun m' t' hx => by
   obtain ⟨a', tag', d0', v', vm', ⟨⟨k, w1, hg'⟩, rfl, rfl, rfl, rfl⟩, h'⟩ := hx
   exact Here.goes (by simp) (by simp [pend]; omega) hbits k a' w1 m' t' hg' h'
 obtain ⟨ho, rfl, rfl, _⟩ := hc.mode.open_inv trivial
 have hV := Vc_le j D
 obtain ⟨_, hall⟩ := hs w ⟨_, _, hc.wg⟩
 obtain ⟨g', hgo, k, hg'⟩ := hall (Vc j D) (by omega) (by simpa [pend] using hc.wg)
 have hroom := hc.room
 refine ⟨g', _, _, .sp r 3, (((Vc j D : Nat) : Int) + 1) * KK, 0, v, vm, hgo, leaves_wg (aside_setCell w (stA (B0 + 2)) _), ok0_bk (two_bk rfl) (by simp [World.setCell]; omega), norel_of_Bk (two_bk rfl), hc.wg.setSt _, ?_, (sim_setCell (Or.inl (Or.inr (Or.inr rfl))) _).2 v hcp, hv, ⟨k, _, hg'⟩, rfl, rfl, rfl, rfl⟩
 have e : (((Vc j D : Nat) : Int) + 1) * KK = ((Vc j D + pend (.sp r 3) : Nat) : Int) * KK := by simp [pend]
 rw [e]
 exact .opn trivial ho (fun vs h => by cases h)
theorem Here.see {Ret Anch : Goroutine → World → Prop} {r : Nat} (h : Here P ty nty S B0 base bit T0 N0 j (.sp r 5) 1 a v vm m t) (hs : ∀ w₁, WgLive ty (B0 + 2) w₁ → AtSee P ty (B0 + 2) Ret Anch a w₁) (hj : j < 2147483648) (hbits : ∀ Ad', N0 + bitsIn bit j Ad' < 4294967296) :
  Rch P m t (fun m' t' => ∃ a', ((∀ w₁, WgLive ty (B0 + 2) w₁ → AtJoin P ty (B0 + 2) Ret a' w₁) ∧ Here P ty nty S B0 base bit T0 N0 j .ke 1 a' v vm m' t') ∨
   ∃ vs, 1 ≤ vs ∧ vs ≤ vm ∧ (∀ w₁, WgLive ty (B0 + 2) w₁ → AtCas P ty (B0 + 2) Ret Anch vs a' w₁) ∧ Here P ty nty S B0 base bit T0 N0 j (.w2 vs) 1 a' v vs m' t') := by
 have hrun : a.status = .running := by
  obtain ⟨gs, w, sl, D, Ad, q, st, sm, _, _, hc, _⟩ := h
  exact (hs w ⟨_, _, hc.wg⟩).1
 refine (h.step hrun (by simp) (by simp [pend]; omega) hbits (Nx := fun a' tag' d0' v' vm' => d0' = 1 ∧ v' = v ∧ ((tag' = .ke ∧ vm' = vm ∧ ∃ k w1, Goes P true (RS ty (B0 + 2)) DC0 (AtJoin P ty (B0 + 2) Ret) k a' w1) ∨ ∃ vs, 1 ≤ vs ∧ vs ≤ vm ∧ tag' = .w2 vs ∧ vm' = vs ∧ ∃ k w1, Goes P true (RS ty (B0 + 2)) DC0 (AtCas P ty (B0 + 2) Ret Anch vs) k a' w1)) fun w t D Ad q st sm gs hc hcp hv => ?_).trans fun m' t' hx => by
   obtain ⟨a', tag', d0', v', vm', ⟨rfl, rfl, ⟨rfl, rfl, k, w1, hg'⟩ | ⟨vs, h1, h2, rfl, rfl, k, w1, hg'⟩⟩, h'⟩ := hx
   ·exact (Here.goes (by simp) (by simp [pend]; omega) hbits k a' w1 m' t' hg' h').trans fun m2 t2 ⟨a2, h3, h4⟩ => .refl ⟨a2, Or.inl ⟨h3, h4⟩⟩
   ·exact (Here.goes (by simp) (by simp [pend]; omega) hbits k a' w1 m' t' hg' h').trans fun m2 t2 ⟨a2, h3, h4⟩ => .refl ⟨a2, Or.inr ⟨_, h1, h2, h3, h4⟩⟩
 obtain ⟨ho, rfl, rfl, _⟩ := hc.mode.open_inv trivial
 have hV := Vc_le j D
 have hroom := hc.room
 obtain ⟨_, hall⟩ := hs w ⟨_, _, hc.wg⟩
 obtain ⟨g', hgo, h1, h2⟩ := hall (Vc j D) (by omega) (by simpa [pend] using hc.wg)
 have hbk : ∀ e ∈ #[rd (stA (B0 + 2))], Bk (B0 + 2) e := by intro e he; simp at he; subst he; exact bk_cell _ _ rfl
 by_cases h0 : Vc j D = 0
 ·obtain ⟨k, hg'⟩ := h1 h0
  refine ⟨g', w, _, .ke, 0, 0, v, vm, hgo, leaves_refl w, ok0_bk hbk (by omega), norel_of_Bk hbk, ?_, .fin trivial (allQuit_of ho h0), hcp, hv, rfl, rfl, Or.inl ⟨rfl, rfl, k, w, hg'⟩⟩
  have := hc.wg
  simpa [pend, h0] using this
 ·obtain ⟨k, hg'⟩ := h2 h0
  exact ⟨g', w, _, .w2 (Vc j D), _, _, v, Vc j D, hgo, leaves_refl w, ok0_bk hbk (by omega), norel_of_Bk hbk, hc.wg, hc.mode.reopen trivial trivial rfl (fun vs e => by cases e; omega), hcp, Nat.le_refl _, rfl, rfl, Or.inr ⟨Vc j D, by omega, hv, rfl, rfl, k, w, hg'⟩⟩
theorem Here.cas {Ret Anch : Goroutine → World → Prop} {vs r : Nat} (h : Here P ty nty S B0 base bit T0 N0 j (.w2 vs) 1 a v vs m t) (hs : ∀ w₁, WgLive ty (B0 + 2) w₁ → AtCas P ty (B0 + 2) Ret Anch vs a w₁) (hj : j < 2147483648) (hbits : ∀ Ad', N0 + bitsIn bit j Ad' < 4294967296) :
  Rch P m t (fun m' t' => ∃ a', ((∀ w₁, WgLive ty (B0 + 2) w₁ → AtWord P ty (B0 + 2) (.write ⟨B0 + 2, 1, none⟩) (AtSem P ty (B0 + 2) Ret) a' w₁) ∧ Here P ty nty S B0 base bit T0 N0 j .w3 1 a' v vs m' t') ∨
   ∃ v2, v2 < vs ∧ (∀ w₁, WgLive ty (B0 + 2) w₁ → Anch a' w₁) ∧ Here P ty nty S B0 base bit T0 N0 j (.sp r 5) 1 a' v v2 m' t') := by
 have hrun : a.status = .running := by
  obtain ⟨gs, w, sl, D, Ad, q, st, sm, _, _, hc, _⟩ := h
  exact (hs w ⟨_, _, hc.wg⟩).1
 refine (h.step hrun (by simp) (by simp [pend]; omega) hbits (Nx := fun a' tag' d0' v' vm' => d0' = 1 ∧ v' = v ∧ ((tag' = .w3 ∧ vm' = vs ∧ ∃ k w1, Goes P true (RS ty (B0 + 2)) DC0 (AtWord P ty (B0 + 2) (.write ⟨B0 + 2, 1, none⟩) (AtSem P ty (B0 + 2) Ret)) k a' w1) ∨ (vm' < vs ∧ tag' = .sp r 5 ∧ ∃ k w1, Goes P true (RS ty (B0 + 2)) DC0 Anch k a' w1))) fun w t D Ad q st sm gs hc hcp hv => ?_).trans fun m' t' hx => by
   obtain ⟨a', tag', d0', v', vm', ⟨rfl, rfl, ⟨rfl, rfl, k, w1, hg'⟩ | ⟨h1, rfl, k, w1, hg'⟩⟩, h'⟩ := hx
   ·exact (Here.goes (by simp) (by simp [pend]; omega) hbits k a' w1 m' t' hg' h').trans fun m2 t2 ⟨a2, h3, h4⟩ => .refl ⟨a2, Or.inl ⟨h3, h4⟩⟩
   ·exact (Here.goes (by simp) (by simp [pend]; omega) hbits k a' w1 m' t' hg' h').trans fun m2 t2 ⟨a2, h3, h4⟩ => .refl ⟨a2, Or.inr ⟨vm', h1, h3, h4⟩⟩
 obtain ⟨ho, rfl, rfl, hvs⟩ := hc.mode.open_inv trivial
 obtain ⟨hvs1, hvs2⟩ := hvs vs rfl
 have hV := Vc_le j D
 have hroom := hc.room
 obtain ⟨_, hall⟩ := hs w ⟨_, _, hc.wg⟩
 obtain ⟨h1, h2⟩ := hall (Vc j D) (by omega) (by simpa [pend] using hc.wg)
 by_cases h0 : Vc j D = vs
 ·obtain ⟨g', hgo, k, hg'⟩ := h1 h0
  exact ⟨g', _, _, .w3, ((Vc j D : Nat) : Int) * KK + 1, 0, v, vs, hgo, leaves_wg (aside_setCell w (stA (B0 + 2)) _), ok0_bk (two_bk rfl) (by simp [World.setCell]; omega), norel_of_Bk (two_bk rfl), hc.wg.setSt _, .reg trivial ho (by omega), (sim_setCell (Or.inl (Or.inr (Or.inr rfl))) _).2 v hcp, by omega, rfl, rfl, Or.inl ⟨rfl, rfl, k, _, hg'⟩⟩
 ·obtain ⟨g', hgo, k, hg'⟩ := h2 h0
  have hbk : ∀ e ∈ #[rd (stA (B0 + 2))], Bk (B0 + 2) e := by intro e he; simp at he; subst he; exact bk_cell _ _ rfl
  exact ⟨g', w, _, .sp r 5, _, _, v, Vc j D, hgo, leaves_refl w, ok0_bk hbk (by omega), norel_of_Bk hbk, hc.wg, hc.mode.reopen trivial trivial rfl (fun vs e => by cases e), hcp, Nat.le_refl _, rfl, rfl, Or.inr ⟨by omega, rfl, k, w, hg'⟩⟩
end
end
section
open Go Go.Conc Go.ConcN
open Go.ConcR (KK wgBlock WgAt stA smA rd wr mk Payload DC0 Bk g_of_ofEvents)
theorem mode_w3 {j : Nat} {D : Nat → WD} {st sm : Int} (h : Go.ConcN.Mode j D .w3 st sm) : (sm = 0 ∧ Go.ConcN.Mode j D .blk st sm) ∨ (st = 0 ∧ sm = 1 ∧ AllQuit j D) := by
 cases h with
 | opn h1 _ _ => exact h1.elim
 | reg _ h2 h3 => exact Or.inl ⟨rfl, .reg trivial h2 h3⟩
 | last L _ h2 h3 h4 => exact Or.inl ⟨rfl, .last L trivial h2 h3 h4⟩
 | sema h => exact Or.inr ⟨rfl, rfl, h⟩
 | fin h1 _ => exact h1.elim
section
variable [Payload] {P : Program} {ty nty : TypeId} {S : Sh} {B0 base : Nat} {bit : Nat → Nat} {T0 N0 : Nat} {j : Nat} {tag : CTag} {d0 : Nat} {a : Goroutine} {v : World} {vm : Nat} {m : Machine} {t : Trace}
theorem sem_loop {Ret : Goroutine → World → Prop} (hs : ∀ w₁, WgLive ty (B0 + 2) w₁ → AtSem P ty (B0 + 2) Ret a w₁) (hrun : a.status = .running) (hof : a.offers = none) (hj : j < 2147483648) (hbits : ∀ Ad', N0 + bitsIn bit j Ad' < 4294967296) :
  ∀ (D : Nat → WD) (q : Nat → Nat) (gs : Array Goroutine) (w : World) (t : Trace) (Ad : Nat → Bool) (st sm : Int) (sl : Option (Nat × Nat)), Cw P ty nty S B0 base bit j .w3 1 T0 N0 gs w t D Ad q st sm → gs[0]? = some a → Cp (SJ S B0 j) v w → Vc j D ≤ vm →
  Rch P (crowd gs w sl) t (fun m' t' => ∃ a' k w1, Goes P true (RS ty (B0 + 2)) DC0 (AtLook P ty (B0 + 2) Ret) k a' w1 ∧ Here P ty nty S B0 base bit T0 N0 j .w4 1 a' v vm m' t') := by
 refine MLt.induct (j := j) (base := base) fun D q ih => ?_
 intro gs w t Ad st sm sl hc h0 hcp hv
 obtain ⟨N, gs1, w1, sl1, t1, D1, Ad1, q1, st1, sm1, d, sl2, hr, h01, hc1, hs1, hv1, hm1, hst⟩ := Cw.turn hrun (by simpa [pend] using hj) hbits (by simp) D q gs w t Ad st sm sl hc h0
 obtain ⟨_, _, hblk, hgo⟩ := hs _ ⟨_, _, hc1.wg⟩
 have hroom := hc1.room
 rcases mode_w3 hc1.mode with ⟨rfl, hb⟩ | ⟨rfl, rfl, hall⟩
 ·-- it sleeps
  obtain ⟨gs2, hr2, h02, hc2⟩ := hc1.step0 h01 (hblk ⟨_, hc1.wg⟩) (leaves_refl _) (fun op hop => by rw [ofEvents_eq] at hop; simp at hop) (by simp) hc1.wg hb sl2
  obtain ⟨N3, gs3, w3, sl3, t3, D3, Ad3, q3, st3, sm3, hr3, h03, hc3, hs3, hv3, hm3⟩ := Cw.woke hrun hof hj hbits _ _ _ _ _ _ _ _ sl2 hc2 h02
  have hlt : MLt j base D3 q3 D q := by
   rcases hm1 with h | ⟨rfl, rfl⟩
   ·exact hm3.trans h
   ·exact hm3
  obtain ⟨N4, m4, t4, hr4, h4⟩ := ih D3 q3 hlt gs3 w3 t3 Ad3 st3 sm3 sl3 hc3 h03 ((hs1.trans hs3).2 v hcp) (Nat.le_trans hv3 (Nat.le_trans hv1 hv))
  refine ⟨N + (1 + (N3 + N4)), m4, t4, ?_, h4⟩
  have hone : runNT P 1 (crowd gs1 w1 sl1) t1 = (.next (crowd gs2 (w1.at d) sl2), t1 ++ MemOp.ofEvents 0 a.frame.fn a.frame.place #[]) := by simp only [runNT, hst, hr2]
  rw [runNT_more N _ _ _ _ _ hr, runNT_more 1 _ _ _ _ _ hone, runNT_more N3 _ _ _ _ _ hr3]
  exact hr4
 ·-- it is let through
  obtain ⟨g', hgo', k, hk⟩ := hgo hc1.wg
  obtain ⟨gs2, hr2, h02, hc2⟩ := hc1.step0 h01 hgo' (leaves_wg (aside_setCell _ (smA (B0 + 2)) _)) (ok0_bk bk_sem (by simp [World.setCell]; omega)) (norel_of_Bk bk_sem) (hc1.wg.setSm 0) (Go.ConcN.Mode.fin (tag := .w4) trivial hall) sl2
  refine ⟨N + 1, crowd gs2 ((w1.at d).setCell (smA (B0 + 2)) (.int .u32 0)) sl2, t1 ++ MemOp.ofEvents 0 a.frame.fn a.frame.place (semEvents (smA (B0 + 2))), ?_, g', k, _, hk, gs2, _, sl2, D1, Ad1, q1, 0, 0, rfl, h02, ?_, (sim_setCell (a := smA (B0 + 2)) (Or.inl (Or.inr (Or.inr rfl))) (.int .u32 0)).2 v (hs1.2 v hcp), Nat.le_trans hv1 hv⟩
  ·rw [runNT_more N 1 _ _ _ _ hr]
   simp only [runNT, hst, hr2]
  ·have e : deafBehind 1 (semEvents (smA (B0 + 2))) = 1 := by simp [deafBehind, semEvents]
   rw [e] at hc2
   exact hc2
theorem Here.sem {Ret : Goroutine → World → Prop} (h : Here P ty nty S B0 base bit T0 N0 j .w3 1 a v vm m t) (hs : ∀ w₁, WgLive ty (B0 + 2) w₁ → AtSem P ty (B0 + 2) Ret a w₁) (hj : j < 2147483648) (hbits : ∀ Ad', N0 + bitsIn bit j Ad' < 4294967296) :
  Rch P m t (fun m' t' => ∃ a', (∀ w₁, WgLive ty (B0 + 2) w₁ → AtLook P ty (B0 + 2) Ret a' w₁) ∧ Here P ty nty S B0 base bit T0 N0 j .w4 1 a' v vm m' t') := by
 obtain ⟨gs, w, sl, D, Ad, q, st, sm, rfl, h0, hc, hcp, hv⟩ := h
 obtain ⟨hrun, hof, _⟩ := hs w ⟨_, _, hc.wg⟩
 refine (sem_loop hs hrun hof hj hbits D q gs w t Ad st sm sl hc h0 hcp hv).trans fun m' t' hx => ?_
 obtain ⟨a', k, w1, hg, h'⟩ := hx
 exact Here.goes (by simp) (by simpa [pend] using hj) hbits k a' w1 m' t' hg h'
theorem Here.look {Ret : Goroutine → World → Prop} (h : Here P ty nty S B0 base bit T0 N0 j .w4 1 a v vm m t) (hs : ∀ w₁, WgLive ty (B0 + 2) w₁ → AtLook P ty (B0 + 2) Ret a w₁) (hj : j < 2147483648) (hbits : ∀ Ad', N0 + bitsIn bit j Ad' < 4294967296) :
  Rch P m t (fun m' t' => ∃ a', (∀ w₁, WgLive ty (B0 + 2) w₁ → AtJoin P ty (B0 + 2) Ret a' w₁) ∧ Here P ty nty S B0 base bit T0 N0 j .ke 1 a' v vm m' t') := by
 have hrun : a.status = .running := by
  obtain ⟨gs, w, sl, D, Ad, q, st, sm, _, _, hc, _⟩ := h
  exact (hs w ⟨_, _, hc.wg⟩).1
 refine (h.step hrun (by simp) (by simpa [pend] using hj) hbits (Nx := fun a' tag' d0' v' vm' => (∃ k w1, Goes P true (RS ty (B0 + 2)) DC0 (AtJoin P ty (B0 + 2) Ret) k a' w1) ∧ tag' = .ke ∧ d0' = 1 ∧ v' = v ∧ vm' = vm) fun w t D Ad q st sm gs hc hcp hv => ?_).trans fun m' t' hx => by
   obtain ⟨a', tag', d0', v', vm', ⟨⟨k, w1, hg'⟩, rfl, rfl, rfl, rfl⟩, h'⟩ := hx
   exact Here.goes (by simp) (by simpa [pend] using hj) hbits k a' w1 m' t' hg' h'
 obtain ⟨hall, rfl, rfl⟩ := hc.mode.fin_inv trivial
 have hroom := hc.room
 have hbk : ∀ e ∈ #[rd (stA (B0 + 2))], Bk (B0 + 2) e := by intro e he; simp at he; subst he; exact bk_cell _ _ rfl
 obtain ⟨_, hx⟩ := hs w ⟨_, _, hc.wg⟩
 obtain ⟨g', hgo, k, hk⟩ := hx hc.wg
 exact ⟨g', w, _, .ke, 0, 0, v, vm, hgo, leaves_refl w, ok0_bk hbk (by omega), norel_of_Bk hbk, hc.wg, .fin trivial hall, hcp, hv, ⟨k, w, hk⟩, rfl, rfl, rfl, rfl⟩
theorem Here.wait {Ret Anch : Goroutine → World → Prop} {r : Nat} (hA : ∀ g w, Anch g w → ∃ k, Goes P true (RS ty (B0 + 2)) DC0 (AtSee P ty (B0 + 2) Ret Anch) k g w) (hj : j < 2147483648) (hbits : ∀ Ad', N0 + bitsIn bit j Ad' < 4294967296) :
  ∀ (vm : Nat) (a : Goroutine) (m : Machine) (t : Trace), Here P ty nty S B0 base bit T0 N0 j (.sp r 5) 1 a v vm m t → (∀ w₁, WgLive ty (B0 + 2) w₁ → Anch a w₁) →
  Rch P m t (fun m' t' => ∃ a' vm', (∀ w₁, WgLive ty (B0 + 2) w₁ → AtJoin P ty (B0 + 2) Ret a' w₁) ∧ Here P ty nty S B0 base bit T0 N0 j .ke 1 a' v vm' m' t') := by
 intro vm
 induction vm using Nat.strongRecOn with
 | _ vm ih =>
  intro a m t h hs
  have hg : ∃ k w1, Goes P true (RS ty (B0 + 2)) DC0 (AtSee P ty (B0 + 2) Ret Anch) k a w1 := by
   obtain ⟨gs, w, sl, D, Ad, q, st, sm, _, _, hc, _⟩ := h
   obtain ⟨k, hk⟩ := hA a w (hs w ⟨_, _, hc.wg⟩)
   exact ⟨k, w, hk⟩
  obtain ⟨k, w1, hg⟩ := hg
  refine (Here.goes (by simp) (by simpa [pend] using hj) hbits k a w1 m t hg h).trans fun m1 t1 ⟨a1, hs1, h1⟩ => (h1.see hs1 hj hbits).trans fun m2 t2 ⟨a2, hx⟩ => ?_
  rcases hx with ⟨h3, h4⟩ | ⟨vs, hvs, hvm, hs2, h2⟩
  ·exact .refl ⟨a2, vm, h3, h4⟩
  ·refine (h2.cas (r := r) hs2 hj hbits).trans fun m3 t3 ⟨a3, hx⟩ => ?_
   rcases hx with ⟨h3, h4⟩ | ⟨v2, hlt, hs3, h4⟩
   ·refine (h4.word h3 (Or.inr (Or.inr (Or.inr (Or.inr rfl)))) (by simp) (by simpa [pend] using hj) hbits).trans fun m4 t4 ⟨a4, hs4, h5⟩ => ?_
    exact (Here.sem h5 hs4 hj hbits).trans fun m5 t5 ⟨a5, hs5, h6⟩ => (Here.look h6 hs5 hj hbits).trans fun m6 t6 ⟨a6, hs6, h7⟩ => .refl ⟨a6, vs, hs6, h7⟩
   ·exact ih v2 (by omega) a3 m3 t3 h4 hs3
end
end
section
open Go Go.Conc Go.ConcN
open Go.ConcR (KK wgBlock WgAt stA smA rd wr mk Payload DC0 Bk g_of_ofEvents)
section
variable [Payload] {P : Program} {ty nty : TypeId} {S : Sh} {B0 base : Nat} {bit : Nat → Nat} {T0 N0 : Nat} {j : Nat} {tag : CTag} {d0 : Nat} {t : Trace}
 {gs gs1 : Array Goroutine} {w w1 : World} {D : Nat → WD} {Ad : Nat → Bool} {q : Nat → Nat} {st sm : Int} {fn : FuncId} {pos : String}
theorem Cw.joined (h : Cw P ty nty S B0 base bit j tag 0 T0 N0 gs w t D Ad q st sm) (h1 : Cw P ty nty S B0 base bit j tag 0 T0 N0 gs1 w1 (t ++ MemOp.ofEvents 0 fn pos #[Go.ConcR.mk (.acquire (stA (B0 + 2)))]) D Ad q 0 0) (hall : AllQuit j D) (hfin : isFin tag) :
  Cw P ty nty S B0 (base + j) bit 0 tag 0 T0 (N0 + sumTo j bit) gs1 w1 (t ++ MemOp.ofEvents 0 fn pos #[Go.ConcR.mk (.acquire (stA (B0 + 2)))]) D Ad (fun i => if i < base then q i else (D (i - base)).fuel) 0 0 := by
 have hb := h.base1
 have hu : MemOp.ofEvents 0 fn pos #[Go.ConcR.mk (.acquire (stA (B0 + 2)))] = #[{ g := 0, fn, pos, act := .mark (.acquire (stA (B0 + 2))) }] := by
  rw [ofEvents_eq]; simp [Go.ConcR.mk, MemAct.ofEvent]
 generalize hx : ({ g := 0, fn, pos, act := .mark (.acquire (stA (B0 + 2))) } : MemOp) = x at hu
 have hx1 : x.g = 0 ∧ x.act = .mark (.acquire (stA (B0 + 2))) := by subst hx; exact ⟨rfl, rfl⟩
 rw [hu] at h1 ⊢
 have hq : (t ++ #[x])[t.size]? = some x := by simp
 have hqa : (t ++ #[x]).act? t.size = some (.mark (.acquire (stA (B0 + 2)))) := by rw [act?_of hq, hx1.2]
 have hqg : (t ++ #[x]).g? t.size = some 0 := by simp [Trace.g?, hx1.1]
 have hqh : (t ++ #[x]).heard t.size := ⟨0, hqg, by rw [deaf_old (Nat.le_refl _)]; exact h.deaf0⟩
 have nt : x.act.touch? = none := by rw [hx1.2]; rfl
 have edge : ∀ i, i < j → ∃ r, r < t.size ∧ (t ++ #[x]).g? r = some (base + i) ∧ HappensBefore (t ++ #[x]) r t.size ∧ (∀ y, r < y → (t ++ #[x]).g? y = some (base + i) → ¬ (t ++ #[x]).counts y) ∧ (∀ y b, r < y → (t ++ #[x]).g? y = some (base + i) → touchAt (t ++ #[x]) y = some b → ShOf (S3 S B0) b.loc) ∧ touchAt (t ++ #[x]) r = none := by
  intro i hi
  obtain ⟨r, hr, hr'⟩ := h.rel i hi (by rw [hall i hi]; omega)
  have hlt : r < t.size := lt_of_act? hr.act
  have hone : ∀ op ∈ #[x], op.g = 0 := fun op hop => by
   have e : op = x := by simpa using hop
   rw [e]; exact hx1.1
  have hr1 : RelBy (stA (B0 + 2)) (t ++ #[x]) (base + i) r := hr.appOther hone (by omega)
  have hT : T0 ≤ r := Nat.le_of_not_lt fun hlt' => by
   have := h.early r (base + i) hlt' hr.g
   omega
  refine ⟨r, hlt, hr1.g, .single (Or.inr ⟨.marked hlt (Or.inr hr1.act) hqa (fun k hk _ => h1.norel k (by omega)), hr1.heard, hqh⟩), hr1.after, after_other hone (by omega) hr', ?_⟩
  unfold touchAt
  rw [hr1.act]; rfl
 have po : ∀ {y r k : Nat}, (t ++ #[x]).g? y = some k → (t ++ #[x]).g? r = some k → y < r → HappensBefore (t ++ #[x]) y r := fun h1 h2 h3 => .single (Or.inl ⟨h3, _, h1, h2⟩)
 have low : ∀ y k, (t ++ #[x]).g? y = some k → k < base + j ∨ k = 0 := fun y k hy => by
  obtain ⟨op, ho, hog⟩ := Option.map_eq_some_iff.1 hy
  have := h1.ct.gs y op ho
  omega
 have kn : ∀ i a, touchAt (t ++ #[x]) i = some a → ¬ ShOf (S3 S B0) a.loc → Knows (t ++ #[x]) 0 i := fun y a ha hn => by
  rcases h1.kn y a ha hn with ⟨k, hk, hg⟩ | h
  ·obtain ⟨i, rfl⟩ : ∃ i, k = base + i := ⟨k - base, by omega⟩
   have hi : i < j := by rcases low y _ hg with h | h <;> omega
   obtain ⟨r, hr1, hr2, hr3, hr4, hr5, hr6⟩ := edge i hi
   have hle : ¬ r < y := fun hlt => hn (hr5 y a hlt hg ha)
   have hne : y ≠ r := fun e => by rw [e, hr6] at ha; cases ha
   exact ⟨t.size, x, hq, hx1.1, Or.inr ((po hg hr2 (by omega)).trans hr3)⟩
  ·exact h
 refine ⟨by omega, by have := h1.size; omega, fun i g hi hib hg => ?_, fun i hi => absurd hi (Nat.not_lt_zero _), ?_, h1.norel, h1.begun, h1.deaf0, fun i hi => absurd hi (Nat.not_lt_zero _), fun i hi => h1.above i (by omega), fun i hi => absurd hi (Nat.not_lt_zero _), fun i g hi hg => Nat.lt_of_lt_of_le (h1.early i g hi hg) (by omega), fun i hi => absurd hi (Nat.not_lt_zero _), ?_, h1.wg, .fin hfin (fun i hi => absurd hi (Nat.not_lt_zero _)), h1.seen, fun i a ha hn => Or.inr (kn i a ha hn), fun y g hg h0 hgb hc => ?_, by have := h1.room; omega⟩
 ·rcases Nat.lt_or_ge i base with hlt | hge
  ·simp only [hlt, if_true]
   exact h1.old i g hi hlt hg
  ·have hn : ¬ i < base := by omega
   simp only [hn, if_false]
   obtain ⟨k, rfl⟩ : ∃ k, i = base + k := ⟨i - base, by omega⟩
   have hk : k < j := by omega
   obtain ⟨g', hg', hs⟩ := h1.wk k hk
   rw [hg] at hg'
   cases hg'
   rw [Nat.add_sub_cancel_left, h1.deafW k hk]
   have h1s := hall k hk
   generalize (D k).stage = s at hs h1s
   generalize Ad k = ad at hs
   subst h1s
   cases hs with
   | go hs => cases hs with
    | quit hq => exact hq
 ·have hperm : ∀ l, ¬ ShOf (S3 S B0) l → Perm (t ++ #[x]) 0 l := fun l hl i a ha e => kn i a ha (by rw [e]; exact hl)
  refine ⟨h1.ct.quiet, fun _ _ _ _ h => h.elim, fun k _ hk l hl => ?_, fun l hs _ => hperm l hs, fun l hs _ => PermW.of (hperm l hs), h1.ct.nr, fun i op hi => ?_⟩
  ·have := hl.1
   omega
  ·have := h1.ct.gs i op hi
   omega
 ·have e : bitsIn bit j Ad = sumTo j bit := sumTo_congr fun i hi => by
   obtain ⟨g, _, hs⟩ := h1.wk i hi
   have h1s := hall i hi
   generalize (D i).stage = s at hs h1s
   subst h1s
   generalize hA : Ad i = ad at hs
   cases hs with
   | go _ => simp
  have := h1.noted
  rw [e] at this
  exact this
 ·rcases Nat.lt_or_ge g base with hlt | hge
  ·exact h1.over y g hg h0 hlt hc
  ·obtain ⟨i, rfl⟩ : ∃ i, g = base + i := ⟨g - base, by omega⟩
   obtain ⟨r, hr1, hr2, hr3, hr4, _, _⟩ := edge i (by omega)
   have hle : ¬ r < y := fun hlt => hr4 y hlt hg hc
   refine ⟨t.size, hqg, ?_⟩
   rcases Nat.lt_or_ge y r with hyr | hyr
   ·exact (po hg hr2 hyr).trans hr3
   ·obtain rfl : y = r := by omega
    exact hr3
end
end
end Go.Proofs.YtdafpnpfcmgfcaaGreatDoor
