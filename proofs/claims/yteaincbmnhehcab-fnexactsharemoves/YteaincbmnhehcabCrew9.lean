/- The starter's way beside its workers, stop by stop. -/
import Derived.Test.YteaincbmnhehcabCrew6
import Derived.Test.YteaincbmnhehcabCrewD
namespace Go.Proofs.Yteaincbmnhehcab
open Go Go.Conc Go.ConcN
open Go.ConcR (KK wgBlock WgAt stA smA rd wr mk Payload DC0 Bk g_of_ofEvents)

/-- The machine comes to a state of which this holds. -/
def Rch (P : Program) (m : Machine) (t : Trace) (Gl : Machine → Trace → Prop) : Prop := ∃ N m' t', runNT P N m t = (.next m', t') ∧ Gl m' t'
theorem Rch.refl {P : Program} {m : Machine} {t : Trace} {Gl : Machine → Trace → Prop} (h : Gl m t) : Rch P m t Gl := ⟨0, m, t, rfl, h⟩
theorem runNT_more {P : Program} : ∀ (N M : Nat) (m m' : Machine) (t t' : Trace), runNT P N m t = (.next m', t') → runNT P (N + M) m t = runNT P M m' t' := by
  intro N
  induction N with
  | zero =>
    intro M m m' t t' h
    simp only [runNT, Prod.mk.injEq, Stepped.next.injEq] at h
    obtain ⟨rfl, rfl⟩ := h
    rw [Nat.zero_add]
  | succ N ih =>
    intro M m m' t t' h
    rw [show N + 1 + M = (N + M) + 1 by omega]
    simp only [runNT] at h ⊢
    generalize stepT P m = z at h
    obtain ⟨r, ops⟩ := z
    cases r with
    | next m1 => exact ih M m1 m' _ t' h
    | ended o w => simp at h
theorem Rch.trans {P : Program} {m : Machine} {t : Trace} {A B : Machine → Trace → Prop} (h : Rch P m t A) (h' : ∀ m t, A m t → Rch P m t B) : Rch P m t B := by
  obtain ⟨N, m1, t1, e1, h1⟩ := h
  obtain ⟨M, m2, t2, e2, h2⟩ := h' m1 t1 h1
  exact ⟨N + M, m2, t2, (runNT_more N M m m1 t t1 e1).trans e2, h2⟩

section
variable [Payload] (P : Program) (ty nty : TypeId) (S : Nat → Prop) (B0 base : Nat) (bit : Nat → Nat) (T0 N0 : Nat)
/-- The starter stands here; 'v' is what the lone run sees; at most vm are counted. -/
def Here (j : Nat) (tag : CTag) (d0 : Nat) (a : Goroutine) (v : World) (vm : Nat) (m : Machine) (t : Trace) : Prop :=
  ∃ gs w sl D Ad q st sm, m = crowd gs w sl ∧ gs[0]? = some a ∧ Cw P ty nty S B0 base bit j tag d0 T0 N0 gs w t D Ad q st sm ∧ Cp (SJ S B0 j) v w ∧ Vc j D ≤ vm
end

section
variable {S : Nat → Prop} {B0 base j : Nat}
theorem leaves_refl (w : World) : Leaves B0 j w w := ⟨fun _ _ => rfl, fun _ _ => rfl, rfl, Nat.le_refl _⟩
theorem leaves_wg {w w' : World} (h : Aside (B0 + 2) w w') : Leaves B0 j w w' := ⟨fun b hb => h.block b (by omega), fun i hi => h.block _ (by omega), h.block _ (by omega), Nat.le_of_eq h.size.symm⟩
theorem ok0_bk {fn : FuncId} {pos : String} {es : Array Event} {k B : Nat} (h : ∀ e ∈ es, Bk (B0 + 2) e) (hB : B0 + 2 < B) : ∀ op ∈ MemOp.ofEvents 0 fn pos es, Ok0 (ShOf (S3 S B0)) NoOwn (RdP S B0 base) k op ∧ TLow B op := by
  intro op hop
  refine ⟨?_, low_bk h hB op hop⟩
  obtain ⟨h1, h2⟩ := ok0_of_Bk (Own := NoOwn) (Rd := RdP S B0 base) (j := k) h op hop
  refine ⟨h1, fun x hx => ?_⟩
  obtain ⟨_, h3⟩ := okW_of_Bk (Own := NoOwn) (Rd := NoOwn) h op hop
  rcases h3 x hx with ⟨⟨b, h4, h5⟩, h6⟩ | h4 | h4
  · exact .inl ⟨⟨b, h4, .inr (.inr h5)⟩, h6.1⟩
  · exact h4.elim
  · exact h4.1.elim

theorem word_touch {mm : Mark} (hm : mm = .disable ∨ mm = .enable ∨ (∃ a, mm = .acquire a) ∨ mm = .read ⟨B0 + 2, 1, none⟩ ∨ mm = .write ⟨B0 + 2, 1, none⟩) {B k : Nat} (hB : B0 + 2 < B) {fn : FuncId} {pos : String} :
    (∀ op ∈ MemOp.ofEvents 0 fn pos #[mk mm], Ok0 (ShOf (S3 S B0)) NoOwn (RdP S B0 base) k op ∧ TLow B op) ∧ ∀ e ∈ #[mk mm], e.loc ≠ .mark (.release (stA (B0 + 2))) := by
  have key : ∀ x, (MemAct.ofEvent (mk mm)).touch? = some x → x.loc = .cell ⟨B0 + 2, 1, none⟩ ∧ x.kind ≠ .plain := by
    intro x hx
    rcases hm with rfl | rfl | ⟨a, rfl⟩ | rfl | rfl <;> simp [mk, MemAct.ofEvent, MemAct.touch?] at hx <;> subst hx <;> exact ⟨rfl, by simp⟩
  refine ⟨fun op hop => ?_, fun e he => ?_⟩
  · obtain ⟨e, he, rfl⟩ := Go.Conc.mem_ofEvents hop
    obtain rfl : e = mk mm := by simpa using he
    refine ⟨⟨rfl, fun x hx => .inl ?_⟩, fun x hx => ?_⟩
    · obtain ⟨h1, h2⟩ := key x hx
      exact ⟨⟨_, h1, .inr (.inr rfl)⟩, h2⟩
    · rw [(key x hx).1]
      exact hB
  · obtain rfl : e = mk mm := by simpa using he
    rcases hm with rfl | rfl | ⟨a, rfl⟩ | rfl | rfl <;> simp [mk]

theorem two_bk {b : Addr} (hb : b.block = B0 + 2) : ∀ e ∈ #[rd b, wr b], Bk (B0 + 2) e := by
  intro e he
  simp at he
  rcases he with rfl | rfl <;> exact bk_cell _ _ hb

end

section
variable [Payload] {P : Program} {ty nty : TypeId} {S : Nat → Prop} {B0 base : Nat} {bit : Nat → Nat} {T0 N0 : Nat} {j : Nat} {tag : CTag} {d0 : Nat} {a : Goroutine} {v : World} {vm : Nat} {m : Machine} {t : Trace}

theorem Here.step (h : Here P ty nty S B0 base bit T0 N0 j tag d0 a v vm m t) (hrun : a.status = .running) (hne : tag ≠ .blk) (hj : j + pend tag < 2147483648) (hbits : ∀ Ad', N0 + bitsIn bit j Ad' < 4294967296) {Nx : Goroutine → CTag → Nat → World → Nat → Prop}
    (hact : ∀ w t D Ad q st sm gs, Cw P ty nty S B0 base bit j tag d0 T0 N0 gs w t D Ad q st sm → Cp (SJ S B0 j) v w → Vc j D ≤ vm → ∃ a' w' es tag' st' sm' v' vm', stepG P true a w = .go a' w' es ∧ Leaves B0 j w w' ∧
      (∀ op ∈ MemOp.ofEvents 0 a.frame.fn a.frame.place es, Ok0 (ShOf (S3 S B0)) NoOwn (RdP S B0 base) (base + j - 1) op ∧ TLow w'.heap.size op) ∧ (∀ e ∈ es, e.loc ≠ .mark (.release (stA (B0 + 2)))) ∧ WgAt ty (B0 + 2) w' st' sm' ∧ Go.ConcN.Mode j D tag' st' sm' ∧ Cp (SJ S B0 j) v' w' ∧ Vc j D ≤ vm' ∧ Nx a' tag' (deafBehind d0 es) v' vm') :
    Rch P m t (fun m' t' => ∃ a' tag' d0' v' vm', Nx a' tag' d0' v' vm' ∧ Here P ty nty S B0 base bit T0 N0 j tag' d0' a' v' vm' m' t') := by
  obtain ⟨gs, w, sl, D, Ad, q, st, sm, rfl, h0, hc, hcp, hv⟩ := h
  obtain ⟨N, gs1, w1, sl1, t1, D1, Ad1, q1, st1, sm1, d, sl2, hr, h01, hc1, hs, hv1, _, hst⟩ := Cw.turn hrun hj hbits hne D q gs w t Ad st sm sl hc h0
  obtain ⟨a', w', es, tag', st', sm', v', vm', hgo, hl, hok, hnr, hwg, hmode, hcp', hvm', hNx⟩ := hact _ _ _ _ _ _ _ _ hc1 (hs.2 v hcp) (Nat.le_trans hv1 hv)
  obtain ⟨gs2, hr2, h02, hc2⟩ := hc1.step0 h01 hgo hl hok hnr hwg hmode sl2
  refine ⟨N + 1, crowd gs2 w' sl2, _, ?_, a', tag', _, v', vm', hNx, gs2, w', sl2, D1, Ad1, q1, st', sm', rfl, h02, hc2, hcp', hvm'⟩
  rw [runNT_more N 1 _ _ _ _ hr]
  simp only [runNT, hst, hr2]

/-- Through the group's own code. -/
theorem Here.goes {Stop : Goroutine → World → Prop} (hne : tag ≠ .blk) (hj : j + pend tag < 2147483648) (hbits : ∀ Ad', N0 + bitsIn bit j Ad' < 4294967296) : ∀ (n : Nat) (a : Goroutine) (w0 : World) (m : Machine) (t : Trace), Goes P true (RS ty (B0 + 2)) DC0 Stop n a w0 →
    Here P ty nty S B0 base bit T0 N0 j tag d0 a v vm m t → Rch P m t (fun m' t' => ∃ a', (∀ w₁, WgLive ty (B0 + 2) w₁ → Stop a' w₁) ∧ Here P ty nty S B0 base bit T0 N0 j tag d0 a' v vm m' t') := by
  intro n
  induction n with
  | zero => exact fun a w0 m t hg h => .refl ⟨a, fun w₁ hw => hg w₁ (fun _ => hw), h⟩
  | succ n ih =>
    intro a w0 m t hg h
    rcases hg with hs | ⟨hrun, hstep⟩
    · exact .refl ⟨a, fun w₁ hw => hs w₁ (fun _ => hw), h⟩
    · refine (h.step hrun hne hj hbits (Nx := fun a' tag' d0' v' vm' => (∃ w1, Goes P true (RS ty (B0 + 2)) DC0 Stop n a' w1) ∧ tag' = tag ∧ d0' = d0 ∧ v' = v ∧ vm' = vm) fun w t D Ad q st sm gs hc hcp hv => ?_).trans fun m' t' hx => by
        obtain ⟨a', tag', d0', v', vm', ⟨⟨w1, hg'⟩, rfl, rfl, rfl, rfl⟩, h'⟩ := hx
        exact ih a' w1 m' t' hg' h'
      obtain ⟨g', w', es, hgo, ⟨rfl, rfl⟩, hg'⟩ := goes_elim (hstep w (fun _ => ⟨_, _, hc.wg⟩))
      exact ⟨g', w', #[], tag, st, sm, v, vm, hgo, leaves_refl _, fun op hop => by rw [ofEvents_eq] at hop; simp at hop, by simp, hc.wg, hc.mode, hcp, hv, ⟨w', hg'⟩, rfl, rfl, rfl, rfl⟩

/-- It says a word, and goes on through the group's code. -/
theorem Here.word {mm : Mark} {Next : Goroutine → World → Prop} (h : Here P ty nty S B0 base bit T0 N0 j tag d0 a v vm m t) (hs : ∀ w₁, WgLive ty (B0 + 2) w₁ → AtWord P ty (B0 + 2) mm Next a w₁) (hm : mm = .disable ∨ mm = .enable ∨ (∃ a, mm = .acquire a) ∨ mm = .read ⟨B0 + 2, 1, none⟩ ∨ mm = .write ⟨B0 + 2, 1, none⟩)
    (hne : tag ≠ .blk) (hj : j + pend tag < 2147483648) (hbits : ∀ Ad', N0 + bitsIn bit j Ad' < 4294967296) :
    Rch P m t (fun m' t' => ∃ a', (∀ w₁, WgLive ty (B0 + 2) w₁ → Next a' w₁) ∧ Here P ty nty S B0 base bit T0 N0 j tag (deafBehind d0 #[mk mm]) a' v vm m' t') := by
  have hrun : a.status = .running := by
    obtain ⟨gs, w, sl, D, Ad, q, st, sm, _, _, hc, _⟩ := h
    exact (hs w ⟨_, _, hc.wg⟩).1
  refine (h.step hrun hne hj hbits (Nx := fun a' tag' d0' v' vm' => (∃ k w1, Goes P true (RS ty (B0 + 2)) DC0 Next k a' w1) ∧ tag' = tag ∧ d0' = deafBehind d0 #[mk mm] ∧ v' = v ∧ vm' = vm) fun w t D Ad q st sm gs hc hcp hv => ?_).trans fun m' t' hx => by
      obtain ⟨a', tag', d0', v', vm', ⟨⟨k, w1, hg'⟩, rfl, rfl, rfl, rfl⟩, h'⟩ := hx
      exact Here.goes hne hj hbits k a' w1 m' t' hg' h'
  obtain ⟨_, g', hgo, k, hg'⟩ := hs w ⟨_, _, hc.wg⟩
  obtain ⟨h1, h2⟩ := word_touch (S := S) (base := base) hm (B := w.heap.size) (k := base + j - 1) (by have := hc.room; omega) (fn := a.frame.fn) (pos := a.frame.place)
  exact ⟨g', w, _, tag, st, sm, v, vm, hgo, leaves_refl w, h1, h2, hc.wg, hc.mode, hcp, hv, ⟨k, w, hg'⟩, rfl, rfl, rfl, rfl⟩

/-- The addition: one more is counted. -/
theorem Here.plus {Next : Goroutine → World → Prop} {r : Nat} (h : Here P ty nty S B0 base bit T0 N0 j (.sp r 5) 1 a v vm m t) (hs : ∀ w₁, WgLive ty (B0 + 2) w₁ → AtPlus P ty (B0 + 2) Next a w₁)
    (hj : j + 1 < 2147483648) (hbits : ∀ Ad', N0 + bitsIn bit j Ad' < 4294967296) :
    Rch P m t (fun m' t' => ∃ a', (∀ w₁, WgLive ty (B0 + 2) w₁ → AtMid P ty (B0 + 2) Next a' w₁) ∧ Here P ty nty S B0 base bit T0 N0 j (.sp r 3) 1 a' v vm m' t') := by
  have hrun : a.status = .running := by
    obtain ⟨gs, w, sl, D, Ad, q, st, sm, _, _, hc, _⟩ := h
    exact (hs w ⟨_, _, hc.wg⟩).1
  refine (h.step hrun (by simp) (by simp [pend]; omega) hbits (Nx := fun a' tag' d0' v' vm' => (∃ k w1, Goes P true (RS ty (B0 + 2)) DC0 (AtMid P ty (B0 + 2) Next) k a' w1) ∧ tag' = .sp r 3 ∧ d0' = 1 ∧ v' = v ∧ vm' = vm) fun w t D Ad q st sm gs hc hcp hv => ?_).trans fun m' t' hx => by
      obtain ⟨a', tag', d0', v', vm', ⟨⟨k, w1, hg'⟩, rfl, rfl, rfl, rfl⟩, h'⟩ := hx
      exact Here.goes (by simp) (by simp [pend]; omega) hbits k a' w1 m' t' hg' h'
  obtain ⟨ho, rfl, rfl, _⟩ := hc.mode.open_inv trivial
  have hV := Vc_le j D
  obtain ⟨_, hall⟩ := hs w ⟨_, _, hc.wg⟩
  obtain ⟨g', hgo, k, hg'⟩ := hall (Vc j D) (by omega) (by simpa [pend] using hc.wg)
  have hroom := hc.room
  refine ⟨g', _, _, .sp r 3, (((Vc j D : Nat) : Int) + 1) * KK, 0, v, vm, hgo, leaves_wg (aside_setCell w (stA (B0 + 2)) _), ok0_bk (two_bk rfl) (by simp [World.setCell]; omega), norel_of_Bk (two_bk rfl), hc.wg.setSt _, ?_, (sim_setCell (.inl (.inr (.inr rfl))) _).2 v hcp, hv, ⟨k, _, hg'⟩, rfl, rfl, rfl, rfl⟩
  have e : (((Vc j D : Nat) : Int) + 1) * KK = ((Vc j D + pend (.sp r 3) : Nat) : Int) * KK := by simp [pend]
  rw [e]
  exact .opn trivial ho (fun vs h => by cases h)

/-- It looks how many are left. -/
theorem Here.see {Ret Anch : Goroutine → World → Prop} {r : Nat} (h : Here P ty nty S B0 base bit T0 N0 j (.sp r 5) 1 a v vm m t) (hs : ∀ w₁, WgLive ty (B0 + 2) w₁ → AtSee P ty (B0 + 2) Ret Anch a w₁) (hj : j < 2147483648) (hbits : ∀ Ad', N0 + bitsIn bit j Ad' < 4294967296) :
    Rch P m t (fun m' t' => ∃ a', ((∀ w₁, WgLive ty (B0 + 2) w₁ → AtJoin P ty (B0 + 2) Ret a' w₁) ∧ Here P ty nty S B0 base bit T0 N0 j .ke 1 a' v vm m' t') ∨
      ∃ vs, 1 ≤ vs ∧ vs ≤ vm ∧ (∀ w₁, WgLive ty (B0 + 2) w₁ → AtCas P ty (B0 + 2) Ret Anch vs a' w₁) ∧ Here P ty nty S B0 base bit T0 N0 j (.w2 vs) 1 a' v vs m' t') := by
  have hrun : a.status = .running := by
    obtain ⟨gs, w, sl, D, Ad, q, st, sm, _, _, hc, _⟩ := h
    exact (hs w ⟨_, _, hc.wg⟩).1
  refine (h.step hrun (by simp) (by simp [pend]; omega) hbits (Nx := fun a' tag' d0' v' vm' => d0' = 1 ∧ v' = v ∧ ((tag' = .ke ∧ vm' = vm ∧ ∃ k w1, Goes P true (RS ty (B0 + 2)) DC0 (AtJoin P ty (B0 + 2) Ret) k a' w1) ∨ ∃ vs, 1 ≤ vs ∧ vs ≤ vm ∧ tag' = .w2 vs ∧ vm' = vs ∧ ∃ k w1, Goes P true (RS ty (B0 + 2)) DC0 (AtCas P ty (B0 + 2) Ret Anch vs) k a' w1)) fun w t D Ad q st sm gs hc hcp hv => ?_).trans fun m' t' hx => by
      obtain ⟨a', tag', d0', v', vm', ⟨rfl, rfl, ⟨rfl, rfl, k, w1, hg'⟩ | ⟨vs, h1, h2, rfl, rfl, k, w1, hg'⟩⟩, h'⟩ := hx
      · exact (Here.goes (by simp) (by simp [pend]; omega) hbits k a' w1 m' t' hg' h').trans fun m2 t2 ⟨a2, h3, h4⟩ => .refl ⟨a2, .inl ⟨h3, h4⟩⟩
      · exact (Here.goes (by simp) (by simp [pend]; omega) hbits k a' w1 m' t' hg' h').trans fun m2 t2 ⟨a2, h3, h4⟩ => .refl ⟨a2, .inr ⟨_, h1, h2, h3, h4⟩⟩
  obtain ⟨ho, rfl, rfl, _⟩ := hc.mode.open_inv trivial
  have hV := Vc_le j D
  have hroom := hc.room
  obtain ⟨_, hall⟩ := hs w ⟨_, _, hc.wg⟩
  obtain ⟨g', hgo, h1, h2⟩ := hall (Vc j D) (by omega) (by simpa [pend] using hc.wg)
  have hbk : ∀ e ∈ #[rd (stA (B0 + 2))], Bk (B0 + 2) e := by intro e he; simp at he; subst he; exact bk_cell _ _ rfl
  by_cases h0 : Vc j D = 0
  · obtain ⟨k, hg'⟩ := h1 h0
    refine ⟨g', w, _, .ke, 0, 0, v, vm, hgo, leaves_refl w, ok0_bk hbk (by omega), norel_of_Bk hbk, ?_, .fin trivial (allQuit_of ho h0), hcp, hv, rfl, rfl, .inl ⟨rfl, rfl, k, w, hg'⟩⟩
    have := hc.wg
    simpa [pend, h0] using this
  · obtain ⟨k, hg'⟩ := h2 h0
    exact ⟨g', w, _, .w2 (Vc j D), _, _, v, Vc j D, hgo, leaves_refl w, ok0_bk hbk (by omega), norel_of_Bk hbk, hc.wg, hc.mode.reopen trivial trivial rfl (fun vs e => by cases e; omega), hcp, Nat.le_refl _, rfl, rfl, .inr ⟨Vc j D, by omega, hv, rfl, rfl, k, w, hg'⟩⟩

/-- It registers, or must look again: then fewer are left. -/
theorem Here.cas {Ret Anch : Goroutine → World → Prop} {vs r : Nat} (h : Here P ty nty S B0 base bit T0 N0 j (.w2 vs) 1 a v vs m t) (hs : ∀ w₁, WgLive ty (B0 + 2) w₁ → AtCas P ty (B0 + 2) Ret Anch vs a w₁) (hj : j < 2147483648) (hbits : ∀ Ad', N0 + bitsIn bit j Ad' < 4294967296) :
    Rch P m t (fun m' t' => ∃ a', ((∀ w₁, WgLive ty (B0 + 2) w₁ → AtWord P ty (B0 + 2) (.write ⟨B0 + 2, 1, none⟩) (AtSem P ty (B0 + 2) Ret) a' w₁) ∧ Here P ty nty S B0 base bit T0 N0 j .w3 1 a' v vs m' t') ∨
      ∃ v2, v2 < vs ∧ (∀ w₁, WgLive ty (B0 + 2) w₁ → Anch a' w₁) ∧ Here P ty nty S B0 base bit T0 N0 j (.sp r 5) 1 a' v v2 m' t') := by
  have hrun : a.status = .running := by
    obtain ⟨gs, w, sl, D, Ad, q, st, sm, _, _, hc, _⟩ := h
    exact (hs w ⟨_, _, hc.wg⟩).1
  refine (h.step hrun (by simp) (by simp [pend]; omega) hbits (Nx := fun a' tag' d0' v' vm' => d0' = 1 ∧ v' = v ∧ ((tag' = .w3 ∧ vm' = vs ∧ ∃ k w1, Goes P true (RS ty (B0 + 2)) DC0 (AtWord P ty (B0 + 2) (.write ⟨B0 + 2, 1, none⟩) (AtSem P ty (B0 + 2) Ret)) k a' w1) ∨ (vm' < vs ∧ tag' = .sp r 5 ∧ ∃ k w1, Goes P true (RS ty (B0 + 2)) DC0 Anch k a' w1))) fun w t D Ad q st sm gs hc hcp hv => ?_).trans fun m' t' hx => by
      obtain ⟨a', tag', d0', v', vm', ⟨rfl, rfl, ⟨rfl, rfl, k, w1, hg'⟩ | ⟨h1, rfl, k, w1, hg'⟩⟩, h'⟩ := hx
      · exact (Here.goes (by simp) (by simp [pend]; omega) hbits k a' w1 m' t' hg' h').trans fun m2 t2 ⟨a2, h3, h4⟩ => .refl ⟨a2, .inl ⟨h3, h4⟩⟩
      · exact (Here.goes (by simp) (by simp [pend]; omega) hbits k a' w1 m' t' hg' h').trans fun m2 t2 ⟨a2, h3, h4⟩ => .refl ⟨a2, .inr ⟨vm', h1, h3, h4⟩⟩
  obtain ⟨ho, rfl, rfl, hvs⟩ := hc.mode.open_inv trivial
  obtain ⟨hvs1, hvs2⟩ := hvs vs rfl
  have hV := Vc_le j D
  have hroom := hc.room
  obtain ⟨_, hall⟩ := hs w ⟨_, _, hc.wg⟩
  obtain ⟨h1, h2⟩ := hall (Vc j D) (by omega) (by simpa [pend] using hc.wg)
  by_cases h0 : Vc j D = vs
  · obtain ⟨g', hgo, k, hg'⟩ := h1 h0
    exact ⟨g', _, _, .w3, ((Vc j D : Nat) : Int) * KK + 1, 0, v, vs, hgo, leaves_wg (aside_setCell w (stA (B0 + 2)) _), ok0_bk (two_bk rfl) (by simp [World.setCell]; omega), norel_of_Bk (two_bk rfl), hc.wg.setSt _, .reg trivial ho (by omega), (sim_setCell (.inl (.inr (.inr rfl))) _).2 v hcp, by omega, rfl, rfl, .inl ⟨rfl, rfl, k, _, hg'⟩⟩
  · obtain ⟨g', hgo, k, hg'⟩ := h2 h0
    have hbk : ∀ e ∈ #[rd (stA (B0 + 2))], Bk (B0 + 2) e := by intro e he; simp at he; subst he; exact bk_cell _ _ rfl
    exact ⟨g', w, _, .sp r 5, _, _, v, Vc j D, hgo, leaves_refl w, ok0_bk hbk (by omega), norel_of_Bk hbk, hc.wg, hc.mode.reopen trivial trivial rfl (fun vs e => by cases e), hcp, Nat.le_refl _, rfl, rfl, .inr ⟨by omega, rfl, k, w, hg'⟩⟩
end
end Go.Proofs.Yteaincbmnhehcab
