/- The group's code in company: where it stops. The starter's way beside its workers, stop by stop. The starter at the semaphore; the join; a go statement. The join: all that the workers did is known. The starter beside its workers: the join, the go statement, and what is left behind. Goroutine 0 beside those that are only leaving, step by step; from there to the crew. The starter's own steps between the group's: a new variable, its value, a go statement, a look at the number. Beside leavers: a new variable. What follows a stop may be said anew; the way through Add. Between calls: goroutine 0 beside leavers, and what the lone run sees. -/
import Derived.Conc.CrowdSpec
import Derived.Test.YtdafpnpfcmgfcabJC
import Derived.Conc.Starve
namespace Go.Proofs.Ytdafpnpfcmgfcab
open Go Go.Conc Go.ConcN
open Go.ConcR (KK wgBlock WgAt stA smA rd wr mk Payload DC0)

/-- What the starter suffers in the group's own code: the group's block stays one. -/
def RS (ty : TypeId) (Wg : Nat) (w w₁ : World) : Prop := WgLive ty Wg w → WgLive ty Wg w₁
theorem rs_rely {ty : TypeId} {Wg : Nat} {w w₁ : World} (h : WgLive ty Wg w) (r : RS ty Wg w w₁) : WgLive ty Wg w₁ := r h

section
variable (P : Program) (ty : TypeId) (Wg : Nat)
/-- It says one word, and goes on so. -/
def AtWord (m : Mark) (Next : Goroutine → World → Prop) (g : Goroutine) (w : World) : Prop :=
  g.status = .running ∧ ∃ g', stepG P true g w = .go g' w #[mk m] ∧ ∃ k, Goes P true (RS ty Wg) DC0 Next k g' w
def AtMid (Next : Goroutine → World → Prop) (g : Goroutine) (w : World) : Prop := AtWord P ty Wg (.read ⟨Wg, 1, none⟩) (AtWord P ty Wg .enable Next) g w ∨ AtWord P ty Wg .enable Next g w
/-- The atomic addition. -/
def AtPlus (Next : Goroutine → World → Prop) (g : Goroutine) (w : World) : Prop :=
  g.status = .running ∧ ∀ v : Nat, v < 2147483647 → WgAt ty Wg w (v * KK) 0 → ∃ g', stepG P true g w = .go g' (w.setCell (stA Wg) (.int .u64 ((v + 1) * KK))) #[rd (stA Wg), wr (stA Wg)] ∧
    ∃ k, Goes P true (RS ty Wg) DC0 (AtMid P ty Wg Next) k g' (w.setCell (stA Wg) (.int .u64 ((v + 1) * KK)))
end

section
variable (P : Program) (ty : TypeId) (Wg : Nat) (Ret Anch : Goroutine → World → Prop)
/-- The join is seen. -/
def AtJoin : Goroutine → World → Prop := AtWord P ty Wg .enable (AtWord P ty Wg (.acquire (stA Wg)) Ret)
/-- It looks once more: nobody is left. -/
def AtLook (g : Goroutine) (w : World) : Prop := g.status = .running ∧ (WgAt ty Wg w 0 0 → ∃ g', stepG P true g w = .go g' w #[rd (stA Wg)] ∧ ∃ k, Goes P true (RS ty Wg) DC0 (AtJoin P ty Wg Ret) k g' w)
/-- At the semaphore. -/
def AtSem (g : Goroutine) (w : World) : Prop :=
  g.status = .running ∧ g.offers = none ∧ ((∃ st, WgAt ty Wg w st 0) → stepG P true g w = .go { g with status := .blocked } w #[]) ∧
    (WgAt ty Wg w 0 1 → ∃ g', stepG P true g w = .go g' (w.setCell (smA Wg) (.int .u32 0)) (semEvents (smA Wg)) ∧ ∃ k, Goes P true (RS ty Wg) DC0 (AtLook P ty Wg Ret) k g' (w.setCell (smA Wg) (.int .u32 0)))
/-- It registers, 'vs' having been seen: or misses. -/
def AtCas (vs : Nat) (g : Goroutine) (w : World) : Prop :=
  g.status = .running ∧ ∀ v : Nat, v < 2147483648 → WgAt ty Wg w (v * KK) 0 →
    (v = vs → ∃ g', stepG P true g w = .go g' (w.setCell (stA Wg) (.int .u64 (v * KK + 1))) #[rd (stA Wg), wr (stA Wg)] ∧ ∃ k, Goes P true (RS ty Wg) DC0 (AtWord P ty Wg (.write ⟨Wg, 1, none⟩) (AtSem P ty Wg Ret)) k g' (w.setCell (stA Wg) (.int .u64 (v * KK + 1)))) ∧
    (v ≠ vs → ∃ g', stepG P true g w = .go g' w #[rd (stA Wg)] ∧ ∃ k, Goes P true (RS ty Wg) DC0 Anch k g' w)
/-- It looks how many are left. -/
def AtSee (g : Goroutine) (w : World) : Prop :=
  g.status = .running ∧ ∀ v : Nat, v < 2147483648 → WgAt ty Wg w (v * KK) 0 → ∃ g', stepG P true g w = .go g' w #[rd (stA Wg)] ∧
    (v = 0 → ∃ k, Goes P true (RS ty Wg) DC0 (AtJoin P ty Wg Ret) k g' w) ∧ (v ≠ 0 → ∃ k, Goes P true (RS ty Wg) DC0 (AtCas P ty Wg Ret Anch v) k g' w)
end

end Go.Proofs.Ytdafpnpfcmgfcab
namespace Go.Proofs.Ytdafpnpfcmgfcab
open Go Go.Conc Go.ConcN
open Go.ConcR (KK wgBlock WgAt stA smA rd wr mk Payload DC0 Bk g_of_ofEvents)

/-- The machine comes to a state of which this holds. -/
def Rch (P : Program) (m : Machine) (t : Trace) (Gl : Machine → Trace → Prop) : Prop := ∃ N m' t', runNT P N m t = (.next m', t') ∧ Gl m' t'
theorem Rch.refl {P : Program} {m : Machine} {t : Trace} {Gl : Machine → Trace → Prop} (h : Gl m t) : Rch P m t Gl := ⟨0, m, t, rfl, h⟩
theorem runNT_more {P : Program} : ∀ (N M : Nat) (m m' : Machine) (t t' : Trace), runNT P N m t = (.next m', t') → runNT P (N + M) m t = runNT P M m' t' := by
  intro N
  induction N with
  | zero =>
    intro M m m' t t' h
    simp only [runNT, Prod.mk.injEq, Stepped.next.injEq] at h
    obtain ⟨rfl, rfl⟩ := h
    rw [Nat.zero_add]
  | succ N ih =>
    intro M m m' t t' h
    rw [show N + 1 + M = (N + M) + 1 by omega]
    simp only [runNT] at h ⊢
    generalize stepT P m = z at h
    obtain ⟨r, ops⟩ := z
    cases r with
    | next m1 => exact ih M m1 m' _ t' h
    | ended o w => simp at h
theorem Rch.trans {P : Program} {m : Machine} {t : Trace} {A B : Machine → Trace → Prop} (h : Rch P m t A) (h' : ∀ m t, A m t → Rch P m t B) : Rch P m t B := by
  obtain ⟨N, m1, t1, e1, h1⟩ := h
  obtain ⟨M, m2, t2, e2, h2⟩ := h' m1 t1 h1
  exact ⟨N + M, m2, t2, (runNT_more N M m m1 t t1 e1).trans e2, h2⟩

section
variable [Payload] (P : Program) (ty nty : TypeId) (S : Nat → Prop) (B0 base : Nat) (bit : Nat → Nat) (T0 N0 : Nat)
/-- The starter stands here; 'v' is what the lone run sees; at most vm are counted. -/
def Here (j : Nat) (tag : CTag) (d0 : Nat) (a : Goroutine) (v : World) (vm : Nat) (m : Machine) (t : Trace) : Prop :=
  ∃ gs w sl D Ad q st sm, m = crowd gs w sl ∧ gs[0]? = some a ∧ Cw P ty nty S B0 base bit j tag d0 T0 N0 gs w t D Ad q st sm ∧ Cp (SJ S B0 j) v w ∧ Vc j D ≤ vm
end

section
variable {S : Nat → Prop} {B0 base j : Nat}
theorem leaves_refl (w : World) : Leaves B0 j w w := ⟨fun _ _ => rfl, fun _ _ => rfl, rfl, Nat.le_refl _⟩
theorem leaves_wg {w w' : World} (h : Aside (B0 + 2) w w') : Leaves B0 j w w' := ⟨fun b hb => h.block b (by omega), fun i hi => h.block _ (by omega), h.block _ (by omega), Nat.le_of_eq h.size.symm⟩
theorem ok0_bk {fn : FuncId} {pos : String} {es : Array Event} {k B : Nat} (h : ∀ e ∈ es, Bk (B0 + 2) e) (hB : B0 + 2 < B) : ∀ op ∈ MemOp.ofEvents 0 fn pos es, Ok0 (ShOf (S3 S B0)) NoOwn (RdP S B0 base) k op ∧ TLow B op := by
  intro op hop
  refine ⟨?_, low_bk h hB op hop⟩
  obtain ⟨h1, h2⟩ := ok0_of_Bk (Own := NoOwn) (Rd := RdP S B0 base) (j := k) h op hop
  refine ⟨h1, fun x hx => ?_⟩
  obtain ⟨_, h3⟩ := okW_of_Bk (Own := NoOwn) (Rd := NoOwn) h op hop
  rcases h3 x hx with ⟨⟨b, h4, h5⟩, h6⟩ | h4 | h4
  · exact .inl ⟨⟨b, h4, .inr (.inr h5)⟩, h6.1⟩
  · exact h4.elim
  · exact h4.1.elim

theorem word_touch {mm : Mark} (hm : mm = .disable ∨ mm = .enable ∨ (∃ a, mm = .acquire a) ∨ mm = .read ⟨B0 + 2, 1, none⟩ ∨ mm = .write ⟨B0 + 2, 1, none⟩) {B k : Nat} (hB : B0 + 2 < B) {fn : FuncId} {pos : String} :
    (∀ op ∈ MemOp.ofEvents 0 fn pos #[mk mm], Ok0 (ShOf (S3 S B0)) NoOwn (RdP S B0 base) k op ∧ TLow B op) ∧ ∀ e ∈ #[mk mm], e.loc ≠ .mark (.release (stA (B0 + 2))) := by
  have key : ∀ x, (MemAct.ofEvent (mk mm)).touch? = some x → x.loc = .cell ⟨B0 + 2, 1, none⟩ ∧ x.kind ≠ .plain := by
    intro x hx
    rcases hm with rfl | rfl | ⟨a, rfl⟩ | rfl | rfl <;> simp [mk, MemAct.ofEvent, MemAct.touch?] at hx <;> subst hx <;> exact ⟨rfl, by simp⟩
  refine ⟨fun op hop => ?_, fun e he => ?_⟩
  · obtain ⟨e, he, rfl⟩ := Go.Conc.mem_ofEvents hop
    obtain rfl : e = mk mm := by simpa using he
    refine ⟨⟨rfl, fun x hx => .inl ?_⟩, fun x hx => ?_⟩
    · obtain ⟨h1, h2⟩ := key x hx
      exact ⟨⟨_, h1, .inr (.inr rfl)⟩, h2⟩
    · rw [(key x hx).1]
      exact hB
  · obtain rfl : e = mk mm := by simpa using he
    rcases hm with rfl | rfl | ⟨a, rfl⟩ | rfl | rfl <;> simp [mk]

theorem two_bk {b : Addr} (hb : b.block = B0 + 2) : ∀ e ∈ #[rd b, wr b], Bk (B0 + 2) e := by
  intro e he
  simp at he
  rcases he with rfl | rfl <;> exact bk_cell _ _ hb

end

section
variable [Payload] {P : Program} {ty nty : TypeId} {S : Nat → Prop} {B0 base : Nat} {bit : Nat → Nat} {T0 N0 : Nat} {j : Nat} {tag : CTag} {d0 : Nat} {a : Goroutine} {v : World} {vm : Nat} {m : Machine} {t : Trace}

theorem Here.step (h : Here P ty nty S B0 base bit T0 N0 j tag d0 a v vm m t) (hrun : a.status = .running) (hne : tag ≠ .blk) (hj : j + pend tag < 2147483648) (hbits : ∀ Ad', N0 + bitsIn bit j Ad' < 4294967296) {Nx : Goroutine → CTag → Nat → World → Nat → Prop}
    (hact : ∀ w t D Ad q st sm gs, Cw P ty nty S B0 base bit j tag d0 T0 N0 gs w t D Ad q st sm → Cp (SJ S B0 j) v w → Vc j D ≤ vm → ∃ a' w' es tag' st' sm' v' vm', stepG P true a w = .go a' w' es ∧ Leaves B0 j w w' ∧
      (∀ op ∈ MemOp.ofEvents 0 a.frame.fn a.frame.place es, Ok0 (ShOf (S3 S B0)) NoOwn (RdP S B0 base) (base + j - 1) op ∧ TLow w'.heap.size op) ∧ (∀ e ∈ es, e.loc ≠ .mark (.release (stA (B0 + 2)))) ∧ WgAt ty (B0 + 2) w' st' sm' ∧ Go.ConcN.Mode j D tag' st' sm' ∧ Cp (SJ S B0 j) v' w' ∧ Vc j D ≤ vm' ∧ Nx a' tag' (deafBehind d0 es) v' vm') :
    Rch P m t (fun m' t' => ∃ a' tag' d0' v' vm', Nx a' tag' d0' v' vm' ∧ Here P ty nty S B0 base bit T0 N0 j tag' d0' a' v' vm' m' t') := by
  obtain ⟨gs, w, sl, D, Ad, q, st, sm, rfl, h0, hc, hcp, hv⟩ := h
  obtain ⟨N, gs1, w1, sl1, t1, D1, Ad1, q1, st1, sm1, d, sl2, hr, h01, hc1, hs, hv1, _, hst⟩ := Cw.turn hrun hj hbits hne D q gs w t Ad st sm sl hc h0
  obtain ⟨a', w', es, tag', st', sm', v', vm', hgo, hl, hok, hnr, hwg, hmode, hcp', hvm', hNx⟩ := hact _ _ _ _ _ _ _ _ hc1 (hs.2 v hcp) (Nat.le_trans hv1 hv)
  obtain ⟨gs2, hr2, h02, hc2⟩ := hc1.step0 h01 hgo hl hok hnr hwg hmode sl2
  refine ⟨N + 1, crowd gs2 w' sl2, _, ?_, a', tag', _, v', vm', hNx, gs2, w', sl2, D1, Ad1, q1, st', sm', rfl, h02, hc2, hcp', hvm'⟩
  rw [runNT_more N 1 _ _ _ _ hr]
  simp only [runNT, hst, hr2]

/-- Through the group's own code. -/
theorem Here.goes {Stop : Goroutine → World → Prop} (hne : tag ≠ .blk) (hj : j + pend tag < 2147483648) (hbits : ∀ Ad', N0 + bitsIn bit j Ad' < 4294967296) : ∀ (n : Nat) (a : Goroutine) (w0 : World) (m : Machine) (t : Trace), Goes P true (RS ty (B0 + 2)) DC0 Stop n a w0 →
    Here P ty nty S B0 base bit T0 N0 j tag d0 a v vm m t → Rch P m t (fun m' t' => ∃ a', (∀ w₁, WgLive ty (B0 + 2) w₁ → Stop a' w₁) ∧ Here P ty nty S B0 base bit T0 N0 j tag d0 a' v vm m' t') := by
  intro n
  induction n with
  | zero => exact fun a w0 m t hg h => .refl ⟨a, fun w₁ hw => hg w₁ (fun _ => hw), h⟩
  | succ n ih =>
    intro a w0 m t hg h
    rcases hg with hs | ⟨hrun, hstep⟩
    · exact .refl ⟨a, fun w₁ hw => hs w₁ (fun _ => hw), h⟩
    · refine (h.step hrun hne hj hbits (Nx := fun a' tag' d0' v' vm' => (∃ w1, Goes P true (RS ty (B0 + 2)) DC0 Stop n a' w1) ∧ tag' = tag ∧ d0' = d0 ∧ v' = v ∧ vm' = vm) fun w t D Ad q st sm gs hc hcp hv => ?_).trans fun m' t' hx => by
        obtain ⟨a', tag', d0', v', vm', ⟨⟨w1, hg'⟩, rfl, rfl, rfl, rfl⟩, h'⟩ := hx
        exact ih a' w1 m' t' hg' h'
      obtain ⟨g', w', es, hgo, ⟨rfl, rfl⟩, hg'⟩ := goes_elim (hstep w (fun _ => ⟨_, _, hc.wg⟩))
      exact ⟨g', w', #[], tag, st, sm, v, vm, hgo, leaves_refl _, fun op hop => by rw [ofEvents_eq] at hop; simp at hop, by simp, hc.wg, hc.mode, hcp, hv, ⟨w', hg'⟩, rfl, rfl, rfl, rfl⟩

/-- It says a word, and goes on through the group's code. -/
theorem Here.word {mm : Mark} {Next : Goroutine → World → Prop} (h : Here P ty nty S B0 base bit T0 N0 j tag d0 a v vm m t) (hs : ∀ w₁, WgLive ty (B0 + 2) w₁ → AtWord P ty (B0 + 2) mm Next a w₁) (hm : mm = .disable ∨ mm = .enable ∨ (∃ a, mm = .acquire a) ∨ mm = .read ⟨B0 + 2, 1, none⟩ ∨ mm = .write ⟨B0 + 2, 1, none⟩)
    (hne : tag ≠ .blk) (hj : j + pend tag < 2147483648) (hbits : ∀ Ad', N0 + bitsIn bit j Ad' < 4294967296) :
    Rch P m t (fun m' t' => ∃ a', (∀ w₁, WgLive ty (B0 + 2) w₁ → Next a' w₁) ∧ Here P ty nty S B0 base bit T0 N0 j tag (deafBehind d0 #[mk mm]) a' v vm m' t') := by
  have hrun : a.status = .running := by
    obtain ⟨gs, w, sl, D, Ad, q, st, sm, _, _, hc, _⟩ := h
    exact (hs w ⟨_, _, hc.wg⟩).1
  refine (h.step hrun hne hj hbits (Nx := fun a' tag' d0' v' vm' => (∃ k w1, Goes P true (RS ty (B0 + 2)) DC0 Next k a' w1) ∧ tag' = tag ∧ d0' = deafBehind d0 #[mk mm] ∧ v' = v ∧ vm' = vm) fun w t D Ad q st sm gs hc hcp hv => ?_).trans fun m' t' hx => by
      obtain ⟨a', tag', d0', v', vm', ⟨⟨k, w1, hg'⟩, rfl, rfl, rfl, rfl⟩, h'⟩ := hx
      exact Here.goes hne hj hbits k a' w1 m' t' hg' h'
  obtain ⟨_, g', hgo, k, hg'⟩ := hs w ⟨_, _, hc.wg⟩
  obtain ⟨h1, h2⟩ := word_touch (S := S) (base := base) hm (B := w.heap.size) (k := base + j - 1) (by have := hc.room; omega) (fn := a.frame.fn) (pos := a.frame.place)
  exact ⟨g', w, _, tag, st, sm, v, vm, hgo, leaves_refl w, h1, h2, hc.wg, hc.mode, hcp, hv, ⟨k, w, hg'⟩, rfl, rfl, rfl, rfl⟩

/-- The addition: one more is counted. -/
theorem Here.plus {Next : Goroutine → World → Prop} {r : Nat} (h : Here P ty nty S B0 base bit T0 N0 j (.sp r 5) 1 a v vm m t) (hs : ∀ w₁, WgLive ty (B0 + 2) w₁ → AtPlus P ty (B0 + 2) Next a w₁)
    (hj : j + 1 < 2147483648) (hbits : ∀ Ad', N0 + bitsIn bit j Ad' < 4294967296) :
    Rch P m t (fun m' t' => ∃ a', (∀ w₁, WgLive ty (B0 + 2) w₁ → AtMid P ty (B0 + 2) Next a' w₁) ∧ Here P ty nty S B0 base bit T0 N0 j (.sp r 3) 1 a' v vm m' t') := by
  have hrun : a.status = .running := by
    obtain ⟨gs, w, sl, D, Ad, q, st, sm, _, _, hc, _⟩ := h
    exact (hs w ⟨_, _, hc.wg⟩).1
  refine (h.step hrun (by simp) (by simp [pend]; omega) hbits (Nx := fun a' tag' d0' v' vm' => (∃ k w1, Goes P true (RS ty (B0 + 2)) DC0 (AtMid P ty (B0 + 2) Next) k a' w1) ∧ tag' = .sp r 3 ∧ d0' = 1 ∧ v' = v ∧ vm' = vm) fun w t D Ad q st sm gs hc hcp hv => ?_).trans fun m' t' hx => by
      obtain ⟨a', tag', d0', v', vm', ⟨⟨k, w1, hg'⟩, rfl, rfl, rfl, rfl⟩, h'⟩ := hx
      exact Here.goes (by simp) (by simp [pend]; omega) hbits k a' w1 m' t' hg' h'
  obtain ⟨ho, rfl, rfl, _⟩ := hc.mode.open_inv trivial
  have hV := Vc_le j D
  obtain ⟨_, hall⟩ := hs w ⟨_, _, hc.wg⟩
  obtain ⟨g', hgo, k, hg'⟩ := hall (Vc j D) (by omega) (by simpa [pend] using hc.wg)
  have hroom := hc.room
  refine ⟨g', _, _, .sp r 3, (((Vc j D : Nat) : Int) + 1) * KK, 0, v, vm, hgo, leaves_wg (aside_setCell w (stA (B0 + 2)) _), ok0_bk (two_bk rfl) (by simp [World.setCell]; omega), norel_of_Bk (two_bk rfl), hc.wg.setSt _, ?_, (sim_setCell (.inl (.inr (.inr rfl))) _).2 v hcp, hv, ⟨k, _, hg'⟩, rfl, rfl, rfl, rfl⟩
  have e : (((Vc j D : Nat) : Int) + 1) * KK = ((Vc j D + pend (.sp r 3) : Nat) : Int) * KK := by simp [pend]
  rw [e]
  exact .opn trivial ho (fun vs h => by cases h)

/-- It looks how many are left. -/
theorem Here.see {Ret Anch : Goroutine → World → Prop} {r : Nat} (h : Here P ty nty S B0 base bit T0 N0 j (.sp r 5) 1 a v vm m t) (hs : ∀ w₁, WgLive ty (B0 + 2) w₁ → AtSee P ty (B0 + 2) Ret Anch a w₁) (hj : j < 2147483648) (hbits : ∀ Ad', N0 + bitsIn bit j Ad' < 4294967296) :
    Rch P m t (fun m' t' => ∃ a', ((∀ w₁, WgLive ty (B0 + 2) w₁ → AtJoin P ty (B0 + 2) Ret a' w₁) ∧ Here P ty nty S B0 base bit T0 N0 j .ke 1 a' v vm m' t') ∨
      ∃ vs, 1 ≤ vs ∧ vs ≤ vm ∧ (∀ w₁, WgLive ty (B0 + 2) w₁ → AtCas P ty (B0 + 2) Ret Anch vs a' w₁) ∧ Here P ty nty S B0 base bit T0 N0 j (.w2 vs) 1 a' v vs m' t') := by
  have hrun : a.status = .running := by
    obtain ⟨gs, w, sl, D, Ad, q, st, sm, _, _, hc, _⟩ := h
    exact (hs w ⟨_, _, hc.wg⟩).1
  refine (h.step hrun (by simp) (by simp [pend]; omega) hbits (Nx := fun a' tag' d0' v' vm' => d0' = 1 ∧ v' = v ∧ ((tag' = .ke ∧ vm' = vm ∧ ∃ k w1, Goes P true (RS ty (B0 + 2)) DC0 (AtJoin P ty (B0 + 2) Ret) k a' w1) ∨ ∃ vs, 1 ≤ vs ∧ vs ≤ vm ∧ tag' = .w2 vs ∧ vm' = vs ∧ ∃ k w1, Goes P true (RS ty (B0 + 2)) DC0 (AtCas P ty (B0 + 2) Ret Anch vs) k a' w1)) fun w t D Ad q st sm gs hc hcp hv => ?_).trans fun m' t' hx => by
      obtain ⟨a', tag', d0', v', vm', ⟨rfl, rfl, ⟨rfl, rfl, k, w1, hg'⟩ | ⟨vs, h1, h2, rfl, rfl, k, w1, hg'⟩⟩, h'⟩ := hx
      · exact (Here.goes (by simp) (by simp [pend]; omega) hbits k a' w1 m' t' hg' h').trans fun m2 t2 ⟨a2, h3, h4⟩ => .refl ⟨a2, .inl ⟨h3, h4⟩⟩
      · exact (Here.goes (by simp) (by simp [pend]; omega) hbits k a' w1 m' t' hg' h').trans fun m2 t2 ⟨a2, h3, h4⟩ => .refl ⟨a2, .inr ⟨_, h1, h2, h3, h4⟩⟩
  obtain ⟨ho, rfl, rfl, _⟩ := hc.mode.open_inv trivial
  have hV := Vc_le j D
  have hroom := hc.room
  obtain ⟨_, hall⟩ := hs w ⟨_, _, hc.wg⟩
  obtain ⟨g', hgo, h1, h2⟩ := hall (Vc j D) (by omega) (by simpa [pend] using hc.wg)
  have hbk : ∀ e ∈ #[rd (stA (B0 + 2))], Bk (B0 + 2) e := by intro e he; simp at he; subst he; exact bk_cell _ _ rfl
  by_cases h0 : Vc j D = 0
  · obtain ⟨k, hg'⟩ := h1 h0
    refine ⟨g', w, _, .ke, 0, 0, v, vm, hgo, leaves_refl w, ok0_bk hbk (by omega), norel_of_Bk hbk, ?_, .fin trivial (allQuit_of ho h0), hcp, hv, rfl, rfl, .inl ⟨rfl, rfl, k, w, hg'⟩⟩
    have := hc.wg
    simpa [pend, h0] using this
  · obtain ⟨k, hg'⟩ := h2 h0
    exact ⟨g', w, _, .w2 (Vc j D), _, _, v, Vc j D, hgo, leaves_refl w, ok0_bk hbk (by omega), norel_of_Bk hbk, hc.wg, hc.mode.reopen trivial trivial rfl (fun vs e => by cases e; omega), hcp, Nat.le_refl _, rfl, rfl, .inr ⟨Vc j D, by omega, hv, rfl, rfl, k, w, hg'⟩⟩

/-- It registers, or must look again: then fewer are left. -/
theorem Here.cas {Ret Anch : Goroutine → World → Prop} {vs r : Nat} (h : Here P ty nty S B0 base bit T0 N0 j (.w2 vs) 1 a v vs m t) (hs : ∀ w₁, WgLive ty (B0 + 2) w₁ → AtCas P ty (B0 + 2) Ret Anch vs a w₁) (hj : j < 2147483648) (hbits : ∀ Ad', N0 + bitsIn bit j Ad' < 4294967296) :
    Rch P m t (fun m' t' => ∃ a', ((∀ w₁, WgLive ty (B0 + 2) w₁ → AtWord P ty (B0 + 2) (.write ⟨B0 + 2, 1, none⟩) (AtSem P ty (B0 + 2) Ret) a' w₁) ∧ Here P ty nty S B0 base bit T0 N0 j .w3 1 a' v vs m' t') ∨
      ∃ v2, v2 < vs ∧ (∀ w₁, WgLive ty (B0 + 2) w₁ → Anch a' w₁) ∧ Here P ty nty S B0 base bit T0 N0 j (.sp r 5) 1 a' v v2 m' t') := by
  have hrun : a.status = .running := by
    obtain ⟨gs, w, sl, D, Ad, q, st, sm, _, _, hc, _⟩ := h
    exact (hs w ⟨_, _, hc.wg⟩).1
  refine (h.step hrun (by simp) (by simp [pend]; omega) hbits (Nx := fun a' tag' d0' v' vm' => d0' = 1 ∧ v' = v ∧ ((tag' = .w3 ∧ vm' = vs ∧ ∃ k w1, Goes P true (RS ty (B0 + 2)) DC0 (AtWord P ty (B0 + 2) (.write ⟨B0 + 2, 1, none⟩) (AtSem P ty (B0 + 2) Ret)) k a' w1) ∨ (vm' < vs ∧ tag' = .sp r 5 ∧ ∃ k w1, Goes P true (RS ty (B0 + 2)) DC0 Anch k a' w1))) fun w t D Ad q st sm gs hc hcp hv => ?_).trans fun m' t' hx => by
      obtain ⟨a', tag', d0', v', vm', ⟨rfl, rfl, ⟨rfl, rfl, k, w1, hg'⟩ | ⟨h1, rfl, k, w1, hg'⟩⟩, h'⟩ := hx
      · exact (Here.goes (by simp) (by simp [pend]; omega) hbits k a' w1 m' t' hg' h').trans fun m2 t2 ⟨a2, h3, h4⟩ => .refl ⟨a2, .inl ⟨h3, h4⟩⟩
      · exact (Here.goes (by simp) (by simp [pend]; omega) hbits k a' w1 m' t' hg' h').trans fun m2 t2 ⟨a2, h3, h4⟩ => .refl ⟨a2, .inr ⟨vm', h1, h3, h4⟩⟩
  obtain ⟨ho, rfl, rfl, hvs⟩ := hc.mode.open_inv trivial
  obtain ⟨hvs1, hvs2⟩ := hvs vs rfl
  have hV := Vc_le j D
  have hroom := hc.room
  obtain ⟨_, hall⟩ := hs w ⟨_, _, hc.wg⟩
  obtain ⟨h1, h2⟩ := hall (Vc j D) (by omega) (by simpa [pend] using hc.wg)
  by_cases h0 : Vc j D = vs
  · obtain ⟨g', hgo, k, hg'⟩ := h1 h0
    exact ⟨g', _, _, .w3, ((Vc j D : Nat) : Int) * KK + 1, 0, v, vs, hgo, leaves_wg (aside_setCell w (stA (B0 + 2)) _), ok0_bk (two_bk rfl) (by simp [World.setCell]; omega), norel_of_Bk (two_bk rfl), hc.wg.setSt _, .reg trivial ho (by omega), (sim_setCell (.inl (.inr (.inr rfl))) _).2 v hcp, by omega, rfl, rfl, .inl ⟨rfl, rfl, k, _, hg'⟩⟩
  · obtain ⟨g', hgo, k, hg'⟩ := h2 h0
    have hbk : ∀ e ∈ #[rd (stA (B0 + 2))], Bk (B0 + 2) e := by intro e he; simp at he; subst he; exact bk_cell _ _ rfl
    exact ⟨g', w, _, .sp r 5, _, _, v, Vc j D, hgo, leaves_refl w, ok0_bk hbk (by omega), norel_of_Bk hbk, hc.wg, hc.mode.reopen trivial trivial rfl (fun vs e => by cases e), hcp, Nat.le_refl _, rfl, rfl, .inr ⟨by omega, rfl, k, w, hg'⟩⟩
end
end Go.Proofs.Ytdafpnpfcmgfcab
namespace Go.Proofs.Ytdafpnpfcmgfcab
open Go Go.Conc Go.ConcN
open Go.ConcR (KK wgBlock WgAt stA smA rd wr mk Payload DC0 Bk g_of_ofEvents)

theorem mode_w3 {j : Nat} {D : Nat → WD} {st sm : Int} (h : Go.ConcN.Mode j D .w3 st sm) : (sm = 0 ∧ Go.ConcN.Mode j D .blk st sm) ∨ (st = 0 ∧ sm = 1 ∧ AllQuit j D) := by
  cases h with
  | opn h1 _ _ => exact h1.elim
  | reg _ h2 h3 => exact .inl ⟨rfl, .reg trivial h2 h3⟩
  | last L _ h2 h3 h4 => exact .inl ⟨rfl, .last L trivial h2 h3 h4⟩
  | sema h => exact .inr ⟨rfl, rfl, h⟩
  | fin h1 _ => exact h1.elim

section
variable [Payload] {P : Program} {ty nty : TypeId} {S : Nat → Prop} {B0 base : Nat} {bit : Nat → Nat} {T0 N0 : Nat} {j : Nat} {tag : CTag} {d0 : Nat} {a : Goroutine} {v : World} {vm : Nat} {m : Machine} {t : Trace}

theorem sem_loop {Ret : Goroutine → World → Prop} (hs : ∀ w₁, WgLive ty (B0 + 2) w₁ → AtSem P ty (B0 + 2) Ret a w₁) (hrun : a.status = .running) (hof : a.offers = none) (hj : j < 2147483648) (hbits : ∀ Ad', N0 + bitsIn bit j Ad' < 4294967296) :
    ∀ (D : Nat → WD) (q : Nat → Nat) (gs : Array Goroutine) (w : World) (t : Trace) (Ad : Nat → Bool) (st sm : Int) (sl : Option (Nat × Nat)), Cw P ty nty S B0 base bit j .w3 1 T0 N0 gs w t D Ad q st sm → gs[0]? = some a → Cp (SJ S B0 j) v w → Vc j D ≤ vm →
    Rch P (crowd gs w sl) t (fun m' t' => ∃ a' k w1, Goes P true (RS ty (B0 + 2)) DC0 (AtLook P ty (B0 + 2) Ret) k a' w1 ∧ Here P ty nty S B0 base bit T0 N0 j .w4 1 a' v vm m' t') := by
  refine MLt.induct (j := j) (base := base) fun D q ih => ?_
  intro gs w t Ad st sm sl hc h0 hcp hv
  obtain ⟨N, gs1, w1, sl1, t1, D1, Ad1, q1, st1, sm1, d, sl2, hr, h01, hc1, hs1, hv1, hm1, hst⟩ := Cw.turn hrun (by simpa [pend] using hj) hbits (by simp) D q gs w t Ad st sm sl hc h0
  obtain ⟨_, _, hblk, hgo⟩ := hs _ ⟨_, _, hc1.wg⟩
  have hroom := hc1.room
  rcases mode_w3 hc1.mode with ⟨rfl, hb⟩ | ⟨rfl, rfl, hall⟩
  · -- it sleeps
    obtain ⟨gs2, hr2, h02, hc2⟩ := hc1.step0 h01 (hblk ⟨_, hc1.wg⟩) (leaves_refl _) (fun op hop => by rw [ofEvents_eq] at hop; simp at hop) (by simp) hc1.wg hb sl2
    obtain ⟨N3, gs3, w3, sl3, t3, D3, Ad3, q3, st3, sm3, hr3, h03, hc3, hs3, hv3, hm3⟩ := Cw.woke hrun hof hj hbits _ _ _ _ _ _ _ _ sl2 hc2 h02
    have hlt : MLt j base D3 q3 D q := by
      rcases hm1 with h | ⟨rfl, rfl⟩
      · exact hm3.trans h
      · exact hm3
    obtain ⟨N4, m4, t4, hr4, h4⟩ := ih D3 q3 hlt gs3 w3 t3 Ad3 st3 sm3 sl3 hc3 h03 ((hs1.trans hs3).2 v hcp) (Nat.le_trans hv3 (Nat.le_trans hv1 hv))
    refine ⟨N + (1 + (N3 + N4)), m4, t4, ?_, h4⟩
    have hone : runNT P 1 (crowd gs1 w1 sl1) t1 = (.next (crowd gs2 (w1.at d) sl2), t1 ++ MemOp.ofEvents 0 a.frame.fn a.frame.place #[]) := by simp only [runNT, hst, hr2]
    rw [runNT_more N _ _ _ _ _ hr, runNT_more 1 _ _ _ _ _ hone, runNT_more N3 _ _ _ _ _ hr3]
    exact hr4
  · -- it is let through
    obtain ⟨g', hgo', k, hk⟩ := hgo hc1.wg
    obtain ⟨gs2, hr2, h02, hc2⟩ := hc1.step0 h01 hgo' (leaves_wg (aside_setCell _ (smA (B0 + 2)) _)) (ok0_bk bk_sem (by simp [World.setCell]; omega)) (norel_of_Bk bk_sem) (hc1.wg.setSm 0) (Go.ConcN.Mode.fin (tag := .w4) trivial hall) sl2
    refine ⟨N + 1, crowd gs2 ((w1.at d).setCell (smA (B0 + 2)) (.int .u32 0)) sl2, t1 ++ MemOp.ofEvents 0 a.frame.fn a.frame.place (semEvents (smA (B0 + 2))), ?_, g', k, _, hk, gs2, _, sl2, D1, Ad1, q1, 0, 0, rfl, h02, ?_, (sim_setCell (a := smA (B0 + 2)) (.inl (.inr (.inr rfl))) (.int .u32 0)).2 v (hs1.2 v hcp), Nat.le_trans hv1 hv⟩
    · rw [runNT_more N 1 _ _ _ _ hr]
      simp only [runNT, hst, hr2]
    · have e : deafBehind 1 (semEvents (smA (B0 + 2))) = 1 := by simp [deafBehind, semEvents]
      rw [e] at hc2
      exact hc2

theorem Here.sem {Ret : Goroutine → World → Prop} (h : Here P ty nty S B0 base bit T0 N0 j .w3 1 a v vm m t) (hs : ∀ w₁, WgLive ty (B0 + 2) w₁ → AtSem P ty (B0 + 2) Ret a w₁) (hj : j < 2147483648) (hbits : ∀ Ad', N0 + bitsIn bit j Ad' < 4294967296) :
    Rch P m t (fun m' t' => ∃ a', (∀ w₁, WgLive ty (B0 + 2) w₁ → AtLook P ty (B0 + 2) Ret a' w₁) ∧ Here P ty nty S B0 base bit T0 N0 j .w4 1 a' v vm m' t') := by
  obtain ⟨gs, w, sl, D, Ad, q, st, sm, rfl, h0, hc, hcp, hv⟩ := h
  obtain ⟨hrun, hof, _⟩ := hs w ⟨_, _, hc.wg⟩
  refine (sem_loop hs hrun hof hj hbits D q gs w t Ad st sm sl hc h0 hcp hv).trans fun m' t' hx => ?_
  obtain ⟨a', k, w1, hg, h'⟩ := hx
  exact Here.goes (by simp) (by simpa [pend] using hj) hbits k a' w1 m' t' hg h'

theorem Here.look {Ret : Goroutine → World → Prop} (h : Here P ty nty S B0 base bit T0 N0 j .w4 1 a v vm m t) (hs : ∀ w₁, WgLive ty (B0 + 2) w₁ → AtLook P ty (B0 + 2) Ret a w₁) (hj : j < 2147483648) (hbits : ∀ Ad', N0 + bitsIn bit j Ad' < 4294967296) :
    Rch P m t (fun m' t' => ∃ a', (∀ w₁, WgLive ty (B0 + 2) w₁ → AtJoin P ty (B0 + 2) Ret a' w₁) ∧ Here P ty nty S B0 base bit T0 N0 j .ke 1 a' v vm m' t') := by
  have hrun : a.status = .running := by
    obtain ⟨gs, w, sl, D, Ad, q, st, sm, _, _, hc, _⟩ := h
    exact (hs w ⟨_, _, hc.wg⟩).1
  refine (h.step hrun (by simp) (by simpa [pend] using hj) hbits (Nx := fun a' tag' d0' v' vm' => (∃ k w1, Goes P true (RS ty (B0 + 2)) DC0 (AtJoin P ty (B0 + 2) Ret) k a' w1) ∧ tag' = .ke ∧ d0' = 1 ∧ v' = v ∧ vm' = vm) fun w t D Ad q st sm gs hc hcp hv => ?_).trans fun m' t' hx => by
      obtain ⟨a', tag', d0', v', vm', ⟨⟨k, w1, hg'⟩, rfl, rfl, rfl, rfl⟩, h'⟩ := hx
      exact Here.goes (by simp) (by simpa [pend] using hj) hbits k a' w1 m' t' hg' h'
  obtain ⟨hall, rfl, rfl⟩ := hc.mode.fin_inv trivial
  have hroom := hc.room
  have hbk : ∀ e ∈ #[rd (stA (B0 + 2))], Bk (B0 + 2) e := by intro e he; simp at he; subst he; exact bk_cell _ _ rfl
  obtain ⟨_, hx⟩ := hs w ⟨_, _, hc.wg⟩
  obtain ⟨g', hgo, k, hk⟩ := hx hc.wg
  exact ⟨g', w, _, .ke, 0, 0, v, vm, hgo, leaves_refl w, ok0_bk hbk (by omega), norel_of_Bk hbk, hc.wg, .fin trivial hall, hcp, hv, ⟨k, w, hk⟩, rfl, rfl, rfl, rfl⟩

/-- The whole of Wait, from its loop's head. -/
theorem Here.wait {Ret Anch : Goroutine → World → Prop} {r : Nat} (hA : ∀ g w, Anch g w → ∃ k, Goes P true (RS ty (B0 + 2)) DC0 (AtSee P ty (B0 + 2) Ret Anch) k g w) (hj : j < 2147483648) (hbits : ∀ Ad', N0 + bitsIn bit j Ad' < 4294967296) :
    ∀ (vm : Nat) (a : Goroutine) (m : Machine) (t : Trace), Here P ty nty S B0 base bit T0 N0 j (.sp r 5) 1 a v vm m t → (∀ w₁, WgLive ty (B0 + 2) w₁ → Anch a w₁) →
    Rch P m t (fun m' t' => ∃ a' vm', (∀ w₁, WgLive ty (B0 + 2) w₁ → AtJoin P ty (B0 + 2) Ret a' w₁) ∧ Here P ty nty S B0 base bit T0 N0 j .ke 1 a' v vm' m' t') := by
  intro vm
  induction vm using Nat.strongRecOn with
  | _ vm ih =>
    intro a m t h hs
    have hg : ∃ k w1, Goes P true (RS ty (B0 + 2)) DC0 (AtSee P ty (B0 + 2) Ret Anch) k a w1 := by
      obtain ⟨gs, w, sl, D, Ad, q, st, sm, _, _, hc, _⟩ := h
      obtain ⟨k, hk⟩ := hA a w (hs w ⟨_, _, hc.wg⟩)
      exact ⟨k, w, hk⟩
    obtain ⟨k, w1, hg⟩ := hg
    refine (Here.goes (by simp) (by simpa [pend] using hj) hbits k a w1 m t hg h).trans fun m1 t1 ⟨a1, hs1, h1⟩ => (h1.see hs1 hj hbits).trans fun m2 t2 ⟨a2, hx⟩ => ?_
    rcases hx with ⟨h3, h4⟩ | ⟨vs, hvs, hvm, hs2, h2⟩
    · exact .refl ⟨a2, vm, h3, h4⟩
    · refine (h2.cas (r := r) hs2 hj hbits).trans fun m3 t3 ⟨a3, hx⟩ => ?_
      rcases hx with ⟨h3, h4⟩ | ⟨v2, hlt, hs3, h4⟩
      · refine (h4.word h3 (.inr (.inr (.inr (.inr rfl)))) (by simp) (by simpa [pend] using hj) hbits).trans fun m4 t4 ⟨a4, hs4, h5⟩ => ?_
        exact (Here.sem h5 hs4 hj hbits).trans fun m5 t5 ⟨a5, hs5, h6⟩ => (Here.look h6 hs5 hj hbits).trans fun m6 t6 ⟨a6, hs6, h7⟩ => .refl ⟨a6, vs, hs6, h7⟩
      · exact ih v2 (by omega) a3 m3 t3 h4 hs3
end
end Go.Proofs.Ytdafpnpfcmgfcab
namespace Go.Proofs.Ytdafpnpfcmgfcab
open Go Go.Conc Go.ConcN
open Go.ConcR (KK wgBlock WgAt stA smA rd wr mk Payload DC0 Bk g_of_ofEvents)

section
variable [Payload] {P : Program} {ty nty : TypeId} {S : Nat → Prop} {B0 base : Nat} {bit : Nat → Nat} {T0 N0 : Nat} {j : Nat} {tag : CTag} {d0 : Nat} {t : Trace}
  {gs gs1 : Array Goroutine} {w w1 : World} {D : Nat → WD} {Ad : Nat → Bool} {q : Nat → Nat} {st sm : Int} {fn : FuncId} {pos : String}

theorem Cw.joined (h : Cw P ty nty S B0 base bit j tag 0 T0 N0 gs w t D Ad q st sm) (h1 : Cw P ty nty S B0 base bit j tag 0 T0 N0 gs1 w1 (t ++ MemOp.ofEvents 0 fn pos #[Go.ConcR.mk (.acquire (stA (B0 + 2)))]) D Ad q 0 0) (hall : AllQuit j D) (hfin : isFin tag) :
    Cw P ty nty S B0 (base + j) bit 0 tag 0 T0 (N0 + sumTo j bit) gs1 w1 (t ++ MemOp.ofEvents 0 fn pos #[Go.ConcR.mk (.acquire (stA (B0 + 2)))]) D Ad (fun i => if i < base then q i else (D (i - base)).fuel) 0 0 := by
  have hb := h.base1
  have hu : MemOp.ofEvents 0 fn pos #[Go.ConcR.mk (.acquire (stA (B0 + 2)))] = #[{ g := 0, fn, pos, act := .mark (.acquire (stA (B0 + 2))) }] := by
    rw [ofEvents_eq]; simp [Go.ConcR.mk, MemAct.ofEvent]
  generalize hx : ({ g := 0, fn, pos, act := .mark (.acquire (stA (B0 + 2))) } : MemOp) = x at hu
  have hx1 : x.g = 0 ∧ x.act = .mark (.acquire (stA (B0 + 2))) := by subst hx; exact ⟨rfl, rfl⟩
  rw [hu] at h1 ⊢
  have hq : (t ++ #[x])[t.size]? = some x := by simp
  have hqa : (t ++ #[x]).act? t.size = some (.mark (.acquire (stA (B0 + 2)))) := by rw [act?_of hq, hx1.2]
  have hqg : (t ++ #[x]).g? t.size = some 0 := by simp [Trace.g?, hx1.1]
  have hqh : (t ++ #[x]).heard t.size := ⟨0, hqg, by rw [deaf_old (Nat.le_refl _)]; exact h.deaf0⟩
  have nt : x.act.touch? = none := by rw [hx1.2]; rfl
  -- each worker's release comes ahead of the acquire
  have edge : ∀ i, i < j → ∃ r, r < t.size ∧ (t ++ #[x]).g? r = some (base + i) ∧ HappensBefore (t ++ #[x]) r t.size ∧ (∀ y, r < y → (t ++ #[x]).g? y = some (base + i) → ¬ (t ++ #[x]).counts y) ∧ (∀ y b, r < y → (t ++ #[x]).g? y = some (base + i) → touchAt (t ++ #[x]) y = some b → ShOf (S3 S B0) b.loc) ∧ touchAt (t ++ #[x]) r = none := by
    intro i hi
    obtain ⟨r, hr, hr'⟩ := h.rel i hi (by rw [hall i hi]; omega)
    have hlt : r < t.size := lt_of_act? hr.act
    have hone : ∀ op ∈ #[x], op.g = 0 := fun op hop => by
      have e : op = x := by simpa using hop
      rw [e]; exact hx1.1
    have hr1 : RelBy (stA (B0 + 2)) (t ++ #[x]) (base + i) r := hr.appOther hone (by omega)
    have hT : T0 ≤ r := Nat.le_of_not_lt fun hlt' => by
      have := h.early r (base + i) hlt' hr.g
      omega
    refine ⟨r, hlt, hr1.g, .single (.inr ⟨.marked hlt (.inr hr1.act) hqa (fun k hk _ => h1.norel k (by omega)), hr1.heard, hqh⟩), hr1.after, after_other hone (by omega) hr', ?_⟩
    unfold touchAt
    rw [hr1.act]; rfl
  have po : ∀ {y r k : Nat}, (t ++ #[x]).g? y = some k → (t ++ #[x]).g? r = some k → y < r → HappensBefore (t ++ #[x]) y r := fun h1 h2 h3 => .single (.inl ⟨h3, _, h1, h2⟩)
  have low : ∀ y k, (t ++ #[x]).g? y = some k → k < base + j ∨ k = 0 := fun y k hy => by
    obtain ⟨op, ho, hog⟩ := Option.map_eq_some_iff.1 hy
    have := h1.ct.gs y op ho
    omega
  have kn : ∀ i a, touchAt (t ++ #[x]) i = some a → ¬ ShOf (S3 S B0) a.loc → Knows (t ++ #[x]) 0 i := fun y a ha hn => by
    rcases h1.kn y a ha hn with ⟨k, hk, hg⟩ | h
    · obtain ⟨i, rfl⟩ : ∃ i, k = base + i := ⟨k - base, by omega⟩
      have hi : i < j := by rcases low y _ hg with h | h <;> omega
      obtain ⟨r, hr1, hr2, hr3, hr4, hr5, hr6⟩ := edge i hi
      have hle : ¬ r < y := fun hlt => hn (hr5 y a hlt hg ha)
      have hne : y ≠ r := fun e => by rw [e, hr6] at ha; cases ha
      exact ⟨t.size, x, hq, hx1.1, .inr ((po hg hr2 (by omega)).trans hr3)⟩
    · exact h
  refine ⟨by omega, by have := h1.size; omega, fun i g hi hib hg => ?_, fun i hi => absurd hi (Nat.not_lt_zero _), ?_, h1.norel, h1.begun, h1.deaf0, fun i hi => absurd hi (Nat.not_lt_zero _), fun i hi => h1.above i (by omega), fun i hi => absurd hi (Nat.not_lt_zero _), fun i g hi hg => Nat.lt_of_lt_of_le (h1.early i g hi hg) (by omega), fun i hi => absurd hi (Nat.not_lt_zero _), ?_, h1.wg, .fin hfin (fun i hi => absurd hi (Nat.not_lt_zero _)), h1.seen, fun i a ha hn => .inr (kn i a ha hn), fun y g hg h0 hgb hc => ?_, by have := h1.room; omega⟩
  · rcases Nat.lt_or_ge i base with hlt | hge
    · simp only [hlt, if_true]
      exact h1.old i g hi hlt hg
    · have hn : ¬ i < base := by omega
      simp only [hn, if_false]
      obtain ⟨k, rfl⟩ : ∃ k, i = base + k := ⟨i - base, by omega⟩
      have hk : k < j := by omega
      obtain ⟨g', hg', hs⟩ := h1.wk k hk
      rw [hg] at hg'
      cases hg'
      rw [Nat.add_sub_cancel_left, h1.deafW k hk]
      have h1s := hall k hk
      generalize (D k).stage = s at hs h1s
      generalize Ad k = ad at hs
      subst h1s
      cases hs with
      | go hs => cases hs with
        | quit hq => exact hq
  · have hperm : ∀ l, ¬ ShOf (S3 S B0) l → Perm (t ++ #[x]) 0 l := fun l hl i a ha e => kn i a ha (by rw [e]; exact hl)
    refine ⟨h1.ct.quiet, fun _ _ _ _ h => h.elim, fun k _ hk l hl => ?_, fun l hs _ => hperm l hs, fun l hs _ => PermW.of (hperm l hs), h1.ct.nr, fun i op hi => ?_⟩
    · have := hl.1
      omega
    · have := h1.ct.gs i op hi
      omega
  · have e : bitsIn bit j Ad = sumTo j bit := sumTo_congr fun i hi => by
      obtain ⟨g, _, hs⟩ := h1.wk i hi
      have h1s := hall i hi
      generalize (D i).stage = s at hs h1s
      subst h1s
      generalize hA : Ad i = ad at hs
      cases hs with
      | go _ => simp
    have := h1.noted
    rw [e] at this
    exact this
  · rcases Nat.lt_or_ge g base with hlt | hge
    · exact h1.over y g hg h0 hlt hc
    · obtain ⟨i, rfl⟩ : ∃ i, g = base + i := ⟨g - base, by omega⟩
      obtain ⟨r, hr1, hr2, hr3, hr4, _, _⟩ := edge i (by omega)
      have hle : ¬ r < y := fun hlt => hr4 y hlt hg hc
      refine ⟨t.size, hqg, ?_⟩
      rcases Nat.lt_or_ge y r with hyr | hyr
      · exact (po hg hr2 hyr).trans hr3
      · obtain rfl : y = r := by omega
        exact hr3
end
end Go.Proofs.Ytdafpnpfcmgfcab
namespace Go.Proofs.Ytdafpnpfcmgfcab
open Go Go.Conc Go.ConcN
open Go.ConcR (KK wgBlock WgAt stA smA rd wr mk Payload DC0 Bk g_of_ofEvents)

/-- What the lone run sees, the workers' own variables aside. -/
structure Like (B0 j : Nat) (v v' : World) : Prop where
  size : v'.heap.size = v.heap.size
  out : ∀ b, ¬ (B0 + 3 ≤ b ∧ b < B0 + 3 + j) → v'.heap[b]? = v.heap[b]?
  os : v'.os = v.os
  output : v'.output = v.output

section
variable {S : Nat → Prop} {B0 j : Nat} {v w : World}
/-- The workers' own variables are shunned no more. -/
theorem unshun (h : Cp (SJ S B0 j) v w) (hS : ∀ b, S b → b < B0) : ∃ v', Cp (SJ S B0 0) v' w ∧ Like B0 j v v' := by
  have hm : ∀ b, (v.heap.mapIdx fun i o => if B0 + 3 ≤ i ∧ i < B0 + 3 + j then (w.heap[i]?).getD o else o)[b]? = v.heap[b]?.map fun o => if B0 + 3 ≤ b ∧ b < B0 + 3 + j then (w.heap[b]?).getD o else o := fun b => by rw [Array.getElem?_mapIdx]
  refine ⟨{ v with heap := v.heap.mapIdx fun i o => if B0 + 3 ≤ i ∧ i < B0 + 3 + j then (w.heap[i]?).getD o else o }, ⟨by simpa using h.size, fun b hb => ?_, fun b hb => ?_, fun b hb => ?_, h.os, h.output⟩, ⟨by simp, fun b hb => ?_, rfl, rfl⟩⟩
  · rcases hb with hb | ⟨i, hi, _⟩
    · simpa using h.low b (.inl hb)
    · omega
  · dsimp only
    rw [hm b]
    by_cases hx : B0 + 3 ≤ b ∧ b < B0 + 3 + j
    · obtain ⟨i, rfl⟩ : ∃ i, b = B0 + 3 + i := ⟨b - (B0 + 3), by omega⟩
      obtain ⟨t, c, f, e1, e2⟩ := h.brk _ (.inr ⟨i, by omega, rfl⟩)
      rw [e1, e2]
      simp [veil]
      omega
    · have : (fun o : Obj => if B0 + 3 ≤ b ∧ b < B0 + 3 + j then (w.heap[b]?).getD o else o) = id := by funext o; simp [hx]
      rw [this]
      simp only [Option.map_id, id]
      refine h.out b fun hs => ?_
      rcases hs with hs | ⟨i, hi, rfl⟩
      · exact hb (.inl hs)
      · exact hx ⟨by omega, by omega⟩
  · dsimp only
    rw [hm b]
    have hx : ¬ (B0 + 3 ≤ b ∧ b < B0 + 3 + j) := by
      rcases hb with (hb | hb | hb) | ⟨i, hi, _⟩
      · have := hS b hb; omega
      · omega
      · omega
      · omega
    obtain ⟨t, c, f, e1, e2⟩ := h.brk b (hb.elim .inl fun ⟨i, hi, _⟩ => absurd hi (Nat.not_lt_zero _))
    exact ⟨t, c, f, by rw [e1]; simp [hx], e2⟩
  · dsimp only
    rw [hm b]
    cases v.heap[b]? with
    | none => rfl
    | some o => simp [hb]
end

section
variable [Payload] {P : Program} {ty nty : TypeId} {S : Nat → Prop} {B0 base : Nat} {bit : Nat → Nat} {T0 N0 : Nat} {j : Nat} {tag : CTag} {d0 : Nat} {a : Goroutine} {v : World} {vm : Nat} {m : Machine} {t : Trace}

/-- The join is seen: the workers are old ones now. -/
theorem Here.join {Ret : Goroutine → World → Prop} (h : Here P ty nty S B0 base bit T0 N0 j .ke 1 a v vm m t) (hs : ∀ w₁, WgLive ty (B0 + 2) w₁ → AtJoin P ty (B0 + 2) Ret a w₁) (hj : j < 2147483648) (hbits : ∀ Ad', N0 + bitsIn bit j Ad' < 4294967296) (hN : N0 + sumTo j bit < 4294967296) (hS : ∀ b, S b → b < B0) :
    Rch P m t (fun m' t' => ∃ a' v', (∀ w₁, WgLive ty (B0 + 2) w₁ → Ret a' w₁) ∧ Like B0 j v v' ∧ Here P ty nty S B0 (base + j) bit T0 (N0 + sumTo j bit) 0 .ke 0 a' v' 0 m' t') := by
  refine (h.word hs (.inr (.inl rfl)) (by simp) (by simpa [pend] using hj) hbits).trans fun m1 t1 ⟨a1, hs1, h1⟩ => ?_
  have e0 : deafBehind 1 #[mk .enable] = 0 := rfl
  rw [e0] at h1
  obtain ⟨gs, w, sl, D, Ad, q, st, sm, rfl, h0, hc, hcp, hv⟩ := h1
  have hrun := (hs1 w ⟨_, _, hc.wg⟩).1
  obtain ⟨N, gs1, w1, sl1, t2, D1, Ad1, q1, st1, sm1, d, sl2, hr, h01, hc1, hsim, hv1, _, hst⟩ := Cw.turn hrun (by simpa [pend] using hj) hbits (by simp) D q gs w t1 Ad st sm sl hc h0
  obtain ⟨hall, rfl, rfl⟩ := hc1.mode.fin_inv trivial
  obtain ⟨_, g', hgo, k, hk⟩ := hs1 _ ⟨_, _, hc1.wg⟩
  obtain ⟨w1ok, w1nr⟩ := word_touch (S := S) (B0 := B0) (base := base) (mm := .acquire (stA (B0 + 2))) (.inr (.inr (.inl ⟨_, rfl⟩))) (B := (w1.at d).heap.size) (k := base + j - 1) (by have := hc1.room; omega) (fn := a1.frame.fn) (pos := a1.frame.place)
  obtain ⟨gs2, hr2, h02, hc2⟩ := hc1.step0 h01 hgo (leaves_refl _) w1ok w1nr hc1.wg hc1.mode sl2
  have e1 : deafBehind 0 #[mk (.acquire (stA (B0 + 2)))] = 0 := rfl
  rw [e1] at hc2
  have hjn := hc1.joined hc2 hall trivial
  obtain ⟨v', hcp', hlike⟩ := unshun (hsim.2 v hcp) hS
  have hH : Here P ty nty S B0 (base + j) bit T0 (N0 + sumTo j bit) 0 .ke 0 g' v' 0 (crowd gs2 (w1.at d) sl2) (t2 ++ MemOp.ofEvents 0 a1.frame.fn a1.frame.place #[mk (.acquire (stA (B0 + 2)))]) :=
    ⟨gs2, _, sl2, D1, Ad1, _, 0, 0, rfl, h02, hjn, hcp', by simp [Vc, sumTo]⟩
  have hone : runNT P (N + 1) (crowd gs w sl) t1 = (.next (crowd gs2 (w1.at d) sl2), t2 ++ MemOp.ofEvents 0 a1.frame.fn a1.frame.place #[mk (.acquire (stA (B0 + 2)))]) := by
    rw [runNT_more N 1 _ _ _ _ hr]
    simp only [runNT, hst, hr2]
  have hb0 : ∀ Ad', N0 + sumTo j bit + bitsIn bit 0 Ad' < 4294967296 := fun Ad' => by simp [bitsIn, sumTo]; omega
  exact Rch.trans ⟨N + 1, _, _, hone, hH⟩ fun m3 t3 h3 => (Here.goes (by simp) (by simp [pend]) hb0 k g' _ m3 t3 hk h3).trans fun m4 t4 ⟨a4, hs4, h4⟩ => .refl ⟨a4, v', hs4, hlike, h4⟩

/-- What is left behind. -/
theorem Cw.free {gs : Array Goroutine} {w : World} {D : Nat → WD} {Ad : Nat → Bool} {q : Nat → Nat} {st sm : Int} (h : Cw P ty nty S B0 base bit 0 tag 0 T0 N0 gs w t D Ad q st sm) : Leavers P t gs q ∧ Tr (S3 S B0) w.heap.size gs.size t := by
  have hb := h.base1
  have hsz := h.size
  refine ⟨⟨fun i g hi hg => h.old i g hi ?_ hg, fun i hi => h.above i (by omega)⟩, ⟨?_, ?_, h.deaf0, h.seen⟩⟩
  · have := (Array.getElem?_eq_some_iff.1 hg).1
    omega
  · have hgs : ∀ i (op : MemOp), t[i]? = some op → op.g < base := fun i op hi => by have := h.ct.gs i op hi; omega
    have hperm : ∀ l, ¬ ShOf (S3 S B0) l → Perm t 0 l := fun l hl i a ha e => by
      rcases h.kn i a ha (by rw [e]; exact hl) with ⟨k, h1, h2⟩ | h1
      · exfalso
        obtain ⟨op, ho, hog⟩ := Option.map_eq_some_iff.1 h2
        have := hgs i op ho
        omega
      · exact h1
    exact ⟨h.ct.quiet, fun _ _ _ _ h => h.elim, fun _ _ _ _ h => h.elim, fun l hs _ => hperm l hs, fun l hs _ => PermW.of (hperm l hs), h.ct.nr, fun i op hi => by have := hgs i op hi; omega⟩
  · intro i g hg h0 hc
    refine h.over i g hg h0 ?_ hc
    obtain ⟨op, ho, hog⟩ := Option.map_eq_some_iff.1 hg
    have := h.ct.gs i op ho
    omega

/-- A go statement. -/
theorem Here.spawn {r ad m0} {a' child : Goroutine} {v2 : World} (h : Here P ty nty S B0 base bit T0 N0 j (.sp r 3) 0 a v vm m t) (hrun : a.status = .running) (hgo : ∀ w, Cp (SJ S B0 j) v w → WgLive ty (B0 + 2) w → stepG P true a w = .spawn a' child w #[])
    (hc : ∀ w, Cp (SJ S B0 j) v w → WgLive ty (B0 + 2) w → WkS P ty nty S B0 base bit j ad 7 m0 0 child w) (hbit : ad = true → bit j = 0) (hbox : ∀ w, Cp (SJ S B0 j) v w → PayAt (B0 + 3 + j) 1 w ∧ B0 + 3 + (j + 1) ≤ w.heap.size) (hv2 : ∀ w, Cp (SJ S B0 j) v w → Cp (SJ S B0 (j + 1)) v2 w)
    (hj : j + 1 < 2147483648) (hbits : ∀ Ad', N0 + bitsIn bit j Ad' < 4294967296) :
    Rch P m t (fun m' t' => Here P ty nty S B0 base bit T0 N0 (j + 1) (.sp r 5) 0 a' v2 (vm + 1) m' t') := by
  obtain ⟨gs, w, sl, D, Ad, q, st, sm, rfl, h0, hcw, hcp, hv⟩ := h
  obtain ⟨N, gs1, w1, sl1, t1, D1, Ad1, q1, st1, sm1, d, sl2, hr, h01, hc1, hsim, hv1, _, hst⟩ := Cw.turn hrun (by simp [pend]; omega) hbits (by simp) D q gs w t Ad st sm sl hcw h0
  have hcp1 := hsim.2 v hcp
  have hlive : WgLive ty (B0 + 2) (w1.at d) := ⟨_, _, hc1.wg⟩
  obtain ⟨hb1, hb2⟩ := hbox _ hcp1
  obtain ⟨ho, hst1, hsm1, _⟩ := hc1.mode.open_inv trivial
  have eV : Vc (j + 1) (upd D1 j ⟨7, m0, 0⟩) = Vc j D1 + 1 := by
    simp only [Vc, sumTo, upd_same]
    rw [sumTo_upd_out D1 _ cnt (Nat.le_refl _)]
    rfl
  have hmode : Go.ConcN.Mode (j + 1) (upd D1 j ⟨7, m0, 0⟩) (.sp r 5) st1 sm1 := by
    subst hsm1
    have e : st1 = ((Vc (j + 1) (upd D1 j ⟨7, m0, 0⟩) + pend (.sp r 5) : Nat) : Int) * KK := by
      rw [hst1, eV]; simp [pend]
    rw [e]
    refine .opn trivial (fun i hi => ?_) (fun vs h => by cases h)
    rw [upd_stage]
    split
    · simp
    · exact ho i (by omega)
  obtain ⟨gs2, u, hr2, h02, hc2⟩ := hc1.spawn h01 (hgo _ hcp1 hlive) (hc _ hcp1 hlive) hbit hb1 hmode hb2 sl2
  refine ⟨N + 1, crowd gs2 (w1.at d) sl2, t1 ++ u, ?_, gs2, _, sl2, _, _, q1, st1, sm1, rfl, h02, hc2, hv2 _ hcp1, by rw [eV]; omega⟩
  rw [runNT_more N 1 _ _ _ _ hr]
  simp only [runNT, hst, hr2]
end
end Go.Proofs.Ytdafpnpfcmgfcab
namespace Go.Proofs.Ytdafpnpfcmgfcab
open Go Go.Conc Go.ConcN
open Go.ConcR (KK wgBlock WgAt stA smA rd wr mk Payload DC0 Bk g_of_ofEvents)

/-- Goroutine 0 stands here; all others only leave; n there are. -/
def Beside (P : Program) (S : Nat → Prop) (n : Nat) (a : Goroutine) (w : World) (m : Machine) (t : Trace) : Prop :=
  ∃ gs sl q d, m = crowd gs (w.at d) sl ∧ gs[0]? = some a ∧ gs.size = n ∧ Leavers P t gs q ∧ Tr S w.heap.size n t

section
variable {P : Program} {S : Nat → Prop} {n : Nat} {a a' : Goroutine} {w w' : World} {m : Machine} {t : Trace}

theorem Beside.stepN {Nx : Goroutine → World → Prop} (h : Beside P S n a w m t) (hrun : a.status = .running) (hst : ∀ d, ∃ a' w' d' es, stepG P true a (w.at d) = .go a' (w'.at d') es ∧ (∀ e ∈ es, OkE S w'.heap.size e) ∧ w.heap.size ≤ w'.heap.size ∧ Nx a' w') :
    Rch P m t (fun m' t' => ∃ a' w', Nx a' w' ∧ Beside P S n a' w' m' t') := by
  obtain ⟨gs, sl, q, d0, rfl, h0, hn, hL, hT⟩ := h
  have key : ∀ (M d0 : Nat) (gs : Array Goroutine) (sl : Option (Nat × Nat)) (t : Trace) (q : Nat → Nat), sumTo gs.size q < M → gs[0]? = some a → gs.size = n → Leavers P t gs q → Tr S w.heap.size n t → Rch P (crowd gs (w.at d0) sl) t (fun m' t' => ∃ a' w', Nx a' w' ∧ Beside P S n a' w' m' t') := by
    intro M
    induction M with
    | zero => exact fun d0 gs sl t q hM => absurd hM (Nat.not_lt_zero _)
    | succ M ihM =>
      intro d0 gs sl t q hM h0 hn hL hT
      have haw : ∀ x ∈ gs, awake x := by
        intro x hx
        obtain ⟨i, hi, rfl⟩ := Array.mem_iff_getElem.1 hx
        rcases Nat.eq_zero_or_pos i with rfl | hpos
        · have : gs[0] = a := by simpa [Array.getElem?_eq_getElem hi] using h0
          rw [this]; exact awake_of (.inl hrun)
        · exact awake_of ((hL.old i _ hpos (Array.getElem?_eq_getElem hi)).status.elim .inl fun x => .inr (.inr x))
      obtain ⟨i, x, d, sl', hi, hx, hstep⟩ := crowd_pick (P := P) (w := w.at d0) (sl := sl) haw ⟨0, a, h0, hrun⟩
      replace hstep : stepT P (crowd gs (w.at d0) sl) = runT P (crowd gs (w.at d) sl') i := hstep
      have hlt : i < gs.size := (Array.getElem?_eq_some_iff.1 hi).1
      rcases Nat.eq_zero_or_pos i with rfl | hpos
      · obtain rfl : x = a := by rw [h0] at hi; exact (Option.some.inj hi).symm
        obtain ⟨a', w', d', es, hgo, hE, hsz, hNx⟩ := hst d
        have hrunT := runT_crowd_go (P := P) (sl := sl') (i := 0) hi (show stepG P (0 == 0) x (w.at d) = _ from hgo)
        obtain ⟨l1, l2⟩ := leavers_step (fn := x.frame.fn) (pos := x.frame.place) (es := es) (g := x) (g' := a') (w' := w'.at d') hL hlt
        refine ⟨1, crowd ((gs.map (woken P x a' (w'.at d'))).setIfInBounds 0 a') (w'.at d') sl', t ++ MemOp.ofEvents 0 x.frame.fn x.frame.place es, by simp only [runNT, hstep, hrunT], a', w', hNx, _, sl', q, d', rfl, by simp [hlt], by simp [hn], ⟨fun j y hj hy => l1 j y hj (by omega) hy, fun j hj => l2 j (by simpa using hj)⟩, (hT.mono hsz).own hE⟩
      · have hq := hL.old i x hpos hi
        have hi0 : (i == 0) = false := by simp; omega
        cases hqi : q i with
        | zero => rw [hqi] at hq; rw [hq.1] at hx; cases hx
        | succ k =>
          rw [hqi] at hq
          rcases hq with ⟨hf, _⟩ | ⟨_, g', es', hm, hstp, hq'⟩
          · rw [hf] at hx; cases hx
          have hrunT := runT_crowd_go (P := P) (sl := sl') (i := i) hi (by rw [hi0]; exact hstp (w.at d))
          have hsz' : ((gs.map (woken P x g' (w.at d))).setIfInBounds i g').size = gs.size := by simp
          have hsum : sumTo gs.size (upd q i k) + (k + 1) = sumTo gs.size q + k := by
            have := sumTo_upd q k id hlt
            simpa [hqi] using this
          obtain ⟨l1, l2⟩ := leavers_step (fn := x.frame.fn) (pos := x.frame.place) (es := es') (g := x) (g' := g') (w' := w.at d) hL hlt
          obtain ⟨N, m', t', hr, hB⟩ := ihM d ((gs.map (woken P x g' (w.at d))).setIfInBounds i g') sl' (t ++ MemOp.ofEvents i x.frame.fn x.frame.place es') (upd q i k) (by rw [hsz']; omega)
            (by
              have hne : i ≠ 0 := by omega
              rw [Array.getElem?_setIfInBounds_ne hne, Array.getElem?_map, h0]
              simp [woken_run hrun])
            (hsz'.trans hn)
            ⟨fun j y hj hy => by
              by_cases hji : j = i
              · subst hji
                rw [Array.getElem?_setIfInBounds_self_of_lt (by simpa using hlt)] at hy
                obtain rfl := Option.some.inj hy
                rw [upd_same, Deaf_own]
                exact hq'
              · rw [upd_ne q k hji]
                exact l1 j y hj hji hy, fun j hj => l2 j (by simpa using hj)⟩
            (hT.mute hpos (by omega) hm)
          exact ⟨N + 1, m', t', by simp only [runNT, hstep, hrunT]; exact hr, hB⟩
  exact key _ d0 gs sl t q (Nat.lt_succ_self _) h0 hn hL hT

theorem Beside.step {es : Array Event} (h : Beside P S n a w m t) (hrun : a.status = .running) (hst : ∀ d, ∃ d', stepG P true a (w.at d) = .go a' (w'.at d') es) (hE : ∀ e ∈ es, OkE S w'.heap.size e) (hsz : w.heap.size ≤ w'.heap.size) :
    Rch P m t (fun m' t' => Beside P S n a' w' m' t') :=
  (h.stepN hrun (Nx := fun x y => x = a' ∧ y = w') fun d => let ⟨d', h⟩ := hst d; ⟨a', w', d', es, h, hE, hsz, rfl, rfl⟩).trans fun _ _ ⟨_, _, ⟨hx, hy⟩, h⟩ => .refl (by subst hx; subst hy; exact h)

theorem Beside.goes {Stop : Goroutine → World → Prop} : ∀ (k : Nat) (a : Goroutine) (w0 : World) (m : Machine) (t : Trace), Goes P true (fun _ _ => True) DC0 Stop k a w0 → Beside P S n a w m t →
    Rch P m t (fun m' t' => ∃ a', (∀ w₁, Stop a' w₁) ∧ Beside P S n a' w m' t') := by
  intro k
  induction k with
  | zero => exact fun a w0 m t hg h => .refl ⟨a, fun w₁ => hg w₁ trivial, h⟩
  | succ k ih =>
    intro a w0 m t hg h
    rcases hg with hs | ⟨hrun, hstep⟩
    · exact .refl ⟨a, fun w₁ => hs w₁ trivial, h⟩
    · refine (h.stepN hrun (Nx := fun a' w' => w' = w ∧ ∃ w1, Goes P true (fun _ _ => True) DC0 Stop k a' w1) fun d => ?_).trans fun m' t' ⟨a', w', ⟨e, w1, hg'⟩, h'⟩ => ih a' w1 m' t' hg' (by rw [← e]; exact h')
      obtain ⟨g', w', es, hgo, ⟨rfl, rfl⟩, hg'⟩ := goes_elim (hstep (w.at d) trivial)
      exact ⟨g', w, d, #[], hgo, by simp, Nat.le_refl _, rfl, _, hg'⟩

/-- Of places that nobody has touched yet. -/
theorem Tr.shun {S' : Nat → Prop} {B : Nat} (h : Tr S B n t) (hs : ∀ b, S b → S' b) (hn : ∀ b, S' b → ¬ S b → B ≤ b) : Tr S' B n t := by
  have hsh : ∀ l, ShOf S l → ShOf S' l := fun l ⟨a, e, h⟩ => ⟨a, e, hs _ h⟩
  refine ⟨⟨fun i op a hop hoa hS => ?_, fun _ _ _ _ h => h.elim, fun _ _ _ _ h => h.elim, fun l hl _ => h.ct.free l (fun x => hl (hsh l x)) (fun _ _ _ => ⟨id, id⟩), fun l hl _ => h.ct.mine l (fun x => hl (hsh l x)) (fun _ _ _ => id), h.ct.nr, h.ct.gs⟩, h.over, h.hears, h.seen⟩
  by_cases hx : ShOf S a.loc
  · exact h.ct.quiet i op a hop hoa hx
  · exfalso
    obtain ⟨b, hb, hb'⟩ := hS
    have h1 := h.seen op (Array.mem_of_getElem? hop) a hoa
    rw [hb] at h1
    have h2 : b.block < B := h1
    have := hn _ hb' (fun x => hx ⟨b, hb, x⟩)
    omega
theorem Beside.shun {S' : Nat → Prop} (h : Beside P S n a w m t) (hs : ∀ b, S b → S' b) (hn : ∀ b, S' b → ¬ S b → w.heap.size ≤ b) : Beside P S' n a w m t := by
  obtain ⟨gs, sl, q, d, h1, h2, h3, h4, h5⟩ := h
  exact ⟨gs, sl, q, d, h1, h2, h3, h4, h5.shun hs hn⟩
end

section
variable [Payload] {P : Program} {ty nty : TypeId} {S : Nat → Prop} {B0 : Nat} {bit : Nat → Nat} {n : Nat} {a : Goroutine} {v w : World} {m : Machine} {t : Trace}
/-- The crew's beginning. -/
theorem Here.begin (h : Beside P (S3 S B0) n a w m t) (hn : 1 ≤ n) (hno : NAt nty B0 0 w) (hwg : WgAt ty (B0 + 2) w 0 0) (hcp : Cp (SJ S B0 0) v w) (r : Nat) (hroom : B0 + 3 ≤ w.heap.size) : ∃ T0, Here P ty nty S B0 n bit T0 0 0 (.sp r 5) 0 a v 0 m t := by
  obtain ⟨gs, sl, q, d, rfl, h0, rfl, hL, hT⟩ := h
  refine ⟨t.size, gs, w.at d, sl, fun _ => ⟨1, 0, 0⟩, fun _ => false, q, 0, 0, rfl, h0, ?_, (Sim.at _ w d).2 v hcp, by simp [Vc, sumTo]⟩
  refine ⟨hn, by omega, fun i g hi hib hg => hL.old i g hi hg, fun i hi => absurd hi (Nat.not_lt_zero _), ?_, fun i hi e => ?_, Nat.le_refl _, hT.hears, fun i hi => absurd hi (Nat.not_lt_zero _), fun i hi => hL.above i (by omega), fun i hi => absurd hi (Nat.not_lt_zero _), fun i g hi hg => ?_, fun i hi => absurd hi (Nat.not_lt_zero _), (show NAt nty B0 0 w from hno), hwg, ?_, hT.seen, fun i x hx hns => .inr ?_, fun i g hg h0' _ hc => hT.over i g hg h0' hc, hroom⟩
  · exact ⟨hT.ct.quiet, fun _ _ _ _ h => h.elim, fun k _ hk l hl => by have := hl.1; omega, fun l hs _ => hT.ct.free l hs (fun _ _ _ => ⟨id, id⟩), fun l hs _ => hT.ct.mine l hs (fun _ _ _ => id), hT.ct.nr, fun i op hi => by have := hT.ct.gs i op hi; omega⟩
  · obtain ⟨op, ho, _⟩ := Option.map_eq_some_iff.1 e
    have := lt_size_of_getElem? ho
    omega
  · obtain ⟨op, ho, hog⟩ := Option.map_eq_some_iff.1 hg
    have := hT.ct.gs i op ho
    omega
  · have e : (0 : Int) = ((Vc 0 (fun _ => (⟨1, 0, 0⟩ : WD)) + pend (.sp r 5) : Nat) : Int) * KK := by simp [Vc, sumTo, pend]
    have key : Go.ConcN.Mode 0 (fun _ => (⟨1, 0, 0⟩ : WD)) (.sp r 5) (((Vc 0 (fun _ => (⟨1, 0, 0⟩ : WD)) + pend (.sp r 5) : Nat) : Int) * KK) 0 := .opn trivial (fun i hi => absurd hi (Nat.not_lt_zero _)) (fun vs h => by cases h)
    rw [← e] at key
    exact key
  · exact hT.ct.free x.loc hns (fun _ _ _ => ⟨id, id⟩) i x hx rfl
end
end Go.Proofs.Ytdafpnpfcmgfcab
namespace Go.Proofs.Ytdafpnpfcmgfcab
open Go Go.Conc Go.ConcN
open Go.ConcR (KK wgBlock WgAt stA smA rd wr mk Payload DC0 Bk g_of_ofEvents)

section
variable (P : Program) (ty nty : TypeId) (B0 : Nat)
/-- It makes the variable whose block will be N. -/
def AtNew (N : Nat) (o : Obj) (Next : Goroutine → World → Prop) (g : Goroutine) (w : World) : Prop :=
  g.status = .running ∧ (w.heap.size = N → ∃ g', stepG P true g w = .go g' (w.alloc o) #[] ∧ ∃ k, Goes P true (RS ty (B0 + 2)) DC0 Next k g' (w.alloc o))
/-- It gives the variable its value. -/
def AtStore (N : Nat) (x : Value) (Next : Goroutine → World → Prop) (g : Goroutine) (w : World) : Prop :=
  g.status = .running ∧ ((∃ u t, w.heap[N]? = some (.cells #[u] t)) → ∃ g', stepG P true g w = .go g' (w.setCell ⟨N, 0, none⟩ x) #[⟨.cell ⟨N, 0, none⟩, true, false⟩] ∧ ∃ k, Goes P true (RS ty (B0 + 2)) DC0 Next k g' (w.setCell ⟨N, 0, none⟩ x))
def AtSpawn (child : Goroutine) (Next : Goroutine → World → Prop) (g : Goroutine) (w : World) : Prop :=
  g.status = .running ∧ ∃ g', stepG P true g w = .spawn g' child w #[] ∧ ∃ k, Goes P true (RS ty (B0 + 2)) DC0 Next k g' w
def AtRead (Next : Nat → Goroutine → World → Prop) (g : Goroutine) (w : World) : Prop :=
  g.status = .running ∧ ∀ N, NAt nty B0 N w → ∃ g', stepG P true g w = .go g' w #[rd (nA B0)] ∧ ∃ k, Goes P true (RS ty (B0 + 2)) DC0 (Next N) k g' w
end

theorem get_push {h : Array Obj} {o : Obj} {b : Nat} (hb : b < h.size) : (h.push o)[b]? = h[b]? := by
  rw [Array.getElem?_push]; simp; omega

section
variable [Payload] {P : Program} {ty nty : TypeId} {S : Nat → Prop} {B0 base : Nat} {bit : Nat → Nat} {T0 N0 : Nat} {j : Nat} {tag : CTag} {d0 : Nat} {a : Goroutine} {v : World} {vm : Nat} {m : Machine} {t : Trace}

theorem Here.run {Q : Goroutine → World → Prop} (h : Here P ty nty S B0 base bit T0 N0 j tag d0 a v vm m t) (hs : ∀ w₁, WgLive ty (B0 + 2) w₁ → Q a w₁) (hq : ∀ w, Q a w → a.status = .running) : a.status = .running := by
  obtain ⟨gs, w, sl, D, Ad, q, st, sm, _, _, hc, _⟩ := h
  exact hq _ (hs w ⟨_, _, hc.wg⟩)

theorem Here.new {N : Nat} {o : Obj} {Next : Goroutine → World → Prop} (h : Here P ty nty S B0 base bit T0 N0 j tag d0 a v vm m t) (hs : ∀ w₁, WgLive ty (B0 + 2) w₁ → AtNew P ty B0 N o Next a w₁) (hN : v.heap.size = N) (ho : veil o = o)
    (hne : tag ≠ .blk) (hj : j + pend tag < 2147483648) (hbits : ∀ Ad', N0 + bitsIn bit j Ad' < 4294967296) :
    Rch P m t (fun m' t' => ∃ a', (∀ w₁, WgLive ty (B0 + 2) w₁ → Next a' w₁) ∧ Here P ty nty S B0 base bit T0 N0 j tag d0 a' (v.alloc o) vm m' t') := by
  have hrun := h.run hs (fun _ x => x.1)
  refine (h.step hrun hne hj hbits (Nx := fun a' tag' d0' v' vm' => (∃ k w1, Goes P true (RS ty (B0 + 2)) DC0 Next k a' w1) ∧ tag' = tag ∧ d0' = d0 ∧ v' = v.alloc o ∧ vm' = vm) fun w t D Ad q st sm gs hc hcp hv => ?_).trans fun m' t' hx => by
      obtain ⟨a', tag', d0', v', vm', ⟨⟨k, w1, hg'⟩, rfl, rfl, rfl, rfl⟩, h'⟩ := hx
      exact Here.goes hne hj hbits k a' w1 m' t' hg' h'
  obtain ⟨_, hx⟩ := hs w ⟨_, _, hc.wg⟩
  obtain ⟨g', hgo, k, hk⟩ := hx (hcp.size.symm.trans hN)
  have hroom := hc.room
  refine ⟨g', _, _, tag, st, sm, v.alloc o, vm, hgo, ⟨fun b hb => get_push (by omega), fun i hi => get_push (by omega), get_push (by omega), show w.heap.size ≤ (w.heap.push o).size by simp⟩, fun op hop => by rw [ofEvents_eq] at hop; simp at hop, by simp, hc.wg.of_block (get_push (by omega)), hc.mode, hcp.push ho, hv, ⟨k, _, hk⟩, rfl, rfl, rfl, rfl⟩

theorem Here.store {x u : Value} {tt : TypeId} {Next : Goroutine → World → Prop} (h : Here P ty nty S B0 base bit T0 N0 j tag d0 a v vm m t) (hs : ∀ w₁, WgLive ty (B0 + 2) w₁ → AtStore P ty B0 (B0 + 3 + j) x Next a w₁) (hv0 : v.heap[B0 + 3 + j]? = some (.cells #[u] tt)) (hS : ∀ b, S b → b < B0)
    (hne : tag ≠ .blk) (hj : j + pend tag < 2147483648) (hbits : ∀ Ad', N0 + bitsIn bit j Ad' < 4294967296) :
    Rch P m t (fun m' t' => ∃ a', (∀ w₁, WgLive ty (B0 + 2) w₁ → Next a' w₁) ∧ Here P ty nty S B0 base bit T0 N0 j tag d0 a' (v.setCell ⟨B0 + 3 + j, 0, none⟩ x) vm m' t') := by
  have hrun := h.run hs (fun _ x => x.1)
  have hnS : ¬ SJ S B0 j (B0 + 3 + j) := by
    rintro ((h | h | h) | ⟨i, hi, h⟩)
    · have := hS _ h; omega
    · omega
    · omega
    · omega
  refine (h.step hrun hne hj hbits (Nx := fun a' tag' d0' v' vm' => (∃ k w1, Goes P true (RS ty (B0 + 2)) DC0 Next k a' w1) ∧ tag' = tag ∧ d0' = d0 ∧ v' = v.setCell ⟨B0 + 3 + j, 0, none⟩ x ∧ vm' = vm) fun w t D Ad q st sm gs hc hcp hv => ?_).trans fun m' t' hx => by
      obtain ⟨a', tag', d0', v', vm', ⟨⟨k, w1, hg'⟩, rfl, rfl, rfl, rfl⟩, h'⟩ := hx
      exact Here.goes hne hj hbits k a' w1 m' t' hg' h'
  have hw0 : w.heap[B0 + 3 + j]? = some (.cells #[u] tt) := by
    have := hcp.out _ hnS
    rw [hv0] at this
    obtain ⟨o, ho, hvo⟩ := Option.map_eq_some_iff.1 this.symm
    rw [ho, veil_cells.1 hvo]
  obtain ⟨_, hx⟩ := hs w ⟨_, _, hc.wg⟩
  obtain ⟨g', hgo, k, hk⟩ := hx ⟨u, tt, hw0⟩
  have hlt : B0 + 3 + j < w.heap.size := (Array.getElem?_eq_some_iff.1 hw0).1
  have hA := aside_setCell w ⟨B0 + 3 + j, 0, none⟩ x
  refine ⟨g', _, _, tag, st, sm, v.setCell ⟨B0 + 3 + j, 0, none⟩ x, vm, hgo, ⟨fun b hb => hA.block b (by simp; omega), fun i hi => hA.block _ (by simp; omega), hA.block _ (by simp; omega), Nat.le_of_eq hA.size.symm⟩, fun op hop => ?_, by simp, hc.wg.of_block (hA.block _ (by simp; omega)), hc.mode, hcp.setCell hnS x, hv, ⟨k, _, hk⟩, rfl, rfl, rfl, rfl⟩
  obtain ⟨e, he, rfl⟩ := Go.Conc.mem_ofEvents hop
  obtain rfl : e = ⟨.cell ⟨B0 + 3 + j, 0, none⟩, true, false⟩ := by simpa using he
  have key : ∀ y, (MemAct.ofEvent ⟨.cell ⟨B0 + 3 + j, 0, none⟩, true, false⟩).touch? = some y → y.loc = .cell ⟨B0 + 3 + j, 0, none⟩ := fun y hy => by
    simp only [MemAct.ofEvent, MemAct.touch?, Option.some.injEq] at hy
    subst hy; rfl
  refine ⟨⟨rfl, fun y hy => .inr ?_⟩, fun y hy => ?_⟩
  · rw [key y hy]
    refine ⟨?_, fun _ _ _ h => h, fun _ k hk1 hk2 hrd => ?_⟩
    · rintro ⟨b, hb, hs⟩
      cases hb
      exact hnS (.inl hs)
    · obtain ⟨hb, b, hb', h1, _⟩ := hrd
      cases hb'
      simp at h1
      have := hc.base1
      omega
  · rw [key y hy]
    rw [hA.size]
    exact hlt

/-- A go statement, and on. -/
theorem Here.start {r m0 : Nat} {ad : Bool} {child : Goroutine} {v2 : World} {Next : Goroutine → World → Prop} (h : Here P ty nty S B0 base bit T0 N0 j (.sp r 3) 0 a v vm m t) (hs : ∀ w₁, WgLive ty (B0 + 2) w₁ → AtSpawn P ty B0 child Next a w₁)
    (hc : ∀ w, Cp (SJ S B0 j) v w → WgLive ty (B0 + 2) w → WkS P ty nty S B0 base bit j ad 7 m0 0 child w) (hbit : ad = true → bit j = 0) (hbox : ∀ w, Cp (SJ S B0 j) v w → PayAt (B0 + 3 + j) 1 w ∧ B0 + 3 + (j + 1) ≤ w.heap.size) (hv2 : ∀ w, Cp (SJ S B0 j) v w → Cp (SJ S B0 (j + 1)) v2 w)
    (hj : j + 1 < 2147483648) (hbits : ∀ Ad', N0 + bitsIn bit j Ad' < 4294967296) (hbits' : ∀ Ad', N0 + bitsIn bit (j + 1) Ad' < 4294967296) :
    Rch P m t (fun m' t' => ∃ a', (∀ w₁, WgLive ty (B0 + 2) w₁ → Next a' w₁) ∧ Here P ty nty S B0 base bit T0 N0 (j + 1) (.sp r 5) 0 a' v2 (vm + 1) m' t') := by
  have hrun := h.run hs (fun _ x => x.1)
  obtain ⟨gs, w, sl, D, Ad, q, st, sm, rfl, h0, hcw, hcp, hv⟩ := h
  obtain ⟨N, gs1, w1, sl1, t1, D1, Ad1, q1, st1, sm1, d, sl2, hr, h01, hc1, hsim, hv1, _, hst⟩ := Cw.turn hrun (by simp [pend]; omega) hbits (by simp) D q gs w t Ad st sm sl hcw h0
  have hcp1 := hsim.2 v hcp
  have hlive : WgLive ty (B0 + 2) (w1.at d) := ⟨_, _, hc1.wg⟩
  obtain ⟨hb1, hb2⟩ := hbox _ hcp1
  obtain ⟨ho, hst1, hsm1, _⟩ := hc1.mode.open_inv trivial
  have eV : Vc (j + 1) (upd D1 j ⟨7, m0, 0⟩) = Vc j D1 + 1 := by
    simp only [Vc, sumTo, upd_same]
    rw [sumTo_upd_out D1 _ cnt (Nat.le_refl _)]
    rfl
  have hmode : Go.ConcN.Mode (j + 1) (upd D1 j ⟨7, m0, 0⟩) (.sp r 5) st1 sm1 := by
    subst hsm1
    have e : st1 = ((Vc (j + 1) (upd D1 j ⟨7, m0, 0⟩) + pend (.sp r 5) : Nat) : Int) * KK := by
      rw [hst1, eV]; simp [pend]
    rw [e]
    refine .opn trivial (fun i hi => ?_) (fun vs h => by cases h)
    rw [upd_stage]
    split
    · simp
    · exact ho i (by omega)
  obtain ⟨_, g', hgo, k, hk⟩ := hs _ hlive
  obtain ⟨gs2, u, hr2, h02, hc2⟩ := hc1.spawn h01 hgo (hc _ hcp1 hlive) hbit hb1 hmode hb2 sl2
  have hH : Here P ty nty S B0 base bit T0 N0 (j + 1) (.sp r 5) 0 g' v2 (vm + 1) (crowd gs2 (w1.at d) sl2) (t1 ++ u) := ⟨gs2, _, sl2, _, _, q1, st1, sm1, rfl, h02, hc2, hv2 _ hcp1, by rw [eV]; omega⟩
  have hone : runNT P (N + 1) (crowd gs w sl) t = (.next (crowd gs2 (w1.at d) sl2), t1 ++ u) := by
    rw [runNT_more N 1 _ _ _ _ hr]
    simp only [runNT, hst, hr2]
  exact Rch.trans ⟨N + 1, _, _, hone, hH⟩ fun m3 t3 h3 => Here.goes (by simp) (by simp [pend]; omega) hbits' k g' _ m3 t3 hk h3

/-- It looks at the number, the crew being done. -/
theorem Here.read {Next : Nat → Goroutine → World → Prop} (h : Here P ty nty S B0 base bit T0 N0 0 .ke 0 a v vm m t) (hs : ∀ w₁, WgLive ty (B0 + 2) w₁ → AtRead P ty nty B0 Next a w₁) (hbits : N0 < 4294967296) :
    Rch P m t (fun m' t' => ∃ a', (∀ w₁, WgLive ty (B0 + 2) w₁ → Next N0 a' w₁) ∧ Here P ty nty S B0 base bit T0 N0 0 .ke 0 a' v vm m' t') := by
  have hrun := h.run hs (fun _ x => x.1)
  have hb0 : ∀ Ad', N0 + bitsIn bit 0 Ad' < 4294967296 := fun Ad' => by simpa [bitsIn, sumTo] using hbits
  refine (h.step hrun (by simp) (by simp [pend]) hb0 (Nx := fun a' tag' d0' v' vm' => (∃ k w1, Goes P true (RS ty (B0 + 2)) DC0 (Next N0) k a' w1) ∧ tag' = .ke ∧ d0' = 0 ∧ v' = v ∧ vm' = vm) fun w t D Ad q st sm gs hc hcp hv => ?_).trans fun m' t' hx => by
      obtain ⟨a', tag', d0', v', vm', ⟨⟨k, w1, hg'⟩, rfl, rfl, rfl, rfl⟩, h'⟩ := hx
      exact Here.goes (by simp) (by simp [pend]) hb0 k a' w1 m' t' hg' h'
  obtain ⟨_, hx⟩ := hs w ⟨_, _, hc.wg⟩
  have hno : NAt nty B0 N0 w := by simpa [bitsIn, sumTo] using hc.noted
  obtain ⟨g', hgo, k, hk⟩ := hx N0 hno
  have hroom := hc.room
  refine ⟨g', w, _, .ke, st, sm, v, vm, hgo, leaves_refl w, fun op hop => ?_, by simp [rd], hc.wg, hc.mode, hcp, hv, ⟨k, w, hk⟩, rfl, rfl, rfl, rfl⟩
  obtain ⟨e, he, rfl⟩ := Go.Conc.mem_ofEvents hop
  obtain rfl : e = rd (nA B0) := by simpa using he
  have key : ∀ y, (MemAct.ofEvent (rd (nA B0))).touch? = some y → y.loc = .cell (nA B0) ∧ y.kind ≠ .plain := fun y hy => by
    simp only [rd, MemAct.ofEvent, MemAct.touch?, Option.some.injEq] at hy
    subst hy
    exact ⟨rfl, by simp⟩
  refine ⟨⟨rfl, fun y hy => .inl ?_⟩, fun y hy => ?_⟩
  · obtain ⟨h1, h2⟩ := key y hy
    exact ⟨⟨_, h1, .inr (.inl rfl)⟩, h2⟩
  · rw [(key y hy).1]
    show B0 + 1 < w.heap.size
    omega
end
end Go.Proofs.Ytdafpnpfcmgfcab
namespace Go.Proofs.Ytdafpnpfcmgfcab
open Go Go.Conc Go.ConcN
open Go.ConcR (KK wgBlock WgAt stA smA rd wr mk Payload DC0 Bk g_of_ofEvents)

def RT (_ _ : World) : Prop := True
theorem tt_rely {w w₁ : World} (h : True) (_ : RT w w₁) : True := h

/-- It makes the variable whose block will be N. -/
def AtNewB (P : Program) (N : Nat) (o : Obj) (Next : Goroutine → World → Prop) (g : Goroutine) (w : World) : Prop :=
  g.status = .running ∧ (w.heap.size = N → ∃ g', stepG P true g w = .go g' (w.alloc o) #[] ∧ ∃ k, Goes P true RT DC0 Next k g' (w.alloc o))

section
variable {P : Program} {S : Nat → Prop} {n : Nat} {a a' : Goroutine} {w w' : World} {m : Machine} {t : Trace}
theorem Beside.new {N : Nat} {o : Obj} {Next : Goroutine → World → Prop} (h : Beside P S n a w m t) (hs : ∀ w₁, AtNewB P N o Next a w₁) (hN : w.heap.size = N) :
    Rch P m t (fun m' t' => ∃ a', (∀ w₁, Next a' w₁) ∧ Beside P S n a' (w.alloc o) m' t') := by
  refine (h.stepN (hs w).1 (Nx := fun a' w' => w' = w.alloc o ∧ ∃ k w1, Goes P true RT DC0 Next k a' w1) fun d => ?_).trans fun m' t' ⟨a', w', ⟨e, k, w1, hg'⟩, h'⟩ => Beside.goes k a' w1 m' t' hg' (by rw [← e]; exact h')
  obtain ⟨_, hx⟩ := hs (w.at d)
  obtain ⟨g', hgo, k, hk⟩ := hx hN
  exact ⟨g', w.alloc o, d, #[], hgo, by simp, show w.heap.size ≤ (w.heap.push o).size by simp, rfl, k, _, hk⟩
theorem AtNewB.of {N : Nat} {o : Obj} {Next : Goroutine → World → Prop} {g : Goroutine} {w : World} (h : AtNewB P N o Next g w) : g.status = .running := h.1
end
end Go.Proofs.Ytdafpnpfcmgfcab
namespace Go.Proofs.Ytdafpnpfcmgfcab
open Go Go.Conc Go.ConcN
open Go.ConcR (KK wgBlock WgAt stA smA rd wr mk Payload DC0 Bk g_of_ofEvents)

theorem any_rely {R : World → World → Prop} {w w₁ : World} (h : True) (_ : R w w₁) : True := h

theorem goes_imp {P : Program} {main : Bool} {R : World → World → Prop} {D : World → World → Array Event → Prop} {A B : Goroutine → World → Prop} (hAB : ∀ g w, A g w → B g w) : ∀ (n : Nat) (g : Goroutine) (w : World), Goes P main R D A n g w → Goes P main R D B n g w := by
  intro n
  induction n with
  | zero => exact fun g w h w₁ h₁ => hAB _ _ (h w₁ h₁)
  | succ n ih =>
    intro g w h
    rcases h with h | ⟨hr, h⟩
    · exact .inl fun w₁ h₁ => hAB _ _ (h w₁ h₁)
    · refine .inr ⟨hr, fun w₁ h₁ => ?_⟩
      obtain ⟨g', w', es, e, hd, hg⟩ := goes_elim (h w₁ h₁)
      rw [e]
      exact ⟨hd, ih g' w' hg⟩

section
variable {P : Program} {ty : TypeId} {Wg : Nat} {A B : Goroutine → World → Prop}
theorem AtWord.mono {mm : Mark} (hAB : ∀ g w, A g w → B g w) {g : Goroutine} {w : World} (h : AtWord P ty Wg mm A g w) : AtWord P ty Wg mm B g w := by
  obtain ⟨h1, g', h2, k, h3⟩ := h
  exact ⟨h1, g', h2, k, goes_imp hAB k g' w h3⟩
theorem AtMid.mono (hAB : ∀ g w, A g w → B g w) {g : Goroutine} {w : World} (h : AtMid P ty Wg A g w) : AtMid P ty Wg B g w := by
  rcases h with h | h
  · exact .inl (h.mono fun _ _ x => x.mono hAB)
  · exact .inr (h.mono hAB)
theorem AtPlus.mono (hAB : ∀ g w, A g w → B g w) {g : Goroutine} {w : World} (h : AtPlus P ty Wg A g w) : AtPlus P ty Wg B g w := by
  obtain ⟨h1, h2⟩ := h
  refine ⟨h1, fun v hv hw => ?_⟩
  obtain ⟨g', h3, k, h4⟩ := h2 v hv hw
  exact ⟨g', h3, k, goes_imp (fun _ _ x => AtMid.mono hAB x) k g' _ h4⟩
theorem goesE_imp (hAB : ∀ g w, A g w → B g w) {g : Goroutine} {w : World} (h : ∃ k, Goes P true (RS ty Wg) DC0 A k g w) : ∃ k, Goes P true (RS ty Wg) DC0 B k g w := let ⟨k, h⟩ := h; ⟨k, goes_imp hAB k g w h⟩
theorem AtJoin.mono (hAB : ∀ g w, A g w → B g w) {g : Goroutine} {w : World} (h : AtJoin P ty Wg A g w) : AtJoin P ty Wg B g w := AtWord.mono (fun _ _ x => x.mono hAB) h
theorem AtLook.mono (hAB : ∀ g w, A g w → B g w) {g : Goroutine} {w : World} (h : AtLook P ty Wg A g w) : AtLook P ty Wg B g w :=
  ⟨h.1, fun hw => let ⟨g', h1, h2⟩ := h.2 hw; ⟨g', h1, goesE_imp (fun _ _ x => AtJoin.mono hAB x) h2⟩⟩
theorem AtSem.mono (hAB : ∀ g w, A g w → B g w) {g : Goroutine} {w : World} (h : AtSem P ty Wg A g w) : AtSem P ty Wg B g w :=
  ⟨h.1, h.2.1, h.2.2.1, fun hw => let ⟨g', h1, h2⟩ := h.2.2.2 hw; ⟨g', h1, goesE_imp (fun _ _ x => AtLook.mono hAB x) h2⟩⟩
theorem AtCas.mono {C D : Goroutine → World → Prop} (hAB : ∀ g w, A g w → B g w) (hCD : ∀ g w, C g w → D g w) {vs : Nat} {g : Goroutine} {w : World} (h : AtCas P ty Wg A C vs g w) : AtCas P ty Wg B D vs g w :=
  ⟨h.1, fun v hv hw => ⟨fun e => let ⟨g', h1, h2⟩ := (h.2 v hv hw).1 e; ⟨g', h1, goesE_imp (fun _ _ x => AtWord.mono (fun _ _ y => AtSem.mono hAB y) x) h2⟩, fun e => let ⟨g', h1, h2⟩ := (h.2 v hv hw).2 e; ⟨g', h1, goesE_imp hCD h2⟩⟩⟩
theorem AtSee.mono {C D : Goroutine → World → Prop} (hAB : ∀ g w, A g w → B g w) (hCD : ∀ g w, C g w → D g w) {g : Goroutine} {w : World} (h : AtSee P ty Wg A C g w) : AtSee P ty Wg B D g w :=
  ⟨h.1, fun v hv hw => let ⟨g', h1, h2, h3⟩ := h.2 v hv hw; ⟨g', h1, fun e => goesE_imp (fun _ _ x => AtJoin.mono hAB x) (h2 e), fun e => goesE_imp (fun _ _ x => AtCas.mono hAB hCD x) (h3 e)⟩⟩
end

section
variable [Payload] {P : Program} {ty nty : TypeId} {S : Nat → Prop} {B0 base : Nat} {bit : Nat → Nat} {T0 N0 : Nat} {j : Nat} {tag : CTag} {d0 : Nat} {a : Goroutine} {v : World} {vm : Nat} {m : Machine} {t : Trace}

theorem Here.mid {Next : Goroutine → World → Prop} {r : Nat} (h : Here P ty nty S B0 base bit T0 N0 j (.sp r 3) 1 a v vm m t) (hs : ∀ w₁, WgLive ty (B0 + 2) w₁ → AtMid P ty (B0 + 2) Next a w₁) (hj : j + 1 < 2147483648) (hbits : ∀ Ad', N0 + bitsIn bit j Ad' < 4294967296) :
    Rch P m t (fun m' t' => ∃ a', (∀ w₁, WgLive ty (B0 + 2) w₁ → Next a' w₁) ∧ Here P ty nty S B0 base bit T0 N0 j (.sp r 3) 0 a' v vm m' t') := by
  have hrun := h.run hs (fun _ x => by rcases x with x | x <;> exact x.1)
  have hjp : j + pend (.sp r 3) < 2147483648 := by simp [pend]; omega
  refine (h.step hrun (by simp) hjp hbits (Nx := fun a' tag' d0' v' vm' => tag' = .sp r 3 ∧ v' = v ∧ vm' = vm ∧ ((d0' = 1 ∧ ∃ k w1, Goes P true (RS ty (B0 + 2)) DC0 (AtWord P ty (B0 + 2) .enable Next) k a' w1) ∨ (d0' = 0 ∧ ∃ k w1, Goes P true (RS ty (B0 + 2)) DC0 Next k a' w1))) fun w t D Ad q st sm gs hc hcp hv => ?_).trans fun m' t' hx => ?_
  · rcases hs w ⟨_, _, hc.wg⟩ with ⟨_, g', hgo, k, hk⟩ | ⟨_, g', hgo, k, hk⟩
    · obtain ⟨h1, h2⟩ := word_touch (S := S) (base := base) (B0 := B0) (mm := .read ⟨B0 + 2, 1, none⟩) (.inr (.inr (.inr (.inl rfl)))) (B := w.heap.size) (k := base + j - 1) (by have := hc.room; omega) (fn := a.frame.fn) (pos := a.frame.place)
      exact ⟨g', w, _, .sp r 3, st, sm, v, vm, hgo, leaves_refl w, h1, h2, hc.wg, hc.mode, hcp, hv, rfl, rfl, rfl, .inl ⟨rfl, k, w, hk⟩⟩
    · obtain ⟨h1, h2⟩ := word_touch (S := S) (base := base) (B0 := B0) (mm := .enable) (.inr (.inl rfl)) (B := w.heap.size) (k := base + j - 1) (by have := hc.room; omega) (fn := a.frame.fn) (pos := a.frame.place)
      exact ⟨g', w, _, .sp r 3, st, sm, v, vm, hgo, leaves_refl w, h1, h2, hc.wg, hc.mode, hcp, hv, rfl, rfl, rfl, .inr ⟨rfl, k, w, hk⟩⟩
  · obtain ⟨a', tag', d0', v', vm', ⟨rfl, rfl, rfl, hx⟩, h'⟩ := hx
    rcases hx with ⟨rfl, k, w1, hk⟩ | ⟨rfl, k, w1, hk⟩
    · refine (Here.goes (by simp) hjp hbits k a' w1 m' t' hk h').trans fun m2 t2 ⟨a2, hs2, h2⟩ => ?_
      exact h2.word hs2 (.inr (.inl rfl)) (by simp) hjp hbits
    · exact Here.goes (by simp) hjp hbits k a' w1 m' t' hk h'

/-- The whole of Add(1). -/
theorem Here.add {Next : Goroutine → World → Prop} {r : Nat} (h : Here P ty nty S B0 base bit T0 N0 j (.sp r 5) 0 a v vm m t) (hs : ∀ w₁, WgLive ty (B0 + 2) w₁ → AtWord P ty (B0 + 2) .disable (AtPlus P ty (B0 + 2) Next) a w₁) (hj : j + 1 < 2147483648) (hbits : ∀ Ad', N0 + bitsIn bit j Ad' < 4294967296) :
    Rch P m t (fun m' t' => ∃ a', (∀ w₁, WgLive ty (B0 + 2) w₁ → Next a' w₁) ∧ Here P ty nty S B0 base bit T0 N0 j (.sp r 3) 0 a' v vm m' t') := by
  refine (h.word hs (.inl rfl) (by simp) (by simp [pend]; omega) hbits).trans fun m1 t1 ⟨a1, hs1, h1⟩ => ?_
  exact (Here.plus h1 hs1 hj hbits).trans fun m2 t2 ⟨a2, hs2, h2⟩ => h2.mid hs2 hj hbits
end
end Go.Proofs.Ytdafpnpfcmgfcab
namespace Go.Proofs.Ytdafpnpfcmgfcab
open Go Go.Conc Go.ConcN
open Go.ConcR (KK wgBlock WgAt stA smA rd wr mk Payload DC0 Bk g_of_ofEvents)

/-- Where the law's own memory begins. -/
class Floor where
  low : Nat
/-- Goroutine 0 stands here, all others only leave; 'v' is what the lone run sees; what is shunned is new. -/
def AtM [Floor] (P : Program) (g : Goroutine) (v : World) (m : Machine) (t : Trace) : Prop := ∃ S n w, (1 ≤ n ∧ ∀ b, S b → Floor.low ≤ b) ∧ Cp S v w ∧ Beside P S n g w m t

/-- What the lone run sees while j workers are started. -/
structure Vj (v : World) (lookv : Value) (lty : TypeId) (j : Nat) (u : World) : Prop where
  size : u.heap.size = v.heap.size + 3 + j
  low : ∀ b, b < v.heap.size → u.heap[b]? = v.heap[b]?
  box : u.heap[v.heap.size]? = some (.cells #[lookv] lty)
  os : u.os = v.os
  output : u.output = v.output

section
variable {P : Program} {S : Nat → Prop} {B0 : Nat} {v w : World}
theorem sj0 : SJ S B0 0 = S3 S B0 := by
  funext b
  refine propext ⟨fun h => ?_, .inl⟩
  rcases h with h | ⟨i, hi, _⟩
  · exact h
  · exact absurd hi (Nat.not_lt_zero _)

/-- A row is shunned from now on. -/
theorem Cp.shun {b : Nat} {c : Array Value} {ty : TypeId} (h : Cp S v w) (hb : ¬ S b) (hw : w.heap[b]? = some (.cells c ty)) : Cp (fun x => S x ∨ x = b) { v with heap := v.heap.setIfInBounds b (.cells #[] ty) } w := by
  have hlt : b < w.heap.size := (Array.getElem?_eq_some_iff.1 hw).1
  have hltv : b < v.heap.size := by rw [h.size]; exact hlt
  refine ⟨by simpa using h.size, fun x hx => ?_, fun x hx => ?_, fun x hx => ?_, h.os, h.output⟩
  · rcases hx with hx | rfl
    · simpa using h.low x hx
    · simpa using hltv
  · have h1 : ¬ S x := fun y => hx (.inl y)
    have h2 : b ≠ x := fun y => hx (.inr y.symm)
    show (v.heap.setIfInBounds b _)[x]? = _
    rw [Array.getElem?_setIfInBounds_ne h2]
    exact h.out x h1
  · by_cases hxb : x = b
    · subst hxb
      refine ⟨ty, c, (0, 0), ?_, hw⟩
      show (v.heap.setIfInBounds x _)[x]? = _
      simp [hltv]
    · obtain ⟨t, c', f, e1, e2⟩ := h.brk x (hx.resolve_right hxb)
      refine ⟨t, c', f, ?_, e2⟩
      show (v.heap.setIfInBounds b _)[x]? = _
      rw [Array.getElem?_setIfInBounds_ne (Ne.symm hxb)]
      exact e1
theorem Cp.same_set {S' : Nat → Prop} (h : Cp S v w) (e : ∀ b, S b ↔ S' b) : Cp S' v w := by
  have : S = S' := funext fun b => propext (e b)
  rw [← this]; exact h
theorem cellv_lt {b k : Nat} {x : Value} (hx : v.cell? ⟨b, k, none⟩ = some x) : b < v.heap.size := by
  unfold World.cell? at hx
  cases hb : v.heap[b]? with
  | none => simp [hb] at hx
  | some o => exact (Array.getElem?_eq_some_iff.1 hb).1
/-- What the lone run sees stands in the company's world too, and at no shunned place. -/
theorem Cp.knows (h : Cp S v w) {b k : Nat} {x : Value} (hx : v.cell? ⟨b, k, none⟩ = some x) : ¬ S b ∧ w.cell? ⟨b, k, none⟩ = some x ∧ b < v.heap.size := by
  have hn : ¬ S b := fun hs => by rw [h.cellS (a := ⟨b, k, none⟩) hs] at hx; cases hx
  exact ⟨hn, by rw [← h.cell (a := ⟨b, k, none⟩) hn]; exact hx, cellv_lt hx⟩
end

section
variable [Payload] {P : Program} {ty nty : TypeId} {S : Nat → Prop} {B0 base : Nat} {bit : Nat → Nat} {T0 N0 : Nat} {a : Goroutine} {v : World} {vm : Nat} {m : Machine} {t : Trace} {tag : CTag}
/-- The crew is done. -/
theorem Here.over [Floor] (hS : ∀ b, S b → Floor.low ≤ b) (hB : Floor.low ≤ B0) (h : Here P ty nty S B0 base bit T0 N0 0 tag 0 a v vm m t) : AtM P a v m t := by
  obtain ⟨gs, w, sl, D, Ad, q, st, sm, rfl, h0, hc, hcp, hv⟩ := h
  obtain ⟨hL, hT⟩ := hc.free
  refine ⟨S3 S B0, gs.size, w, ⟨(Array.getElem?_eq_some_iff.1 h0).1, fun b hb => ?_⟩, by rw [← sj0]; exact hcp, gs, sl, q, w.drawn, rfl, h0, rfl, hL, hT⟩
  rcases hb with hb | hb | hb
  · exact hS b hb
  · omega
  · omega
end
end Go.Proofs.Ytdafpnpfcmgfcab
