/- The starter's own steps between the group's: a new variable, its value, a go statement, a look at the number. -/
import Derived.Test.YteaincbmnhehcabCrew13
namespace Go.Proofs.Yteaincbmnhehcab
open Go Go.Conc Go.ConcN
open Go.ConcR (KK wgBlock WgAt stA smA rd wr mk Payload DC0 Bk g_of_ofEvents)

section
variable (P : Program) (ty nty : TypeId) (B0 : Nat)
/-- It makes the variable whose block will be N. -/
def AtNew (N : Nat) (o : Obj) (Next : Goroutine → World → Prop) (g : Goroutine) (w : World) : Prop :=
  g.status = .running ∧ (w.heap.size = N → ∃ g', stepG P true g w = .go g' (w.alloc o) #[] ∧ ∃ k, Goes P true (RS ty (B0 + 2)) DC0 Next k g' (w.alloc o))
/-- It gives the variable its value. -/
def AtStore (N : Nat) (x : Value) (Next : Goroutine → World → Prop) (g : Goroutine) (w : World) : Prop :=
  g.status = .running ∧ ((∃ u t, w.heap[N]? = some (.cells #[u] t)) → ∃ g', stepG P true g w = .go g' (w.setCell ⟨N, 0, none⟩ x) #[⟨.cell ⟨N, 0, none⟩, true, false⟩] ∧ ∃ k, Goes P true (RS ty (B0 + 2)) DC0 Next k g' (w.setCell ⟨N, 0, none⟩ x))
def AtSpawn (child : Goroutine) (Next : Goroutine → World → Prop) (g : Goroutine) (w : World) : Prop :=
  g.status = .running ∧ ∃ g', stepG P true g w = .spawn g' child w #[] ∧ ∃ k, Goes P true (RS ty (B0 + 2)) DC0 Next k g' w
def AtRead (Next : Nat → Goroutine → World → Prop) (g : Goroutine) (w : World) : Prop :=
  g.status = .running ∧ ∀ N, NAt nty B0 N w → ∃ g', stepG P true g w = .go g' w #[rd (nA B0)] ∧ ∃ k, Goes P true (RS ty (B0 + 2)) DC0 (Next N) k g' w
end

theorem get_push {h : Array Obj} {o : Obj} {b : Nat} (hb : b < h.size) : (h.push o)[b]? = h[b]? := by
  rw [Array.getElem?_push]; simp; omega

section
variable [Payload] {P : Program} {ty nty : TypeId} {S : Nat → Prop} {B0 base : Nat} {bit : Nat → Nat} {T0 N0 : Nat} {j : Nat} {tag : CTag} {d0 : Nat} {a : Goroutine} {v : World} {vm : Nat} {m : Machine} {t : Trace}

theorem Here.run {Q : Goroutine → World → Prop} (h : Here P ty nty S B0 base bit T0 N0 j tag d0 a v vm m t) (hs : ∀ w₁, WgLive ty (B0 + 2) w₁ → Q a w₁) (hq : ∀ w, Q a w → a.status = .running) : a.status = .running := by
  obtain ⟨gs, w, sl, D, Ad, q, st, sm, _, _, hc, _⟩ := h
  exact hq _ (hs w ⟨_, _, hc.wg⟩)

theorem Here.new {N : Nat} {o : Obj} {Next : Goroutine → World → Prop} (h : Here P ty nty S B0 base bit T0 N0 j tag d0 a v vm m t) (hs : ∀ w₁, WgLive ty (B0 + 2) w₁ → AtNew P ty B0 N o Next a w₁) (hN : v.heap.size = N) (ho : veil o = o)
    (hne : tag ≠ .blk) (hj : j + pend tag < 2147483648) (hbits : ∀ Ad', N0 + bitsIn bit j Ad' < 4294967296) :
    Rch P m t (fun m' t' => ∃ a', (∀ w₁, WgLive ty (B0 + 2) w₁ → Next a' w₁) ∧ Here P ty nty S B0 base bit T0 N0 j tag d0 a' (v.alloc o) vm m' t') := by
  have hrun := h.run hs (fun _ x => x.1)
  refine (h.step hrun hne hj hbits (Nx := fun a' tag' d0' v' vm' => (∃ k w1, Goes P true (RS ty (B0 + 2)) DC0 Next k a' w1) ∧ tag' = tag ∧ d0' = d0 ∧ v' = v.alloc o ∧ vm' = vm) fun w t D Ad q st sm gs hc hcp hv => ?_).trans fun m' t' hx => by
      obtain ⟨a', tag', d0', v', vm', ⟨⟨k, w1, hg'⟩, rfl, rfl, rfl, rfl⟩, h'⟩ := hx
      exact Here.goes hne hj hbits k a' w1 m' t' hg' h'
  obtain ⟨_, hx⟩ := hs w ⟨_, _, hc.wg⟩
  obtain ⟨g', hgo, k, hk⟩ := hx (hcp.size.symm.trans hN)
  have hroom := hc.room
  refine ⟨g', _, _, tag, st, sm, v.alloc o, vm, hgo, ⟨fun b hb => get_push (by omega), fun i hi => get_push (by omega), get_push (by omega), show w.heap.size ≤ (w.heap.push o).size by simp⟩, fun op hop => by rw [ofEvents_eq] at hop; simp at hop, by simp, hc.wg.of_block (get_push (by omega)), hc.mode, hcp.push ho, hv, ⟨k, _, hk⟩, rfl, rfl, rfl, rfl⟩

theorem Here.store {x u : Value} {tt : TypeId} {Next : Goroutine → World → Prop} (h : Here P ty nty S B0 base bit T0 N0 j tag d0 a v vm m t) (hs : ∀ w₁, WgLive ty (B0 + 2) w₁ → AtStore P ty B0 (B0 + 3 + j) x Next a w₁) (hv0 : v.heap[B0 + 3 + j]? = some (.cells #[u] tt)) (hS : ∀ b, S b → b < B0)
    (hne : tag ≠ .blk) (hj : j + pend tag < 2147483648) (hbits : ∀ Ad', N0 + bitsIn bit j Ad' < 4294967296) :
    Rch P m t (fun m' t' => ∃ a', (∀ w₁, WgLive ty (B0 + 2) w₁ → Next a' w₁) ∧ Here P ty nty S B0 base bit T0 N0 j tag d0 a' (v.setCell ⟨B0 + 3 + j, 0, none⟩ x) vm m' t') := by
  have hrun := h.run hs (fun _ x => x.1)
  have hnS : ¬ SJ S B0 j (B0 + 3 + j) := by
    rintro ((h | h | h) | ⟨i, hi, h⟩)
    · have := hS _ h; omega
    · omega
    · omega
    · omega
  refine (h.step hrun hne hj hbits (Nx := fun a' tag' d0' v' vm' => (∃ k w1, Goes P true (RS ty (B0 + 2)) DC0 Next k a' w1) ∧ tag' = tag ∧ d0' = d0 ∧ v' = v.setCell ⟨B0 + 3 + j, 0, none⟩ x ∧ vm' = vm) fun w t D Ad q st sm gs hc hcp hv => ?_).trans fun m' t' hx => by
      obtain ⟨a', tag', d0', v', vm', ⟨⟨k, w1, hg'⟩, rfl, rfl, rfl, rfl⟩, h'⟩ := hx
      exact Here.goes hne hj hbits k a' w1 m' t' hg' h'
  have hw0 : w.heap[B0 + 3 + j]? = some (.cells #[u] tt) := by
    have := hcp.out _ hnS
    rw [hv0] at this
    obtain ⟨o, ho, hvo⟩ := Option.map_eq_some_iff.1 this.symm
    rw [ho, veil_cells.1 hvo]
  obtain ⟨_, hx⟩ := hs w ⟨_, _, hc.wg⟩
  obtain ⟨g', hgo, k, hk⟩ := hx ⟨u, tt, hw0⟩
  have hlt : B0 + 3 + j < w.heap.size := (Array.getElem?_eq_some_iff.1 hw0).1
  have hA := aside_setCell w ⟨B0 + 3 + j, 0, none⟩ x
  refine ⟨g', _, _, tag, st, sm, v.setCell ⟨B0 + 3 + j, 0, none⟩ x, vm, hgo, ⟨fun b hb => hA.block b (by simp; omega), fun i hi => hA.block _ (by simp; omega), hA.block _ (by simp; omega), Nat.le_of_eq hA.size.symm⟩, fun op hop => ?_, by simp, hc.wg.of_block (hA.block _ (by simp; omega)), hc.mode, hcp.setCell hnS x, hv, ⟨k, _, hk⟩, rfl, rfl, rfl, rfl⟩
  obtain ⟨e, he, rfl⟩ := Go.Conc.mem_ofEvents hop
  obtain rfl : e = ⟨.cell ⟨B0 + 3 + j, 0, none⟩, true, false⟩ := by simpa using he
  have key : ∀ y, (MemAct.ofEvent ⟨.cell ⟨B0 + 3 + j, 0, none⟩, true, false⟩).touch? = some y → y.loc = .cell ⟨B0 + 3 + j, 0, none⟩ := fun y hy => by
    simp only [MemAct.ofEvent, MemAct.touch?, Option.some.injEq] at hy
    subst hy; rfl
  refine ⟨⟨rfl, fun y hy => .inr ?_⟩, fun y hy => ?_⟩
  · rw [key y hy]
    refine ⟨?_, fun _ _ _ h => h, fun _ k hk1 hk2 hrd => ?_⟩
    · rintro ⟨b, hb, hs⟩
      cases hb
      exact hnS (.inl hs)
    · obtain ⟨hb, b, hb', h1, _⟩ := hrd
      cases hb'
      simp at h1
      have := hc.base1
      omega
  · rw [key y hy]
    rw [hA.size]
    exact hlt

/-- A go statement, and on. -/
theorem Here.start {r m0 : Nat} {ad : Bool} {child : Goroutine} {v2 : World} {Next : Goroutine → World → Prop} (h : Here P ty nty S B0 base bit T0 N0 j (.sp r 3) 0 a v vm m t) (hs : ∀ w₁, WgLive ty (B0 + 2) w₁ → AtSpawn P ty B0 child Next a w₁)
    (hc : ∀ w, Cp (SJ S B0 j) v w → WgLive ty (B0 + 2) w → WkS P ty nty S B0 base bit j ad 7 m0 0 child w) (hbit : ad = true → bit j = 0) (hbox : ∀ w, Cp (SJ S B0 j) v w → PayAt (B0 + 3 + j) 1 w ∧ B0 + 3 + (j + 1) ≤ w.heap.size) (hv2 : ∀ w, Cp (SJ S B0 j) v w → Cp (SJ S B0 (j + 1)) v2 w)
    (hj : j + 1 < 2147483648) (hbits : ∀ Ad', N0 + bitsIn bit j Ad' < 4294967296) (hbits' : ∀ Ad', N0 + bitsIn bit (j + 1) Ad' < 4294967296) :
    Rch P m t (fun m' t' => ∃ a', (∀ w₁, WgLive ty (B0 + 2) w₁ → Next a' w₁) ∧ Here P ty nty S B0 base bit T0 N0 (j + 1) (.sp r 5) 0 a' v2 (vm + 1) m' t') := by
  have hrun := h.run hs (fun _ x => x.1)
  obtain ⟨gs, w, sl, D, Ad, q, st, sm, rfl, h0, hcw, hcp, hv⟩ := h
  obtain ⟨N, gs1, w1, sl1, t1, D1, Ad1, q1, st1, sm1, d, sl2, hr, h01, hc1, hsim, hv1, _, hst⟩ := Cw.turn hrun (by simp [pend]; omega) hbits (by simp) D q gs w t Ad st sm sl hcw h0
  have hcp1 := hsim.2 v hcp
  have hlive : WgLive ty (B0 + 2) (w1.at d) := ⟨_, _, hc1.wg⟩
  obtain ⟨hb1, hb2⟩ := hbox _ hcp1
  obtain ⟨ho, hst1, hsm1, _⟩ := hc1.mode.open_inv trivial
  have eV : Vc (j + 1) (upd D1 j ⟨7, m0, 0⟩) = Vc j D1 + 1 := by
    simp only [Vc, sumTo, upd_same]
    rw [sumTo_upd_out D1 _ cnt (Nat.le_refl _)]
    rfl
  have hmode : Go.ConcN.Mode (j + 1) (upd D1 j ⟨7, m0, 0⟩) (.sp r 5) st1 sm1 := by
    subst hsm1
    have e : st1 = ((Vc (j + 1) (upd D1 j ⟨7, m0, 0⟩) + pend (.sp r 5) : Nat) : Int) * KK := by
      rw [hst1, eV]; simp [pend]
    rw [e]
    refine .opn trivial (fun i hi => ?_) (fun vs h => by cases h)
    rw [upd_stage]
    split
    · simp
    · exact ho i (by omega)
  obtain ⟨_, g', hgo, k, hk⟩ := hs _ hlive
  obtain ⟨gs2, u, hr2, h02, hc2⟩ := hc1.spawn h01 hgo (hc _ hcp1 hlive) hbit hb1 hmode hb2 sl2
  have hH : Here P ty nty S B0 base bit T0 N0 (j + 1) (.sp r 5) 0 g' v2 (vm + 1) (crowd gs2 (w1.at d) sl2) (t1 ++ u) := ⟨gs2, _, sl2, _, _, q1, st1, sm1, rfl, h02, hc2, hv2 _ hcp1, by rw [eV]; omega⟩
  have hone : runNT P (N + 1) (crowd gs w sl) t = (.next (crowd gs2 (w1.at d) sl2), t1 ++ u) := by
    rw [runNT_more N 1 _ _ _ _ hr]
    simp only [runNT, hst, hr2]
  exact Rch.trans ⟨N + 1, _, _, hone, hH⟩ fun m3 t3 h3 => Here.goes (by simp) (by simp [pend]; omega) hbits' k g' _ m3 t3 hk h3

/-- It looks at the number, the crew being done. -/
theorem Here.read {Next : Nat → Goroutine → World → Prop} (h : Here P ty nty S B0 base bit T0 N0 0 .ke 0 a v vm m t) (hs : ∀ w₁, WgLive ty (B0 + 2) w₁ → AtRead P ty nty B0 Next a w₁) (hbits : N0 < 4294967296) :
    Rch P m t (fun m' t' => ∃ a', (∀ w₁, WgLive ty (B0 + 2) w₁ → Next N0 a' w₁) ∧ Here P ty nty S B0 base bit T0 N0 0 .ke 0 a' v vm m' t') := by
  have hrun := h.run hs (fun _ x => x.1)
  have hb0 : ∀ Ad', N0 + bitsIn bit 0 Ad' < 4294967296 := fun Ad' => by simpa [bitsIn, sumTo] using hbits
  refine (h.step hrun (by simp) (by simp [pend]) hb0 (Nx := fun a' tag' d0' v' vm' => (∃ k w1, Goes P true (RS ty (B0 + 2)) DC0 (Next N0) k a' w1) ∧ tag' = .ke ∧ d0' = 0 ∧ v' = v ∧ vm' = vm) fun w t D Ad q st sm gs hc hcp hv => ?_).trans fun m' t' hx => by
      obtain ⟨a', tag', d0', v', vm', ⟨⟨k, w1, hg'⟩, rfl, rfl, rfl, rfl⟩, h'⟩ := hx
      exact Here.goes (by simp) (by simp [pend]) hb0 k a' w1 m' t' hg' h'
  obtain ⟨_, hx⟩ := hs w ⟨_, _, hc.wg⟩
  have hno : NAt nty B0 N0 w := by simpa [bitsIn, sumTo] using hc.noted
  obtain ⟨g', hgo, k, hk⟩ := hx N0 hno
  have hroom := hc.room
  refine ⟨g', w, _, .ke, st, sm, v, vm, hgo, leaves_refl w, fun op hop => ?_, by simp [rd], hc.wg, hc.mode, hcp, hv, ⟨k, w, hk⟩, rfl, rfl, rfl, rfl⟩
  obtain ⟨e, he, rfl⟩ := Go.Conc.mem_ofEvents hop
  obtain rfl : e = rd (nA B0) := by simpa using he
  have key : ∀ y, (MemAct.ofEvent (rd (nA B0))).touch? = some y → y.loc = .cell (nA B0) ∧ y.kind ≠ .plain := fun y hy => by
    simp only [rd, MemAct.ofEvent, MemAct.touch?, Option.some.injEq] at hy
    subst hy
    exact ⟨rfl, by simp⟩
  refine ⟨⟨rfl, fun y hy => .inl ?_⟩, fun y hy => ?_⟩
  · obtain ⟨h1, h2⟩ := key y hy
    exact ⟨⟨_, h1, .inr (.inl rfl)⟩, h2⟩
  · rw [(key y hy).1]
    show B0 + 1 < w.heap.size
    omega
end
end Go.Proofs.Yteaincbmnhehcab
