/- The starter's own steps between the group's: a new variable, its value, a go statement, a look at the number. Beside leavers: a new variable. What follows a stop may be said anew; the way through Add. Between calls: goroutine 0 beside leavers, and what the lone run sees. The group's library in this program. A call of a function value, in company. -/
import Derived.Test.YtdafpnpfcmgfcaaGreatDoorKe10
import Derived.Test.YtdafpnpfcmgfcaaGreatDoorChecked
import Derived.Conc.WgGenN3
import Derived.Conc.CompanyMem
namespace Go.Proofs.YtdafpnpfcmgfcaaGreatDoor
section
open Go Go.Conc Go.ConcN
open Go.ConcR (KK wgBlock WgAt stA smA rd wr mk Payload DC0 Bk g_of_ofEvents)
section
variable (P : Program) (ty nty : TypeId) (B0 : Nat)
def AtNew (N : Nat) (o : Obj) (Next : Goroutine → World → Prop) (g : Goroutine) (w : World) : Prop :=
 g.status = .running ∧ (w.heap.size = N → ∃ g', stepG P true g w = .go g' (w.alloc o) #[] ∧ ∃ k, Goes P true (RS ty (B0 + 2)) DC0 Next k g' (w.alloc o))
def AtStore (N : Nat) (x : Value) (Next : Goroutine → World → Prop) (g : Goroutine) (w : World) : Prop :=
 g.status = .running ∧ ((∃ u t, w.heap[N]? = some (.cells #[u] t)) → ∃ g', stepG P true g w = .go g' (w.setCell ⟨N, 0, none⟩ x) #[⟨.cell ⟨N, 0, none⟩, true, false⟩] ∧ ∃ k, Goes P true (RS ty (B0 + 2)) DC0 Next k g' (w.setCell ⟨N, 0, none⟩ x))
def AtSpawn (child : Goroutine) (Next : Goroutine → World → Prop) (g : Goroutine) (w : World) : Prop :=
 g.status = .running ∧ ∃ g', stepG P true g w = .spawn g' child w #[] ∧ ∃ k, Goes P true (RS ty (B0 + 2)) DC0 Next k g' w
def AtRead (Next : Nat → Goroutine → World → Prop) (g : Goroutine) (w : World) : Prop :=
 g.status = .running ∧ ∀ N, NAt nty B0 N w → ∃ g', stepG P true g w = .go g' w #[rd (nA B0)] ∧ ∃ k, Goes P true (RS ty (B0 + 2)) DC0 (Next N) k g' w
end
theorem get_push {h : Array Obj} {o : Obj} {b : Nat} (hb : b < h.size) : (h.push o)[b]? = h[b]? := by
 rw [Array.getElem?_push]; simp; omega
section
variable [Payload] {P : Program} {ty nty : TypeId} {S : Sh} {B0 base : Nat} {bit : Nat → Nat} {T0 N0 : Nat} {j : Nat} {tag : CTag} {d0 : Nat} {a : Goroutine} {v : World} {vm : Nat} {m : Machine} {t : Trace}
theorem Here.run {Q : Goroutine → World → Prop} (h : Here P ty nty S B0 base bit T0 N0 j tag d0 a v vm m t) (hs : ∀ w₁, WgLive ty (B0 + 2) w₁ → Q a w₁) (hq : ∀ w, Q a w → a.status = .running) : a.status = .running := by
 obtain ⟨gs, w, sl, D, Ad, q, st, sm, _, _, hc, _⟩ := h
 exact hq _ (hs w ⟨_, _, hc.wg⟩)
theorem Here.new {N : Nat} {o : Obj} {Next : Goroutine → World → Prop} (h : Here P ty nty S B0 base bit T0 N0 j tag d0 a v vm m t) (hs : ∀ w₁, WgLive ty (B0 + 2) w₁ → AtNew P ty B0 N o Next a w₁) (hN : v.heap.size = N) (ho : odd o = false)
  (hne : tag ≠ .blk) (hj : j + pend tag < 2147483648) (hbits : ∀ Ad', N0 + bitsIn bit j Ad' < 4294967296) :
  Rch P m t (fun m' t' => ∃ a', (∀ w₁, WgLive ty (B0 + 2) w₁ → Next a' w₁) ∧ Here P ty nty S B0 base bit T0 N0 j tag d0 a' (v.alloc o) vm m' t') := by
 have hrun := h.run hs (fun _ x => x.1)
 refine (h.step hrun hne hj hbits (Nx := fun a' tag' d0' v' vm' => (∃ k w1, Goes P true (RS ty (B0 + 2)) DC0 Next k a' w1) ∧ tag' = tag ∧ d0' = d0 ∧ v' = v.alloc o ∧ vm' = vm) fun w t D Ad q st sm gs hc hcp hv => ?_).trans fun m' t' hx => by
   obtain ⟨a', tag', d0', v', vm', ⟨⟨k, w1, hg'⟩, rfl, rfl, rfl, rfl⟩, h'⟩ := hx
   exact Here.goes hne hj hbits k a' w1 m' t' hg' h'
 obtain ⟨_, hx⟩ := hs w ⟨_, _, hc.wg⟩
 obtain ⟨g', hgo, k, hk⟩ := hx (hcp.size.symm.trans hN)
 have hroom := hc.room
 refine ⟨g', _, _, tag, st, sm, v.alloc o, vm, hgo, ⟨fun b hb => get_push (by omega), fun i hi => get_push (by omega), get_push (by omega), show w.heap.size ≤ (w.heap.push o).size by simp⟩, fun op hop => by rw [ofEvents_eq] at hop; simp at hop, by simp, hc.wg.of_block (get_push (by omega)), hc.mode, hcp.push ho, hv, ⟨k, _, hk⟩, rfl, rfl, rfl, rfl⟩
theorem Here.store {x u : Value} {tt : TypeId} {Next : Goroutine → World → Prop} (h : Here P ty nty S B0 base bit T0 N0 j tag d0 a v vm m t) (hs : ∀ w₁, WgLive ty (B0 + 2) w₁ → AtStore P ty B0 (B0 + 3 + j) x Next a w₁) (hv0 : v.heap[B0 + 3 + j]? = some (.cells #[u] tt)) (hS : ∀ b, S b → b < B0)
  (hne : tag ≠ .blk) (hj : j + pend tag < 2147483648) (hbits : ∀ Ad', N0 + bitsIn bit j Ad' < 4294967296) :
  Rch P m t (fun m' t' => ∃ a', (∀ w₁, WgLive ty (B0 + 2) w₁ → Next a' w₁) ∧ Here P ty nty S B0 base bit T0 N0 j tag d0 a' (v.setCell ⟨B0 + 3 + j, 0, none⟩ x) vm m' t') := by
 have hrun := h.run hs (fun _ x => x.1)
 have hnS : ¬ SJ S B0 j (B0 + 3 + j) := by
  rintro ((h | h | h) | ⟨i, hi, h⟩)
  ·have := hS _ h; omega
  ·omega
  ·omega
  ·omega
 refine (h.step hrun hne hj hbits (Nx := fun a' tag' d0' v' vm' => (∃ k w1, Goes P true (RS ty (B0 + 2)) DC0 Next k a' w1) ∧ tag' = tag ∧ d0' = d0 ∧ v' = v.setCell ⟨B0 + 3 + j, 0, none⟩ x ∧ vm' = vm) fun w t D Ad q st sm gs hc hcp hv => ?_).trans fun m' t' hx => by
   obtain ⟨a', tag', d0', v', vm', ⟨⟨k, w1, hg'⟩, rfl, rfl, rfl, rfl⟩, h'⟩ := hx
   exact Here.goes hne hj hbits k a' w1 m' t' hg' h'
 have hw0 : w.heap[B0 + 3 + j]? = some (.cells #[u] tt) := by
  have := hcp.out _ hnS
  rw [hv0] at this
  obtain ⟨o, ho, hvo⟩ := Option.map_eq_some_iff.1 this.symm
  rw [ho, veil_cells.1 hvo]
 obtain ⟨_, hx⟩ := hs w ⟨_, _, hc.wg⟩
 obtain ⟨g', hgo, k, hk⟩ := hx ⟨u, tt, hw0⟩
 have hlt : B0 + 3 + j < w.heap.size := (Array.getElem?_eq_some_iff.1 hw0).1
 have hA := aside_setCell w ⟨B0 + 3 + j, 0, none⟩ x
 refine ⟨g', _, _, tag, st, sm, v.setCell ⟨B0 + 3 + j, 0, none⟩ x, vm, hgo, ⟨fun b hb => hA.block b (by simp; omega), fun i hi => hA.block _ (by simp; omega), hA.block _ (by simp; omega), Nat.le_of_eq hA.size.symm⟩, fun op hop => ?_, by simp, hc.wg.of_block (hA.block _ (by simp; omega)), hc.mode, hcp.setCell hnS x, hv, ⟨k, _, hk⟩, rfl, rfl, rfl, rfl⟩
 obtain ⟨e, he, rfl⟩ := Go.Conc.mem_ofEvents hop
 obtain rfl : e = ⟨.cell ⟨B0 + 3 + j, 0, none⟩, true, false⟩ := by simpa using he
 have key : ∀ y, (MemAct.ofEvent ⟨.cell ⟨B0 + 3 + j, 0, none⟩, true, false⟩).touch? = some y → y.loc = .cell ⟨B0 + 3 + j, 0, none⟩ := fun y hy => by
  simp only [MemAct.ofEvent, MemAct.touch?, Option.some.injEq] at hy
  subst hy; rfl
 refine ⟨⟨rfl, fun y hy => Or.inr ?_⟩, fun y hy => ?_⟩
 ·rw [key y hy]
  refine ⟨?_, fun _ _ _ h => h, fun _ k hk1 hk2 hrd => ?_⟩
  ·rintro ⟨b, hb, hs⟩
   cases hb
   exact hnS (Or.inl hs)
  ·obtain ⟨hb, b, hb', h1, _⟩ := hrd
   cases hb'
   simp at h1
   have := hc.base1
   omega
 ·rw [key y hy]
  rw [hA.size]
  exact hlt
theorem Here.start {r m0 : Nat} {ad : Bool} {child : Goroutine} {v2 : World} {Next : Goroutine → World → Prop} (h : Here P ty nty S B0 base bit T0 N0 j (.sp r 3) 0 a v vm m t) (hs : ∀ w₁, WgLive ty (B0 + 2) w₁ → AtSpawn P ty B0 child Next a w₁)
  (hc : ∀ w, Cp (SJ S B0 j) v w → WgLive ty (B0 + 2) w → WkS P ty nty S B0 base bit j ad 7 m0 0 child w) (hbit : ad = true → bit j = 0) (hbox : ∀ w, Cp (SJ S B0 j) v w → PayAt (B0 + 3 + j) 1 w ∧ B0 + 3 + (j + 1) ≤ w.heap.size) (hv2 : ∀ w, Cp (SJ S B0 j) v w → Cp (SJ S B0 (j + 1)) v2 w)
  (hj : j + 1 < 2147483648) (hbits : ∀ Ad', N0 + bitsIn bit j Ad' < 4294967296) (hbits' : ∀ Ad', N0 + bitsIn bit (j + 1) Ad' < 4294967296) :
  Rch P m t (fun m' t' => ∃ a', (∀ w₁, WgLive ty (B0 + 2) w₁ → Next a' w₁) ∧ Here P ty nty S B0 base bit T0 N0 (j + 1) (.sp r 5) 0 a' v2 (vm + 1) m' t') := by
 have hrun := h.run hs (fun _ x => x.1)
 obtain ⟨gs, w, sl, D, Ad, q, st, sm, rfl, h0, hcw, hcp, hv⟩ := h
 obtain ⟨N, gs1, w1, sl1, t1, D1, Ad1, q1, st1, sm1, d, sl2, hr, h01, hc1, hsim, hv1, _, hst⟩ := Cw.turn hrun (by simp [pend]; omega) hbits (by simp) D q gs w t Ad st sm sl hcw h0
 have hcp1 := hsim.2 v hcp
 have hlive : WgLive ty (B0 + 2) (w1.at d) := ⟨_, _, hc1.wg⟩
 obtain ⟨hb1, hb2⟩ := hbox _ hcp1
 obtain ⟨ho, hst1, hsm1, _⟩ := hc1.mode.open_inv trivial
 have eV : Vc (j + 1) (upd D1 j ⟨7, m0, 0⟩) = Vc j D1 + 1 := by
  simp only [Vc, sumTo, upd_same]
  rw [sumTo_upd_out D1 _ cnt (Nat.le_refl _)]
  rfl
 have hmode : Go.ConcN.Mode (j + 1) (upd D1 j ⟨7, m0, 0⟩) (.sp r 5) st1 sm1 := by
  subst hsm1
  have e : st1 = ((Vc (j + 1) (upd D1 j ⟨7, m0, 0⟩) + pend (.sp r 5) : Nat) : Int) * KK := by
   rw [hst1, eV]; simp [pend]
  rw [e]
  refine .opn trivial (fun i hi => ?_) (fun vs h => by cases h)
  rw [upd_stage]
  split
  ·simp
  ·exact ho i (by omega)
 obtain ⟨_, g', hgo, k, hk⟩ := hs _ hlive
 obtain ⟨gs2, u, hr2, h02, hc2⟩ := hc1.spawn h01 hgo (hc _ hcp1 hlive) hbit hb1 hmode hb2 sl2
 have hH : Here P ty nty S B0 base bit T0 N0 (j + 1) (.sp r 5) 0 g' v2 (vm + 1) (crowd gs2 (w1.at d) sl2) (t1 ++ u) := ⟨gs2, _, sl2, _, _, q1, st1, sm1, rfl, h02, hc2, hv2 _ hcp1, by rw [eV]; omega⟩
 have hone : runNT P (N + 1) (crowd gs w sl) t = (.next (crowd gs2 (w1.at d) sl2), t1 ++ u) := by
  rw [runNT_more N 1 _ _ _ _ hr]
  simp only [runNT, hst, hr2]
 exact Rch.trans ⟨N + 1, _, _, hone, hH⟩ fun m3 t3 h3 => Here.goes (by simp) (by simp [pend]; omega) hbits' k g' _ m3 t3 hk h3
theorem Here.read {Next : Nat → Goroutine → World → Prop} (h : Here P ty nty S B0 base bit T0 N0 0 .ke 0 a v vm m t) (hs : ∀ w₁, WgLive ty (B0 + 2) w₁ → AtRead P ty nty B0 Next a w₁) (hbits : N0 < 4294967296) :
  Rch P m t (fun m' t' => ∃ a', (∀ w₁, WgLive ty (B0 + 2) w₁ → Next N0 a' w₁) ∧ Here P ty nty S B0 base bit T0 N0 0 .ke 0 a' v vm m' t') := by
 have hrun := h.run hs (fun _ x => x.1)
 have hb0 : ∀ Ad', N0 + bitsIn bit 0 Ad' < 4294967296 := fun Ad' => by simpa [bitsIn, sumTo] using hbits
 refine (h.step hrun (by simp) (by simp [pend]) hb0 (Nx := fun a' tag' d0' v' vm' => (∃ k w1, Goes P true (RS ty (B0 + 2)) DC0 (Next N0) k a' w1) ∧ tag' = .ke ∧ d0' = 0 ∧ v' = v ∧ vm' = vm) fun w t D Ad q st sm gs hc hcp hv => ?_).trans fun m' t' hx => by
   obtain ⟨a', tag', d0', v', vm', ⟨⟨k, w1, hg'⟩, rfl, rfl, rfl, rfl⟩, h'⟩ := hx
   exact Here.goes (by simp) (by simp [pend]) hb0 k a' w1 m' t' hg' h'
 obtain ⟨_, hx⟩ := hs w ⟨_, _, hc.wg⟩
 have hno : NAt nty B0 N0 w := by simpa [bitsIn, sumTo] using hc.noted
 obtain ⟨g', hgo, k, hk⟩ := hx N0 hno
 have hroom := hc.room
 refine ⟨g', w, _, .ke, st, sm, v, vm, hgo, leaves_refl w, fun op hop => ?_, by simp [rd], hc.wg, hc.mode, hcp, hv, ⟨k, w, hk⟩, rfl, rfl, rfl, rfl⟩
 obtain ⟨e, he, rfl⟩ := Go.Conc.mem_ofEvents hop
 obtain rfl : e = rd (nA B0) := by simpa using he
 have key : ∀ y, (MemAct.ofEvent (rd (nA B0))).touch? = some y → y.loc = .cell (nA B0) ∧ y.kind ≠ .plain := fun y hy => by
  simp only [rd, MemAct.ofEvent, MemAct.touch?, Option.some.injEq] at hy
  subst hy
  exact ⟨rfl, by simp⟩
 refine ⟨⟨rfl, fun y hy => Or.inl ?_⟩, fun y hy => ?_⟩
 ·obtain ⟨h1, h2⟩ := key y hy
  exact ⟨⟨_, h1, Or.inr (Or.inl rfl)⟩, h2⟩
 ·rw [(key y hy).1]
  show B0 + 1 < w.heap.size
  omega
end
end
section
open Go Go.Conc Go.ConcN
open Go.ConcR (KK wgBlock WgAt stA smA rd wr mk Payload DC0 Bk g_of_ofEvents)
def RT (_ _ : World) : Prop := True
theorem tt_rely {w w₁ : World} (h : True) (_ : RT w w₁) : True := h
def AtNewB (P : Program) (N : Nat) (o : Obj) (Next : Goroutine → World → Prop) (g : Goroutine) (w : World) : Prop :=
 g.status = .running ∧ (w.heap.size = N → ∃ g', stepG P true g w = .go g' (w.alloc o) #[] ∧ ∃ k, Goes P true RT DC0 Next k g' (w.alloc o))
section
variable {P : Program} {S : Sh} {n : Nat} {a a' : Goroutine} {w w' : World} {m : Machine} {t : Trace}
theorem Beside.new {N : Nat} {o : Obj} {Next : Goroutine → World → Prop} (h : Beside P S n a w m t) (hs : ∀ w₁, AtNewB P N o Next a w₁) (hN : w.heap.size = N) :
  Rch P m t (fun m' t' => ∃ a', (∀ w₁, Next a' w₁) ∧ Beside P S n a' (w.alloc o) m' t') := by
 refine (h.stepN (hs w).1 (Nx := fun a' w' => w' = w.alloc o ∧ ∃ k w1, Goes P true RT DC0 Next k a' w1) fun d => ?_).trans fun m' t' ⟨a', w', ⟨e, k, w1, hg'⟩, h'⟩ => Beside.goes k a' w1 m' t' hg' (by rw [← e]; exact h')
 obtain ⟨_, hx⟩ := hs (w.at d)
 obtain ⟨g', hgo, k, hk⟩ := hx hN
 exact ⟨g', w.alloc o, d, #[], hgo, by simp, show w.heap.size ≤ (w.heap.push o).size by simp, rfl, k, _, hk⟩
end
end
section
open Go Go.Conc Go.ConcN
open Go.ConcR (KK wgBlock WgAt stA smA rd wr mk Payload DC0 Bk g_of_ofEvents)
theorem any_rely {R : World → World → Prop} {w w₁ : World} (h : True) (_ : R w w₁) : True := h
theorem goes_imp {P : Program} {main : Bool} {R : World → World → Prop} {D : World → World → Array Event → Prop} {A B : Goroutine → World → Prop} (hAB : ∀ g w, A g w → B g w) : ∀ (n : Nat) (g : Goroutine) (w : World), Goes P main R D A n g w → Goes P main R D B n g w := by
 intro n
 induction n with
 | zero => exact fun g w h w₁ h₁ => hAB _ _ (h w₁ h₁)
 | succ n ih =>
  intro g w h
  rcases h with h | ⟨hr, h⟩
  ·exact Or.inl fun w₁ h₁ => hAB _ _ (h w₁ h₁)
  ·refine Or.inr ⟨hr, fun w₁ h₁ => ?_⟩
   obtain ⟨g', w', es, e, hd, hg⟩ := goes_elim (h w₁ h₁)
   rw [e]
   exact ⟨hd, ih g' w' hg⟩
section
variable {P : Program} {ty : TypeId} {Wg : Nat} {A B : Goroutine → World → Prop}
theorem AtWord.mono {mm : Mark} (hAB : ∀ g w, A g w → B g w) {g : Goroutine} {w : World} (h : AtWord P ty Wg mm A g w) : AtWord P ty Wg mm B g w := by
 obtain ⟨h1, g', h2, k, h3⟩ := h
 exact ⟨h1, g', h2, k, goes_imp hAB k g' w h3⟩
theorem AtMid.mono (hAB : ∀ g w, A g w → B g w) {g : Goroutine} {w : World} (h : AtMid P ty Wg A g w) : AtMid P ty Wg B g w := by
 rcases h with h | h
 ·exact Or.inl (h.mono fun _ _ x => x.mono hAB)
 ·exact Or.inr (h.mono hAB)
theorem AtPlus.mono (hAB : ∀ g w, A g w → B g w) {g : Goroutine} {w : World} (h : AtPlus P ty Wg A g w) : AtPlus P ty Wg B g w := by
 obtain ⟨h1, h2⟩ := h
 refine ⟨h1, fun v hv hw => ?_⟩
 obtain ⟨g', h3, k, h4⟩ := h2 v hv hw
 exact ⟨g', h3, k, goes_imp (fun _ _ x => AtMid.mono hAB x) k g' _ h4⟩
theorem goesE_imp (hAB : ∀ g w, A g w → B g w) {g : Goroutine} {w : World} (h : ∃ k, Goes P true (RS ty Wg) DC0 A k g w) : ∃ k, Goes P true (RS ty Wg) DC0 B k g w := let ⟨k, h⟩ := h; ⟨k, goes_imp hAB k g w h⟩
theorem AtJoin.mono (hAB : ∀ g w, A g w → B g w) {g : Goroutine} {w : World} (h : AtJoin P ty Wg A g w) : AtJoin P ty Wg B g w := AtWord.mono (fun _ _ x => x.mono hAB) h
theorem AtLook.mono (hAB : ∀ g w, A g w → B g w) {g : Goroutine} {w : World} (h : AtLook P ty Wg A g w) : AtLook P ty Wg B g w :=
 ⟨h.1, fun hw => let ⟨g', h1, h2⟩ := h.2 hw; ⟨g', h1, goesE_imp (fun _ _ x => AtJoin.mono hAB x) h2⟩⟩
theorem AtSem.mono (hAB : ∀ g w, A g w → B g w) {g : Goroutine} {w : World} (h : AtSem P ty Wg A g w) : AtSem P ty Wg B g w :=
 ⟨h.1, h.2.1, h.2.2.1, fun hw => let ⟨g', h1, h2⟩ := h.2.2.2 hw; ⟨g', h1, goesE_imp (fun _ _ x => AtLook.mono hAB x) h2⟩⟩
theorem AtCas.mono {C D : Goroutine → World → Prop} (hAB : ∀ g w, A g w → B g w) (hCD : ∀ g w, C g w → D g w) {vs : Nat} {g : Goroutine} {w : World} (h : AtCas P ty Wg A C vs g w) : AtCas P ty Wg B D vs g w :=
 ⟨h.1, fun v hv hw => ⟨fun e => let ⟨g', h1, h2⟩ := (h.2 v hv hw).1 e; ⟨g', h1, goesE_imp (fun _ _ x => AtWord.mono (fun _ _ y => AtSem.mono hAB y) x) h2⟩, fun e => let ⟨g', h1, h2⟩ := (h.2 v hv hw).2 e; ⟨g', h1, goesE_imp hCD h2⟩⟩⟩
theorem AtSee.mono {C D : Goroutine → World → Prop} (hAB : ∀ g w, A g w → B g w) (hCD : ∀ g w, C g w → D g w) {g : Goroutine} {w : World} (h : AtSee P ty Wg A C g w) : AtSee P ty Wg B D g w :=
 ⟨h.1, fun v hv hw => let ⟨g', h1, h2, h3⟩ := h.2 v hv hw; ⟨g', h1, fun e => goesE_imp (fun _ _ x => AtJoin.mono hAB x) (h2 e), fun e => goesE_imp (fun _ _ x => AtCas.mono hAB hCD x) (h3 e)⟩⟩
end
section
variable [Payload] {P : Program} {ty nty : TypeId} {S : Sh} {B0 base : Nat} {bit : Nat → Nat} {T0 N0 : Nat} {j : Nat} {tag : CTag} {d0 : Nat} {a : Goroutine} {v : World} {vm : Nat} {m : Machine} {t : Trace}
theorem Here.mid {Next : Goroutine → World → Prop} {r : Nat} (h : Here P ty nty S B0 base bit T0 N0 j (.sp r 3) 1 a v vm m t) (hs : ∀ w₁, WgLive ty (B0 + 2) w₁ → AtMid P ty (B0 + 2) Next a w₁) (hj : j + 1 < 2147483648) (hbits : ∀ Ad', N0 + bitsIn bit j Ad' < 4294967296) :
  Rch P m t (fun m' t' => ∃ a', (∀ w₁, WgLive ty (B0 + 2) w₁ → Next a' w₁) ∧ Here P ty nty S B0 base bit T0 N0 j (.sp r 3) 0 a' v vm m' t') := by
 have hrun := h.run hs (fun _ x => by rcases x with x | x <;> exact x.1)
 have hjp : j + pend (.sp r 3) < 2147483648 := by simp [pend]; omega
 refine (h.step hrun (by simp) hjp hbits (Nx := fun a' tag' d0' v' vm' => tag' = .sp r 3 ∧ v' = v ∧ vm' = vm ∧ ((d0' = 1 ∧ ∃ k w1, Goes P true (RS ty (B0 + 2)) DC0 (AtWord P ty (B0 + 2) .enable Next) k a' w1) ∨ (d0' = 0 ∧ ∃ k w1, Goes P true (RS ty (B0 + 2)) DC0 Next k a' w1))) fun w t D Ad q st sm gs hc hcp hv => ?_).trans fun m' t' hx => ?_
 ·rcases hs w ⟨_, _, hc.wg⟩ with ⟨_, g', hgo, k, hk⟩ | ⟨_, g', hgo, k, hk⟩
  ·obtain ⟨h1, h2⟩ := word_touch (S := S) (base := base) (B0 := B0) (mm := .read ⟨B0 + 2, 1, none⟩) (Or.inr (Or.inr (Or.inr (Or.inl rfl)))) (B := w.heap.size) (k := base + j - 1) (by have := hc.room; omega) (fn := a.frame.fn) (pos := a.frame.place)
   exact ⟨g', w, _, .sp r 3, st, sm, v, vm, hgo, leaves_refl w, h1, h2, hc.wg, hc.mode, hcp, hv, rfl, rfl, rfl, Or.inl ⟨rfl, k, w, hk⟩⟩
  ·obtain ⟨h1, h2⟩ := word_touch (S := S) (base := base) (B0 := B0) (mm := .enable) (Or.inr (Or.inl rfl)) (B := w.heap.size) (k := base + j - 1) (by have := hc.room; omega) (fn := a.frame.fn) (pos := a.frame.place)
   exact ⟨g', w, _, .sp r 3, st, sm, v, vm, hgo, leaves_refl w, h1, h2, hc.wg, hc.mode, hcp, hv, rfl, rfl, rfl, Or.inr ⟨rfl, k, w, hk⟩⟩
 ·obtain ⟨a', tag', d0', v', vm', ⟨rfl, rfl, rfl, hx⟩, h'⟩ := hx
  rcases hx with ⟨rfl, k, w1, hk⟩ | ⟨rfl, k, w1, hk⟩
  ·refine (Here.goes (by simp) hjp hbits k a' w1 m' t' hk h').trans fun m2 t2 ⟨a2, hs2, h2⟩ => ?_
   exact h2.word hs2 (Or.inr (Or.inl rfl)) (by simp) hjp hbits
  ·exact Here.goes (by simp) hjp hbits k a' w1 m' t' hk h'
theorem Here.add {Next : Goroutine → World → Prop} {r : Nat} (h : Here P ty nty S B0 base bit T0 N0 j (.sp r 5) 0 a v vm m t) (hs : ∀ w₁, WgLive ty (B0 + 2) w₁ → AtWord P ty (B0 + 2) .disable (AtPlus P ty (B0 + 2) Next) a w₁) (hj : j + 1 < 2147483648) (hbits : ∀ Ad', N0 + bitsIn bit j Ad' < 4294967296) :
  Rch P m t (fun m' t' => ∃ a', (∀ w₁, WgLive ty (B0 + 2) w₁ → Next a' w₁) ∧ Here P ty nty S B0 base bit T0 N0 j (.sp r 3) 0 a' v vm m' t') := by
 refine (h.word hs (Or.inl rfl) (by simp) (by simp [pend]; omega) hbits).trans fun m1 t1 ⟨a1, hs1, h1⟩ => ?_
 exact (Here.plus h1 hs1 hj hbits).trans fun m2 t2 ⟨a2, hs2, h2⟩ => h2.mid hs2 hj hbits
end
end
section
open Go Go.Conc Go.ConcN
open Go.ConcR (KK wgBlock WgAt stA smA rd wr mk Payload DC0 Bk g_of_ofEvents)
class Floor where
 low : Nat
 start : Nat → Option Obj
def AtM [Floor] (P : Program) (g : Goroutine) (v : World) (m : Machine) (t : Trace) : Prop := ∃ S n w, (1 ≤ n ∧ (∀ b, S b → Floor.low ≤ b) ∧ S.start = Floor.start) ∧ Cp S v w ∧ Beside P S n g w m t
structure Vj (v : World) (lookv : Value) (lty : TypeId) (j : Nat) (u : World) : Prop where
 size : u.heap.size = v.heap.size + 3 + j
 low : ∀ b, b < v.heap.size → u.heap[b]? = v.heap[b]?
 box : u.heap[v.heap.size]? = some (.cells #[lookv] lty)
 os : u.os = v.os
 output : u.output = v.output
section
variable {P : Program} {S : Sh} {B0 : Nat} {v w : World}
theorem sj0 : SJ S B0 0 = S3 S B0 := by
 have h : (SJ S B0 0).on = (S3 S B0).on := by
  funext b
  refine propext ⟨fun h => ?_, Or.inl⟩
  rcases h with h | ⟨i, hi, _⟩
  ·exact h
  ·exact absurd hi (Nat.not_lt_zero _)
 show (⟨(SJ S B0 0).on, S.start⟩ : Sh) = ⟨(S3 S B0).on, S.start⟩
 rw [h]
theorem Cp.shun {b : Nat} {c : Array Value} {ty : TypeId} (h : Cp S v w) (hb : ¬ S b) (hw : w.heap[b]? = some (.cells c ty)) : Cp ⟨fun x => S x ∨ x = b, S.start⟩ { v with heap := v.heap.setIfInBounds b (.cells #[] ty) } w := by
 have hlt : b < w.heap.size := (Array.getElem?_eq_some_iff.1 hw).1
 have hltv : b < v.heap.size := by rw [h.size]; exact hlt
 refine ⟨by simpa using h.size, fun x hx => ?_, fun x hx => ?_, fun x hx => ?_, h.os, h.output, fun x o hX hx => ?_, fun a ha => ?_⟩
 ·rcases hx with hx | rfl
  ·simpa using h.low x hx
  ·simpa using hltv
 ·have h1 : ¬ S x := fun y => hx (Or.inl y)
  have h2 : b ≠ x := fun y => hx (Or.inr y.symm)
  show (v.heap.setIfInBounds b _)[x]? = _
  rw [Array.getElem?_setIfInBounds_ne h2]
  exact h.out x h1
 ·by_cases hxb : x = b
  ·subst hxb
   refine ⟨ty, c, (0, 0), ?_, hw⟩
   show (v.heap.setIfInBounds x _)[x]? = _
   simp [hltv]
  ·obtain ⟨t, c', f, e1, e2⟩ := h.brk x (hx.resolve_right hxb)
   refine ⟨t, c', f, ?_, e2⟩
   show (v.heap.setIfInBounds b _)[x]? = _
   rw [Array.getElem?_setIfInBounds_ne (Ne.symm hxb)]
   exact e1
 ·by_cases hxb : x = b
  ·subst hxb
   have e : (v.heap.setIfInBounds x (.cells #[] ty))[x]? = some (.cells #[] ty) := by simp [hltv]
   have hx' : (v.heap.setIfInBounds x (.cells #[] ty))[x]? = some o := hx
   rw [e] at hx'
   exact absurd (Option.some.inj hx' ▸ hX) isX_row
  ·have hx' : (v.heap.setIfInBounds b (.cells #[] ty))[x]? = some o := hx
   rw [Array.getElem?_setIfInBounds_ne (Ne.symm hxb)] at hx'
   exact h.mark x o hX hx'
 ·show (match (v.heap.setIfInBounds b (.cells #[] ty))[a.block]? with | some (.cells _ _ (lo, hi)) => decide (lo ≤ a.off) && decide (a.off < hi) | _ => false) = false
  by_cases hab : a.block = b
  ·rw [hab]
   simp [hltv]
  ·rw [Array.getElem?_setIfInBounds_ne (Ne.symm hab)]
   exact h.cold a (ha.resolve_right hab)
theorem Cp.same_set {S' : Sh} (h : Cp S v w) (e : ∀ b, S b ↔ S' b) (hs : S.start = S'.start) : Cp S' v w := by
 have : S = S' := by
  obtain ⟨a, b⟩ := S
  obtain ⟨a', b'⟩ := S'
  have h1 : a = a' := funext fun x => propext (e x)
  have h2 : b = b' := hs
  rw [h1, h2]
 rw [← this]; exact h
theorem cellv_lt {b k : Nat} {x : Value} (hx : v.cell? ⟨b, k, none⟩ = some x) : b < v.heap.size := by
 unfold World.cell? at hx
 cases hb : v.heap[b]? with
 | none => simp [hb] at hx
 | some o => exact (Array.getElem?_eq_some_iff.1 hb).1
theorem Cp.knows (h : Cp S v w) {b k : Nat} {x : Value} (hx : v.cell? ⟨b, k, none⟩ = some x) : ¬ S b ∧ w.cell? ⟨b, k, none⟩ = some x ∧ b < v.heap.size := by
 have hn : ¬ S b := fun hs => by rw [h.cellS (a := ⟨b, k, none⟩) hs] at hx; cases hx
 exact ⟨hn, by rw [← h.cell (a := ⟨b, k, none⟩) hn]; exact hx, cellv_lt hx⟩
end
section
variable [Payload] {P : Program} {ty nty : TypeId} {S : Sh} {B0 base : Nat} {bit : Nat → Nat} {T0 N0 : Nat} {a : Goroutine} {v : World} {vm : Nat} {m : Machine} {t : Trace} {tag : CTag}
theorem Here.over [Floor] (hS : ∀ b, S b → Floor.low ≤ b) (hst : S.start = Floor.start) (hB : Floor.low ≤ B0) (h : Here P ty nty S B0 base bit T0 N0 0 tag 0 a v vm m t) : AtM P a v m t := by
 obtain ⟨gs, w, sl, D, Ad, q, st, sm, rfl, h0, hc, hcp, hv⟩ := h
 obtain ⟨hL, hT⟩ := hc.free
 refine ⟨S3 S B0, gs.size, w, ⟨(Array.getElem?_eq_some_iff.1 h0).1, fun b hb => ?_, hst⟩, by rw [← sj0]; exact hcp, gs, sl, q, w.drawn, rfl, h0, rfl, hL, hT⟩
 rcases hb with hb | hb | hb
 ·exact hS b hb
 ·omega
 ·omega
end
end
section
open Go Go.Conc
abbrev link : Go.Conc.Lib.WgLink := { add := 113, done := 115, wait := 117, relMerge := 129, disable := 130, enable := 131, inBubble := 132, associate := 133, fatal := 134, uOr := 135, uAdd := 136, raceRead := 137, uLoad := 138, uStore := 139, disassociate := 140, semrelease := 141, acquire := 143, isAssociated := 144, uCas := 145, raceWrite := 146, semacquire := 147, orU64 := 152, addU64 := 153, loadU64 := 154, storeU64 := 155, casU64 := 156, tWgP := 193, tUP := 135, tAssoc := 195, tWg := 172, tAU := 170, tU64 := 168, tUint := 122, tU32 := 119, tPU32 := 199, tPAU := 211, tPU64 := 213, tNoCopy := 166, tANoCopy := 163, tAlign64 := 167 }
theorem wgLib : Go.Conc.Lib.WgLib Tryz.prog link :=
 ⟨Tryz.func113, Tryz.func115, Tryz.func117, Tryz.func129, Tryz.func130, Tryz.func131, Tryz.func132, Tryz.func133, Tryz.func134, Tryz.func135, Tryz.func136, Tryz.func137, Tryz.func138, Tryz.func139, Tryz.func140, Tryz.func141, Tryz.func143, Tryz.func144, Tryz.func145, Tryz.func146, Tryz.func147, Tryz.func152, Tryz.func153, Tryz.func154, Tryz.func155, Tryz.func156, Tryz.underlying193, Tryz.runUnderlying193, Tryz.sizeOf193, Tryz.isAgg193, Tryz.zeroValue193, Tryz.underlying135, Tryz.runUnderlying135, Tryz.sizeOf135, Tryz.isAgg135, Tryz.zeroValue135, Tryz.underlying195, Tryz.runUnderlying195, Tryz.sizeOf195, Tryz.isAgg195, Tryz.zeroValue195, Tryz.underlying172, Tryz.runUnderlying172, Tryz.sizeOf172, Tryz.isAgg172, Tryz.zeroValue172, Tryz.underlying170, Tryz.runUnderlying170, Tryz.sizeOf170, Tryz.isAgg170, Tryz.zeroValue170, Tryz.underlying168, Tryz.runUnderlying168, Tryz.sizeOf168, Tryz.isAgg168, Tryz.zeroValue168, Tryz.underlying122, Tryz.runUnderlying122, Tryz.sizeOf122, Tryz.isAgg122, Tryz.zeroValue122, Tryz.underlying119, Tryz.runUnderlying119, Tryz.sizeOf119, Tryz.isAgg119, Tryz.zeroValue119, Tryz.underlying199, Tryz.runUnderlying199, Tryz.sizeOf199, Tryz.isAgg199, Tryz.zeroValue199, Tryz.underlying211, Tryz.runUnderlying211, Tryz.sizeOf211, Tryz.isAgg211, Tryz.zeroValue211, Tryz.underlying213, Tryz.runUnderlying213, Tryz.sizeOf213, Tryz.isAgg213, Tryz.zeroValue213, Tryz.underlying0, Tryz.runUnderlying0, Tryz.sizeOf0, Tryz.isAgg0, Tryz.zeroValue0, Tryz.underlying3, Tryz.runUnderlying3, Tryz.sizeOf3, Tryz.isAgg3, Tryz.zeroValue3, Tryz.underlying4, Tryz.runUnderlying4, Tryz.sizeOf4, Tryz.isAgg4, Tryz.zeroValue4, Tryz.underlying9, Tryz.runUnderlying9, Tryz.sizeOf9, Tryz.isAgg9, Tryz.zeroValue9, Tryz.underlying20, Tryz.runUnderlying20, Tryz.sizeOf20, Tryz.isAgg20, Tryz.zeroValue20, Tryz.underlying21, Tryz.runUnderlying21, Tryz.sizeOf21, Tryz.isAgg21, Tryz.zeroValue21, (by kernel_rfl), (by kernel_rfl)⟩
instance : Go.ConcR.Payload := ⟨3⟩
end
section
open Go Go.Conc
section
variable {P : Program} {main : Bool} {a : Act} {w : World} {o : Oper} {x : Operand} {args : Array Operand} {ats : Array TypeId} {f : FuncId} {fn : Func} {first cap : Array Value}
theorem run_call_val (hop : o.op = .call { callee := .value x, args, argTypes := ats }) (hx : a.eval x = .func (.func f) first cap)
  (hf : P.funcs[f]? = some fn) (hname : (fn.name == "runtime.NumGoroutine") = false) (hb : fn.body.isNone = false) : (execOp a.eval o).run P w = .ok (.enter f (first ++ args.map a.eval ++ cap)) w := by
 have h1 : ¬ fn.name = "runtime.NumGoroutine" := by simpa using hname
 have h2 : ¬ fn.body = none := by cases hx : fn.body <;> simp_all
 unfold execOp
 simp [hop, resolve, Deferred.ofValue, invoke, callFunc, hf, h1, h2, hx]
theorem events_call_val (hop : o.op = .call { callee := .value x, args, argTypes := ats }) (hx : a.eval x = .func (.func f) first cap)
  (hf : P.funcs[f]? = some fn) (hname : (fn.name == "runtime.NumGoroutine") = false) (hb : fn.body.isNone = false) (es : Array Event) : (execOp a.eval o).events P w es = es := by
 have h1 : ¬ fn.name = "runtime.NumGoroutine" := by simpa using hname
 have h2 : ¬ fn.body = none := by cases hx : fn.body <;> simp_all
 unfold execOp
 simp [hop, resolve, Deferred.ofValue, invoke, callFunc, hf, h1, h2, hx]
variable {b : Frame} {k : List Item} {cs : List Frame} {ops : Array Oper} {i : Nat} {rest : List Nat}
theorem stepG_callV {c : Code} (ho : ops[i]? = some o) (hw : Region.wanted o (yielded ops a.tmps) = true) (hk : b.kind ≠ .early) (hop : o.op = .call { callee := .value x, args, argTypes := ats }) (hx : a.eval x = .func (.func f) first cap)
  (hf : P.funcs[f]? = some fn) (hname : (fn.name == "runtime.NumGoroutine") = false) (hb : fn.body = some c) :
  stepG P main (G (b.at a (.inRegion ops (i :: rest) :: k)) cs) w = .go (G ((base f).at { tmps := (first ++ args.map a.eval ++ cap) ++ Array.replicate (fn.ntmps - (first ++ args.map a.eval ++ cap).size) undef, defers := [] } [.code c]) (b.at a (.inRegion ops (i :: rest) :: k) :: cs)) w #[] := by
 have hb' : fn.body.isNone = false := by rw [hb]; rfl
 rw [stepG_enter ho hw hk (run_call_val hop hx hf hname hb'), enter_at _ hf hb]
 have : listed P b.fn a o w = #[] := by unfold listed; rw [events_call_val hop hx hf hname hb']; exact seen_none P _
 rw [this]
theorem Goes.callV {R : World → World → Prop} {D : World → World → Array Event → Prop} (T : Terms R D) {nf m : Nat} {Post : Value → World → Prop} {Stop : Goroutine → World → Prop}
  (ho : ops[i]? = some o) (hw : Region.wanted o (yielded ops a.tmps) = true) (hk : b.kind ≠ .early) (hop : o.op = .call { callee := .value x, args, argTypes := ats }) (hx : a.eval x = .func (.func f) first cap) {vs : Array Value} (hargs : args.map a.eval = vs)
  (hcall : CallsC P main R D f (first ++ vs ++ cap) nf w Post)
  (hnext : ∀ v w', Post v w' → Goes P main R D Stop m (G (b.at (a.put o.dst v) (.inRegion ops rest :: k)) cs) w') :
  Goes P main R D Stop (m + nf + 3) (G (b.at a (.inRegion ops (i :: rest) :: k)) cs) w := by
 subst hargs
 obtain ⟨fn, c, hf, hname, hbody, hwp⟩ := hcall
 have hfin : ∀ v, (b.at a (.inRegion ops (i :: rest) :: k)).finish v = b.at (a.put o.dst v) (.inRegion ops rest :: k) := fun v => by rw [Frame.finish_at, ho]; rfl
 have hleave : ∀ (a' : Act) (w' : World) (todo : List Item), (a'.defers = [] ∧ ∃ v, ResultsC P fn a'.tmps v ∧ Post v w') →
   Goes P main R D Stop (m + 1) (G { (base f).at a' todo with mode := .returning } (b.at a (.inRegion ops (i :: rest) :: k) :: cs)) w' := by
  rintro a' w' todo ⟨hd, v, hr, hp⟩
  refine Goes.step rfl fun w₁ h₁ => ?_
  rw [stepG_leave (b := base f) rfl hd hf (hr w₁).1 (hr w₁).2, hfin]
  exact ⟨T.idle _, (hnext v w' hp).rely T.trans h₁⟩
 have hbodyG : Goes P main R D Stop (m + 2 + nf) (G ((base f).at { tmps := (first ++ args.map a.eval ++ cap) ++ Array.replicate (fn.ntmps - (first ++ args.map a.eval ++ cap).size) undef, defers := [] } [.code c]) (b.at a (.inRegion ops (i :: rest) :: k) :: cs)) w := by
  refine hwp (base f) [] _ Stop (m + 2) rfl (by simp [base]) fun e a' w' q => ?_
  cases e with
  | normal => exact Goes.step rfl fun w₁ h₁ => by rw [stepG_end]; exact ⟨T.idle _, (hleave a' w' [] q).rely T.trans h₁⟩
  | ret => exact fun todo => (hleave a' w' todo q).more
  | _ => exact q.elim
 have e : m + nf + 3 = (m + 2 + nf) + 1 := by omega
 rw [e]
 exact Goes.step rfl fun w₁ h₁ => by
  rw [stepG_callV ho hw hk hop hx hf hname hbody]
  exact ⟨T.idle _, hbodyG.rely T.trans h₁⟩
end
end
end Go.Proofs.YtdafpnpfcmgfcaaGreatDoor
