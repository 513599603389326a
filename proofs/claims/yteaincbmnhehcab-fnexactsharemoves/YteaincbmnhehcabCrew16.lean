/- What follows a stop may be said anew; the way through Add. -/
import Derived.Test.YteaincbmnhehcabCrew15
namespace Go.Proofs.Yteaincbmnhehcab
open Go Go.Conc Go.ConcN
open Go.ConcR (KK wgBlock WgAt stA smA rd wr mk Payload DC0 Bk g_of_ofEvents)

theorem any_rely {R : World → World → Prop} {w w₁ : World} (h : True) (_ : R w w₁) : True := h

theorem goes_imp {P : Program} {main : Bool} {R : World → World → Prop} {D : World → World → Array Event → Prop} {A B : Goroutine → World → Prop} (hAB : ∀ g w, A g w → B g w) : ∀ (n : Nat) (g : Goroutine) (w : World), Goes P main R D A n g w → Goes P main R D B n g w := by
  intro n
  induction n with
  | zero => exact fun g w h w₁ h₁ => hAB _ _ (h w₁ h₁)
  | succ n ih =>
    intro g w h
    rcases h with h | ⟨hr, h⟩
    · exact .inl fun w₁ h₁ => hAB _ _ (h w₁ h₁)
    · refine .inr ⟨hr, fun w₁ h₁ => ?_⟩
      obtain ⟨g', w', es, e, hd, hg⟩ := goes_elim (h w₁ h₁)
      rw [e]
      exact ⟨hd, ih g' w' hg⟩

section
variable {P : Program} {ty : TypeId} {Wg : Nat} {A B : Goroutine → World → Prop}
theorem AtWord.mono {mm : Mark} (hAB : ∀ g w, A g w → B g w) {g : Goroutine} {w : World} (h : AtWord P ty Wg mm A g w) : AtWord P ty Wg mm B g w := by
  obtain ⟨h1, g', h2, k, h3⟩ := h
  exact ⟨h1, g', h2, k, goes_imp hAB k g' w h3⟩
theorem AtMid.mono (hAB : ∀ g w, A g w → B g w) {g : Goroutine} {w : World} (h : AtMid P ty Wg A g w) : AtMid P ty Wg B g w := by
  rcases h with h | h
  · exact .inl (h.mono fun _ _ x => x.mono hAB)
  · exact .inr (h.mono hAB)
theorem AtPlus.mono (hAB : ∀ g w, A g w → B g w) {g : Goroutine} {w : World} (h : AtPlus P ty Wg A g w) : AtPlus P ty Wg B g w := by
  obtain ⟨h1, h2⟩ := h
  refine ⟨h1, fun v hv hw => ?_⟩
  obtain ⟨g', h3, k, h4⟩ := h2 v hv hw
  exact ⟨g', h3, k, goes_imp (fun _ _ x => AtMid.mono hAB x) k g' _ h4⟩
theorem goesE_imp (hAB : ∀ g w, A g w → B g w) {g : Goroutine} {w : World} (h : ∃ k, Goes P true (RS ty Wg) DC0 A k g w) : ∃ k, Goes P true (RS ty Wg) DC0 B k g w := let ⟨k, h⟩ := h; ⟨k, goes_imp hAB k g w h⟩
theorem AtJoin.mono (hAB : ∀ g w, A g w → B g w) {g : Goroutine} {w : World} (h : AtJoin P ty Wg A g w) : AtJoin P ty Wg B g w := AtWord.mono (fun _ _ x => x.mono hAB) h
theorem AtLook.mono (hAB : ∀ g w, A g w → B g w) {g : Goroutine} {w : World} (h : AtLook P ty Wg A g w) : AtLook P ty Wg B g w :=
  ⟨h.1, fun hw => let ⟨g', h1, h2⟩ := h.2 hw; ⟨g', h1, goesE_imp (fun _ _ x => AtJoin.mono hAB x) h2⟩⟩
theorem AtSem.mono (hAB : ∀ g w, A g w → B g w) {g : Goroutine} {w : World} (h : AtSem P ty Wg A g w) : AtSem P ty Wg B g w :=
  ⟨h.1, h.2.1, h.2.2.1, fun hw => let ⟨g', h1, h2⟩ := h.2.2.2 hw; ⟨g', h1, goesE_imp (fun _ _ x => AtLook.mono hAB x) h2⟩⟩
theorem AtCas.mono {C D : Goroutine → World → Prop} (hAB : ∀ g w, A g w → B g w) (hCD : ∀ g w, C g w → D g w) {vs : Nat} {g : Goroutine} {w : World} (h : AtCas P ty Wg A C vs g w) : AtCas P ty Wg B D vs g w :=
  ⟨h.1, fun v hv hw => ⟨fun e => let ⟨g', h1, h2⟩ := (h.2 v hv hw).1 e; ⟨g', h1, goesE_imp (fun _ _ x => AtWord.mono (fun _ _ y => AtSem.mono hAB y) x) h2⟩, fun e => let ⟨g', h1, h2⟩ := (h.2 v hv hw).2 e; ⟨g', h1, goesE_imp hCD h2⟩⟩⟩
theorem AtSee.mono {C D : Goroutine → World → Prop} (hAB : ∀ g w, A g w → B g w) (hCD : ∀ g w, C g w → D g w) {g : Goroutine} {w : World} (h : AtSee P ty Wg A C g w) : AtSee P ty Wg B D g w :=
  ⟨h.1, fun v hv hw => let ⟨g', h1, h2, h3⟩ := h.2 v hv hw; ⟨g', h1, fun e => goesE_imp (fun _ _ x => AtJoin.mono hAB x) (h2 e), fun e => goesE_imp (fun _ _ x => AtCas.mono hAB hCD x) (h3 e)⟩⟩
end

section
variable [Payload] {P : Program} {ty nty : TypeId} {S : Nat → Prop} {B0 base : Nat} {bit : Nat → Nat} {T0 N0 : Nat} {j : Nat} {tag : CTag} {d0 : Nat} {a : Goroutine} {v : World} {vm : Nat} {m : Machine} {t : Trace}

theorem Here.mid {Next : Goroutine → World → Prop} {r : Nat} (h : Here P ty nty S B0 base bit T0 N0 j (.sp r 3) 1 a v vm m t) (hs : ∀ w₁, WgLive ty (B0 + 2) w₁ → AtMid P ty (B0 + 2) Next a w₁) (hj : j + 1 < 2147483648) (hbits : ∀ Ad', N0 + bitsIn bit j Ad' < 4294967296) :
    Rch P m t (fun m' t' => ∃ a', (∀ w₁, WgLive ty (B0 + 2) w₁ → Next a' w₁) ∧ Here P ty nty S B0 base bit T0 N0 j (.sp r 3) 0 a' v vm m' t') := by
  have hrun := h.run hs (fun _ x => by rcases x with x | x <;> exact x.1)
  have hjp : j + pend (.sp r 3) < 2147483648 := by simp [pend]; omega
  refine (h.step hrun (by simp) hjp hbits (Nx := fun a' tag' d0' v' vm' => tag' = .sp r 3 ∧ v' = v ∧ vm' = vm ∧ ((d0' = 1 ∧ ∃ k w1, Goes P true (RS ty (B0 + 2)) DC0 (AtWord P ty (B0 + 2) .enable Next) k a' w1) ∨ (d0' = 0 ∧ ∃ k w1, Goes P true (RS ty (B0 + 2)) DC0 Next k a' w1))) fun w t D Ad q st sm gs hc hcp hv => ?_).trans fun m' t' hx => ?_
  · rcases hs w ⟨_, _, hc.wg⟩ with ⟨_, g', hgo, k, hk⟩ | ⟨_, g', hgo, k, hk⟩
    · obtain ⟨h1, h2⟩ := word_touch (S := S) (base := base) (B0 := B0) (mm := .read ⟨B0 + 2, 1, none⟩) (.inr (.inr (.inr (.inl rfl)))) (B := w.heap.size) (k := base + j - 1) (by have := hc.room; omega) (fn := a.frame.fn) (pos := a.frame.place)
      exact ⟨g', w, _, .sp r 3, st, sm, v, vm, hgo, leaves_refl w, h1, h2, hc.wg, hc.mode, hcp, hv, rfl, rfl, rfl, .inl ⟨rfl, k, w, hk⟩⟩
    · obtain ⟨h1, h2⟩ := word_touch (S := S) (base := base) (B0 := B0) (mm := .enable) (.inr (.inl rfl)) (B := w.heap.size) (k := base + j - 1) (by have := hc.room; omega) (fn := a.frame.fn) (pos := a.frame.place)
      exact ⟨g', w, _, .sp r 3, st, sm, v, vm, hgo, leaves_refl w, h1, h2, hc.wg, hc.mode, hcp, hv, rfl, rfl, rfl, .inr ⟨rfl, k, w, hk⟩⟩
  · obtain ⟨a', tag', d0', v', vm', ⟨rfl, rfl, rfl, hx⟩, h'⟩ := hx
    rcases hx with ⟨rfl, k, w1, hk⟩ | ⟨rfl, k, w1, hk⟩
    · refine (Here.goes (by simp) hjp hbits k a' w1 m' t' hk h').trans fun m2 t2 ⟨a2, hs2, h2⟩ => ?_
      exact h2.word hs2 (.inr (.inl rfl)) (by simp) hjp hbits
    · exact Here.goes (by simp) hjp hbits k a' w1 m' t' hk h'

/-- The whole of Add(1). -/
theorem Here.add {Next : Goroutine → World → Prop} {r : Nat} (h : Here P ty nty S B0 base bit T0 N0 j (.sp r 5) 0 a v vm m t) (hs : ∀ w₁, WgLive ty (B0 + 2) w₁ → AtWord P ty (B0 + 2) .disable (AtPlus P ty (B0 + 2) Next) a w₁) (hj : j + 1 < 2147483648) (hbits : ∀ Ad', N0 + bitsIn bit j Ad' < 4294967296) :
    Rch P m t (fun m' t' => ∃ a', (∀ w₁, WgLive ty (B0 + 2) w₁ → Next a' w₁) ∧ Here P ty nty S B0 base bit T0 N0 j (.sp r 3) 0 a' v vm m' t') := by
  refine (h.word hs (.inl rfl) (by simp) (by simp [pend]; omega) hbits).trans fun m1 t1 ⟨a1, hs1, h1⟩ => ?_
  exact (Here.plus h1 hs1 hj hbits).trans fun m2 t2 ⟨a2, hs2, h2⟩ => h2.mid hs2 hj hbits
end
end Go.Proofs.Yteaincbmnhehcab
