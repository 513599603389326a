/- The starter beside its workers: the join, the go statement, and what is left behind. -/
import Derived.Test.YteaincbmnhehcabCrew11
namespace Go.Proofs.Yteaincbmnhehcab
open Go Go.Conc Go.ConcN
open Go.ConcR (KK wgBlock WgAt stA smA rd wr mk Payload DC0 Bk g_of_ofEvents)

/-- What the lone run sees, the workers' own variables aside. -/
structure Like (B0 j : Nat) (v v' : World) : Prop where
  size : v'.heap.size = v.heap.size
  out : ∀ b, ¬ (B0 + 3 ≤ b ∧ b < B0 + 3 + j) → v'.heap[b]? = v.heap[b]?
  os : v'.os = v.os
  output : v'.output = v.output

section
variable {S : Nat → Prop} {B0 j : Nat} {v w : World}
/-- The workers' own variables are shunned no more. -/
theorem unshun (h : Cp (SJ S B0 j) v w) (hS : ∀ b, S b → b < B0) : ∃ v', Cp (SJ S B0 0) v' w ∧ Like B0 j v v' := by
  have hm : ∀ b, (v.heap.mapIdx fun i o => if B0 + 3 ≤ i ∧ i < B0 + 3 + j then (w.heap[i]?).getD o else o)[b]? = v.heap[b]?.map fun o => if B0 + 3 ≤ b ∧ b < B0 + 3 + j then (w.heap[b]?).getD o else o := fun b => by rw [Array.getElem?_mapIdx]
  refine ⟨{ v with heap := v.heap.mapIdx fun i o => if B0 + 3 ≤ i ∧ i < B0 + 3 + j then (w.heap[i]?).getD o else o }, ⟨by simpa using h.size, fun b hb => ?_, fun b hb => ?_, fun b hb => ?_, h.os, h.output⟩, ⟨by simp, fun b hb => ?_, rfl, rfl⟩⟩
  · rcases hb with hb | ⟨i, hi, _⟩
    · simpa using h.low b (.inl hb)
    · omega
  · dsimp only
    rw [hm b]
    by_cases hx : B0 + 3 ≤ b ∧ b < B0 + 3 + j
    · obtain ⟨i, rfl⟩ : ∃ i, b = B0 + 3 + i := ⟨b - (B0 + 3), by omega⟩
      obtain ⟨t, c, f, e1, e2⟩ := h.brk _ (.inr ⟨i, by omega, rfl⟩)
      rw [e1, e2]
      simp [veil]
      omega
    · have : (fun o : Obj => if B0 + 3 ≤ b ∧ b < B0 + 3 + j then (w.heap[b]?).getD o else o) = id := by funext o; simp [hx]
      rw [this]
      simp only [Option.map_id, id]
      refine h.out b fun hs => ?_
      rcases hs with hs | ⟨i, hi, rfl⟩
      · exact hb (.inl hs)
      · exact hx ⟨by omega, by omega⟩
  · dsimp only
    rw [hm b]
    have hx : ¬ (B0 + 3 ≤ b ∧ b < B0 + 3 + j) := by
      rcases hb with (hb | hb | hb) | ⟨i, hi, _⟩
      · have := hS b hb; omega
      · omega
      · omega
      · omega
    obtain ⟨t, c, f, e1, e2⟩ := h.brk b (hb.elim .inl fun ⟨i, hi, _⟩ => absurd hi (Nat.not_lt_zero _))
    exact ⟨t, c, f, by rw [e1]; simp [hx], e2⟩
  · dsimp only
    rw [hm b]
    cases v.heap[b]? with
    | none => rfl
    | some o => simp [hb]
end

section
variable [Payload] {P : Program} {ty nty : TypeId} {S : Nat → Prop} {B0 base : Nat} {bit : Nat → Nat} {T0 N0 : Nat} {j : Nat} {tag : CTag} {d0 : Nat} {a : Goroutine} {v : World} {vm : Nat} {m : Machine} {t : Trace}

/-- The join is seen: the workers are old ones now. -/
theorem Here.join {Ret : Goroutine → World → Prop} (h : Here P ty nty S B0 base bit T0 N0 j .ke 1 a v vm m t) (hs : ∀ w₁, WgLive ty (B0 + 2) w₁ → AtJoin P ty (B0 + 2) Ret a w₁) (hj : j < 2147483648) (hbits : ∀ Ad', N0 + bitsIn bit j Ad' < 4294967296) (hN : N0 + sumTo j bit < 4294967296) (hS : ∀ b, S b → b < B0) :
    Rch P m t (fun m' t' => ∃ a' v', (∀ w₁, WgLive ty (B0 + 2) w₁ → Ret a' w₁) ∧ Like B0 j v v' ∧ Here P ty nty S B0 (base + j) bit T0 (N0 + sumTo j bit) 0 .ke 0 a' v' 0 m' t') := by
  refine (h.word hs (.inr (.inl rfl)) (by simp) (by simpa [pend] using hj) hbits).trans fun m1 t1 ⟨a1, hs1, h1⟩ => ?_
  have e0 : deafBehind 1 #[mk .enable] = 0 := rfl
  rw [e0] at h1
  obtain ⟨gs, w, sl, D, Ad, q, st, sm, rfl, h0, hc, hcp, hv⟩ := h1
  have hrun := (hs1 w ⟨_, _, hc.wg⟩).1
  obtain ⟨N, gs1, w1, sl1, t2, D1, Ad1, q1, st1, sm1, d, sl2, hr, h01, hc1, hsim, hv1, _, hst⟩ := Cw.turn hrun (by simpa [pend] using hj) hbits (by simp) D q gs w t1 Ad st sm sl hc h0
  obtain ⟨hall, rfl, rfl⟩ := hc1.mode.fin_inv trivial
  obtain ⟨_, g', hgo, k, hk⟩ := hs1 _ ⟨_, _, hc1.wg⟩
  obtain ⟨w1ok, w1nr⟩ := word_touch (S := S) (B0 := B0) (base := base) (mm := .acquire (stA (B0 + 2))) (.inr (.inr (.inl ⟨_, rfl⟩))) (B := (w1.at d).heap.size) (k := base + j - 1) (by have := hc1.room; omega) (fn := a1.frame.fn) (pos := a1.frame.place)
  obtain ⟨gs2, hr2, h02, hc2⟩ := hc1.step0 h01 hgo (leaves_refl _) w1ok w1nr hc1.wg hc1.mode sl2
  have e1 : deafBehind 0 #[mk (.acquire (stA (B0 + 2)))] = 0 := rfl
  rw [e1] at hc2
  have hjn := hc1.joined hc2 hall trivial
  obtain ⟨v', hcp', hlike⟩ := unshun (hsim.2 v hcp) hS
  have hH : Here P ty nty S B0 (base + j) bit T0 (N0 + sumTo j bit) 0 .ke 0 g' v' 0 (crowd gs2 (w1.at d) sl2) (t2 ++ MemOp.ofEvents 0 a1.frame.fn a1.frame.place #[mk (.acquire (stA (B0 + 2)))]) :=
    ⟨gs2, _, sl2, D1, Ad1, _, 0, 0, rfl, h02, hjn, hcp', by simp [Vc, sumTo]⟩
  have hone : runNT P (N + 1) (crowd gs w sl) t1 = (.next (crowd gs2 (w1.at d) sl2), t2 ++ MemOp.ofEvents 0 a1.frame.fn a1.frame.place #[mk (.acquire (stA (B0 + 2)))]) := by
    rw [runNT_more N 1 _ _ _ _ hr]
    simp only [runNT, hst, hr2]
  have hb0 : ∀ Ad', N0 + sumTo j bit + bitsIn bit 0 Ad' < 4294967296 := fun Ad' => by simp [bitsIn, sumTo]; omega
  exact Rch.trans ⟨N + 1, _, _, hone, hH⟩ fun m3 t3 h3 => (Here.goes (by simp) (by simp [pend]) hb0 k g' _ m3 t3 hk h3).trans fun m4 t4 ⟨a4, hs4, h4⟩ => .refl ⟨a4, v', hs4, hlike, h4⟩

/-- What is left behind. -/
theorem Cw.free {gs : Array Goroutine} {w : World} {D : Nat → WD} {Ad : Nat → Bool} {q : Nat → Nat} {st sm : Int} (h : Cw P ty nty S B0 base bit 0 tag 0 T0 N0 gs w t D Ad q st sm) : Leavers P t gs q ∧ Tr (S3 S B0) w.heap.size gs.size t := by
  have hb := h.base1
  have hsz := h.size
  refine ⟨⟨fun i g hi hg => h.old i g hi ?_ hg, fun i hi => h.above i (by omega)⟩, ⟨?_, ?_, h.deaf0, h.seen⟩⟩
  · have := (Array.getElem?_eq_some_iff.1 hg).1
    omega
  · have hgs : ∀ i (op : MemOp), t[i]? = some op → op.g < base := fun i op hi => by have := h.ct.gs i op hi; omega
    have hperm : ∀ l, ¬ ShOf (S3 S B0) l → Perm t 0 l := fun l hl i a ha e => by
      rcases h.kn i a ha (by rw [e]; exact hl) with ⟨k, h1, h2⟩ | h1
      · exfalso
        obtain ⟨op, ho, hog⟩ := Option.map_eq_some_iff.1 h2
        have := hgs i op ho
        omega
      · exact h1
    exact ⟨h.ct.quiet, fun _ _ _ _ h => h.elim, fun _ _ _ _ h => h.elim, fun l hs _ => hperm l hs, fun l hs _ => PermW.of (hperm l hs), h.ct.nr, fun i op hi => by have := hgs i op hi; omega⟩
  · intro i g hg h0 hc
    refine h.over i g hg h0 ?_ hc
    obtain ⟨op, ho, hog⟩ := Option.map_eq_some_iff.1 hg
    have := h.ct.gs i op ho
    omega

/-- A go statement. -/
theorem Here.spawn {r ad m0} {a' child : Goroutine} {v2 : World} (h : Here P ty nty S B0 base bit T0 N0 j (.sp r 3) 0 a v vm m t) (hrun : a.status = .running) (hgo : ∀ w, Cp (SJ S B0 j) v w → WgLive ty (B0 + 2) w → stepG P true a w = .spawn a' child w #[])
    (hc : ∀ w, Cp (SJ S B0 j) v w → WgLive ty (B0 + 2) w → WkS P ty nty S B0 base bit j ad 7 m0 0 child w) (hbit : ad = true → bit j = 0) (hbox : ∀ w, Cp (SJ S B0 j) v w → PayAt (B0 + 3 + j) 1 w ∧ B0 + 3 + (j + 1) ≤ w.heap.size) (hv2 : ∀ w, Cp (SJ S B0 j) v w → Cp (SJ S B0 (j + 1)) v2 w)
    (hj : j + 1 < 2147483648) (hbits : ∀ Ad', N0 + bitsIn bit j Ad' < 4294967296) :
    Rch P m t (fun m' t' => Here P ty nty S B0 base bit T0 N0 (j + 1) (.sp r 5) 0 a' v2 (vm + 1) m' t') := by
  obtain ⟨gs, w, sl, D, Ad, q, st, sm, rfl, h0, hcw, hcp, hv⟩ := h
  obtain ⟨N, gs1, w1, sl1, t1, D1, Ad1, q1, st1, sm1, d, sl2, hr, h01, hc1, hsim, hv1, _, hst⟩ := Cw.turn hrun (by simp [pend]; omega) hbits (by simp) D q gs w t Ad st sm sl hcw h0
  have hcp1 := hsim.2 v hcp
  have hlive : WgLive ty (B0 + 2) (w1.at d) := ⟨_, _, hc1.wg⟩
  obtain ⟨hb1, hb2⟩ := hbox _ hcp1
  obtain ⟨ho, hst1, hsm1, _⟩ := hc1.mode.open_inv trivial
  have eV : Vc (j + 1) (upd D1 j ⟨7, m0, 0⟩) = Vc j D1 + 1 := by
    simp only [Vc, sumTo, upd_same]
    rw [sumTo_upd_out D1 _ cnt (Nat.le_refl _)]
    rfl
  have hmode : Go.ConcN.Mode (j + 1) (upd D1 j ⟨7, m0, 0⟩) (.sp r 5) st1 sm1 := by
    subst hsm1
    have e : st1 = ((Vc (j + 1) (upd D1 j ⟨7, m0, 0⟩) + pend (.sp r 5) : Nat) : Int) * KK := by
      rw [hst1, eV]; simp [pend]
    rw [e]
    refine .opn trivial (fun i hi => ?_) (fun vs h => by cases h)
    rw [upd_stage]
    split
    · simp
    · exact ho i (by omega)
  obtain ⟨gs2, u, hr2, h02, hc2⟩ := hc1.spawn h01 (hgo _ hcp1 hlive) (hc _ hcp1 hlive) hbit hb1 hmode hb2 sl2
  refine ⟨N + 1, crowd gs2 (w1.at d) sl2, t1 ++ u, ?_, gs2, _, sl2, _, _, q1, st1, sm1, rfl, h02, hc2, hv2 _ hcp1, by rw [eV]; omega⟩
  rw [runNT_more N 1 _ _ _ _ hr]
  simp only [runNT, hst, hr2]
end
end Go.Proofs.Yteaincbmnhehcab
