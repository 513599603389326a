/- The starter's own steps. The group's code in company: where it stops. The starter's way beside its workers, stop by stop. -/
import Derived.Test.YtdafpnpfcmgfcaaGreatDoorKe08
import Derived.Conc.CrowdSpec
namespace Go.Proofs.YtdafpnpfcmgfcaaGreatDoor
section
open Go Go.Conc Go.ConcN
open Go.ConcR (KK wgBlock WgAt stA smA rd wr Payload DC0 Bk g_of_ofEvents)
section
variable [Payload] {P : Program} {ty nty : TypeId} {S : Sh} {B0 base : Nat} {bit : Nat → Nat}
variable {j : Nat} {tag : CTag} {d0 T0 N0 : Nat} {gs : Array Goroutine} {w : World} {t : Trace} {D : Nat → WD} {Ad : Nat → Bool} {q : Nat → Nat} {st sm : Int}
structure Leaves (B0 j : Nat) (w w' : World) : Prop where
 low : ∀ b, b ≤ B0 → w'.heap[b]? = w.heap[b]?
 box : ∀ i, i < j → w'.heap[B0 + 3 + i]? = w.heap[B0 + 3 + i]?
 num : w'.heap[B0 + 1]? = w.heap[B0 + 1]?
 size : w.heap.size ≤ w'.heap.size
theorem Cw.step0 (h : Cw P ty nty S B0 base bit j tag d0 T0 N0 gs w t D Ad q st sm) {a a' : Goroutine} (h0 : gs[0]? = some a) {w' : World} {es : Array Event} {tag' : CTag} {st' sm' : Int} (hgo : stepG P true a w = .go a' w' es)
  (hl : Leaves B0 j w w') (hok : ∀ op ∈ MemOp.ofEvents 0 a.frame.fn a.frame.place es, Ok0 (ShOf (S3 S B0)) NoOwn (RdP S B0 base) (base + j - 1) op ∧ TLow w'.heap.size op) (hnr : ∀ e ∈ es, e.loc ≠ .mark (.release (stA (B0 + 2))))
  (hwg : WgAt ty (B0 + 2) w' st' sm') (hmode : Go.ConcN.Mode j D tag' st' sm') (sl : Option (Nat × Nat)) :
  ∃ gs', runT P (crowd gs w sl) 0 = (.next (crowd gs' w' sl), MemOp.ofEvents 0 a.frame.fn a.frame.place es) ∧ gs'[0]? = some a' ∧ Cw P ty nty S B0 base bit j tag' (deafBehind d0 es) T0 N0 gs' w' (t ++ MemOp.ofEvents 0 a.frame.fn a.frame.place es) D Ad q st' sm' := by
 have hb := h.base1
 have hlt : 0 < gs.size := (Array.getElem?_eq_some_iff.1 h0).1
 have hrely : ∀ i, i < j → RWk ty B0 i w w' := fun i hi => ⟨fun b hb _ _ => hl.low b (by omega), fun _ => ⟨_, _, hwg⟩, fun ⟨cs, hc, hn⟩ => ⟨cs, (hl.box i hi).trans hc, hn⟩, cell_of_block (hl.box i hi) 0⟩
 refine ⟨_, runT_crowd_go (P := P) (sl := sl) (i := 0) h0 (show stepG P (0 == 0) a w = _ from hgo), by simp [hlt], ?_⟩
 refine ⟨hb, by simp [h.size], fun k x hk hkb hx => ?_, fun i hi => ?_, h.ct.app0 apart3 fun op hop => (hok op hop).1, norel_app h.norel (norel_of hnr), by have := h.begun; simp; omega, by rw [Deaf_own, h.deaf0], fun i hi => by rw [Deaf_other t (by omega) _ g_of_ofEvents, h.deafW i hi], fun k hk => by rw [Deaf_other t (by omega) _ g_of_ofEvents, h.above k hk], fun i hi hst => ?_, early_app h.begun h.early, fun i hi => (hrely i hi).pay (h.box i hi), noted_aside h.noted hl.num, hwg, hmode, fun op hop => ?_, known_app g_of_ofEvents h.kn (Or.inr (Or.inl rfl)), over_app g_of_ofEvents h.over (Or.inr (Or.inl rfl)), Nat.le_trans h.room hl.size⟩
 ·rw [get_other (by omega)] at hx
  obtain ⟨y, hy, rfl⟩ := Option.map_eq_some_iff.1 hx
  have hq := h.old k y hk hkb hy
  rw [woken_quitsD hq, Deaf_other t (by omega) _ g_of_ofEvents]
  exact hq
 ·obtain ⟨x, hx, hsx⟩ := h.wk i hi
  exact ⟨x, by rw [get_other (by omega), hx, Option.map_some, hsx.woken], hsx.rely (hrely i hi)⟩
 ·obtain ⟨r, hr, hr'⟩ := h.rel i hi hst
  exact ⟨r, hr.appOther g_of_ofEvents (by omega), after_other g_of_ofEvents (by omega) hr'⟩
 ·rcases Array.mem_append.1 hop with hop | hop
  ·exact fun x hx => Loc.low_mono hl.size (h.seen op hop x hx)
  ·exact (hok op hop).2
theorem Cw.spawn (h : Cw P ty nty S B0 base bit j tag 0 T0 N0 gs w t D Ad q st sm) {a a' child : Goroutine} (h0 : gs[0]? = some a) (hgo : stepG P true a w = .spawn a' child w #[]) {ad : Bool} {m : Nat} (hc : WkS P ty nty S B0 base bit j ad 7 m 0 child w) (hbit : ad = true → bit j = 0)
  (hbox : PayAt (B0 + 3 + j) 1 w) {tag' : CTag} (hmode : Go.ConcN.Mode (j + 1) (upd D j ⟨7, m, 0⟩) tag' st sm) (hroom : B0 + 3 + (j + 1) ≤ w.heap.size) (sl : Option (Nat × Nat)) :
  ∃ gs' u, runT P (crowd gs w sl) 0 = (.next (crowd gs' w sl), u) ∧ gs'[0]? = some a' ∧ Cw P ty nty S B0 base bit (j + 1) tag' 0 T0 N0 gs' w (t ++ u) (upd D j ⟨7, m, 0⟩) (upd Ad j ad) q st sm := by
 have hb := h.base1
 have hlt : 0 < gs.size := (Array.getElem?_eq_some_iff.1 h0).1
 have hrun := runT_crowd_spawn (P := P) (sl := sl) (i := 0) h0 (show stepG P (0 == 0) a w = _ from hgo)
 have hu : ((MemOp.ofEvents 0 a.frame.fn a.frame.place #[]).push { g := 0, fn := a.frame.fn, pos := a.frame.place, act := .go gs.size } |>.push { g := gs.size, fn := child.frame.fn, pos := a.frame.place, act := .start }) =
   #[{ g := 0, fn := a.frame.fn, pos := a.frame.place, act := .go gs.size }, { g := gs.size, fn := child.frame.fn, pos := a.frame.place, act := .start }] := by
  rw [ofEvents_eq]; simp
 rw [hu, h.size] at hrun
 generalize hx : ({ g := 0, fn := a.frame.fn, pos := a.frame.place, act := .go (base + j) } : MemOp) = x at hrun
 generalize hy : ({ g := base + j, fn := child.frame.fn, pos := a.frame.place, act := .start } : MemOp) = y at hrun
 have hx1 : x.g = 0 ∧ x.act = .go (base + j) := by subst hx; exact ⟨rfl, rfl⟩
 have hy1 : y.g = base + j ∧ y.act = .start := by subst hy; exact ⟨rfl, rfl⟩
 have hm : ∀ op ∈ #[x, y], op = x ∨ op = y := by intro op hop; simpa using hop
 have hst : ∀ op ∈ #[x, y], op.act ≠ .mark .disable ∧ op.act ≠ .mark .enable := by
  intro op hop
  rcases hm op hop with rfl | rfl
  ·rw [hx1.2]; exact ⟨by simp, by simp⟩
  ·rw [hy1.2]; exact ⟨by simp, by simp⟩
 have hnt : ∀ op ∈ #[x, y], op.act.touch? = none := by
  intro op hop
  rcases hm op hop with rfl | rfl
  ·rw [hx1.2]; rfl
  ·rw [hy1.2]; rfl
 have hsz1 : (gs.setIfInBounds 0 a').size = base + j := by simp [h.size]
 have old : ∀ k x, k < base + j → k ≠ 0 → (((gs.setIfInBounds 0 a').push child)[k]? = some x ↔ gs[k]? = some x) := fun k x hk h0' => by
  rw [Array.getElem?_push_lt (by omega), ← Array.getElem?_eq_getElem, Array.getElem?_setIfInBounds_ne (by omega)]
 have hct : CT (ShOf (S3 S B0)) NoOwn (RdP S B0 base) (t ++ #[x, y]) (base + j - 1 + 1) := h.ct.fork apart3 ⟨hx1.1, by rw [hx1.2]; congr 1; omega⟩ ⟨by rw [hy1.1]; omega, hy1.2⟩ h.deaf0
 refine ⟨_, _, hrun, ?_, hb, by simp [h.size]; omega, fun k g hk hkb hg => ?_, fun i hi => ?_, by rw [show base + (j + 1) - 1 = base + j - 1 + 1 by omega]; exact hct, norel_app h.norel fun op hop => ?_, by have := h.begun; simp; omega, by rw [Deaf_still t 0 _ hst, h.deaf0], fun i hi => ?_, fun k hk => by rw [Deaf_still t k _ hst, h.above k (by omega)], fun i hi hs => ?_, early_app h.begun h.early, fun i hi => ?_, ?_, h.wg, hmode, fun op hop => ?_, fun i b hi hn => ?_, fun i g hg h1 h2 hcn => ?_, hroom⟩
 ·rw [Array.getElem?_push_lt (by omega)]
  simp
 ·rw [Deaf_still t k _ hst]
  exact h.old k g hk hkb ((old k g (by omega) (by omega)).1 hg)
 ·rcases Nat.lt_or_ge i j with hij | hij
  ·obtain ⟨g, hg, hs⟩ := h.wk i hij
   exact ⟨g, (old _ g (by omega) (by omega)).2 hg, by rw [upd_ne D _ (by omega), upd_ne Ad _ (by omega)]; exact hs⟩
  ·obtain rfl : i = j := by omega
   refine ⟨child, ?_, by rw [upd_same, upd_same]; exact hc⟩
   rw [← hsz1, Array.getElem?_push_size]
 ·rcases hm op hop with rfl | rfl
  ·rw [hx1.2]; simp
  ·rw [hy1.2]; simp
 ·rw [Deaf_still t _ _ hst]
  rcases Nat.lt_or_ge i j with hij | hij
  ·rw [h.deafW i hij, upd_ne D _ (by omega)]
  ·obtain rfl : i = j := by omega
   rw [upd_same]
   exact h.above _ (Nat.le_refl _)
 ·rcases Nat.lt_or_ge i j with hij | hij
  ·rw [upd_ne D _ (by omega)] at hs
   obtain ⟨r, hr, hr'⟩ := h.rel i hij hs
   refine ⟨r, hr.appNot fun op hop => ?_, after_app hr' fun op hop _ b hb => by rw [hnt op hop] at hb; cases hb⟩
   rcases hm op hop with rfl | rfl
   ·rw [hx1.1]; omega
   ·rw [hy1.1]; omega
  ·obtain rfl : i = j := by omega
   rw [upd_same] at hs
   simp at hs
 ·rcases Nat.lt_or_ge i j with hij | hij
  ·exact h.box i hij
  ·obtain rfl : i = j := by omega
   exact hbox
 ·have e : bitsIn bit (j + 1) (upd Ad j ad) = bitsIn bit j Ad := by
   unfold bitsIn
   simp only [sumTo, upd_same]
   rw [sumTo_congr (g := fun i => if Ad i = true then bit i else 0) fun i hi => by rw [upd_ne Ad _ (by omega)]]
   cases ad
   ·simp
   ·simp [hbit rfl]
  rw [e]
  exact h.noted
 ·rcases Array.mem_append.1 hop with hop | hop
  ·exact h.seen op hop
  ·exact fun z hz => by rw [hnt op hop] at hz; cases hz
 ·obtain ⟨z, hz, hza⟩ := touch_of hi
  rcases getElem?_append_cases hz with ⟨hlt', hz'⟩ | ⟨_, hzu⟩
  ·rcases h.kn i b (by rw [touchAt_of hz']; exact hza) hn with ⟨k, h1, h3⟩ | h1
   ·exact Or.inl ⟨k, h1, by rw [g?_old hlt']; exact h3⟩
   ·exact Or.inr (h1.app _)
  ·rw [hnt z hzu] at hza; cases hza
 ·obtain ⟨b, hb', _⟩ := hcn
  obtain ⟨z, hz, hza⟩ := touch_of hb'
  rcases getElem?_append_cases hz with ⟨hlt', hz'⟩ | ⟨_, hzu⟩
  ·obtain ⟨x', hx', hb2⟩ := h.over i g (by rw [← g?_old (u := #[x, y]) hlt']; exact hg) h1 h2 ((counts_old hlt').1 ⟨b, hb', by assumption⟩)
   have hxl : x' < t.size := by
    unfold Trace.g? at hx'
    obtain ⟨z2, hz2, _⟩ := Option.map_eq_some_iff.1 hx'
    exact lt_size_of_getElem? hz2
   exact ⟨x', by rw [g?_old hxl]; exact hx', hb_app _ hb2⟩
  ·rw [hnt z hzu] at hza; cases hza
end
end
section
open Go Go.Conc Go.ConcN
open Go.ConcR (KK wgBlock WgAt stA smA rd wr mk Payload DC0)
def RS (ty : TypeId) (Wg : Nat) (w w₁ : World) : Prop := WgLive ty Wg w → WgLive ty Wg w₁
theorem rs_rely {ty : TypeId} {Wg : Nat} {w w₁ : World} (h : WgLive ty Wg w) (r : RS ty Wg w w₁) : WgLive ty Wg w₁ := r h
section
variable (P : Program) (ty : TypeId) (Wg : Nat)
def AtWord (m : Mark) (Next : Goroutine → World → Prop) (g : Goroutine) (w : World) : Prop :=
 g.status = .running ∧ ∃ g', stepG P true g w = .go g' w #[mk m] ∧ ∃ k, Goes P true (RS ty Wg) DC0 Next k g' w
def AtMid (Next : Goroutine → World → Prop) (g : Goroutine) (w : World) : Prop := AtWord P ty Wg (.read ⟨Wg, 1, none⟩) (AtWord P ty Wg .enable Next) g w ∨ AtWord P ty Wg .enable Next g w
def AtPlus (Next : Goroutine → World → Prop) (g : Goroutine) (w : World) : Prop :=
 g.status = .running ∧ ∀ v : Nat, v < 2147483647 → WgAt ty Wg w (v * KK) 0 → ∃ g', stepG P true g w = .go g' (w.setCell (stA Wg) (.int .u64 ((v + 1) * KK))) #[rd (stA Wg), wr (stA Wg)] ∧
  ∃ k, Goes P true (RS ty Wg) DC0 (AtMid P ty Wg Next) k g' (w.setCell (stA Wg) (.int .u64 ((v + 1) * KK)))
end
section
variable (P : Program) (ty : TypeId) (Wg : Nat) (Ret Anch : Goroutine → World → Prop)
def AtJoin : Goroutine → World → Prop := AtWord P ty Wg .enable (AtWord P ty Wg (.acquire (stA Wg)) Ret)
def AtLook (g : Goroutine) (w : World) : Prop := g.status = .running ∧ (WgAt ty Wg w 0 0 → ∃ g', stepG P true g w = .go g' w #[rd (stA Wg)] ∧ ∃ k, Goes P true (RS ty Wg) DC0 (AtJoin P ty Wg Ret) k g' w)
def AtSem (g : Goroutine) (w : World) : Prop :=
 g.status = .running ∧ g.offers = none ∧ ((∃ st, WgAt ty Wg w st 0) → stepG P true g w = .go { g with status := .blocked } w #[]) ∧
  (WgAt ty Wg w 0 1 → ∃ g', stepG P true g w = .go g' (w.setCell (smA Wg) (.int .u32 0)) (semEvents (smA Wg)) ∧ ∃ k, Goes P true (RS ty Wg) DC0 (AtLook P ty Wg Ret) k g' (w.setCell (smA Wg) (.int .u32 0)))
def AtCas (vs : Nat) (g : Goroutine) (w : World) : Prop :=
 g.status = .running ∧ ∀ v : Nat, v < 2147483648 → WgAt ty Wg w (v * KK) 0 →
  (v = vs → ∃ g', stepG P true g w = .go g' (w.setCell (stA Wg) (.int .u64 (v * KK + 1))) #[rd (stA Wg), wr (stA Wg)] ∧ ∃ k, Goes P true (RS ty Wg) DC0 (AtWord P ty Wg (.write ⟨Wg, 1, none⟩) (AtSem P ty Wg Ret)) k g' (w.setCell (stA Wg) (.int .u64 (v * KK + 1)))) ∧
  (v ≠ vs → ∃ g', stepG P true g w = .go g' w #[rd (stA Wg)] ∧ ∃ k, Goes P true (RS ty Wg) DC0 Anch k g' w)
def AtSee (g : Goroutine) (w : World) : Prop :=
 g.status = .running ∧ ∀ v : Nat, v < 2147483648 → WgAt ty Wg w (v * KK) 0 → ∃ g', stepG P true g w = .go g' w #[rd (stA Wg)] ∧
  (v = 0 → ∃ k, Goes P true (RS ty Wg) DC0 (AtJoin P ty Wg Ret) k g' w) ∧ (v ≠ 0 → ∃ k, Goes P true (RS ty Wg) DC0 (AtCas P ty Wg Ret Anch v) k g' w)
end
end
section
open Go Go.Conc Go.ConcN
open Go.ConcR (KK wgBlock WgAt stA smA rd wr mk Payload DC0 Bk g_of_ofEvents)
def Rch (P : Program) (m : Machine) (t : Trace) (Gl : Machine → Trace → Prop) : Prop := ∃ N m' t', runNT P N m t = (.next m', t') ∧ Gl m' t'
theorem Rch.refl {P : Program} {m : Machine} {t : Trace} {Gl : Machine → Trace → Prop} (h : Gl m t) : Rch P m t Gl := ⟨0, m, t, rfl, h⟩
theorem runNT_more {P : Program} : ∀ (N M : Nat) (m m' : Machine) (t t' : Trace), runNT P N m t = (.next m', t') → runNT P (N + M) m t = runNT P M m' t' := by
 intro N
 induction N with
 | zero =>
  intro M m m' t t' h
  simp only [runNT, Prod.mk.injEq, Stepped.next.injEq] at h
  obtain ⟨rfl, rfl⟩ := h
  rw [Nat.zero_add]
 | succ N ih =>
  intro M m m' t t' h
  rw [show N + 1 + M = (N + M) + 1 by omega]
  simp only [runNT] at h ⊢
  generalize stepT P m = z at h
  obtain ⟨r, ops⟩ := z
  cases r with
  | next m1 => exact ih M m1 m' _ t' h
  | ended o w => simp at h
theorem Rch.trans {P : Program} {m : Machine} {t : Trace} {A B : Machine → Trace → Prop} (h : Rch P m t A) (h' : ∀ m t, A m t → Rch P m t B) : Rch P m t B := by
 obtain ⟨N, m1, t1, e1, h1⟩ := h
 obtain ⟨M, m2, t2, e2, h2⟩ := h' m1 t1 h1
 exact ⟨N + M, m2, t2, (runNT_more N M m m1 t t1 e1).trans e2, h2⟩
section
variable [Payload] (P : Program) (ty nty : TypeId) (S : Sh) (B0 base : Nat) (bit : Nat → Nat) (T0 N0 : Nat)
def Here (j : Nat) (tag : CTag) (d0 : Nat) (a : Goroutine) (v : World) (vm : Nat) (m : Machine) (t : Trace) : Prop :=
 ∃ gs w sl D Ad q st sm, m = crowd gs w sl ∧ gs[0]? = some a ∧ Cw P ty nty S B0 base bit j tag d0 T0 N0 gs w t D Ad q st sm ∧ Cp (SJ S B0 j) v w ∧ Vc j D ≤ vm
end
section
variable {S : Sh} {B0 base j : Nat}
theorem leaves_refl (w : World) : Leaves B0 j w w := ⟨fun _ _ => rfl, fun _ _ => rfl, rfl, Nat.le_refl _⟩
theorem leaves_wg {w w' : World} (h : Aside (B0 + 2) w w') : Leaves B0 j w w' := ⟨fun b hb => h.block b (by omega), fun i hi => h.block _ (by omega), h.block _ (by omega), Nat.le_of_eq h.size.symm⟩
theorem ok0_bk {fn : FuncId} {pos : String} {es : Array Event} {k B : Nat} (h : ∀ e ∈ es, Bk (B0 + 2) e) (hB : B0 + 2 < B) : ∀ op ∈ MemOp.ofEvents 0 fn pos es, Ok0 (ShOf (S3 S B0)) NoOwn (RdP S B0 base) k op ∧ TLow B op := by
 intro op hop
 refine ⟨?_, low_bk h hB op hop⟩
 obtain ⟨h1, h2⟩ := ok0_of_Bk (Own := NoOwn) (Rd := RdP S B0 base) (j := k) h op hop
 refine ⟨h1, fun x hx => ?_⟩
 obtain ⟨_, h3⟩ := okW_of_Bk (Own := NoOwn) (Rd := NoOwn) h op hop
 rcases h3 x hx with ⟨⟨b, h4, h5⟩, h6⟩ | h4 | h4
 ·exact Or.inl ⟨⟨b, h4, Or.inr (Or.inr h5)⟩, h6.1⟩
 ·exact h4.elim
 ·exact h4.1.elim
theorem word_touch {mm : Mark} (hm : mm = .disable ∨ mm = .enable ∨ (∃ a, mm = .acquire a) ∨ mm = .read ⟨B0 + 2, 1, none⟩ ∨ mm = .write ⟨B0 + 2, 1, none⟩) {B k : Nat} (hB : B0 + 2 < B) {fn : FuncId} {pos : String} :
  (∀ op ∈ MemOp.ofEvents 0 fn pos #[mk mm], Ok0 (ShOf (S3 S B0)) NoOwn (RdP S B0 base) k op ∧ TLow B op) ∧ ∀ e ∈ #[mk mm], e.loc ≠ .mark (.release (stA (B0 + 2))) := by
 have key : ∀ x, (MemAct.ofEvent (mk mm)).touch? = some x → x.loc = .cell ⟨B0 + 2, 1, none⟩ ∧ x.kind ≠ .plain := by
  intro x hx
  rcases hm with rfl | rfl | ⟨a, rfl⟩ | rfl | rfl <;> simp [mk, MemAct.ofEvent, MemAct.touch?] at hx <;> subst hx <;> exact ⟨rfl, by simp⟩
 refine ⟨fun op hop => ?_, fun e he => ?_⟩
 ·obtain ⟨e, he, rfl⟩ := Go.Conc.mem_ofEvents hop
  obtain rfl : e = mk mm := by simpa using he
  refine ⟨⟨rfl, fun x hx => Or.inl ?_⟩, fun x hx => ?_⟩
  ·obtain ⟨h1, h2⟩ := key x hx
   exact ⟨⟨_, h1, Or.inr (Or.inr rfl)⟩, h2⟩
  ·rw [(key x hx).1]
   exact hB
 ·obtain rfl : e = mk mm := by simpa using he
  rcases hm with rfl | rfl | ⟨a, rfl⟩ | rfl | rfl <;> simp [mk]
theorem two_bk {b : Addr} (hb : b.block = B0 + 2) : ∀ e ∈ #[rd b, wr b], Bk (B0 + 2) e := by
 intro e he
 simp at he
 rcases he with rfl | rfl <;> exact bk_cell _ _ hb
end
section
variable [Payload] {P : Program} {ty nty : TypeId} {S : Sh} {B0 base : Nat} {bit : Nat → Nat} {T0 N0 : Nat} {j : Nat} {tag : CTag} {d0 : Nat} {a : Goroutine} {v : World} {vm : Nat} {m : Machine} {t : Trace}
theorem Here.step (h : Here P ty nty S B0 base bit T0 N0 j tag d0 a v vm m t) (hrun : a.status = .running) (hne : tag ≠ .blk) (hj : j + pend tag < 2147483648) (hbits : ∀ Ad', N0 + bitsIn bit j Ad' < 4294967296) {Nx : Goroutine → CTag → Nat → World → Nat → Prop}
  (hact : ∀ w t D Ad q st sm gs, Cw P ty nty S B0 base bit j tag d0 T0 N0 gs w t D Ad q st sm → Cp (SJ S B0 j) v w → Vc j D ≤ vm → ∃ a' w' es tag' st' sm' v' vm', stepG P true a w = .go a' w' es ∧ Leaves B0 j w w' ∧
   (∀ op ∈ MemOp.ofEvents 0 a.frame.fn a.frame.place es, Ok0 (ShOf (S3 S B0)) NoOwn (RdP S B0 base) (base + j - 1) op ∧ TLow w'.heap.size op) ∧ (∀ e ∈ es, e.loc ≠ .mark (.release (stA (B0 + 2)))) ∧ WgAt ty (B0 + 2) w' st' sm' ∧ Go.ConcN.Mode j D tag' st' sm' ∧ Cp (SJ S B0 j) v' w' ∧ Vc j D ≤ vm' ∧ Nx a' tag' (deafBehind d0 es) v' vm') :
  Rch P m t (fun m' t' => ∃ a' tag' d0' v' vm', Nx a' tag' d0' v' vm' ∧ Here P ty nty S B0 base bit T0 N0 j tag' d0' a' v' vm' m' t') := by
 obtain ⟨gs, w, sl, D, Ad, q, st, sm, rfl, h0, hc, hcp, hv⟩ := h
 obtain ⟨N, gs1, w1, sl1, t1, D1, Ad1, q1, st1, sm1, d, sl2, hr, h01, hc1, hs, hv1, _, hst⟩ := Cw.turn hrun hj hbits hne D q gs w t Ad st sm sl hc h0
 obtain ⟨a', w', es, tag', st', sm', v', vm', hgo, hl, hok, hnr, hwg, hmode, hcp', hvm', hNx⟩ := hact _ _ _ _ _ _ _ _ hc1 (hs.2 v hcp) (Nat.le_trans hv1 hv)
 obtain ⟨gs2, hr2, h02, hc2⟩ := hc1.step0 h01 hgo hl hok hnr hwg hmode sl2
 refine ⟨N + 1, crowd gs2 w' sl2, _, ?_, a', tag', _, v', vm', hNx, gs2, w', sl2, D1, Ad1, q1, st', sm', rfl, h02, hc2, hcp', hvm'⟩
 rw [runNT_more N 1 _ _ _ _ hr]
 simp only [runNT, hst, hr2]
theorem Here.goes {Stop : Goroutine → World → Prop} (hne : tag ≠ .blk) (hj : j + pend tag < 2147483648) (hbits : ∀ Ad', N0 + bitsIn bit j Ad' < 4294967296) : ∀ (n : Nat) (a : Goroutine) (w0 : World) (m : Machine) (t : Trace), Goes P true (RS ty (B0 + 2)) DC0 Stop n a w0 →
  Here P ty nty S B0 base bit T0 N0 j tag d0 a v vm m t → Rch P m t (fun m' t' => ∃ a', (∀ w₁, WgLive ty (B0 + 2) w₁ → Stop a' w₁) ∧ Here P ty nty S B0 base bit T0 N0 j tag d0 a' v vm m' t') := by
 intro n
 induction n with
 | zero => exact fun a w0 m t hg h => .refl ⟨a, fun w₁ hw => hg w₁ (fun _ => hw), h⟩
 | succ n ih =>
  intro a w0 m t hg h
  rcases hg with hs | ⟨hrun, hstep⟩
  ·exact .refl ⟨a, fun w₁ hw => hs w₁ (fun _ => hw), h⟩
  ·refine (h.step hrun hne hj hbits (Nx := fun a' tag' d0' v' vm' => (∃ w1, Goes P true (RS ty (B0 + 2)) DC0 Stop n a' w1) ∧ tag' = tag ∧ d0' = d0 ∧ v' = v ∧ vm' = vm) fun w t D Ad q st sm gs hc hcp hv => ?_).trans fun m' t' hx => by
    obtain ⟨a', tag', d0', v', vm', ⟨⟨w1, hg'⟩, rfl, rfl, rfl, rfl⟩, h'⟩ := hx
    exact ih a' w1 m' t' hg' h'
   obtain ⟨g', w', es, hgo, ⟨rfl, rfl⟩, hg'⟩ := goes_elim (hstep w (fun _ => ⟨_, _, hc.wg⟩))
   exact ⟨g', w', #[], tag, st, sm, v, vm, hgo, leaves_refl _, fun op hop => by rw [ofEvents_eq] at hop; simp at hop, by simp, hc.wg, hc.mode, hcp, hv, ⟨w', hg'⟩, rfl, rfl, rfl, rfl⟩
theorem Here.word {mm : Mark} {Next : Goroutine → World → Prop} (h : Here P ty nty S B0 base bit T0 N0 j tag d0 a v vm m t) (hs : ∀ w₁, WgLive ty (B0 + 2) w₁ → AtWord P ty (B0 + 2) mm Next a w₁) (hm : mm = .disable ∨ mm = .enable ∨ (∃ a, mm = .acquire a) ∨ mm = .read ⟨B0 + 2, 1, none⟩ ∨ mm = .write ⟨B0 + 2, 1, none⟩)
  (hne : tag ≠ .blk) (hj : j + pend tag < 2147483648) (hbits : ∀ Ad', N0 + bitsIn bit j Ad' < 4294967296) :
  Rch P m t (fun m' t' => ∃ a', (∀ w₁, WgLive ty (B0 + 2) w₁ → Next a' w₁) ∧ Here P ty nty S B0 base bit T0 N0 j tag (deafBehind d0 #[mk mm]) a' v vm m' t') := by
 have hrun : a.status = .running := by
  obtain ⟨gs, w, sl, D, Ad, q, st, sm, _, _, hc, _⟩ := h
  exact (hs w ⟨_, _, hc.wg⟩).1
 refine (h.step hrun hne hj hbits (Nx := fun a' tag' d0' v' vm' => (∃ k w1, Goes P true (RS ty (B0 + 2)) DC0 Next k a' w1) ∧ tag' = tag ∧ d0' = deafBehind d0 #[mk mm] ∧ v' = v ∧ vm' = vm) fun w t D Ad q st sm gs hc hcp hv => ?_).trans fun m' t' hx => by
   obtain ⟨a', tag', d0', v', vm', ⟨⟨k, w1, hg'⟩, rfl, rfl, rfl, rfl⟩, h'⟩ := hx
   exact Here.goes hne hj hbits k a' w1 m' t' hg' h'
 obtain ⟨_, g', hgo, k, hg'⟩ := hs w ⟨_, _, hc.wg⟩
 obtain ⟨h1, h2⟩ := word_touch (S := S) (base := base) hm (B := w.heap.size) (k := base + j - 1) (by have := hc.room; omega) (fn := a.frame.fn) (pos := a.frame.place)
 exact ⟨g', w, _, tag, st, sm, v, vm, hgo, leaves_refl w, h1, h2, hc.wg, hc.mode, hcp, hv, ⟨k, w, hg'⟩, rfl, rfl, rfl, rfl⟩
theorem Here.plus {Next : Goroutine → World → Prop} {r : Nat} (h : Here P ty nty S B0 base bit T0 N0 j (.sp r 5) 1 a v vm m t) (hs : ∀ w₁, WgLive ty (B0 + 2) w₁ → AtPlus P ty (B0 + 2) Next a w₁)
  (hj : j + 1 < 2147483648) (hbits : ∀ Ad', N0 + bitsIn bit j Ad' < 4294967296) :
  Rch P m t (fun m' t' => ∃ a', (∀ w₁, WgLive ty (B0 + 2) w₁ → AtMid P ty (B0 + 2) Next a' w₁) ∧ Here P ty nty S B0 base bit T0 N0 j (.sp r 3) 1 a' v vm m' t') := by
 have hrun : a.status = .running := by
  obtain ⟨gs, w, sl, D, Ad, q, st, sm, _, _, hc, _⟩ := h
  exact (hs w ⟨_, _, hc.wg⟩).1
 refine (h.step hrun (by simp) (by simp [pend]; omega) hbits (Nx := fun a' tag' d0' v' vm' => (∃ k w1, Goes P true (RS ty (B0 + 2)) DC0 (AtMid P ty (B0 + 2) Next) k a' w1) ∧ tag' = .sp r 3 ∧ d0' = 1 ∧ v' = v ∧ vm' = vm) fun w t D Ad q st sm gs hc hcp hv => ?_).trans fun m' t' hx => by
   obtain ⟨a', tag', d0', v', vm', ⟨⟨k, w1, hg'⟩, rfl, rfl, rfl, rfl⟩, h'⟩ := hx
   exact Here.goes (by simp) (by simp [pend]; omega) hbits k a' w1 m' t' hg' h'
 obtain ⟨ho, rfl, rfl, _⟩ := hc.mode.open_inv trivial
 have hV := Vc_le j D
 obtain ⟨_, hall⟩ := hs w ⟨_, _, hc.wg⟩
 obtain ⟨g', hgo, k, hg'⟩ := hall (Vc j D) (by omega) (by simpa [pend] using hc.wg)
 have hroom := hc.room
 refine ⟨g', _, _, .sp r 3, (((Vc j D : Nat) : Int) + 1) * KK, 0, v, vm, hgo, leaves_wg (aside_setCell w (stA (B0 + 2)) _), ok0_bk (two_bk rfl) (by simp [World.setCell]; omega), norel_of_Bk (two_bk rfl), hc.wg.setSt _, ?_, (sim_setCell (Or.inl (Or.inr (Or.inr rfl))) _).2 v hcp, hv, ⟨k, _, hg'⟩, rfl, rfl, rfl, rfl⟩
 have e : (((Vc j D : Nat) : Int) + 1) * KK = ((Vc j D + pend (.sp r 3) : Nat) : Int) * KK := by simp [pend]
 rw [e]
 exact .opn trivial ho (fun vs h => by cases h)
theorem Here.see {Ret Anch : Goroutine → World → Prop} {r : Nat} (h : Here P ty nty S B0 base bit T0 N0 j (.sp r 5) 1 a v vm m t) (hs : ∀ w₁, WgLive ty (B0 + 2) w₁ → AtSee P ty (B0 + 2) Ret Anch a w₁) (hj : j < 2147483648) (hbits : ∀ Ad', N0 + bitsIn bit j Ad' < 4294967296) :
  Rch P m t (fun m' t' => ∃ a', ((∀ w₁, WgLive ty (B0 + 2) w₁ → AtJoin P ty (B0 + 2) Ret a' w₁) ∧ Here P ty nty S B0 base bit T0 N0 j .ke 1 a' v vm m' t') ∨
   ∃ vs, 1 ≤ vs ∧ vs ≤ vm ∧ (∀ w₁, WgLive ty (B0 + 2) w₁ → AtCas P ty (B0 + 2) Ret Anch vs a' w₁) ∧ Here P ty nty S B0 base bit T0 N0 j (.w2 vs) 1 a' v vs m' t') := by
 have hrun : a.status = .running := by
  obtain ⟨gs, w, sl, D, Ad, q, st, sm, _, _, hc, _⟩ := h
  exact (hs w ⟨_, _, hc.wg⟩).1
 refine (h.step hrun (by simp) (by simp [pend]; omega) hbits (Nx := fun a' tag' d0' v' vm' => d0' = 1 ∧ v' = v ∧ ((tag' = .ke ∧ vm' = vm ∧ ∃ k w1, Goes P true (RS ty (B0 + 2)) DC0 (AtJoin P ty (B0 + 2) Ret) k a' w1) ∨ ∃ vs, 1 ≤ vs ∧ vs ≤ vm ∧ tag' = .w2 vs ∧ vm' = vs ∧ ∃ k w1, Goes P true (RS ty (B0 + 2)) DC0 (AtCas P ty (B0 + 2) Ret Anch vs) k a' w1)) fun w t D Ad q st sm gs hc hcp hv => ?_).trans fun m' t' hx => by
   obtain ⟨a', tag', d0', v', vm', ⟨rfl, rfl, ⟨rfl, rfl, k, w1, hg'⟩ | ⟨vs, h1, h2, rfl, rfl, k, w1, hg'⟩⟩, h'⟩ := hx
   ·exact (Here.goes (by simp) (by simp [pend]; omega) hbits k a' w1 m' t' hg' h').trans fun m2 t2 ⟨a2, h3, h4⟩ => .refl ⟨a2, Or.inl ⟨h3, h4⟩⟩
   ·exact (Here.goes (by simp) (by simp [pend]; omega) hbits k a' w1 m' t' hg' h').trans fun m2 t2 ⟨a2, h3, h4⟩ => .refl ⟨a2, Or.inr ⟨_, h1, h2, h3, h4⟩⟩
 obtain ⟨ho, rfl, rfl, _⟩ := hc.mode.open_inv trivial
 have hV := Vc_le j D
 have hroom := hc.room
 obtain ⟨_, hall⟩ := hs w ⟨_, _, hc.wg⟩
 obtain ⟨g', hgo, h1, h2⟩ := hall (Vc j D) (by omega) (by simpa [pend] using hc.wg)
 have hbk : ∀ e ∈ #[rd (stA (B0 + 2))], Bk (B0 + 2) e := by intro e he; simp at he; subst he; exact bk_cell _ _ rfl
 by_cases h0 : Vc j D = 0
 ·obtain ⟨k, hg'⟩ := h1 h0
  refine ⟨g', w, _, .ke, 0, 0, v, vm, hgo, leaves_refl w, ok0_bk hbk (by omega), norel_of_Bk hbk, ?_, .fin trivial (allQuit_of ho h0), hcp, hv, rfl, rfl, Or.inl ⟨rfl, rfl, k, w, hg'⟩⟩
  have := hc.wg
  simpa [pend, h0] using this
 ·obtain ⟨k, hg'⟩ := h2 h0
  exact ⟨g', w, _, .w2 (Vc j D), _, _, v, Vc j D, hgo, leaves_refl w, ok0_bk hbk (by omega), norel_of_Bk hbk, hc.wg, hc.mode.reopen trivial trivial rfl (fun vs e => by cases e; omega), hcp, Nat.le_refl _, rfl, rfl, Or.inr ⟨Vc j D, by omega, hv, rfl, rfl, k, w, hg'⟩⟩
theorem Here.cas {Ret Anch : Goroutine → World → Prop} {vs r : Nat} (h : Here P ty nty S B0 base bit T0 N0 j (.w2 vs) 1 a v vs m t) (hs : ∀ w₁, WgLive ty (B0 + 2) w₁ → AtCas P ty (B0 + 2) Ret Anch vs a w₁) (hj : j < 2147483648) (hbits : ∀ Ad', N0 + bitsIn bit j Ad' < 4294967296) :
  Rch P m t (fun m' t' => ∃ a', ((∀ w₁, WgLive ty (B0 + 2) w₁ → AtWord P ty (B0 + 2) (.write ⟨B0 + 2, 1, none⟩) (AtSem P ty (B0 + 2) Ret) a' w₁) ∧ Here P ty nty S B0 base bit T0 N0 j .w3 1 a' v vs m' t') ∨
   ∃ v2, v2 < vs ∧ (∀ w₁, WgLive ty (B0 + 2) w₁ → Anch a' w₁) ∧ Here P ty nty S B0 base bit T0 N0 j (.sp r 5) 1 a' v v2 m' t') := by
 have hrun : a.status = .running := by
  obtain ⟨gs, w, sl, D, Ad, q, st, sm, _, _, hc, _⟩ := h
  exact (hs w ⟨_, _, hc.wg⟩).1
 refine (h.step hrun (by simp) (by simp [pend]; omega) hbits (Nx := fun a' tag' d0' v' vm' => d0' = 1 ∧ v' = v ∧ ((tag' = .w3 ∧ vm' = vs ∧ ∃ k w1, Goes P true (RS ty (B0 + 2)) DC0 (AtWord P ty (B0 + 2) (.write ⟨B0 + 2, 1, none⟩) (AtSem P ty (B0 + 2) Ret)) k a' w1) ∨ (vm' < vs ∧ tag' = .sp r 5 ∧ ∃ k w1, Goes P true (RS ty (B0 + 2)) DC0 Anch k a' w1))) fun w t D Ad q st sm gs hc hcp hv => ?_).trans fun m' t' hx => by
   obtain ⟨a', tag', d0', v', vm', ⟨rfl, rfl, ⟨rfl, rfl, k, w1, hg'⟩ | ⟨h1, rfl, k, w1, hg'⟩⟩, h'⟩ := hx
   ·exact (Here.goes (by simp) (by simp [pend]; omega) hbits k a' w1 m' t' hg' h').trans fun m2 t2 ⟨a2, h3, h4⟩ => .refl ⟨a2, Or.inl ⟨h3, h4⟩⟩
   ·exact (Here.goes (by simp) (by simp [pend]; omega) hbits k a' w1 m' t' hg' h').trans fun m2 t2 ⟨a2, h3, h4⟩ => .refl ⟨a2, Or.inr ⟨vm', h1, h3, h4⟩⟩
 obtain ⟨ho, rfl, rfl, hvs⟩ := hc.mode.open_inv trivial
 obtain ⟨hvs1, hvs2⟩ := hvs vs rfl
 have hV := Vc_le j D
 have hroom := hc.room
 obtain ⟨_, hall⟩ := hs w ⟨_, _, hc.wg⟩
 obtain ⟨h1, h2⟩ := hall (Vc j D) (by omega) (by simpa [pend] using hc.wg)
 by_cases h0 : Vc j D = vs
 ·obtain ⟨g', hgo, k, hg'⟩ := h1 h0
  exact ⟨g', _, _, .w3, ((Vc j D : Nat) : Int) * KK + 1, 0, v, vs, hgo, leaves_wg (aside_setCell w (stA (B0 + 2)) _), ok0_bk (two_bk rfl) (by simp [World.setCell]; omega), norel_of_Bk (two_bk rfl), hc.wg.setSt _, .reg trivial ho (by omega), (sim_setCell (Or.inl (Or.inr (Or.inr rfl))) _).2 v hcp, by omega, rfl, rfl, Or.inl ⟨rfl, rfl, k, _, hg'⟩⟩
 ·obtain ⟨g', hgo, k, hg'⟩ := h2 h0
  have hbk : ∀ e ∈ #[rd (stA (B0 + 2))], Bk (B0 + 2) e := by intro e he; simp at he; subst he; exact bk_cell _ _ rfl
  exact ⟨g', w, _, .sp r 5, _, _, v, Vc j D, hgo, leaves_refl w, ok0_bk hbk (by omega), norel_of_Bk hbk, hc.wg, hc.mode.reopen trivial trivial rfl (fun vs e => by cases e), hcp, Nat.le_refl _, rfl, rfl, Or.inr ⟨by omega, rfl, k, w, hg'⟩⟩
end
end
end Go.Proofs.YtdafpnpfcmgfcaaGreatDoor
