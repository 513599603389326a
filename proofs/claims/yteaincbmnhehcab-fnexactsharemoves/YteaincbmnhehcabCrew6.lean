/- The starter's own steps. -/
import Derived.Test.YteaincbmnhehcabCrew5
namespace Go.Proofs.Yteaincbmnhehcab
open Go Go.Conc Go.ConcN
open Go.ConcR (KK wgBlock WgAt stA smA rd wr Payload DC0 Bk g_of_ofEvents)

section
variable [Payload] {P : Program} {ty nty : TypeId} {S : Nat → Prop} {B0 base : Nat} {bit : Nat → Nat}
variable {j : Nat} {tag : CTag} {d0 T0 N0 : Nat} {gs : Array Goroutine} {w : World} {t : Trace} {D : Nat → WD} {Ad : Nat → Bool} {q : Nat → Nat} {st sm : Int}

/-- What the workers lean on stands. -/
structure Leaves (B0 j : Nat) (w w' : World) : Prop where
  low : ∀ b, b ≤ B0 → w'.heap[b]? = w.heap[b]?
  box : ∀ i, i < j → w'.heap[B0 + 3 + i]? = w.heap[B0 + 3 + i]?
  num : w'.heap[B0 + 1]? = w.heap[B0 + 1]?
  size : w.heap.size ≤ w'.heap.size

theorem Cw.step0 (h : Cw P ty nty S B0 base bit j tag d0 T0 N0 gs w t D Ad q st sm) {a a' : Goroutine} (h0 : gs[0]? = some a) {w' : World} {es : Array Event} {tag' : CTag} {st' sm' : Int} (hgo : stepG P true a w = .go a' w' es)
    (hl : Leaves B0 j w w') (hok : ∀ op ∈ MemOp.ofEvents 0 a.frame.fn a.frame.place es, Ok0 (ShOf (S3 S B0)) NoOwn (RdP S B0 base) (base + j - 1) op ∧ TLow w'.heap.size op) (hnr : ∀ e ∈ es, e.loc ≠ .mark (.release (stA (B0 + 2))))
    (hwg : WgAt ty (B0 + 2) w' st' sm') (hmode : Go.ConcN.Mode j D tag' st' sm') (sl : Option (Nat × Nat)) :
    ∃ gs', runT P (crowd gs w sl) 0 = (.next (crowd gs' w' sl), MemOp.ofEvents 0 a.frame.fn a.frame.place es) ∧ gs'[0]? = some a' ∧ Cw P ty nty S B0 base bit j tag' (deafBehind d0 es) T0 N0 gs' w' (t ++ MemOp.ofEvents 0 a.frame.fn a.frame.place es) D Ad q st' sm' := by
  have hb := h.base1
  have hlt : 0 < gs.size := (Array.getElem?_eq_some_iff.1 h0).1
  have hrely : ∀ i, i < j → RWk ty B0 i w w' := fun i hi => ⟨fun b hb _ _ => hl.low b (by omega), fun _ => ⟨_, _, hwg⟩, fun ⟨cs, hc, hn⟩ => ⟨cs, (hl.box i hi).trans hc, hn⟩, cell_of_block (hl.box i hi) 0⟩
  refine ⟨_, runT_crowd_go (P := P) (sl := sl) (i := 0) h0 (show stepG P (0 == 0) a w = _ from hgo), by simp [hlt], ?_⟩
  refine ⟨hb, by simp [h.size], fun k x hk hkb hx => ?_, fun i hi => ?_, h.ct.app0 apart3 fun op hop => (hok op hop).1, norel_app h.norel (norel_of hnr), by have := h.begun; simp; omega, by rw [Deaf_own, h.deaf0], fun i hi => by rw [Deaf_other t (by omega) _ g_of_ofEvents, h.deafW i hi], fun k hk => by rw [Deaf_other t (by omega) _ g_of_ofEvents, h.above k hk], fun i hi hst => ?_, early_app h.begun h.early, fun i hi => (hrely i hi).pay (h.box i hi), noted_aside h.noted hl.num, hwg, hmode, fun op hop => ?_, known_app g_of_ofEvents h.kn (.inr (.inl rfl)), over_app g_of_ofEvents h.over (.inr (.inl rfl)), Nat.le_trans h.room hl.size⟩
  · rw [get_other (by omega)] at hx
    obtain ⟨y, hy, rfl⟩ := Option.map_eq_some_iff.1 hx
    have hq := h.old k y hk hkb hy
    rw [woken_quitsD hq, Deaf_other t (by omega) _ g_of_ofEvents]
    exact hq
  · obtain ⟨x, hx, hsx⟩ := h.wk i hi
    exact ⟨x, by rw [get_other (by omega), hx, Option.map_some, hsx.woken], hsx.rely (hrely i hi)⟩
  · obtain ⟨r, hr, hr'⟩ := h.rel i hi hst
    exact ⟨r, hr.appOther g_of_ofEvents (by omega), after_other g_of_ofEvents (by omega) hr'⟩
  · rcases Array.mem_append.1 hop with hop | hop
    · exact fun x hx => Loc.low_mono hl.size (h.seen op hop x hx)
    · exact (hok op hop).2

/-- A go statement. -/
theorem Cw.spawn (h : Cw P ty nty S B0 base bit j tag 0 T0 N0 gs w t D Ad q st sm) {a a' child : Goroutine} (h0 : gs[0]? = some a) (hgo : stepG P true a w = .spawn a' child w #[]) {ad : Bool} {m : Nat} (hc : WkS P ty nty S B0 base bit j ad 7 m 0 child w) (hbit : ad = true → bit j = 0)
    (hbox : PayAt (B0 + 3 + j) 1 w) {tag' : CTag} (hmode : Go.ConcN.Mode (j + 1) (upd D j ⟨7, m, 0⟩) tag' st sm) (hroom : B0 + 3 + (j + 1) ≤ w.heap.size) (sl : Option (Nat × Nat)) :
    ∃ gs' u, runT P (crowd gs w sl) 0 = (.next (crowd gs' w sl), u) ∧ gs'[0]? = some a' ∧ Cw P ty nty S B0 base bit (j + 1) tag' 0 T0 N0 gs' w (t ++ u) (upd D j ⟨7, m, 0⟩) (upd Ad j ad) q st sm := by
  have hb := h.base1
  have hlt : 0 < gs.size := (Array.getElem?_eq_some_iff.1 h0).1
  have hrun := runT_crowd_spawn (P := P) (sl := sl) (i := 0) h0 (show stepG P (0 == 0) a w = _ from hgo)
  have hu : ((MemOp.ofEvents 0 a.frame.fn a.frame.place #[]).push { g := 0, fn := a.frame.fn, pos := a.frame.place, act := .go gs.size } |>.push { g := gs.size, fn := child.frame.fn, pos := a.frame.place, act := .start }) =
      #[{ g := 0, fn := a.frame.fn, pos := a.frame.place, act := .go gs.size }, { g := gs.size, fn := child.frame.fn, pos := a.frame.place, act := .start }] := by
    rw [ofEvents_eq]; simp
  rw [hu, h.size] at hrun
  generalize hx : ({ g := 0, fn := a.frame.fn, pos := a.frame.place, act := .go (base + j) } : MemOp) = x at hrun
  generalize hy : ({ g := base + j, fn := child.frame.fn, pos := a.frame.place, act := .start } : MemOp) = y at hrun
  have hx1 : x.g = 0 ∧ x.act = .go (base + j) := by subst hx; exact ⟨rfl, rfl⟩
  have hy1 : y.g = base + j ∧ y.act = .start := by subst hy; exact ⟨rfl, rfl⟩
  have hm : ∀ op ∈ #[x, y], op = x ∨ op = y := by intro op hop; simpa using hop
  have hst : ∀ op ∈ #[x, y], op.act ≠ .mark .disable ∧ op.act ≠ .mark .enable := by
    intro op hop
    rcases hm op hop with rfl | rfl
    · rw [hx1.2]; exact ⟨by simp, by simp⟩
    · rw [hy1.2]; exact ⟨by simp, by simp⟩
  have hnt : ∀ op ∈ #[x, y], op.act.touch? = none := by
    intro op hop
    rcases hm op hop with rfl | rfl
    · rw [hx1.2]; rfl
    · rw [hy1.2]; rfl
  have hsz1 : (gs.setIfInBounds 0 a').size = base + j := by simp [h.size]
  have old : ∀ k x, k < base + j → k ≠ 0 → (((gs.setIfInBounds 0 a').push child)[k]? = some x ↔ gs[k]? = some x) := fun k x hk h0' => by
    rw [Array.getElem?_push_lt (by omega), ← Array.getElem?_eq_getElem, Array.getElem?_setIfInBounds_ne (by omega)]
  have hct : CT (ShOf (S3 S B0)) NoOwn (RdP S B0 base) (t ++ #[x, y]) (base + j - 1 + 1) := h.ct.fork apart3 ⟨hx1.1, by rw [hx1.2]; congr 1; omega⟩ ⟨by rw [hy1.1]; omega, hy1.2⟩ h.deaf0
  refine ⟨_, _, hrun, ?_, hb, by simp [h.size]; omega, fun k g hk hkb hg => ?_, fun i hi => ?_, by rw [show base + (j + 1) - 1 = base + j - 1 + 1 by omega]; exact hct, norel_app h.norel fun op hop => ?_, by have := h.begun; simp; omega, by rw [Deaf_still t 0 _ hst, h.deaf0], fun i hi => ?_, fun k hk => by rw [Deaf_still t k _ hst, h.above k (by omega)], fun i hi hs => ?_, early_app h.begun h.early, fun i hi => ?_, ?_, h.wg, hmode, fun op hop => ?_, fun i b hi hn => ?_, fun i g hg h1 h2 hcn => ?_, hroom⟩
  · rw [Array.getElem?_push_lt (by omega)]
    simp
  · rw [Deaf_still t k _ hst]
    exact h.old k g hk hkb ((old k g (by omega) (by omega)).1 hg)
  · rcases Nat.lt_or_ge i j with hij | hij
    · obtain ⟨g, hg, hs⟩ := h.wk i hij
      exact ⟨g, (old _ g (by omega) (by omega)).2 hg, by rw [upd_ne D _ (by omega), upd_ne Ad _ (by omega)]; exact hs⟩
    · obtain rfl : i = j := by omega
      refine ⟨child, ?_, by rw [upd_same, upd_same]; exact hc⟩
      rw [← hsz1, Array.getElem?_push_size]
  · rcases hm op hop with rfl | rfl
    · rw [hx1.2]; simp
    · rw [hy1.2]; simp
  · rw [Deaf_still t _ _ hst]
    rcases Nat.lt_or_ge i j with hij | hij
    · rw [h.deafW i hij, upd_ne D _ (by omega)]
    · obtain rfl : i = j := by omega
      rw [upd_same]
      exact h.above _ (Nat.le_refl _)
  · rcases Nat.lt_or_ge i j with hij | hij
    · rw [upd_ne D _ (by omega)] at hs
      obtain ⟨r, hr, hr'⟩ := h.rel i hij hs
      refine ⟨r, hr.appNot fun op hop => ?_, after_app hr' fun op hop _ b hb => by rw [hnt op hop] at hb; cases hb⟩
      rcases hm op hop with rfl | rfl
      · rw [hx1.1]; omega
      · rw [hy1.1]; omega
    · obtain rfl : i = j := by omega
      rw [upd_same] at hs
      simp at hs
  · rcases Nat.lt_or_ge i j with hij | hij
    · exact h.box i hij
    · obtain rfl : i = j := by omega
      exact hbox
  · have e : bitsIn bit (j + 1) (upd Ad j ad) = bitsIn bit j Ad := by
      unfold bitsIn
      simp only [sumTo, upd_same]
      rw [sumTo_congr (g := fun i => if Ad i = true then bit i else 0) fun i hi => by rw [upd_ne Ad _ (by omega)]]
      cases ad
      · simp
      · simp [hbit rfl]
    rw [e]
    exact h.noted
  · rcases Array.mem_append.1 hop with hop | hop
    · exact h.seen op hop
    · exact fun z hz => by rw [hnt op hop] at hz; cases hz
  · obtain ⟨z, hz, hza⟩ := touch_of hi
    rcases getElem?_append_cases hz with ⟨hlt', hz'⟩ | ⟨_, hzu⟩
    · rcases h.kn i b (by rw [touchAt_of hz']; exact hza) hn with ⟨k, h1, h3⟩ | h1
      · exact .inl ⟨k, h1, by rw [g?_old hlt']; exact h3⟩
      · exact .inr (h1.app _)
    · rw [hnt z hzu] at hza; cases hza
  · obtain ⟨b, hb', _⟩ := hcn
    obtain ⟨z, hz, hza⟩ := touch_of hb'
    rcases getElem?_append_cases hz with ⟨hlt', hz'⟩ | ⟨_, hzu⟩
    · obtain ⟨x', hx', hb2⟩ := h.over i g (by rw [← g?_old (u := #[x, y]) hlt']; exact hg) h1 h2 ((counts_old hlt').1 ⟨b, hb', by assumption⟩)
      have hxl : x' < t.size := by
        unfold Trace.g? at hx'
        obtain ⟨z2, hz2, _⟩ := Option.map_eq_some_iff.1 hx'
        exact lt_size_of_getElem? hz2
      exact ⟨x', by rw [g?_old hxl]; exact hx', hb_app _ hb2⟩
    · rw [hnt z hzu] at hza; cases hza
end
end Go.Proofs.Yteaincbmnhehcab
