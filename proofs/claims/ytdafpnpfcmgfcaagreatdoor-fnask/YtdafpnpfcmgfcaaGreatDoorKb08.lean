/- Whatever step of a worker's keeps what is held, and brings the worker on. How the group's two cells go on with a worker's steps. A worker's step, whichever it is. -/
import Derived.Test.YtdafpnpfcmgfcaaGreatDoorKb07
namespace Go.Proofs.YtdafpnpfcmgfcaaGreatDoor
section
open Go Go.Conc Go.ConcN
open Go.ConcR (KK wgBlock WgAt stA smA rd wr mk Payload DC0 Bk g_of_ofEvents ofEvent_loc_mark deafBehind_cons deafBehind_one bk_of_mute)
theorem Cp.notS {S : Sh} {v w : World} (h : Cp S v w) {b : Nat} {o : Obj} (hX : isX o) (hb : v.heap[b]? = some o) : ¬ S b := fun hs => by
 obtain ⟨t, c, f, e1, _⟩ := h.brk b hs
 rw [e1] at hb
 exact isX_row (Option.some.inj hb ▸ hX)
theorem sim_cells {S : Sh} {w w' : World} (hsz : w'.heap.size = w.heap.size) (hos : w'.os = w.os) (hou : w'.output = w.output) (hout : ∀ b, ¬ S b → w'.heap[b]? = w.heap[b]?)
  (hin : ∀ b, S b → w'.heap[b]? = w.heap[b]? ∨ ∀ c t f, w.heap[b]? = some (.cells c t f) → ∃ c', w'.heap[b]? = some (.cells c' t f)) : Sim S w w' := by
 refine ⟨hsz, fun v h => ⟨h.size.trans hsz.symm, h.low, fun b hb => by rw [hout b hb]; exact h.out b hb, fun b hb => ?_, h.os.trans hos.symm, h.output.trans hou.symm, fun b o hX hb => ?_, h.cold⟩⟩
 ·obtain ⟨t, c, f, e1, e2⟩ := h.brk b hb
  rcases hin b hb with h1 | h1
  ·exact ⟨t, c, f, e1, h1.trans e2⟩
  ·obtain ⟨c', hc⟩ := h1 c t f e2
   exact ⟨t, c', f, e1, hc⟩
 ·rw [hout b (h.notS hX hb)]
  exact h.mark b o hX hb
theorem sim_setCell {S : Sh} {w : World} {a : Addr} (ha : S a.block) (x : Value) : Sim S w (w.setCell a x) := by
 refine sim_cells (by simp [World.setCell]) rfl rfl (fun b hb => ?_) (fun b _ => ?_)
 ·have : a.block ≠ b := fun e => hb (e ▸ ha)
  simp [World.setCell, Array.getElem?_modify, this]
 ·by_cases e : a.block = b
  ·subst e
   right
   intro c t f hc
   exact ⟨_, by simp [World.setCell, Array.getElem?_modify, hc]; rfl⟩
  ·left
   simp [World.setCell, Array.getElem?_modify, e]
def Less (j : Nat) (D' D : Nat → WD) : Prop := Ssum j D' < Ssum j D ∨ (Ssum j D' = Ssum j D ∧ Fsum j D' < Fsum j D)
section
variable [Payload] {P : Program} {ty nty : TypeId} {S : Sh} {B0 base : Nat} {bit : Nat → Nat}
variable {j : Nat} {tag : CTag} {d0 T0 N0 : Nat} {gs : Array Goroutine} {w : World} {t : Trace} {D : Nat → WD} {Ad : Nat → Bool} {q : Nat → Nat} {st sm : Int}
theorem aside_rwk {i i' : Nat} {w' : World} (h : AsideCell (B0 + 3 + i) 1 0 w w') (hne : i' ≠ i) : RWk ty B0 i' w w' :=
 ⟨fun b hb _ _ => h.block b (by omega), fun ⟨st, sm, hl⟩ => ⟨st, sm, hl.of_block (h.block _ (by omega))⟩, fun ⟨cs, hc, hn⟩ => ⟨cs, (h.block _ (by omega)).trans hc, hn⟩, cell_of_block (h.block _ (by omega)) 0⟩
theorem aside_sim {i : Nat} {w' : World} (h : AsideCell (B0 + 3 + i) 1 0 w w') (hi : i < j) (hp : PayAt (B0 + 3 + i) 1 w) : Sim (SJ S B0 j) w w' := by
 refine sim_cells h.size h.os h.output (fun b hb => h.block b fun e => hb (Or.inr ⟨i, hi, e⟩)) (fun b _ => ?_)
 by_cases e : b = B0 + 3 + i
 ·subst e
  right
  intro c t f hc
  obtain ⟨cs', h2, _⟩ := h.pay hp
  obtain ⟨cs, h1, _⟩ := hp
  rw [h1] at hc
  cases hc
  exact ⟨cs', h2⟩
 ·exact Or.inl (h.block b e)
end
section
variable {P : Program} {ty nty : TypeId} {S : Sh} {B0 base : Nat} {bit : Nat → Nat}
variable {j : Nat} {tag : CTag} {d0 T0 N0 : Nat} {gs : Array Goroutine} {w : World} {t : Trace} {D : Nat → WD} {Ad : Nat → Bool} {q : Nat → Nat} {st sm : Int}
theorem wg_rwk [Payload] {i : Nat} {w' : World} {st' sm' : Int} (h : Aside (B0 + 2) w w') (hw : WgAt ty (B0 + 2) w' st' sm') : RWk ty B0 i w w' := RW.of_wg h ⟨_, _, hw⟩ (by omega)
theorem noted_aside {N : Nat} {w' : World} (h : NAt nty B0 N w) (hb : w'.heap[B0 + 1]? = w.heap[B0 + 1]?) : NAt nty B0 N w' := hb.trans h
theorem okW_of {i : Nat} {fn : FuncId} {pos : String} {es : Array Event} (h : ∀ e ∈ es, EvW (B0 + 2) NoOwn (RdW S B0 base i) 1 e) : ∀ op ∈ MemOp.ofEvents (base + i) fn pos es, OkW (ShOf (S3 S B0)) NoOwn (RdP S B0 base) (base + i) op := by
 intro op hop
 obtain ⟨e, he, rfl⟩ := Go.Conc.mem_ofEvents hop
 refine ⟨rfl, fun x hx => ?_⟩
 rcases ((h e he).1 fn pos).2 x hx with ⟨⟨a, h1, h2⟩, h3⟩ | h1 | h1
 ·exact Or.inl ⟨⟨a, h1, Or.inr (Or.inr h2)⟩, h3⟩
 ·exact h1.elim
 ·exact Or.inr (Or.inr h1)
theorem okW_bk {k : Nat} {fn : FuncId} {pos : String} {es : Array Event} (h : ∀ e ∈ es, Bk (B0 + 2) e) : ∀ op ∈ MemOp.ofEvents k fn pos es, OkW (ShOf (S3 S B0)) NoOwn (RdP S B0 base) k op := by
 intro op hop
 obtain ⟨h1, h2⟩ := okW_of_Bk (Own := NoOwn) (Rd := RdP S B0 base) h op hop
 refine ⟨h1, fun x hx => ?_⟩
 rcases h2 x hx with ⟨⟨a, h3, h4⟩, h5⟩ | h3 | h3
 ·exact Or.inl ⟨⟨a, h3, Or.inr (Or.inr h4)⟩, h5⟩
 ·exact Or.inr (Or.inl h3)
 ·exact Or.inr (Or.inr h3)
theorem low_evW {i B : Nat} {fn : FuncId} {pos : String} {es : Array Event} (h : ∀ e ∈ es, EvW (B0 + 2) NoOwn (RdW S B0 base i) 1 e) (hB : B0 + 3 + i < B) : ∀ op ∈ MemOp.ofEvents (base + i) fn pos es, TLow B op := by
 intro op hop x hx
 obtain ⟨e, he, rfl⟩ := Go.Conc.mem_ofEvents hop
 rcases ((h e he).1 fn pos).2 x hx with ⟨⟨a, h1, h2⟩, h3⟩ | h1 | ⟨⟨_, a, h1, h2, _⟩, _⟩
 ·rw [h1]; show a.block < B; omega
 ·exact h1.elim
 ·rw [h1]
  show a.block < B
  simp only [Nat.add_sub_cancel_left] at h2
  omega
theorem low_bk {k B : Nat} {fn : FuncId} {pos : String} {es : Array Event} (h : ∀ e ∈ es, Bk (B0 + 2) e) (hB : B0 + 2 < B) : ∀ op ∈ MemOp.ofEvents k fn pos es, TLow B op := by
 intro op hop x hx
 obtain ⟨_, h2⟩ := okW_of_Bk (Own := NoOwn) (Rd := NoOwn) h op hop
 rcases h2 x hx with ⟨⟨a, h3, h4⟩, h5⟩ | h3 | h3
 ·rw [h3]; show a.block < B; omega
 ·exact h3.elim
 ·exact h3.1.elim
end
end
section
open Go Go.Conc Go.ConcN
open Go.ConcR (KK)
theorem upd_stage {D : Nat → WD} {i : Nat} (x : WD) (a : Nat) : (upd D i x a).stage = if a = i then x.stage else (D a).stage := by
 unfold upd; split <;> rfl
section
variable {j : Nat} {D : Nat → WD} {tag : CTag} {st sm : Int} {i : Nat}
theorem off_count (hm : Go.ConcN.Mode j D tag st sm) (hi : i < j) (hs : (D i).stage = 5) (hj : j + pend tag < 2147483648) :
  ∃ v wt : Nat, wt ≤ 1 ∧ v < 2147483647 ∧ st = ((v : Int) + 1) * KK + wt ∧ sm = 0 ∧ (v = 0 ∧ wt = 1 → ∀ m, Go.ConcN.Mode j (upd D i ⟨4, m, 1⟩) tag ((v : Int) * KK + wt) 0) ∧ (¬ (v = 0 ∧ wt = 1) → ∀ m, Go.ConcN.Mode j (upd D i ⟨1, m, 1⟩) tag ((v : Int) * KK + wt) 0) := by
 have c1 : cnt (D i) = 1 := by simp [cnt, hs]
 have hV := Vc_le j D
 have hV1 : 1 ≤ Vc j D := by have := le_sumTo (f := fun x => cnt (D x)) hi; simp only [Vc]; omega
 have hq : ∀ m, Vc j (upd D i ⟨1, m, 1⟩) + 1 = Vc j D := fun m => by
  have := Vc_upd D (⟨1, m, 1⟩ : WD) hi
  have : cnt (⟨1, m, 1⟩ : WD) = 0 := rfl
  omega
 have hop : ∀ m, OpenSt j D → OpenSt j (upd D i ⟨1, m, 1⟩) := fun m h a ha => by
  rw [upd_stage]; split
  ·simp
  ·exact h a ha
 cases hm with
 | opn h1 h2 h3 =>
  refine ⟨Vc j D + pend tag - 1, 0, by omega, by omega, ?_, rfl, fun h => absurd h.2 (by decide), fun _ m => ?_⟩
  ·have : ((Vc j D + pend tag : Nat) : Int) = ((Vc j D + pend tag - 1 : Nat) : Int) + 1 := by omega
   rw [this]; simp
  ·have e : (((Vc j D + pend tag - 1 : Nat) : Int)) * KK + ((0 : Nat) : Int) = ((Vc j (upd D i ⟨1, m, 1⟩) + pend tag : Nat) : Int) * KK := by
    have := hq m
    have h0 : Vc j D + pend tag - 1 = Vc j (upd D i ⟨1, m, 1⟩) + pend tag := by omega
    rw [h0]; simp
   rw [e]
   exact .opn h1 (hop m h2) fun vs ev => by have := h3 vs ev; have := hq m; omega
 | reg h1 h2 h3 =>
  refine ⟨Vc j D - 1, 1, by omega, by omega, ?_, rfl, fun h m => ?_, fun h m => ?_⟩
  ·have : ((Vc j D : Nat) : Int) = ((Vc j D - 1 : Nat) : Int) + 1 := by omega
   rw [this]; rfl
  ·have hv : Vc j D = 1 := by omega
   have hoth : ∀ a, a < j → a ≠ i → (D a).stage = 1 := fun a ha e => by
    have c0 := others_uncounted hi hv c1 a ha e
    have := h2 a ha
    simp only [cnt] at c0
    split at c0 <;> omega
   have key := Go.ConcN.Mode.last (D := upd D i ⟨4, m, 1⟩) (tag := tag) i h1 hi (by rw [upd_same]; simp) (fun a ha e => by rw [upd_ne D _ e]; exact hoth a ha e)
   rw [upd_same] at key
   rw [h.1]
   simpa using key
  ·have e : ((Vc j D - 1 : Nat) : Int) * KK + ((1 : Nat) : Int) = ((Vc j (upd D i ⟨1, m, 1⟩) : Nat) : Int) * KK + 1 := by
    have := hq m
    have h0 : Vc j D - 1 = Vc j (upd D i ⟨1, m, 1⟩) := by omega
    rw [h0]; rfl
   rw [e]
   exact .reg h1 (hop m h2) (by have := hq m; omega)
 | last L _ h2 h3 h4 =>
  exfalso
  by_cases e : i = L
  ·subst e; omega
  ·have := h4 i hi e; omega
 | sema h2 => exfalso; have := h2 i hi; omega
 | fin _ h2 => exfalso; have := h2 i hi; omega
theorem last_on (hm : Go.ConcN.Mode j D tag st sm) (hi : i < j) (hs : (D i).stage = 4 ∨ (D i).stage = 3) {s' : Nat} (hs' : s' = 3 ∨ s' = 2) (m : Nat) : st = 1 ∧ sm = 0 ∧ Go.ConcN.Mode j (upd D i ⟨s', m, 1⟩) tag (if s' = 2 then 0 else 1) 0 := by
 obtain ⟨h1, h2, h3, h4⟩ := hm.isLast hi (by omega)
 refine ⟨by rw [h3]; split <;> omega, h4, ?_⟩
 have key := Go.ConcN.Mode.last (D := upd D i ⟨s', m, 1⟩) (tag := tag) i h1 hi (by rw [upd_same]; simp; omega) (fun a ha e => by rw [upd_ne D _ e]; exact h2 a ha e)
 rw [upd_same] at key
 exact key
theorem last_up (hm : Go.ConcN.Mode j D tag st sm) (hi : i < j) (hs : (D i).stage = 2) (m : Nat) : st = 0 ∧ sm = 0 ∧ isW3 tag ∧ Go.ConcN.Mode j (upd D i ⟨1, m, 1⟩) .w3 0 1 := by
 obtain ⟨h1, h2, h3, h4⟩ := hm.isLast hi (by omega)
 refine ⟨by rw [h3]; simp [hs], h4, h1, .sema fun a ha => ?_⟩
 rw [upd_stage]
 split
 ·rfl
 ·exact h2 a ha ‹_›
theorem less_stage (hi : i < j) {x : WD} (h : x.stage < (D i).stage) : Less j (upd D i x) D := by
 have := sumTo_upd D x WD.stage hi
 left
 simp only [Ssum]
 omega
theorem less_fuel (hi : i < j) {x : WD} (h : x.stage = (D i).stage) (hf : x.fuel < (D i).fuel) : Less j (upd D i x) D := by
 have h1 := sumTo_upd D x WD.stage hi
 have h2 := sumTo_upd D x WD.fuel hi
 right
 simp only [Ssum, Fsum]
 omega
theorem Vc_le_upd (hi : i < j) {x : WD} (h : cnt x ≤ cnt (D i)) : Vc j (upd D i x) ≤ Vc j D := by
 have := Vc_upd D x hi
 omega
theorem bitsIn_upd {bit : Nat → Nat} {Ad : Nat → Bool} (hi : i < j) (h : Ad i = false) : bitsIn bit j (upd Ad i true) = bitsIn bit j Ad + bit i := by
 have := sumTo_upd Ad true (fun _ => 0) hi
 have key : ∀ {j : Nat}, i < j → sumTo j (fun a => if upd Ad i true a = true then bit a else 0) = sumTo j (fun a => if Ad a = true then bit a else 0) + bit i := by
  intro j
  induction j with
  | zero => intro h; omega
  | succ j ih =>
   intro hij
   simp only [sumTo]
   by_cases e : i = j
   ·subst e
    have : sumTo i (fun a => if upd Ad i true a = true then bit a else 0) = sumTo i (fun a => if Ad a = true then bit a else 0) := sumTo_congr fun a ha => by rw [upd_ne Ad _ (by omega)]
    rw [this, upd_same, h]
    simp
   ·rw [ih (by omega), upd_ne Ad _ (by omega)]
    omega
 exact key hi
theorem bitsIn_same {bit : Nat → Nat} {Ad : Nat → Bool} {b : Bool} (h : Ad i = b) : bitsIn bit j (upd Ad i b) = bitsIn bit j Ad := by
 have : upd Ad i b = Ad := by
  funext a
  unfold upd
  split
  ·rename_i e; subst e; exact h.symm
  ·rfl
 rw [this]
end
end
section
open Go Go.Conc Go.ConcN
open Go.ConcR (KK wgBlock WgAt stA smA rd wr mk Payload DC0 Bk g_of_ofEvents ofEvent_loc_mark bk_of_mute)
section
variable [Payload] {P : Program} {ty nty : TypeId} {S : Sh} {B0 base : Nat} {bit : Nat → Nat}
variable {j : Nat} {tag : CTag} {d0 T0 N0 : Nat} {gs : Array Goroutine} {w : World} {t : Trace} {D : Nat → WD} {Ad : Nat → Bool} {q : Nat → Nat} {st sm : Int}
def Onward (P : Program) (ty nty : TypeId) (S : Sh) (B0 base : Nat) (bit : Nat → Nat) (j : Nat) (tag : CTag) (d0 T0 N0 : Nat) (gs : Array Goroutine) (w : World) (t : Trace) (D : Nat → WD) (q : Nat → Nat) (i : Nat) (g : Goroutine) : Prop :=
 ∃ g' w' es D' Ad' st' sm' tag', stepG P false g w = .go g' w' es ∧ Cw P ty nty S B0 base bit j tag' d0 T0 N0 ((gs.map (woken P g g' w')).setIfInBounds (base + i) g') w' (t ++ MemOp.ofEvents (base + i) g.frame.fn g.frame.place es) D' Ad' q st' sm' ∧
  Less j D' D ∧ Vc j D' ≤ Vc j D ∧ Sim (SJ S B0 j) w w' ∧ (tag' = tag ∨ (tag = .blk ∧ tag' = .w3 ∧ ∀ x, woken P g g' w' x = x.again w'))
theorem Cw.book (h : Cw P ty nty S B0 base bit j tag d0 T0 N0 gs w t D Ad q st sm) {i : Nat} (hi : i < j) {g g' : Goroutine} {w' : World} {es : Array Event} {s' m' dd' : Nat} {st' sm' : Int} {tag' : CTag} (hgo : stepG P false g w = .go g' w' es)
  (hA : Aside (B0 + 2) w w') (hwg : WgAt ty (B0 + 2) w' st' sm') (hbk : ∀ e ∈ es, Bk (B0 + 2) e) (hd : ∀ k e, es[k]? = some e → (MemAct.ofEvent e).touch? = none ∨ 0 < deafBehind (D i).deaf (es.extract 0 k)) (had : Ad i = true)
  (hs' : WSit P ty (B0 + 2) (B0 + 3 + i) 1 NoOwn (RdW S B0 base i) (B0 + 1) 1 (.int .i64 i) s' m' dd' g' w') (hdd : deafBehind (D i).deaf es = dd') (h6 : (D i).stage ≤ 6) (hmode : Go.ConcN.Mode j (upd D i ⟨s', m', dd'⟩) tag' st' sm')
  (hless : (s' < (D i).stage ∧ cnt ⟨s', m', dd'⟩ ≤ cnt (D i)) ∨ (s' = (D i).stage ∧ m' < (D i).fuel)) (htag : tag' = tag ∨ (tag = .blk ∧ tag' = .w3 ∧ ∀ x, woken P g g' w' x = x.again w')) : Onward P ty nty S B0 base bit j tag d0 T0 N0 gs w t D q i g := by
 have hroom := h.room
 refine ⟨g', w', es, upd D i ⟨s', m', dd'⟩, upd Ad i true, st', sm', tag', hgo, h.stepW hi (fun i' _ _ => wg_rwk hA hwg) (.go hs') (okW_bk hbk) (norel_of_Bk hbk) hdd (fun _ => ?_) ?_ ?_ hwg hmode hA.size (low_bk hbk (by omega)), ?_, ?_, ?_, htag⟩
 ·obtain ⟨r, hr, hr'⟩ := h.rel i hi h6
  refine ⟨r, hr.book (h.deafW i hi) _ _ hbk hd, after_app hr' fun op hop _ b hb => ?_⟩
  obtain ⟨_, h2⟩ := okW_of_Bk (Own := NoOwn) (Rd := NoOwn) hbk op hop
  rcases h2 b hb with ⟨⟨x, h3, h4⟩, _⟩ | h3 | h3
  ·exact ⟨x, h3, Or.inr (Or.inr h4)⟩
  ·exact h3.elim
  ·exact h3.1.elim
 ·obtain ⟨cs, h1, h2⟩ := h.box i hi
  exact ⟨cs, (hA.block _ (by omega)).trans h1, h2⟩
 ·rw [bitsIn_same had]
  exact noted_aside h.noted (hA.block _ (by omega))
 ·rcases hless with ⟨h1, _⟩ | ⟨h1, h2⟩
  ·exact less_stage hi h1
  ·exact less_fuel hi h1 h2
 ·rcases hless with ⟨_, h1⟩ | ⟨h1, _⟩
  ·exact Vc_le_upd hi h1
  ·exact Vc_le_upd hi (by simp only [cnt, h1]; exact Nat.le_refl _)
 ·refine sim_cells hA.size hA.os hA.output (fun b hb => hA.block b fun e => hb (Or.inl (Or.inr (Or.inr e)))) (fun b _ => ?_)
  by_cases e : b = B0 + 2
  ·subst e
   right
   intro c t f hc
   have h1 := h.wg
   unfold WgAt wgBlock at h1 hwg
   rw [h1] at hc
   cases hc
   exact ⟨_, hwg⟩
  ·exact Or.inl (hA.block b e)
theorem Cw.work (h : Cw P ty nty S B0 base bit j tag d0 T0 N0 gs w t D Ad q st sm) {i : Nat} (hi : i < j) {g g' : Goroutine} {w' : World} {es : Array Event} {m' : Nat} (hgo : stepG P false g w = .go g' w' es) (hD : DWk S B0 base i w w' es) (hst : (D i).stage = 7) (hde : (D i).deaf = 0)
  (hs' : WkS P ty nty S B0 base bit i (Ad i) 7 m' 0 g' w') (hm : m' < (D i).fuel) : Onward P ty nty S B0 base bit j tag d0 T0 N0 gs w t D q i g := by
 obtain ⟨hA, hev⟩ := hD
 simp only [Nat.sub_self] at hA
 have hroom := h.room
 refine ⟨g', w', es, upd D i ⟨7, m', 0⟩, upd Ad i (Ad i), st, sm, tag, hgo, h.stepW hi (fun i' _ e => aside_rwk hA e) hs' (okW_of hev) (fun e he => (hev e he).2.2.2) ?_ (fun h => by omega) (hA.pay (h.box i hi)) ?_ (h.wg.of_block (hA.block _ (by omega))) ?_ hA.size (low_evW hev (by omega)), less_fuel hi hst.symm hm, Vc_le_upd hi (by simp [cnt, hst]), aside_sim hA hi (h.box i hi), Or.inl rfl⟩
 ·rw [hde]
  exact deafBehind_still (fun e he => ⟨(hev e he).2.1, (hev e he).2.2.1⟩) 0
 ·rw [bitsIn_same rfl]
  exact noted_aside h.noted (hA.block _ (by omega))
 ·have := h.mode.same (i := i) m' 0
  rwa [hst] at this
set_option maxHeartbeats 1000000 in
theorem Cw.worker (h : Cw P ty nty S B0 base bit j tag d0 T0 N0 gs w t D Ad q st sm) {i : Nat} (hi : i < j) {g : Goroutine} (hg : gs[base + i]? = some g) (hrun : g.status = .running) (hj : j + pend tag < 2147483648) (hbits : ∀ Ad', N0 + bitsIn bit j Ad' < 4294967296) :
  Onward P ty nty S B0 base bit j tag d0 T0 N0 gs w t D q i g := by
 have hroom := h.room
 obtain ⟨g₁, hg₁, hs⟩ := h.wk i hi
 obtain rfl : g = g₁ := by rw [hg] at hg₁; exact Option.some.inj hg₁
 generalize had : Ad i = ad at hs
 generalize hst : (D i).stage = s at hs
 generalize hfu : (D i).fuel = m at hs
 generalize hde : (D i).deaf = dd at hs
 have two : ∀ a : Addr, a.block = B0 + 2 → ∀ e ∈ #[rd a, wr a], Bk (B0 + 2) e := by
  intro a ha e he
  simp at he
  rcases he with rfl | rfl <;> exact bk_cell _ _ ha
 cases hs with
 | @pre M2 m0 _ _ hp =>
  rcases Goes.cases hp with hstop | ⟨m', rfl, hstep⟩
  ·-- it adds its bit
   obtain ⟨_, hadd⟩ := hstop w (RWk.refl i w)
   have hb := bitsIn_upd (bit := bit) hi had
   have hlt := hbits (upd Ad i true)
   obtain ⟨g', hgo, hk⟩ := hadd _ (by omega) h.noted
   have hA : Aside (B0 + 1) w (w.setCell (nA B0) (.int .u32 ((N0 + bitsIn bit j Ad + bit i : Nat) : Int))) := aside_setCell w (nA B0) _
   have hev : ∀ e ∈ #[rd (nA B0), wr (nA B0)], e = rd (nA B0) ∨ e = wr (nA B0) := by intro e he; simpa using he
   have hops : ∀ op ∈ MemOp.ofEvents (base + i) g.frame.fn g.frame.place #[rd (nA B0), wr (nA B0)], ∀ x, op.act.touch? = some x → x.loc = .cell (nA B0) ∧ x.kind = .atomic := by
    intro op hop x hx
    obtain ⟨e, he, rfl⟩ := Go.Conc.mem_ofEvents hop
    rcases hev e he with rfl | rfl <;> simp [rd, wr, MemAct.ofEvent, MemAct.touch?] at hx <;> subst hx <;> exact ⟨rfl, rfl⟩
   refine ⟨g', _, _, upd D i ⟨7, M2, 0⟩, upd Ad i true, st, sm, tag, hgo, h.stepW hi (fun i' _ _ => ?_) (.go (.r0 hk)) (fun op hop => ?_) ?_ ?_ (fun h => by omega) ?_ ?_ (h.wg.of_block (hA.block _ (by omega))) ?_ hA.size (fun op hop x hx => ?_), less_fuel hi hst.symm (by rw [hfu]; dsimp only; omega), Vc_le_upd hi (by simp [cnt, hst]), sim_setCell (Or.inl (Or.inr (Or.inl rfl))) _, Or.inl rfl⟩
   ·exact ⟨fun b hb _ _ => hA.block b (by omega), fun ⟨st, sm, hl⟩ => ⟨st, sm, hl.of_block (hA.block _ (by omega))⟩, fun ⟨cs, hc, hn⟩ => ⟨cs, (hA.block _ (by omega)).trans hc, hn⟩, cell_of_block (hA.block _ (by omega)) 0⟩
   ·refine ⟨by obtain ⟨e, _, rfl⟩ := Go.Conc.mem_ofEvents hop; rfl, fun x hx => Or.inl ?_⟩
    obtain ⟨h1, h2⟩ := hops op hop x hx
    exact ⟨⟨nA B0, h1, Or.inr (Or.inl rfl)⟩, by rw [h2]; simp, by rw [h2]; simp⟩
   ·intro e he
    rcases hev e he with rfl | rfl <;> simp [rd, wr]
   ·rw [hde]; rfl
   ·obtain ⟨cs, h1, h2⟩ := h.box i hi
    exact ⟨cs, (hA.block _ (by omega)).trans h1, h2⟩
   ·rw [hb, ← Nat.add_assoc]
    have h1 := h.noted
    unfold NAt at h1 ⊢
    have hlt1 : B0 + 1 < w.heap.size := by omega
    simp only [World.setCell, nA, Array.getElem?_modify, if_true, h1, Option.map_some]
    rfl
   ·have := h.mode.same (i := i) M2 0
    rwa [hst] at this
   ·obtain ⟨h1, _⟩ := hops op hop x hx
    rw [h1]
    show B0 + 1 < _
    omega
  ·obtain ⟨g', w', es, hgo, hD, hg'⟩ := hstep w (RWk.refl i w)
   exact h.work hi hgo hD hst hde (by rw [had]; exact .pre hg') (by rw [hfu]; omega)
 | go hs =>
  cases hs with
  | r0 hp =>
   rcases Goes.cases hp with hstop | ⟨m', rfl, hstep⟩
   ·obtain ⟨_, hhas, g', hgo, m₂, hk⟩ := hstop w (RW.refl w)
    have hev : ∀ e ∈ #[Go.ConcR.mk (.releaseMerge (stA (B0 + 2)))], e = Go.ConcR.mk (.releaseMerge (stA (B0 + 2))) := by intro e he; simpa using he
    have hnt : ∀ op ∈ MemOp.ofEvents (base + i) g.frame.fn g.frame.place #[Go.ConcR.mk (.releaseMerge (stA (B0 + 2)))], op.act.touch? = none := by
     intro op hop
     obtain ⟨e, he, rfl⟩ := Go.Conc.mem_ofEvents hop
     rw [hev e he]; rfl
    refine ⟨g', w, _, upd D i ⟨6, m₂, 0⟩, upd Ad i true, st, sm, tag, hgo, h.stepW hi (fun i' _ _ => RWk.refl i' w) (.go (.k1 hk)) (fun op hop => ?_) ?_ ?_ (fun _ => ⟨t.size, RelBy.new (by rw [h.deafW i hi, hde]) _ _, fun x b hx _ hb => by
     obtain ⟨op, ho, _⟩ := touch_of hb
     have := lt_size_of_getElem? ho
     rw [ofEvents_eq] at this
     simp at this
     omega⟩) (h.box i hi) ?_ h.wg (h.mode.counted hi (by omega) (Or.inl rfl) _ _) rfl (fun op hop x hx => by rw [hnt op hop] at hx; cases hx), less_stage hi (by show 6 < _; omega), Vc_le_upd hi (by simp [cnt, hst]), Sim.refl _ w, Or.inl rfl⟩
    ·exact ⟨by obtain ⟨e, _, rfl⟩ := Go.Conc.mem_ofEvents hop; rfl, fun x hx => by rw [hnt op hop] at hx; cases hx⟩
    ·intro e he
     rw [hev e he]; simp [Go.ConcR.mk]
    ·rw [hde]; rfl
    ·rw [bitsIn_same had]; exact h.noted
   ·obtain ⟨g', w', es, hgo, hD, hg'⟩ := hstep w (RW.refl w)
    exact h.work hi hgo hD hst hde (by rw [had]; exact .go (.r0 hg')) (by rw [hfu]; omega)
  | k1 hp =>
   rcases Goes.cases hp with hstop | ⟨m', rfl, hstep⟩
   ·obtain ⟨_, g', hgo, m₂, hk⟩ := hstop w (RW.refl w)
    exact h.book hi hgo (.refl _ w) h.wg (by intro e he; simp at he; subst he; exact Or.inl rfl) (by intro k e he; exact Or.inl (by have := Array.mem_of_getElem? he; simp at this; subst this; rfl)) had (.d1 hk) (by rw [hde]; rfl) (by omega) (h.mode.counted hi (by omega) (Or.inr rfl) _ _) (Or.inl ⟨by omega, by simp [cnt, hst]⟩) (Or.inl rfl)
   ·obtain ⟨g', w', es, hgo, ⟨rfl, rfl⟩, hg'⟩ := hstep w (RW.refl w)
    exact h.book hi hgo (.refl _ _) h.wg (by simp) (by simp) had (.k1 hg') (by rw [hde]; rfl) (by omega) (by have := h.mode.same (i := i) m' 0; rwa [hst] at this) (Or.inr ⟨hst.symm, by rw [hfu]; omega⟩) (Or.inl rfl)
  | d1 hp =>
   rcases Goes.cases hp with hstop | ⟨m', rfl, hstep⟩
   ·obtain ⟨_, hall⟩ := hstop w (RW.refl w)
    obtain ⟨v, wt, hwt, hv, e1, e2, hl, hq⟩ := off_count h.mode hi hst hj
    have hwg := h.wg
    rw [e1, e2] at hwg
    obtain ⟨g', hgo, h1, h2⟩ := hall v wt hwt hv hwg
    have df : ∀ k e, (#[rd (stA (B0 + 2)), wr (stA (B0 + 2))] : Array Event)[k]? = some e → (MemAct.ofEvent e).touch? = none ∨ 0 < deafBehind (D i).deaf ((#[rd (stA (B0 + 2)), wr (stA (B0 + 2))] : Array Event).extract 0 k) := by
     intro k e he
     rw [hde]
     match k, he with
     | 0, _ => exact Or.inr (by simp [deafBehind])
     | 1, _ => exact Or.inr (by simp [deafBehind, rd])
     | k + 2, he => simp at he
    by_cases hc : v = 0 ∧ wt = 1
    ·obtain ⟨m₂, hk⟩ := h1 hc
     exact h.book hi hgo (aside_setCell w (stA (B0 + 2)) _) (hwg.setSt _) (two _ rfl) df had (.d2 hk) (by rw [hde]; rfl) (by omega) (hl hc _) (Or.inl ⟨by omega, by simp [cnt]⟩) (Or.inl rfl)
    ·obtain ⟨q', hk⟩ := h2 hc
     exact h.book hi hgo (aside_setCell w (stA (B0 + 2)) _) (hwg.setSt _) (two _ rfl) df had (.quit hk) (by rw [hde]; rfl) (by omega) (hq hc _) (Or.inl ⟨by omega, by simp [cnt]⟩) (Or.inl rfl)
   ·obtain ⟨g', w', es, hgo, ⟨rfl, rfl⟩, hg'⟩ := hstep w (RW.refl w)
    exact h.book hi hgo (.refl _ _) h.wg (by simp) (by simp) had (.d1 hg') (by rw [hde]; rfl) (by omega) (by have := h.mode.same (i := i) m' 1; rwa [hst] at this) (Or.inr ⟨hst.symm, by rw [hfu]; omega⟩) (Or.inl rfl)
  | d2 hp =>
   rcases Goes.cases hp with hstop | ⟨m', rfl, hstep⟩
   ·obtain ⟨_, hx⟩ := hstop w (RW.refl w)
    obtain ⟨e1, e2, _⟩ := last_on h.mode hi (by omega) (s' := 3) (Or.inl rfl) 0
    have hwg := h.wg
    rw [e1, e2] at hwg
    obtain ⟨g', hgo, m₂, hk⟩ := hx hwg
    obtain ⟨_, _, hm'⟩ := last_on h.mode hi (by omega) (s' := 3) (Or.inl rfl) m₂
    exact h.book hi hgo (.refl _ w) hwg (by intro e he; simp at he; subst he; exact bk_cell _ _ rfl) (by intro k e he; rw [hde]; match k, he with | 0, _ => exact Or.inr (by simp [deafBehind]) | k + 1, he => simp at he) had (.d3 hk) (by rw [hde]; rfl) (by omega) (by simpa using hm') (Or.inl ⟨by omega, by simp [cnt]⟩) (Or.inl rfl)
   ·obtain ⟨g', w', es, hgo, ⟨rfl, rfl⟩, hg'⟩ := hstep w (RW.refl w)
    exact h.book hi hgo (.refl _ _) h.wg (by simp) (by simp) had (.d2 hg') (by rw [hde]; rfl) (by omega) (by have := h.mode.same (i := i) m' 1; rwa [hst] at this) (Or.inr ⟨hst.symm, by rw [hfu]; omega⟩) (Or.inl rfl)
  | d3 hp =>
   rcases Goes.cases hp with hstop | ⟨m', rfl, hstep⟩
   ·obtain ⟨_, hx⟩ := hstop w (RW.refl w)
    obtain ⟨e1, e2, _⟩ := last_on h.mode hi (by omega) (s' := 2) (Or.inr rfl) 0
    have hwg := h.wg
    rw [e1, e2] at hwg
    obtain ⟨g', hgo, m₂, hk⟩ := hx hwg
    obtain ⟨_, _, hm'⟩ := last_on h.mode hi (by omega) (s' := 2) (Or.inr rfl) m₂
    exact h.book hi hgo (aside_setCell w (stA (B0 + 2)) _) (hwg.setSt 0) (by intro e he; simp at he; subst he; exact bk_cell _ _ rfl) (by intro k e he; rw [hde]; match k, he with | 0, _ => exact Or.inr (by simp [deafBehind]) | k + 1, he => simp at he) had (.d4 hk) (by rw [hde]; rfl) (by omega) (by simpa using hm') (Or.inl ⟨by omega, by simp [cnt]⟩) (Or.inl rfl)
   ·obtain ⟨g', w', es, hgo, ⟨rfl, rfl⟩, hg'⟩ := hstep w (RW.refl w)
    exact h.book hi hgo (.refl _ _) h.wg (by simp) (by simp) had (.d3 hg') (by rw [hde]; rfl) (by omega) (by have := h.mode.same (i := i) m' 1; rwa [hst] at this) (Or.inr ⟨hst.symm, by rw [hfu]; omega⟩) (Or.inl rfl)
  | d4 hp =>
   rcases Goes.cases hp with hstop | ⟨m', rfl, hstep⟩
   ·obtain ⟨_, hmw, hx⟩ := hstop w (RW.refl w)
    obtain ⟨e1, e2, _, _⟩ := last_up h.mode hi hst 0
    have hwg := h.wg
    rw [e1, e2] at hwg
    obtain ⟨g', hgo, q', hk⟩ := hx hwg
    obtain ⟨_, _, h3, hm'⟩ := last_up h.mode hi hst q'
    have hwake : ∀ x, woken P g g' (w.setCell (smA (B0 + 2)) (.int .u32 1)) x = x.again (w.setCell (smA (B0 + 2)) (.int .u32 1)) := fun x => by
     unfold Go.Conc.woken
     rcases hk.status with e | e <;> simp [hmw, e]
    refine h.book hi hgo (aside_setCell w (smA (B0 + 2)) _) (hwg.setSm 1) bk_sem ?_ had (.quit hk) (by rw [hde]; simp [deafBehind, semEvents]) (by omega) hm' (Or.inl ⟨by omega, by simp [cnt]⟩) ?_
    ·intro k e he
     rw [hde]
     match k, he with
     | 0, he => simp [semEvents] at he; subst he; exact Or.inl rfl
     | 1, _ => exact Or.inr (by simp [deafBehind, semEvents])
     | 2, _ => exact Or.inr (by simp [deafBehind, semEvents])
     | 3, he => simp [semEvents] at he; subst he; exact Or.inl rfl
     | k + 4, he => simp [semEvents] at he
    ·cases tag <;> first | exact h3.elim | exact Or.inl rfl | exact Or.inr ⟨rfl, rfl, hwake⟩
   ·obtain ⟨g', w', es, hgo, ⟨rfl, rfl⟩, hg'⟩ := hstep w (RW.refl w)
    exact h.book hi hgo (.refl _ _) h.wg (by simp) (by simp) had (.d4 hg') (by rw [hde]; rfl) (by omega) (by have := h.mode.same (i := i) m' 1; rwa [hst] at this) (Or.inr ⟨hst.symm, by rw [hfu]; omega⟩) (Or.inl rfl)
  | quit hq =>
   cases m with
   | zero => rw [hq.1] at hrun; cases hrun
   | succ k =>
    rcases hq with ⟨hf, _⟩ | ⟨_, g', es, hmute, hstep, hq'⟩
    ·rw [hf] at hrun; cases hrun
    ·have hbk : ∀ e ∈ es, Bk (B0 + 2) e := fun e he => bk_of_mute (hmute e he)
     exact h.book hi (hstep w) (.refl _ w) h.wg hbk (fun k e he => Or.inl (touch_mute (hmute e (Array.mem_of_getElem? he)))) had (.quit hq') (by rw [hde]) (by omega) (by have := h.mode.same (i := i) k (deafBehind dd es); rwa [hst] at this) (Or.inr ⟨hst.symm, by rw [hfu]; omega⟩) (Or.inl rfl)
end
end
end Go.Proofs.YtdafpnpfcmgfcaaGreatDoor
