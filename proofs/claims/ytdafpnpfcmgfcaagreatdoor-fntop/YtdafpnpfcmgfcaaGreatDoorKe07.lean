/- Workers each of which may add its own bit to one number, atomically, beside one that starts and awaits them: what is held of all of them at every moment. Whatever step of a worker's keeps what is held, and brings the worker on. How the group's two cells go on with a worker's steps. -/
import Derived.Test.YtdafpnpfcmgfcaaGreatDoorKe06
import Derived.Conc.CrowdStepC2
namespace Go.Proofs.YtdafpnpfcmgfcaaGreatDoor
section
open Go Go.Conc Go.ConcN
open Go.ConcR (KK wgBlock WgAt stA smA rd wr mk Payload DC0 Bk g_of_ofEvents)
def NoOwn : Nat → Loc → Prop := fun _ _ => False
section
variable [Payload] (P : Program) (ty nty : TypeId) (S : Sh) (B0 base : Nat) (bit : Nat → Nat)
def NAt (N : Nat) (w : World) : Prop := w.heap[B0 + 1]? = some (.cells #[.int .u32 N] nty)
def nA : Addr := ⟨B0 + 1, 0, none⟩
def S3 : Sh := ⟨fun b => S b ∨ b = B0 + 1 ∨ b = B0 + 2, S.start⟩
def SJ (j : Nat) : Sh := ⟨fun b => S3 S B0 b ∨ ∃ i, i < j ∧ b = B0 + 3 + i, S.start⟩
def RdP (k : Nat) (l : Loc) : Prop := base ≤ k ∧ ∃ a, l = .cell a ∧ (a.block ≤ B0 ∨ a.block = B0 + 3 + (k - base)) ∧ ¬ S a.block
def RdW (i : Nat) : Nat → Loc → Prop := fun _ l => RdP S B0 base (base + i) l
def RWk (i : Nat) : World → World → Prop := RW ty (B0 + 2) (B0 + 3 + i) 1 (B0 + 1) 0
def DWk (i : Nat) : World → World → Array Event → Prop := DWs (B0 + 2) NoOwn (RdW S B0 base i) (B0 + 3 + i) 1 1
def R0k (i : Nat) : Goroutine → World → Prop := AtR0 P ty (B0 + 2) (B0 + 3 + i) 1 (B0 + 1) 1 (.int .i64 i)
def AtAdd (i M2 : Nat) (g : Goroutine) (w : World) : Prop :=
 g.status = .running ∧ ∀ N : Nat, N + bit i < 4294967296 → NAt nty B0 N w → ∃ g', stepG P false g w = .go g' (w.setCell (nA B0) (.int .u32 ((N + bit i : Nat) : Int))) #[rd (nA B0), wr (nA B0)] ∧
  Goes P false (RWk ty B0 i) (DWk S B0 base i) (R0k P ty B0 i) M2 g' (w.setCell (nA B0) (.int .u32 ((N + bit i : Nat) : Int)))
inductive WkS (i : Nat) : Bool → Nat → Nat → Nat → Goroutine → World → Prop
 | pre {M2 m : Nat} {g : Goroutine} {w : World} : Goes P false (RWk ty B0 i) (DWk S B0 base i) (AtAdd P ty nty S B0 base bit i M2) m g w → WkS i false 7 (m + M2 + 1) 0 g w
 | go {s m d : Nat} {g : Goroutine} {w : World} : WSit P ty (B0 + 2) (B0 + 3 + i) 1 NoOwn (RdW S B0 base i) (B0 + 1) 1 (.int .i64 i) s m d g w → WkS i true s m d g w
def After (t : Trace) (k r : Nat) : Prop := ∀ x b, r < x → t.g? x = some k → touchAt t x = some b → ShOf (S3 S B0) b.loc
def bitsIn (j : Nat) (Ad : Nat → Bool) : Nat := sumTo j fun i => if Ad i = true then bit i else 0
structure Cw (j : Nat) (tag : CTag) (d0 T0 N0 : Nat) (gs : Array Goroutine) (w : World) (t : Trace) (D : Nat → WD) (Ad : Nat → Bool) (q : Nat → Nat) (st sm : Int) : Prop where
 base1 : 1 ≤ base
 size : gs.size = base + j
 old : ∀ i g, 0 < i → i < base → gs[i]? = some g → QuitsD P (q i) (Deaf t i) g
 wk : ∀ i, i < j → ∃ g, gs[base + i]? = some g ∧ WkS P ty nty S B0 base bit i (Ad i) (D i).stage (D i).fuel (D i).deaf g w
 ct : CT (ShOf (S3 S B0)) NoOwn (RdP S B0 base) t (base + j - 1)
 norel : ∀ i, T0 ≤ i → t.act? i ≠ some (.mark (.release (stA (B0 + 2))))
 begun : T0 ≤ t.size
 deaf0 : Deaf t 0 = d0
 deafW : ∀ i, i < j → Deaf t (base + i) = (D i).deaf
 above : ∀ i, base + j ≤ i → Deaf t i = 0
 rel : ∀ i, i < j → (D i).stage ≤ 6 → ∃ r, RelBy (stA (B0 + 2)) t (base + i) r ∧ After S B0 t (base + i) r
 early : ∀ i g, i < T0 → t.g? i = some g → g < base
 box : ∀ i, i < j → PayAt (B0 + 3 + i) 1 w
 noted : NAt nty B0 (N0 + bitsIn bit j Ad) w
 wg : WgAt ty (B0 + 2) w st sm
 mode : Go.ConcN.Mode j D tag st sm
 seen : ∀ op ∈ t, TLow w.heap.size op
 kn : ∀ i a, touchAt t i = some a → ¬ ShOf (S3 S B0) a.loc → (∃ k, base ≤ k ∧ t.g? i = some k) ∨ Knows t 0 i
 over : ∀ i g, t.g? i = some g → g ≠ 0 → g < base → t.counts i → ∃ x, t.g? x = some 0 ∧ HappensBefore t i x
 room : B0 + 3 + j ≤ w.heap.size
end
section
variable {S : Sh} {B0 base : Nat}
theorem apart3 : Apart (ShOf (S3 S B0)) NoOwn (RdP S B0 base) := by
 refine ⟨fun _ _ _ h => h.elim, fun _ _ _ h => h.elim, fun _ _ h => h.elim, ?_⟩
 rintro k l ⟨_, a, rfl, h1, h2⟩ ⟨b, hb, h3⟩
 cases hb
 rcases h3 with h3 | h3 | h3
 ·exact h2 h3
 ·omega
 ·omega
theorem get_other {gs : Array Goroutine} {f : Goroutine → Goroutine} {x : Nat} {y : Goroutine} {b : Nat} (hb : x ≠ b) : ((gs.map f).setIfInBounds x y)[b]? = (gs[b]?).map f := by
 rw [Array.getElem?_setIfInBounds_ne hb, Array.getElem?_map]
variable {t : Trace}
theorem early_app {u : Trace} {T0 : Nat} (hT : T0 ≤ t.size) (h : ∀ i g, i < T0 → t.g? i = some g → g < base) : ∀ i g, i < T0 → (t ++ u).g? i = some g → g < base :=
 fun i g hi hg => h i g hi (by rw [← g?_old (u := u) (by omega)]; exact hg)
theorem after_app {u : Trace} {k r : Nat} (h : After S B0 t k r) (hu : ∀ op ∈ u, op.g = k → ∀ b, op.act.touch? = some b → ShOf (S3 S B0) b.loc) : After S B0 (t ++ u) k r := by
 intro x b hx hg hb
 obtain ⟨op, ho, hob⟩ := touch_of hb
 rcases getElem?_append_cases ho with ⟨hlt, ho'⟩ | ⟨_, hou⟩
 ·exact h x b hx (by rw [← g?_old (u := u) hlt]; exact hg) (by rw [touchAt_of ho']; exact hob)
 ·exact hu op hou (by simpa [Trace.g?, ho] using hg) b hob
theorem after_other {u : Trace} {k r g : Nat} (hg : ∀ op ∈ u, op.g = g) (hne : g ≠ k) (h : After S B0 t k r) : After S B0 (t ++ u) k r :=
 after_app h fun op hop e => absurd ((hg op hop).symm.trans e) hne
theorem norel_app {u : Trace} {a : Addr} {T0 : Nat} (h : ∀ i, T0 ≤ i → t.act? i ≠ some (.mark (.release a))) (hu : ∀ op ∈ u, op.act ≠ .mark (.release a)) : ∀ i, T0 ≤ i → (t ++ u).act? i ≠ some (.mark (.release a)) := by
 intro i hi e
 obtain ⟨op, ho, hoa⟩ := Option.map_eq_some_iff.1 e
 rcases getElem?_append_cases ho with ⟨_, ho'⟩ | ⟨_, hou⟩
 ·exact h i hi (by rw [act?_of ho', hoa])
 ·exact hu op hou hoa
theorem known_app {u : Trace} {k : Nat} (hk : ∀ op ∈ u, op.g = k)
  (h : ∀ i a, touchAt t i = some a → ¬ ShOf (S3 S B0) a.loc → (∃ k, base ≤ k ∧ t.g? i = some k) ∨ Knows t 0 i) (h2 : base ≤ k ∨ k = 0 ∨ ∀ op ∈ u, op.act.touch? = none) :
  ∀ i a, touchAt (t ++ u) i = some a → ¬ ShOf (S3 S B0) a.loc → (∃ k, base ≤ k ∧ (t ++ u).g? i = some k) ∨ Knows (t ++ u) 0 i := by
 intro i a ha hn
 obtain ⟨x, hx, hxa⟩ := touch_of ha
 rcases getElem?_append_cases hx with ⟨hi, hx'⟩ | ⟨_, hxu⟩
 ·rcases h i a (by rw [touchAt_of hx']; exact hxa) hn with ⟨k, h1, h3⟩ | h
  ·exact Or.inl ⟨k, h1, by rw [g?_old hi]; exact h3⟩
  ·exact Or.inr (h.app u)
 ·rcases h2 with h2 | h2 | h2
  ·exact Or.inl ⟨k, h2, by simp [Trace.g?, hx, hk x hxu]⟩
  ·have := knows_own hx
   rw [hk x hxu, h2] at this
   exact Or.inr this
  ·rw [h2 x hxu] at hxa; cases hxa
theorem over_app {u : Trace} {k : Nat} (hk : ∀ op ∈ u, op.g = k) (h : ∀ i g, t.g? i = some g → g ≠ 0 → g < base → t.counts i → ∃ x, t.g? x = some 0 ∧ HappensBefore t i x)
  (h2 : base ≤ k ∨ k = 0 ∨ ∀ op ∈ u, op.act.touch? = none) : ∀ i g, (t ++ u).g? i = some g → g ≠ 0 → g < base → (t ++ u).counts i → ∃ x, (t ++ u).g? x = some 0 ∧ HappensBefore (t ++ u) i x := by
 intro i g hg h0 hb hc
 rcases Nat.lt_or_ge i t.size with hlt | hge
 ·obtain ⟨x, hx, hb'⟩ := h i g (by rw [← g?_old (u := u) hlt]; exact hg) h0 hb ((counts_old hlt).1 hc)
  have hxl : x < t.size := by
   unfold Trace.g? at hx
   obtain ⟨z, hz, _⟩ := Option.map_eq_some_iff.1 hx
   exact lt_size_of_getElem? hz
  exact ⟨x, by rw [g?_old hxl]; exact hx, hb_app u hb'⟩
 ·obtain ⟨op, ho, hog⟩ := Option.map_eq_some_iff.1 hg
  rcases getElem?_append_cases ho with ⟨hlt, _⟩ | ⟨_, hou⟩
  ·omega
  ·have := hk op hou
   rcases h2 with h2 | h2 | h2
   ·omega
   ·omega
   ·obtain ⟨x, hx, _⟩ := hc
    obtain ⟨y, hy, hya⟩ := touch_of hx
    rw [ho] at hy
    cases hy
    rw [h2 op hou] at hya
    cases hya
end
section
variable [Payload] {P : Program} {ty nty : TypeId} {S : Sh} {B0 base : Nat} {bit : Nat → Nat}
theorem RWk.refl (i : Nat) (w : World) : RWk ty B0 i w w := RW.refl w
theorem RWk.trans {i : Nat} {a b c : World} (h : RWk ty B0 i a b) (h' : RWk ty B0 i b c) : RWk ty B0 i a c := RW.trans h h'
theorem WkS.rely {i : Nat} {ad : Bool} {s m d : Nat} {g : Goroutine} {w w₁ : World} (h : WkS P ty nty S B0 base bit i ad s m d g w) (hr : RWk ty B0 i w w₁) : WkS P ty nty S B0 base bit i ad s m d g w₁ := by
 cases h with
 | pre h => exact .pre (Goes.rely (R := RWk ty B0 i) (fun _ _ _ a b => RWk.trans a b) h hr)
 | go h => exact .go (h.rely hr)
theorem WkS.status {i : Nat} {ad : Bool} {s m d : Nat} {g : Goroutine} {w : World} (h : WkS P ty nty S B0 base bit i ad s m d g w) : g.status = .running ∨ g.status = .finished := by
 cases h with
 | pre h => exact Or.inl (Goes.running (fun _ _ x => x.1) w (RWk.refl i w) h)
 | go h => exact h.status
theorem WkS.woken {i : Nat} {ad : Bool} {s m d : Nat} {g : Goroutine} {w : World} (h : WkS P ty nty S B0 base bit i ad s m d g w) (a a' : Goroutine) (w' : World) : woken P a a' w' g = g := by
 unfold Go.Conc.woken
 split
 ·exact again_running _ h.status
 ·rfl
variable {j : Nat} {tag : CTag} {d0 T0 N0 : Nat} {gs : Array Goroutine} {w : World} {t : Trace} {D : Nat → WD} {Ad : Nat → Bool} {q : Nat → Nat} {st sm : Int}
theorem Cw.stepW (h : Cw P ty nty S B0 base bit j tag d0 T0 N0 gs w t D Ad q st sm) {i : Nat} (hi : i < j) {g g' : Goroutine} {w' : World} {fn : FuncId} {pos : String} {es : Array Event} {ad' : Bool} {s' m' dd' : Nat} {tag' : CTag} {st' sm' : Int}
  (hrw : ∀ i', i' < j → i' ≠ i → RWk ty B0 i' w w') (hs' : WkS P ty nty S B0 base bit i ad' s' m' dd' g' w')
  (hok : ∀ op ∈ MemOp.ofEvents (base + i) fn pos es, OkW (ShOf (S3 S B0)) NoOwn (RdP S B0 base) (base + i) op) (hnr : ∀ e ∈ es, e.loc ≠ .mark (.release (stA (B0 + 2)))) (hdeaf : deafBehind (D i).deaf es = dd')
  (hrel : s' ≤ 6 → ∃ r, RelBy (stA (B0 + 2)) (t ++ MemOp.ofEvents (base + i) fn pos es) (base + i) r ∧ After S B0 (t ++ MemOp.ofEvents (base + i) fn pos es) (base + i) r) (hbox : PayAt (B0 + 3 + i) 1 w') (hno : NAt nty B0 (N0 + bitsIn bit j (upd Ad i ad')) w') (hwg : WgAt ty (B0 + 2) w' st' sm')
  (hmode : Go.ConcN.Mode j (upd D i ⟨s', m', dd'⟩) tag' st' sm') (hsz : w'.heap.size = w.heap.size) (hlow : ∀ op ∈ MemOp.ofEvents (base + i) fn pos es, TLow w.heap.size op) :
  Cw P ty nty S B0 base bit j tag' d0 T0 N0 ((gs.map (woken P g g' w')).setIfInBounds (base + i) g') w' (t ++ MemOp.ofEvents (base + i) fn pos es) (upd D i ⟨s', m', dd'⟩) (upd Ad i ad') q st' sm' := by
 have hb := h.base1
 refine ⟨hb, by simp [h.size], fun k x hk hkb hx => ?_, fun i' hi' => ?_, h.ct.appW apart3 (by omega) (by omega) hok, norel_app h.norel (norel_of hnr), by have := h.begun; simp; omega, by rw [Deaf_other t (by omega) _ g_of_ofEvents, h.deaf0], fun i' hi' => ?_, fun k hk => by rw [Deaf_other t (by omega) _ g_of_ofEvents, h.above k hk], fun i' hi' hst => ?_, early_app h.begun h.early, fun i' hi' => ?_, hno, hwg, hmode, fun op hop => ?_, known_app g_of_ofEvents h.kn (Or.inl (by omega)), over_app g_of_ofEvents h.over (Or.inl (by omega)), by rw [hsz]; exact h.room⟩
 ·rw [get_other (by omega)] at hx
  obtain ⟨y, hy, rfl⟩ := Option.map_eq_some_iff.1 hx
  have hq := h.old k y hk hkb hy
  rw [woken_quitsD hq, Deaf_other t (by omega) _ g_of_ofEvents]
  exact hq
 ·by_cases e : i' = i
  ·subst e
   exact ⟨g', by simp [h.size, hi], by rw [upd_same, upd_same]; exact hs'⟩
  ·obtain ⟨x, hx, hsx⟩ := h.wk i' hi'
   refine ⟨x, by rw [get_other (by omega), hx, Option.map_some, hsx.woken], ?_⟩
   rw [upd_ne D _ e, upd_ne Ad _ e]
   exact hsx.rely (hrw i' hi' e)
 ·by_cases e : i' = i
  ·subst e; rw [Deaf_own, h.deafW i' hi', upd_same]; exact hdeaf
  ·rw [Deaf_other t (by omega) _ g_of_ofEvents, h.deafW i' hi', upd_ne D _ e]
 ·by_cases e : i' = i
  ·subst e; rw [upd_same] at hst; exact hrel hst
  ·rw [upd_ne D _ e] at hst
   obtain ⟨r, hr, hr'⟩ := h.rel i' hi' hst
   exact ⟨r, hr.appOther g_of_ofEvents (by omega), after_other g_of_ofEvents (by omega) hr'⟩
 ·by_cases e : i' = i
  ·subst e; exact hbox
  ·exact (hrw i' hi' e).pay (h.box i' hi')
 ·rcases Array.mem_append.1 hop with hop | hop
  ·rw [hsz]; exact h.seen op hop
  ·rw [hsz]; exact hlow op hop
theorem Cw.stepOld (h : Cw P ty nty S B0 base bit j tag d0 T0 N0 gs w t D Ad q st sm) {k kq : Nat} (hk : 0 < k) (hkb : k < base) {g g' : Goroutine} {fn : FuncId} {pos : String} {es : Array Event} (hm : ∀ e ∈ es, Event.mute e = true) (hq : QuitsD P kq (deafBehind (Deaf t k) es) g') :
  Cw P ty nty S B0 base bit j tag d0 T0 N0 ((gs.map (woken P g g' w)).setIfInBounds k g') w (t ++ MemOp.ofEvents k fn pos es) D Ad (upd q k kq) st sm := by
 have hb := h.base1
 have hnt : ∀ op ∈ MemOp.ofEvents k fn pos es, op.act.touch? = none := fun op hop => by obtain ⟨e, he, rfl⟩ := Go.Conc.mem_ofEvents hop; exact touch_mute (hm e he)
 refine ⟨hb, by simp [h.size], fun k' x hk' hkb' hx => ?_, fun i' hi' => ?_, h.ct.appW (k := k) apart3 (by omega) (by omega) fun op hop => ?_, norel_app h.norel fun op hop => ?_, by have := h.begun; simp; omega, by rw [Deaf_other t (by omega) _ g_of_ofEvents, h.deaf0], fun i' hi' => by rw [Deaf_other t (by omega) _ g_of_ofEvents, h.deafW i' hi'], fun k' hk' => by rw [Deaf_other t (by omega) _ g_of_ofEvents, h.above k' hk'], fun i' hi' hst => ?_, early_app h.begun h.early, h.box, h.noted, h.wg, h.mode, fun op hop => ?_, known_app g_of_ofEvents h.kn (Or.inr (Or.inr hnt)), over_app g_of_ofEvents h.over (Or.inr (Or.inr hnt)), h.room⟩
 ·by_cases e : k' = k
  ·subst e
   rw [Array.getElem?_setIfInBounds_self_of_lt (by simp [h.size]; omega)] at hx
   obtain rfl := Option.some.inj hx
   rw [upd_same, Deaf_own]
   exact hq
  ·rw [get_other (Ne.symm e)] at hx
   obtain ⟨y, hy, rfl⟩ := Option.map_eq_some_iff.1 hx
   have hq := h.old k' y hk' hkb' hy
   rw [upd_ne q _ e, woken_quitsD hq, Deaf_other t (by omega) _ g_of_ofEvents]
   exact hq
 ·obtain ⟨x, hx, hsx⟩ := h.wk i' hi'
  exact ⟨x, by rw [get_other (by omega), hx, Option.map_some, hsx.woken], hsx⟩
 ·obtain ⟨e, he, rfl⟩ := Go.Conc.mem_ofEvents hop
  exact ⟨rfl, fun x hx => by rw [touch_mute (hm e he)] at hx; cases hx⟩
 ·obtain ⟨e, he, rfl⟩ := Go.Conc.mem_ofEvents hop
  intro e2
  have := hm e he
  obtain ⟨loc, wr, sy⟩ := e
  cases loc with
  | mark m => cases m <;> simp_all [Event.mute, MemAct.ofEvent]
  | obj r => cases wr <;> cases sy <;> simp_all [Event.mute, MemAct.ofEvent]
  | _ => simp_all [Event.mute, MemAct.ofEvent]
 ·obtain ⟨r, hr, hr'⟩ := h.rel i' hi' hst
  exact ⟨r, hr.appOther g_of_ofEvents (by omega), after_other g_of_ofEvents (by omega) hr'⟩
 ·rcases Array.mem_append.1 hop with hop | hop
  ·exact h.seen op hop
  ·exact fun x hx => by rw [hnt op hop] at hx; cases hx
end
end
section
open Go Go.Conc Go.ConcN
open Go.ConcR (KK wgBlock WgAt stA smA rd wr mk Payload DC0 Bk g_of_ofEvents ofEvent_loc_mark deafBehind_cons deafBehind_one bk_of_mute)
theorem Cp.notS {S : Sh} {v w : World} (h : Cp S v w) {b : Nat} {o : Obj} (hX : isX o) (hb : v.heap[b]? = some o) : ¬ S b := fun hs => by
 obtain ⟨t, c, f, e1, _⟩ := h.brk b hs
 rw [e1] at hb
 exact isX_row (Option.some.inj hb ▸ hX)
theorem sim_cells {S : Sh} {w w' : World} (hsz : w'.heap.size = w.heap.size) (hos : w'.os = w.os) (hou : w'.output = w.output) (hout : ∀ b, ¬ S b → w'.heap[b]? = w.heap[b]?)
  (hin : ∀ b, S b → w'.heap[b]? = w.heap[b]? ∨ ∀ c t f, w.heap[b]? = some (.cells c t f) → ∃ c', w'.heap[b]? = some (.cells c' t f)) : Sim S w w' := by
 refine ⟨hsz, fun v h => ⟨h.size.trans hsz.symm, h.low, fun b hb => by rw [hout b hb]; exact h.out b hb, fun b hb => ?_, h.os.trans hos.symm, h.output.trans hou.symm, fun b o hX hb => ?_, h.cold⟩⟩
 ·obtain ⟨t, c, f, e1, e2⟩ := h.brk b hb
  rcases hin b hb with h1 | h1
  ·exact ⟨t, c, f, e1, h1.trans e2⟩
  ·obtain ⟨c', hc⟩ := h1 c t f e2
   exact ⟨t, c', f, e1, hc⟩
 ·rw [hout b (h.notS hX hb)]
  exact h.mark b o hX hb
theorem sim_setCell {S : Sh} {w : World} {a : Addr} (ha : S a.block) (x : Value) : Sim S w (w.setCell a x) := by
 refine sim_cells (by simp [World.setCell]) rfl rfl (fun b hb => ?_) (fun b _ => ?_)
 ·have : a.block ≠ b := fun e => hb (e ▸ ha)
  simp [World.setCell, Array.getElem?_modify, this]
 ·by_cases e : a.block = b
  ·subst e
   right
   intro c t f hc
   exact ⟨_, by simp [World.setCell, Array.getElem?_modify, hc]; rfl⟩
  ·left
   simp [World.setCell, Array.getElem?_modify, e]
def Less (j : Nat) (D' D : Nat → WD) : Prop := Ssum j D' < Ssum j D ∨ (Ssum j D' = Ssum j D ∧ Fsum j D' < Fsum j D)
section
variable [Payload] {P : Program} {ty nty : TypeId} {S : Sh} {B0 base : Nat} {bit : Nat → Nat}
variable {j : Nat} {tag : CTag} {d0 T0 N0 : Nat} {gs : Array Goroutine} {w : World} {t : Trace} {D : Nat → WD} {Ad : Nat → Bool} {q : Nat → Nat} {st sm : Int}
theorem aside_rwk {i i' : Nat} {w' : World} (h : AsideCell (B0 + 3 + i) 1 0 w w') (hne : i' ≠ i) : RWk ty B0 i' w w' :=
 ⟨fun b hb _ _ => h.block b (by omega), fun ⟨st, sm, hl⟩ => ⟨st, sm, hl.of_block (h.block _ (by omega))⟩, fun ⟨cs, hc, hn⟩ => ⟨cs, (h.block _ (by omega)).trans hc, hn⟩, cell_of_block (h.block _ (by omega)) 0⟩
theorem aside_sim {i : Nat} {w' : World} (h : AsideCell (B0 + 3 + i) 1 0 w w') (hi : i < j) (hp : PayAt (B0 + 3 + i) 1 w) : Sim (SJ S B0 j) w w' := by
 refine sim_cells h.size h.os h.output (fun b hb => h.block b fun e => hb (Or.inr ⟨i, hi, e⟩)) (fun b _ => ?_)
 by_cases e : b = B0 + 3 + i
 ·subst e
  right
  intro c t f hc
  obtain ⟨cs', h2, _⟩ := h.pay hp
  obtain ⟨cs, h1, _⟩ := hp
  rw [h1] at hc
  cases hc
  exact ⟨cs', h2⟩
 ·exact Or.inl (h.block b e)
end
section
variable {P : Program} {ty nty : TypeId} {S : Sh} {B0 base : Nat} {bit : Nat → Nat}
variable {j : Nat} {tag : CTag} {d0 T0 N0 : Nat} {gs : Array Goroutine} {w : World} {t : Trace} {D : Nat → WD} {Ad : Nat → Bool} {q : Nat → Nat} {st sm : Int}
theorem wg_rwk [Payload] {i : Nat} {w' : World} {st' sm' : Int} (h : Aside (B0 + 2) w w') (hw : WgAt ty (B0 + 2) w' st' sm') : RWk ty B0 i w w' := RW.of_wg h ⟨_, _, hw⟩ (by omega)
theorem noted_aside {N : Nat} {w' : World} (h : NAt nty B0 N w) (hb : w'.heap[B0 + 1]? = w.heap[B0 + 1]?) : NAt nty B0 N w' := hb.trans h
theorem okW_of {i : Nat} {fn : FuncId} {pos : String} {es : Array Event} (h : ∀ e ∈ es, EvW (B0 + 2) NoOwn (RdW S B0 base i) 1 e) : ∀ op ∈ MemOp.ofEvents (base + i) fn pos es, OkW (ShOf (S3 S B0)) NoOwn (RdP S B0 base) (base + i) op := by
 intro op hop
 obtain ⟨e, he, rfl⟩ := Go.Conc.mem_ofEvents hop
 refine ⟨rfl, fun x hx => ?_⟩
 rcases ((h e he).1 fn pos).2 x hx with ⟨⟨a, h1, h2⟩, h3⟩ | h1 | h1
 ·exact Or.inl ⟨⟨a, h1, Or.inr (Or.inr h2)⟩, h3⟩
 ·exact h1.elim
 ·exact Or.inr (Or.inr h1)
theorem okW_bk {k : Nat} {fn : FuncId} {pos : String} {es : Array Event} (h : ∀ e ∈ es, Bk (B0 + 2) e) : ∀ op ∈ MemOp.ofEvents k fn pos es, OkW (ShOf (S3 S B0)) NoOwn (RdP S B0 base) k op := by
 intro op hop
 obtain ⟨h1, h2⟩ := okW_of_Bk (Own := NoOwn) (Rd := RdP S B0 base) h op hop
 refine ⟨h1, fun x hx => ?_⟩
 rcases h2 x hx with ⟨⟨a, h3, h4⟩, h5⟩ | h3 | h3
 ·exact Or.inl ⟨⟨a, h3, Or.inr (Or.inr h4)⟩, h5⟩
 ·exact Or.inr (Or.inl h3)
 ·exact Or.inr (Or.inr h3)
theorem low_evW {i B : Nat} {fn : FuncId} {pos : String} {es : Array Event} (h : ∀ e ∈ es, EvW (B0 + 2) NoOwn (RdW S B0 base i) 1 e) (hB : B0 + 3 + i < B) : ∀ op ∈ MemOp.ofEvents (base + i) fn pos es, TLow B op := by
 intro op hop x hx
 obtain ⟨e, he, rfl⟩ := Go.Conc.mem_ofEvents hop
 rcases ((h e he).1 fn pos).2 x hx with ⟨⟨a, h1, h2⟩, h3⟩ | h1 | ⟨⟨_, a, h1, h2, _⟩, _⟩
 ·rw [h1]; show a.block < B; omega
 ·exact h1.elim
 ·rw [h1]
  show a.block < B
  simp only [Nat.add_sub_cancel_left] at h2
  omega
theorem low_bk {k B : Nat} {fn : FuncId} {pos : String} {es : Array Event} (h : ∀ e ∈ es, Bk (B0 + 2) e) (hB : B0 + 2 < B) : ∀ op ∈ MemOp.ofEvents k fn pos es, TLow B op := by
 intro op hop x hx
 obtain ⟨_, h2⟩ := okW_of_Bk (Own := NoOwn) (Rd := NoOwn) h op hop
 rcases h2 x hx with ⟨⟨a, h3, h4⟩, h5⟩ | h3 | h3
 ·rw [h3]; show a.block < B; omega
 ·exact h3.elim
 ·exact h3.1.elim
end
end
section
open Go Go.Conc Go.ConcN
open Go.ConcR (KK)
theorem upd_stage {D : Nat → WD} {i : Nat} (x : WD) (a : Nat) : (upd D i x a).stage = if a = i then x.stage else (D a).stage := by
 unfold upd; split <;> rfl
section
variable {j : Nat} {D : Nat → WD} {tag : CTag} {st sm : Int} {i : Nat}
theorem off_count (hm : Go.ConcN.Mode j D tag st sm) (hi : i < j) (hs : (D i).stage = 5) (hj : j + pend tag < 2147483648) :
  ∃ v wt : Nat, wt ≤ 1 ∧ v < 2147483647 ∧ st = ((v : Int) + 1) * KK + wt ∧ sm = 0 ∧ (v = 0 ∧ wt = 1 → ∀ m, Go.ConcN.Mode j (upd D i ⟨4, m, 1⟩) tag ((v : Int) * KK + wt) 0) ∧ (¬ (v = 0 ∧ wt = 1) → ∀ m, Go.ConcN.Mode j (upd D i ⟨1, m, 1⟩) tag ((v : Int) * KK + wt) 0) := by
 have c1 : cnt (D i) = 1 := by simp [cnt, hs]
 have hV := Vc_le j D
 have hV1 : 1 ≤ Vc j D := by have := le_sumTo (f := fun x => cnt (D x)) hi; simp only [Vc]; omega
 have hq : ∀ m, Vc j (upd D i ⟨1, m, 1⟩) + 1 = Vc j D := fun m => by
  have := Vc_upd D (⟨1, m, 1⟩ : WD) hi
  have : cnt (⟨1, m, 1⟩ : WD) = 0 := rfl
  omega
 have hop : ∀ m, OpenSt j D → OpenSt j (upd D i ⟨1, m, 1⟩) := fun m h a ha => by
  rw [upd_stage]; split
  ·simp
  ·exact h a ha
 cases hm with
 | opn h1 h2 h3 =>
  refine ⟨Vc j D + pend tag - 1, 0, by omega, by omega, ?_, rfl, fun h => absurd h.2 (by decide), fun _ m => ?_⟩
  ·have : ((Vc j D + pend tag : Nat) : Int) = ((Vc j D + pend tag - 1 : Nat) : Int) + 1 := by omega
   rw [this]; simp
  ·have e : (((Vc j D + pend tag - 1 : Nat) : Int)) * KK + ((0 : Nat) : Int) = ((Vc j (upd D i ⟨1, m, 1⟩) + pend tag : Nat) : Int) * KK := by
    have := hq m
    have h0 : Vc j D + pend tag - 1 = Vc j (upd D i ⟨1, m, 1⟩) + pend tag := by omega
    rw [h0]; simp
   rw [e]
   exact .opn h1 (hop m h2) fun vs ev => by have := h3 vs ev; have := hq m; omega
 | reg h1 h2 h3 =>
  refine ⟨Vc j D - 1, 1, by omega, by omega, ?_, rfl, fun h m => ?_, fun h m => ?_⟩
  ·have : ((Vc j D : Nat) : Int) = ((Vc j D - 1 : Nat) : Int) + 1 := by omega
   rw [this]; rfl
  ·have hv : Vc j D = 1 := by omega
   have hoth : ∀ a, a < j → a ≠ i → (D a).stage = 1 := fun a ha e => by
    have c0 := others_uncounted hi hv c1 a ha e
    have := h2 a ha
    simp only [cnt] at c0
    split at c0 <;> omega
   have key := Go.ConcN.Mode.last (D := upd D i ⟨4, m, 1⟩) (tag := tag) i h1 hi (by rw [upd_same]; simp) (fun a ha e => by rw [upd_ne D _ e]; exact hoth a ha e)
   rw [upd_same] at key
   rw [h.1]
   simpa using key
  ·have e : ((Vc j D - 1 : Nat) : Int) * KK + ((1 : Nat) : Int) = ((Vc j (upd D i ⟨1, m, 1⟩) : Nat) : Int) * KK + 1 := by
    have := hq m
    have h0 : Vc j D - 1 = Vc j (upd D i ⟨1, m, 1⟩) := by omega
    rw [h0]; rfl
   rw [e]
   exact .reg h1 (hop m h2) (by have := hq m; omega)
 | last L _ h2 h3 h4 =>
  exfalso
  by_cases e : i = L
  ·subst e; omega
  ·have := h4 i hi e; omega
 | sema h2 => exfalso; have := h2 i hi; omega
 | fin _ h2 => exfalso; have := h2 i hi; omega
theorem last_on (hm : Go.ConcN.Mode j D tag st sm) (hi : i < j) (hs : (D i).stage = 4 ∨ (D i).stage = 3) {s' : Nat} (hs' : s' = 3 ∨ s' = 2) (m : Nat) : st = 1 ∧ sm = 0 ∧ Go.ConcN.Mode j (upd D i ⟨s', m, 1⟩) tag (if s' = 2 then 0 else 1) 0 := by
 obtain ⟨h1, h2, h3, h4⟩ := hm.isLast hi (by omega)
 refine ⟨by rw [h3]; split <;> omega, h4, ?_⟩
 have key := Go.ConcN.Mode.last (D := upd D i ⟨s', m, 1⟩) (tag := tag) i h1 hi (by rw [upd_same]; simp; omega) (fun a ha e => by rw [upd_ne D _ e]; exact h2 a ha e)
 rw [upd_same] at key
 exact key
theorem last_up (hm : Go.ConcN.Mode j D tag st sm) (hi : i < j) (hs : (D i).stage = 2) (m : Nat) : st = 0 ∧ sm = 0 ∧ isW3 tag ∧ Go.ConcN.Mode j (upd D i ⟨1, m, 1⟩) .w3 0 1 := by
 obtain ⟨h1, h2, h3, h4⟩ := hm.isLast hi (by omega)
 refine ⟨by rw [h3]; simp [hs], h4, h1, .sema fun a ha => ?_⟩
 rw [upd_stage]
 split
 ·rfl
 ·exact h2 a ha ‹_›
theorem less_stage (hi : i < j) {x : WD} (h : x.stage < (D i).stage) : Less j (upd D i x) D := by
 have := sumTo_upd D x WD.stage hi
 left
 simp only [Ssum]
 omega
theorem less_fuel (hi : i < j) {x : WD} (h : x.stage = (D i).stage) (hf : x.fuel < (D i).fuel) : Less j (upd D i x) D := by
 have h1 := sumTo_upd D x WD.stage hi
 have h2 := sumTo_upd D x WD.fuel hi
 right
 simp only [Ssum, Fsum]
 omega
theorem Vc_le_upd (hi : i < j) {x : WD} (h : cnt x ≤ cnt (D i)) : Vc j (upd D i x) ≤ Vc j D := by
 have := Vc_upd D x hi
 omega
theorem bitsIn_upd {bit : Nat → Nat} {Ad : Nat → Bool} (hi : i < j) (h : Ad i = false) : bitsIn bit j (upd Ad i true) = bitsIn bit j Ad + bit i := by
 have := sumTo_upd Ad true (fun _ => 0) hi
 have key : ∀ {j : Nat}, i < j → sumTo j (fun a => if upd Ad i true a = true then bit a else 0) = sumTo j (fun a => if Ad a = true then bit a else 0) + bit i := by
  intro j
  induction j with
  | zero => intro h; omega
  | succ j ih =>
   intro hij
   simp only [sumTo]
   by_cases e : i = j
   ·subst e
    have : sumTo i (fun a => if upd Ad i true a = true then bit a else 0) = sumTo i (fun a => if Ad a = true then bit a else 0) := sumTo_congr fun a ha => by rw [upd_ne Ad _ (by omega)]
    rw [this, upd_same, h]
    simp
   ·rw [ih (by omega), upd_ne Ad _ (by omega)]
    omega
 exact key hi
theorem bitsIn_same {bit : Nat → Nat} {Ad : Nat → Bool} {b : Bool} (h : Ad i = b) : bitsIn bit j (upd Ad i b) = bitsIn bit j Ad := by
 have : upd Ad i b = Ad := by
  funext a
  unfold upd
  split
  ·rename_i e; subst e; exact h.symm
  ·rfl
 rw [this]
end
end
end Go.Proofs.YtdafpnpfcmgfcaaGreatDoor
