/- Workers each of which may add its own bit to one number, atomically, beside one that starts and awaits them: what is held of all of them at every moment. Whatever step of a worker's keeps what is held, and brings the worker on. How the group's two cells go on with a worker's steps. A worker's step, whichever it is. The others go on till the starter's turn comes. The starter's own steps. -/
import Derived.Test.YtdafpnpfcmgfcabJB
import Derived.Conc.CrowdStepC2
namespace Go.Proofs.Ytdafpnpfcmgfcab
open Go Go.Conc Go.ConcN
open Go.ConcR (KK wgBlock WgAt stA smA rd wr mk Payload DC0 Bk g_of_ofEvents)

def NoOwn : Nat → Loc → Prop := fun _ _ => False
section
variable [Payload] (P : Program) (ty nty : TypeId) (S : Nat → Prop) (B0 base : Nat) (bit : Nat → Nat)

/-- The number that the bits are added to. -/
def NAt (N : Nat) (w : World) : Prop := w.heap[B0 + 1]? = some (.cells #[.int .u32 N] nty)
def nA : Addr := ⟨B0 + 1, 0, none⟩
/-- Shunned: as before, and the number, and the group. -/
def S3 (b : Nat) : Prop := S b ∨ b = B0 + 1 ∨ b = B0 + 2
/-- .. and, while they work, the workers' own variables. -/
def SJ (j b : Nat) : Prop := S3 S B0 b ∨ ∃ i, i < j ∧ b = B0 + 3 + i
/-- What goroutine k may read. -/
def RdP (k : Nat) (l : Loc) : Prop := base ≤ k ∧ ∃ a, l = .cell a ∧ (a.block ≤ B0 ∨ a.block = B0 + 3 + (k - base)) ∧ ¬ S a.block
def RdW (i : Nat) : Nat → Loc → Prop := fun _ l => RdP S B0 base (base + i) l
def RWk (i : Nat) : World → World → Prop := RW ty (B0 + 2) (B0 + 3 + i) 1 (B0 + 1) 0
def DWk (i : Nat) : World → World → Array Event → Prop := DWs (B0 + 2) NoOwn (RdW S B0 base i) (B0 + 3 + i) 1 1
def R0k (i : Nat) : Goroutine → World → Prop := AtR0 P ty (B0 + 2) (B0 + 3 + i) 1 (B0 + 1) 1 (.int .i64 i)
/-- It stands at its addition. -/
def AtAdd (i M2 : Nat) (g : Goroutine) (w : World) : Prop :=
  g.status = .running ∧ ∀ N : Nat, N + bit i < 4294967296 → NAt nty B0 N w → ∃ g', stepG P false g w = .go g' (w.setCell (nA B0) (.int .u32 ((N + bit i : Nat) : Int))) #[rd (nA B0), wr (nA B0)] ∧
    Goes P false (RWk ty B0 i) (DWk S B0 base i) (R0k P ty B0 i) M2 g' (w.setCell (nA B0) (.int .u32 ((N + bit i : Nat) : Int)))

/-- A worker's situation: whether its bit is in, its stage, its steps left, its deafness. -/
inductive WkS (i : Nat) : Bool → Nat → Nat → Nat → Goroutine → World → Prop
  | pre {M2 m : Nat} {g : Goroutine} {w : World} : Goes P false (RWk ty B0 i) (DWk S B0 base i) (AtAdd P ty nty S B0 base bit i M2) m g w → WkS i false 7 (m + M2 + 1) 0 g w
  | go {s m d : Nat} {g : Goroutine} {w : World} : WSit P ty (B0 + 2) (B0 + 3 + i) 1 NoOwn (RdW S B0 base i) (B0 + 1) 1 (.int .i64 i) s m d g w → WkS i true s m d g w

/-- Behind r goroutine k touches shunned places alone. -/
def After (t : Trace) (k r : Nat) : Prop := ∀ x b, r < x → t.g? x = some k → touchAt t x = some b → ShOf (S3 S B0) b.loc

def bitsIn (j : Nat) (Ad : Nat → Bool) : Nat := sumTo j fun i => if Ad i = true then bit i else 0

structure Cw (j : Nat) (tag : CTag) (d0 T0 N0 : Nat) (gs : Array Goroutine) (w : World) (t : Trace) (D : Nat → WD) (Ad : Nat → Bool) (q : Nat → Nat) (st sm : Int) : Prop where
  base1 : 1 ≤ base
  size : gs.size = base + j
  old : ∀ i g, 0 < i → i < base → gs[i]? = some g → QuitsD P (q i) (Deaf t i) g
  wk : ∀ i, i < j → ∃ g, gs[base + i]? = some g ∧ WkS P ty nty S B0 base bit i (Ad i) (D i).stage (D i).fuel (D i).deaf g w
  ct : CT (ShOf (S3 S B0)) NoOwn (RdP S B0 base) t (base + j - 1)
  norel : ∀ i, T0 ≤ i → t.act? i ≠ some (.mark (.release (stA (B0 + 2))))
  begun : T0 ≤ t.size
  deaf0 : Deaf t 0 = d0
  deafW : ∀ i, i < j → Deaf t (base + i) = (D i).deaf
  above : ∀ i, base + j ≤ i → Deaf t i = 0
  rel : ∀ i, i < j → (D i).stage ≤ 6 → ∃ r, RelBy (stA (B0 + 2)) t (base + i) r ∧ After S B0 t (base + i) r
  early : ∀ i g, i < T0 → t.g? i = some g → g < base
  box : ∀ i, i < j → PayAt (B0 + 3 + i) 1 w
  noted : NAt nty B0 (N0 + bitsIn bit j Ad) w
  wg : WgAt ty (B0 + 2) w st sm
  mode : Go.ConcN.Mode j D tag st sm
  seen : ∀ op ∈ t, TLow w.heap.size op
  kn : ∀ i a, touchAt t i = some a → ¬ ShOf (S3 S B0) a.loc → (∃ k, base ≤ k ∧ t.g? i = some k) ∨ Knows t 0 i
  over : ∀ i g, t.g? i = some g → g ≠ 0 → g < base → t.counts i → ∃ x, t.g? x = some 0 ∧ HappensBefore t i x
  room : B0 + 3 + j ≤ w.heap.size
end

section
variable {S : Nat → Prop} {B0 base : Nat}
theorem apart3 : Apart (ShOf (S3 S B0)) NoOwn (RdP S B0 base) := by
  refine ⟨fun _ _ _ h => h.elim, fun _ _ _ h => h.elim, fun _ _ h => h.elim, ?_⟩
  rintro k l ⟨_, a, rfl, h1, h2⟩ ⟨b, hb, h3⟩
  cases hb
  rcases h3 with h3 | h3 | h3
  · exact h2 h3
  · omega
  · omega

theorem get_other {gs : Array Goroutine} {f : Goroutine → Goroutine} {x : Nat} {y : Goroutine} {b : Nat} (hb : x ≠ b) : ((gs.map f).setIfInBounds x y)[b]? = (gs[b]?).map f := by
  rw [Array.getElem?_setIfInBounds_ne hb, Array.getElem?_map]

variable {t : Trace}
theorem early_app {u : Trace} {T0 : Nat} (hT : T0 ≤ t.size) (h : ∀ i g, i < T0 → t.g? i = some g → g < base) : ∀ i g, i < T0 → (t ++ u).g? i = some g → g < base :=
  fun i g hi hg => h i g hi (by rw [← g?_old (u := u) (by omega)]; exact hg)
theorem after_app {u : Trace} {k r : Nat} (h : After S B0 t k r) (hu : ∀ op ∈ u, op.g = k → ∀ b, op.act.touch? = some b → ShOf (S3 S B0) b.loc) : After S B0 (t ++ u) k r := by
  intro x b hx hg hb
  obtain ⟨op, ho, hob⟩ := touch_of hb
  rcases getElem?_append_cases ho with ⟨hlt, ho'⟩ | ⟨_, hou⟩
  · exact h x b hx (by rw [← g?_old (u := u) hlt]; exact hg) (by rw [touchAt_of ho']; exact hob)
  · exact hu op hou (by simpa [Trace.g?, ho] using hg) b hob
theorem after_other {u : Trace} {k r g : Nat} (hg : ∀ op ∈ u, op.g = g) (hne : g ≠ k) (h : After S B0 t k r) : After S B0 (t ++ u) k r :=
  after_app h fun op hop e => absurd ((hg op hop).symm.trans e) hne
theorem norel_app {u : Trace} {a : Addr} {T0 : Nat} (h : ∀ i, T0 ≤ i → t.act? i ≠ some (.mark (.release a))) (hu : ∀ op ∈ u, op.act ≠ .mark (.release a)) : ∀ i, T0 ≤ i → (t ++ u).act? i ≠ some (.mark (.release a)) := by
  intro i hi e
  obtain ⟨op, ho, hoa⟩ := Option.map_eq_some_iff.1 e
  rcases getElem?_append_cases ho with ⟨_, ho'⟩ | ⟨_, hou⟩
  · exact h i hi (by rw [act?_of ho', hoa])
  · exact hu op hou hoa
theorem known_app {u : Trace} {k : Nat} (hk : ∀ op ∈ u, op.g = k)
    (h : ∀ i a, touchAt t i = some a → ¬ ShOf (S3 S B0) a.loc → (∃ k, base ≤ k ∧ t.g? i = some k) ∨ Knows t 0 i) (h2 : base ≤ k ∨ k = 0 ∨ ∀ op ∈ u, op.act.touch? = none) :
    ∀ i a, touchAt (t ++ u) i = some a → ¬ ShOf (S3 S B0) a.loc → (∃ k, base ≤ k ∧ (t ++ u).g? i = some k) ∨ Knows (t ++ u) 0 i := by
  intro i a ha hn
  obtain ⟨x, hx, hxa⟩ := touch_of ha
  rcases getElem?_append_cases hx with ⟨hi, hx'⟩ | ⟨_, hxu⟩
  · rcases h i a (by rw [touchAt_of hx']; exact hxa) hn with ⟨k, h1, h3⟩ | h
    · exact .inl ⟨k, h1, by rw [g?_old hi]; exact h3⟩
    · exact .inr (h.app u)
  · rcases h2 with h2 | h2 | h2
    · exact .inl ⟨k, h2, by simp [Trace.g?, hx, hk x hxu]⟩
    · have := knows_own hx
      rw [hk x hxu, h2] at this
      exact .inr this
    · rw [h2 x hxu] at hxa; cases hxa
theorem over_app {u : Trace} {k : Nat} (hk : ∀ op ∈ u, op.g = k) (h : ∀ i g, t.g? i = some g → g ≠ 0 → g < base → t.counts i → ∃ x, t.g? x = some 0 ∧ HappensBefore t i x)
    (h2 : base ≤ k ∨ k = 0 ∨ ∀ op ∈ u, op.act.touch? = none) : ∀ i g, (t ++ u).g? i = some g → g ≠ 0 → g < base → (t ++ u).counts i → ∃ x, (t ++ u).g? x = some 0 ∧ HappensBefore (t ++ u) i x := by
  intro i g hg h0 hb hc
  rcases Nat.lt_or_ge i t.size with hlt | hge
  · obtain ⟨x, hx, hb'⟩ := h i g (by rw [← g?_old (u := u) hlt]; exact hg) h0 hb ((counts_old hlt).1 hc)
    have hxl : x < t.size := by
      unfold Trace.g? at hx
      obtain ⟨z, hz, _⟩ := Option.map_eq_some_iff.1 hx
      exact lt_size_of_getElem? hz
    exact ⟨x, by rw [g?_old hxl]; exact hx, hb_app u hb'⟩
  · obtain ⟨op, ho, hog⟩ := Option.map_eq_some_iff.1 hg
    rcases getElem?_append_cases ho with ⟨hlt, _⟩ | ⟨_, hou⟩
    · omega
    · have := hk op hou
      rcases h2 with h2 | h2 | h2
      · omega
      · omega
      · obtain ⟨x, hx, _⟩ := hc
        obtain ⟨y, hy, hya⟩ := touch_of hx
        rw [ho] at hy
        cases hy
        rw [h2 op hou] at hya
        cases hya

end

section
variable [Payload] {P : Program} {ty nty : TypeId} {S : Nat → Prop} {B0 base : Nat} {bit : Nat → Nat}

theorem RWk.refl (i : Nat) (w : World) : RWk ty B0 i w w := RW.refl w
theorem RWk.trans {i : Nat} {a b c : World} (h : RWk ty B0 i a b) (h' : RWk ty B0 i b c) : RWk ty B0 i a c := RW.trans h h'
theorem WkS.rely {i : Nat} {ad : Bool} {s m d : Nat} {g : Goroutine} {w w₁ : World} (h : WkS P ty nty S B0 base bit i ad s m d g w) (hr : RWk ty B0 i w w₁) : WkS P ty nty S B0 base bit i ad s m d g w₁ := by
  cases h with
  | pre h => exact .pre (Goes.rely (R := RWk ty B0 i) (fun _ _ _ a b => RWk.trans a b) h hr)
  | go h => exact .go (h.rely hr)
theorem WkS.status {i : Nat} {ad : Bool} {s m d : Nat} {g : Goroutine} {w : World} (h : WkS P ty nty S B0 base bit i ad s m d g w) : g.status = .running ∨ g.status = .finished := by
  cases h with
  | pre h => exact .inl (Goes.running (fun _ _ x => x.1) w (RWk.refl i w) h)
  | go h => exact h.status
theorem WkS.woken {i : Nat} {ad : Bool} {s m d : Nat} {g : Goroutine} {w : World} (h : WkS P ty nty S B0 base bit i ad s m d g w) (a a' : Goroutine) (w' : World) : woken P a a' w' g = g := by
  unfold Go.Conc.woken
  split
  · exact again_running _ h.status
  · rfl

variable {j : Nat} {tag : CTag} {d0 T0 N0 : Nat} {gs : Array Goroutine} {w : World} {t : Trace} {D : Nat → WD} {Ad : Nat → Bool} {q : Nat → Nat} {st sm : Int}

/-- A step of worker number i. -/
theorem Cw.stepW (h : Cw P ty nty S B0 base bit j tag d0 T0 N0 gs w t D Ad q st sm) {i : Nat} (hi : i < j) {g g' : Goroutine} {w' : World} {fn : FuncId} {pos : String} {es : Array Event} {ad' : Bool} {s' m' dd' : Nat} {tag' : CTag} {st' sm' : Int}
    (hrw : ∀ i', i' < j → i' ≠ i → RWk ty B0 i' w w') (hs' : WkS P ty nty S B0 base bit i ad' s' m' dd' g' w')
    (hok : ∀ op ∈ MemOp.ofEvents (base + i) fn pos es, OkW (ShOf (S3 S B0)) NoOwn (RdP S B0 base) (base + i) op) (hnr : ∀ e ∈ es, e.loc ≠ .mark (.release (stA (B0 + 2)))) (hdeaf : deafBehind (D i).deaf es = dd')
    (hrel : s' ≤ 6 → ∃ r, RelBy (stA (B0 + 2)) (t ++ MemOp.ofEvents (base + i) fn pos es) (base + i) r ∧ After S B0 (t ++ MemOp.ofEvents (base + i) fn pos es) (base + i) r) (hbox : PayAt (B0 + 3 + i) 1 w') (hno : NAt nty B0 (N0 + bitsIn bit j (upd Ad i ad')) w') (hwg : WgAt ty (B0 + 2) w' st' sm')
    (hmode : Go.ConcN.Mode j (upd D i ⟨s', m', dd'⟩) tag' st' sm') (hsz : w'.heap.size = w.heap.size) (hlow : ∀ op ∈ MemOp.ofEvents (base + i) fn pos es, TLow w.heap.size op) :
    Cw P ty nty S B0 base bit j tag' d0 T0 N0 ((gs.map (woken P g g' w')).setIfInBounds (base + i) g') w' (t ++ MemOp.ofEvents (base + i) fn pos es) (upd D i ⟨s', m', dd'⟩) (upd Ad i ad') q st' sm' := by
  have hb := h.base1
  refine ⟨hb, by simp [h.size], fun k x hk hkb hx => ?_, fun i' hi' => ?_, h.ct.appW apart3 (by omega) (by omega) hok, norel_app h.norel (norel_of hnr), by have := h.begun; simp; omega, by rw [Deaf_other t (by omega) _ g_of_ofEvents, h.deaf0], fun i' hi' => ?_, fun k hk => by rw [Deaf_other t (by omega) _ g_of_ofEvents, h.above k hk], fun i' hi' hst => ?_, early_app h.begun h.early, fun i' hi' => ?_, hno, hwg, hmode, fun op hop => ?_, known_app g_of_ofEvents h.kn (.inl (by omega)), over_app g_of_ofEvents h.over (.inl (by omega)), by rw [hsz]; exact h.room⟩
  · rw [get_other (by omega)] at hx
    obtain ⟨y, hy, rfl⟩ := Option.map_eq_some_iff.1 hx
    have hq := h.old k y hk hkb hy
    rw [woken_quitsD hq, Deaf_other t (by omega) _ g_of_ofEvents]
    exact hq
  · by_cases e : i' = i
    · subst e
      exact ⟨g', by simp [h.size, hi], by rw [upd_same, upd_same]; exact hs'⟩
    · obtain ⟨x, hx, hsx⟩ := h.wk i' hi'
      refine ⟨x, by rw [get_other (by omega), hx, Option.map_some, hsx.woken], ?_⟩
      rw [upd_ne D _ e, upd_ne Ad _ e]
      exact hsx.rely (hrw i' hi' e)
  · by_cases e : i' = i
    · subst e; rw [Deaf_own, h.deafW i' hi', upd_same]; exact hdeaf
    · rw [Deaf_other t (by omega) _ g_of_ofEvents, h.deafW i' hi', upd_ne D _ e]
  · by_cases e : i' = i
    · subst e; rw [upd_same] at hst; exact hrel hst
    · rw [upd_ne D _ e] at hst
      obtain ⟨r, hr, hr'⟩ := h.rel i' hi' hst
      exact ⟨r, hr.appOther g_of_ofEvents (by omega), after_other g_of_ofEvents (by omega) hr'⟩
  · by_cases e : i' = i
    · subst e; exact hbox
    · exact (hrw i' hi' e).pay (h.box i' hi')
  · rcases Array.mem_append.1 hop with hop | hop
    · rw [hsz]; exact h.seen op hop
    · rw [hsz]; exact hlow op hop
/-- A step of one that is only leaving since an earlier call. -/
theorem Cw.stepOld (h : Cw P ty nty S B0 base bit j tag d0 T0 N0 gs w t D Ad q st sm) {k kq : Nat} (hk : 0 < k) (hkb : k < base) {g g' : Goroutine} {fn : FuncId} {pos : String} {es : Array Event} (hm : ∀ e ∈ es, Event.mute e = true) (hq : QuitsD P kq (deafBehind (Deaf t k) es) g') :
    Cw P ty nty S B0 base bit j tag d0 T0 N0 ((gs.map (woken P g g' w)).setIfInBounds k g') w (t ++ MemOp.ofEvents k fn pos es) D Ad (upd q k kq) st sm := by
  have hb := h.base1
  have hnt : ∀ op ∈ MemOp.ofEvents k fn pos es, op.act.touch? = none := fun op hop => by obtain ⟨e, he, rfl⟩ := Go.Conc.mem_ofEvents hop; exact touch_mute (hm e he)
  refine ⟨hb, by simp [h.size], fun k' x hk' hkb' hx => ?_, fun i' hi' => ?_, h.ct.appW (k := k) apart3 (by omega) (by omega) fun op hop => ?_, norel_app h.norel fun op hop => ?_, by have := h.begun; simp; omega, by rw [Deaf_other t (by omega) _ g_of_ofEvents, h.deaf0], fun i' hi' => by rw [Deaf_other t (by omega) _ g_of_ofEvents, h.deafW i' hi'], fun k' hk' => by rw [Deaf_other t (by omega) _ g_of_ofEvents, h.above k' hk'], fun i' hi' hst => ?_, early_app h.begun h.early, h.box, h.noted, h.wg, h.mode, fun op hop => ?_, known_app g_of_ofEvents h.kn (.inr (.inr hnt)), over_app g_of_ofEvents h.over (.inr (.inr hnt)), h.room⟩
  · by_cases e : k' = k
    · subst e
      rw [Array.getElem?_setIfInBounds_self_of_lt (by simp [h.size]; omega)] at hx
      obtain rfl := Option.some.inj hx
      rw [upd_same, Deaf_own]
      exact hq
    · rw [get_other (Ne.symm e)] at hx
      obtain ⟨y, hy, rfl⟩ := Option.map_eq_some_iff.1 hx
      have hq := h.old k' y hk' hkb' hy
      rw [upd_ne q _ e, woken_quitsD hq, Deaf_other t (by omega) _ g_of_ofEvents]
      exact hq
  · obtain ⟨x, hx, hsx⟩ := h.wk i' hi'
    exact ⟨x, by rw [get_other (by omega), hx, Option.map_some, hsx.woken], hsx⟩
  · obtain ⟨e, he, rfl⟩ := Go.Conc.mem_ofEvents hop
    exact ⟨rfl, fun x hx => by rw [touch_mute (hm e he)] at hx; cases hx⟩
  · obtain ⟨e, he, rfl⟩ := Go.Conc.mem_ofEvents hop
    intro e2
    have := hm e he
    obtain ⟨loc, wr, sy⟩ := e
    cases loc with
    | mark m => cases m <;> simp_all [Event.mute, MemAct.ofEvent]
    | obj r => cases wr <;> cases sy <;> simp_all [Event.mute, MemAct.ofEvent]
    | _ => simp_all [Event.mute, MemAct.ofEvent]
  · obtain ⟨r, hr, hr'⟩ := h.rel i' hi' hst
    exact ⟨r, hr.appOther g_of_ofEvents (by omega), after_other g_of_ofEvents (by omega) hr'⟩
  · rcases Array.mem_append.1 hop with hop | hop
    · exact h.seen op hop
    · exact fun x hx => by rw [hnt op hop] at hx; cases hx
end
end Go.Proofs.Ytdafpnpfcmgfcab
namespace Go.Proofs.Ytdafpnpfcmgfcab
open Go Go.Conc Go.ConcN
open Go.ConcR (KK wgBlock WgAt stA smA rd wr mk Payload DC0 Bk g_of_ofEvents ofEvent_loc_mark deafBehind_cons deafBehind_one bk_of_mute)

theorem sim_cells {S : Nat → Prop} {w w' : World} (hsz : w'.heap.size = w.heap.size) (hos : w'.os = w.os) (hou : w'.output = w.output) (hout : ∀ b, ¬ S b → w'.heap[b]? = w.heap[b]?)
    (hin : ∀ b, S b → w'.heap[b]? = w.heap[b]? ∨ ∀ c t f, w.heap[b]? = some (.cells c t f) → ∃ c', w'.heap[b]? = some (.cells c' t f)) : Sim S w w' := by
  refine ⟨hsz, fun v h => ⟨h.size.trans hsz.symm, h.low, fun b hb => by rw [hout b hb]; exact h.out b hb, fun b hb => ?_, h.os.trans hos.symm, h.output.trans hou.symm⟩⟩
  obtain ⟨t, c, f, e1, e2⟩ := h.brk b hb
  rcases hin b hb with h1 | h1
  · exact ⟨t, c, f, e1, h1.trans e2⟩
  · obtain ⟨c', hc⟩ := h1 c t f e2
    exact ⟨t, c', f, e1, hc⟩

theorem sim_setCell {S : Nat → Prop} {w : World} {a : Addr} (ha : S a.block) (x : Value) : Sim S w (w.setCell a x) := by
  refine sim_cells (by simp [World.setCell]) rfl rfl (fun b hb => ?_) (fun b _ => ?_)
  · have : a.block ≠ b := fun e => hb (e ▸ ha)
    simp [World.setCell, Array.getElem?_modify, this]
  · by_cases e : a.block = b
    · subst e
      right
      intro c t f hc
      exact ⟨_, by simp [World.setCell, Array.getElem?_modify, hc]; rfl⟩
    · left
      simp [World.setCell, Array.getElem?_modify, e]

/-- How far the workers are. -/
def Less (j : Nat) (D' D : Nat → WD) : Prop := Ssum j D' < Ssum j D ∨ (Ssum j D' = Ssum j D ∧ Fsum j D' < Fsum j D)

section
variable [Payload] {P : Program} {ty nty : TypeId} {S : Nat → Prop} {B0 base : Nat} {bit : Nat → Nat}
variable {j : Nat} {tag : CTag} {d0 T0 N0 : Nat} {gs : Array Goroutine} {w : World} {t : Trace} {D : Nat → WD} {Ad : Nat → Bool} {q : Nat → Nat} {st sm : Int}

theorem aside_rwk {i i' : Nat} {w' : World} (h : AsideCell (B0 + 3 + i) 1 0 w w') (hne : i' ≠ i) : RWk ty B0 i' w w' :=
  ⟨fun b hb _ _ => h.block b (by omega), fun ⟨st, sm, hl⟩ => ⟨st, sm, hl.of_block (h.block _ (by omega))⟩, fun ⟨cs, hc, hn⟩ => ⟨cs, (h.block _ (by omega)).trans hc, hn⟩, cell_of_block (h.block _ (by omega)) 0⟩
theorem aside_sim {i : Nat} {w' : World} (h : AsideCell (B0 + 3 + i) 1 0 w w') (hi : i < j) (hp : PayAt (B0 + 3 + i) 1 w) : Sim (SJ S B0 j) w w' := by
  refine sim_cells h.size h.os h.output (fun b hb => h.block b fun e => hb (.inr ⟨i, hi, e⟩)) (fun b _ => ?_)
  by_cases e : b = B0 + 3 + i
  · subst e
    right
    intro c t f hc
    obtain ⟨cs', h2, _⟩ := h.pay hp
    obtain ⟨cs, h1, _⟩ := hp
    rw [h1] at hc
    cases hc
    exact ⟨cs', h2⟩
  · exact .inl (h.block b e)
end
section
variable {P : Program} {ty nty : TypeId} {S : Nat → Prop} {B0 base : Nat} {bit : Nat → Nat}
variable {j : Nat} {tag : CTag} {d0 T0 N0 : Nat} {gs : Array Goroutine} {w : World} {t : Trace} {D : Nat → WD} {Ad : Nat → Bool} {q : Nat → Nat} {st sm : Int}
theorem wg_rwk [Payload] {i : Nat} {w' : World} {st' sm' : Int} (h : Aside (B0 + 2) w w') (hw : WgAt ty (B0 + 2) w' st' sm') : RWk ty B0 i w w' := RW.of_wg h ⟨_, _, hw⟩ (by omega)
theorem noted_aside {N : Nat} {w' : World} (h : NAt nty B0 N w) (hb : w'.heap[B0 + 1]? = w.heap[B0 + 1]?) : NAt nty B0 N w' := hb.trans h

theorem okW_of {i : Nat} {fn : FuncId} {pos : String} {es : Array Event} (h : ∀ e ∈ es, EvW (B0 + 2) NoOwn (RdW S B0 base i) 1 e) : ∀ op ∈ MemOp.ofEvents (base + i) fn pos es, OkW (ShOf (S3 S B0)) NoOwn (RdP S B0 base) (base + i) op := by
  intro op hop
  obtain ⟨e, he, rfl⟩ := Go.Conc.mem_ofEvents hop
  refine ⟨rfl, fun x hx => ?_⟩
  rcases ((h e he).1 fn pos).2 x hx with ⟨⟨a, h1, h2⟩, h3⟩ | h1 | h1
  · exact .inl ⟨⟨a, h1, .inr (.inr h2)⟩, h3⟩
  · exact h1.elim
  · exact .inr (.inr h1)
theorem okW_bk {k : Nat} {fn : FuncId} {pos : String} {es : Array Event} (h : ∀ e ∈ es, Bk (B0 + 2) e) : ∀ op ∈ MemOp.ofEvents k fn pos es, OkW (ShOf (S3 S B0)) NoOwn (RdP S B0 base) k op := by
  intro op hop
  obtain ⟨h1, h2⟩ := okW_of_Bk (Own := NoOwn) (Rd := RdP S B0 base) h op hop
  refine ⟨h1, fun x hx => ?_⟩
  rcases h2 x hx with ⟨⟨a, h3, h4⟩, h5⟩ | h3 | h3
  · exact .inl ⟨⟨a, h3, .inr (.inr h4)⟩, h5⟩
  · exact .inr (.inl h3)
  · exact .inr (.inr h3)
theorem low_evW {i B : Nat} {fn : FuncId} {pos : String} {es : Array Event} (h : ∀ e ∈ es, EvW (B0 + 2) NoOwn (RdW S B0 base i) 1 e) (hB : B0 + 3 + i < B) : ∀ op ∈ MemOp.ofEvents (base + i) fn pos es, TLow B op := by
  intro op hop x hx
  obtain ⟨e, he, rfl⟩ := Go.Conc.mem_ofEvents hop
  rcases ((h e he).1 fn pos).2 x hx with ⟨⟨a, h1, h2⟩, h3⟩ | h1 | ⟨⟨_, a, h1, h2, _⟩, _⟩
  · rw [h1]; show a.block < B; omega
  · exact h1.elim
  · rw [h1]
    show a.block < B
    simp only [Nat.add_sub_cancel_left] at h2
    omega
theorem low_bk {k B : Nat} {fn : FuncId} {pos : String} {es : Array Event} (h : ∀ e ∈ es, Bk (B0 + 2) e) (hB : B0 + 2 < B) : ∀ op ∈ MemOp.ofEvents k fn pos es, TLow B op := by
  intro op hop x hx
  obtain ⟨_, h2⟩ := okW_of_Bk (Own := NoOwn) (Rd := NoOwn) h op hop
  rcases h2 x hx with ⟨⟨a, h3, h4⟩, h5⟩ | h3 | h3
  · rw [h3]; show a.block < B; omega
  · exact h3.elim
  · exact h3.1.elim
end
end Go.Proofs.Ytdafpnpfcmgfcab
namespace Go.Proofs.Ytdafpnpfcmgfcab
open Go Go.Conc Go.ConcN
open Go.ConcR (KK)

theorem upd_stage {D : Nat → WD} {i : Nat} (x : WD) (a : Nat) : (upd D i x a).stage = if a = i then x.stage else (D a).stage := by
  unfold upd; split <;> rfl

section
variable {j : Nat} {D : Nat → WD} {tag : CTag} {st sm : Int} {i : Nat}

/-- A worker takes itself off the count. -/
theorem off_count (hm : Go.ConcN.Mode j D tag st sm) (hi : i < j) (hs : (D i).stage = 5) (hj : j + pend tag < 2147483648) :
    ∃ v wt : Nat, wt ≤ 1 ∧ v < 2147483647 ∧ st = ((v : Int) + 1) * KK + wt ∧ sm = 0 ∧ (v = 0 ∧ wt = 1 → ∀ m, Go.ConcN.Mode j (upd D i ⟨4, m, 1⟩) tag ((v : Int) * KK + wt) 0) ∧ (¬ (v = 0 ∧ wt = 1) → ∀ m, Go.ConcN.Mode j (upd D i ⟨1, m, 1⟩) tag ((v : Int) * KK + wt) 0) := by
  have c1 : cnt (D i) = 1 := by simp [cnt, hs]
  have hV := Vc_le j D
  have hV1 : 1 ≤ Vc j D := by have := le_sumTo (f := fun x => cnt (D x)) hi; simp only [Vc]; omega
  have hq : ∀ m, Vc j (upd D i ⟨1, m, 1⟩) + 1 = Vc j D := fun m => by
    have := Vc_upd D (⟨1, m, 1⟩ : WD) hi
    have : cnt (⟨1, m, 1⟩ : WD) = 0 := rfl
    omega
  have hop : ∀ m, OpenSt j D → OpenSt j (upd D i ⟨1, m, 1⟩) := fun m h a ha => by
    rw [upd_stage]; split
    · simp
    · exact h a ha
  cases hm with
  | opn h1 h2 h3 =>
    refine ⟨Vc j D + pend tag - 1, 0, by omega, by omega, ?_, rfl, fun h => absurd h.2 (by decide), fun _ m => ?_⟩
    · have : ((Vc j D + pend tag : Nat) : Int) = ((Vc j D + pend tag - 1 : Nat) : Int) + 1 := by omega
      rw [this]; simp
    · have e : (((Vc j D + pend tag - 1 : Nat) : Int)) * KK + ((0 : Nat) : Int) = ((Vc j (upd D i ⟨1, m, 1⟩) + pend tag : Nat) : Int) * KK := by
        have := hq m
        have h0 : Vc j D + pend tag - 1 = Vc j (upd D i ⟨1, m, 1⟩) + pend tag := by omega
        rw [h0]; simp
      rw [e]
      exact .opn h1 (hop m h2) fun vs ev => by have := h3 vs ev; have := hq m; omega
  | reg h1 h2 h3 =>
    refine ⟨Vc j D - 1, 1, by omega, by omega, ?_, rfl, fun h m => ?_, fun h m => ?_⟩
    · have : ((Vc j D : Nat) : Int) = ((Vc j D - 1 : Nat) : Int) + 1 := by omega
      rw [this]; rfl
    · have hv : Vc j D = 1 := by omega
      have hoth : ∀ a, a < j → a ≠ i → (D a).stage = 1 := fun a ha e => by
        have c0 := others_uncounted hi hv c1 a ha e
        have := h2 a ha
        simp only [cnt] at c0
        split at c0 <;> omega
      have key := Go.ConcN.Mode.last (D := upd D i ⟨4, m, 1⟩) (tag := tag) i h1 hi (by rw [upd_same]; simp) (fun a ha e => by rw [upd_ne D _ e]; exact hoth a ha e)
      rw [upd_same] at key
      rw [h.1]
      simpa using key
    · have e : ((Vc j D - 1 : Nat) : Int) * KK + ((1 : Nat) : Int) = ((Vc j (upd D i ⟨1, m, 1⟩) : Nat) : Int) * KK + 1 := by
        have := hq m
        have h0 : Vc j D - 1 = Vc j (upd D i ⟨1, m, 1⟩) := by omega
        rw [h0]; rfl
      rw [e]
      exact .reg h1 (hop m h2) (by have := hq m; omega)
  | last L _ h2 h3 h4 =>
    exfalso
    by_cases e : i = L
    · subst e; omega
    · have := h4 i hi e; omega
  | sema h2 => exfalso; have := h2 i hi; omega
  | fin _ h2 => exfalso; have := h2 i hi; omega

/-- The last one goes on to the semaphore. -/
theorem last_on (hm : Go.ConcN.Mode j D tag st sm) (hi : i < j) (hs : (D i).stage = 4 ∨ (D i).stage = 3) {s' : Nat} (hs' : s' = 3 ∨ s' = 2) (m : Nat) : st = 1 ∧ sm = 0 ∧ Go.ConcN.Mode j (upd D i ⟨s', m, 1⟩) tag (if s' = 2 then 0 else 1) 0 := by
  obtain ⟨h1, h2, h3, h4⟩ := hm.isLast hi (by omega)
  refine ⟨by rw [h3]; split <;> omega, h4, ?_⟩
  have key := Go.ConcN.Mode.last (D := upd D i ⟨s', m, 1⟩) (tag := tag) i h1 hi (by rw [upd_same]; simp; omega) (fun a ha e => by rw [upd_ne D _ e]; exact h2 a ha e)
  rw [upd_same] at key
  exact key
theorem last_up (hm : Go.ConcN.Mode j D tag st sm) (hi : i < j) (hs : (D i).stage = 2) (m : Nat) : st = 0 ∧ sm = 0 ∧ isW3 tag ∧ Go.ConcN.Mode j (upd D i ⟨1, m, 1⟩) .w3 0 1 := by
  obtain ⟨h1, h2, h3, h4⟩ := hm.isLast hi (by omega)
  refine ⟨by rw [h3]; simp [hs], h4, h1, .sema fun a ha => ?_⟩
  rw [upd_stage]
  split
  · rfl
  · exact h2 a ha ‹_›

theorem less_stage (hi : i < j) {x : WD} (h : x.stage < (D i).stage) : Less j (upd D i x) D := by
  have := sumTo_upd D x WD.stage hi
  left
  simp only [Ssum]
  omega
theorem less_fuel (hi : i < j) {x : WD} (h : x.stage = (D i).stage) (hf : x.fuel < (D i).fuel) : Less j (upd D i x) D := by
  have h1 := sumTo_upd D x WD.stage hi
  have h2 := sumTo_upd D x WD.fuel hi
  right
  simp only [Ssum, Fsum]
  omega
theorem Vc_le_upd (hi : i < j) {x : WD} (h : cnt x ≤ cnt (D i)) : Vc j (upd D i x) ≤ Vc j D := by
  have := Vc_upd D x hi
  omega
theorem bitsIn_upd {bit : Nat → Nat} {Ad : Nat → Bool} (hi : i < j) (h : Ad i = false) : bitsIn bit j (upd Ad i true) = bitsIn bit j Ad + bit i := by
  have := sumTo_upd Ad true (fun _ => 0) hi
  have key : ∀ {j : Nat}, i < j → sumTo j (fun a => if upd Ad i true a = true then bit a else 0) = sumTo j (fun a => if Ad a = true then bit a else 0) + bit i := by
    intro j
    induction j with
    | zero => intro h; omega
    | succ j ih =>
      intro hij
      simp only [sumTo]
      by_cases e : i = j
      · subst e
        have : sumTo i (fun a => if upd Ad i true a = true then bit a else 0) = sumTo i (fun a => if Ad a = true then bit a else 0) := sumTo_congr fun a ha => by rw [upd_ne Ad _ (by omega)]
        rw [this, upd_same, h]
        simp
      · rw [ih (by omega), upd_ne Ad _ (by omega)]
        omega
  exact key hi
theorem bitsIn_same {bit : Nat → Nat} {Ad : Nat → Bool} {b : Bool} (h : Ad i = b) : bitsIn bit j (upd Ad i b) = bitsIn bit j Ad := by
  have : upd Ad i b = Ad := by
    funext a
    unfold upd
    split
    · rename_i e; subst e; exact h.symm
    · rfl
  rw [this]
end
end Go.Proofs.Ytdafpnpfcmgfcab
namespace Go.Proofs.Ytdafpnpfcmgfcab
open Go Go.Conc Go.ConcN
open Go.ConcR (KK wgBlock WgAt stA smA rd wr mk Payload DC0 Bk g_of_ofEvents ofEvent_loc_mark bk_of_mute)

section
variable [Payload] {P : Program} {ty nty : TypeId} {S : Nat → Prop} {B0 base : Nat} {bit : Nat → Nat}
variable {j : Nat} {tag : CTag} {d0 T0 N0 : Nat} {gs : Array Goroutine} {w : World} {t : Trace} {D : Nat → WD} {Ad : Nat → Bool} {q : Nat → Nat} {st sm : Int}

/-- What comes of a worker's step. -/
def Onward (P : Program) (ty nty : TypeId) (S : Nat → Prop) (B0 base : Nat) (bit : Nat → Nat) (j : Nat) (tag : CTag) (d0 T0 N0 : Nat) (gs : Array Goroutine) (w : World) (t : Trace) (D : Nat → WD) (q : Nat → Nat) (i : Nat) (g : Goroutine) : Prop :=
  ∃ g' w' es D' Ad' st' sm' tag', stepG P false g w = .go g' w' es ∧ Cw P ty nty S B0 base bit j tag' d0 T0 N0 ((gs.map (woken P g g' w')).setIfInBounds (base + i) g') w' (t ++ MemOp.ofEvents (base + i) g.frame.fn g.frame.place es) D' Ad' q st' sm' ∧
    Less j D' D ∧ Vc j D' ≤ Vc j D ∧ Sim (SJ S B0 j) w w' ∧ (tag' = tag ∨ (tag = .blk ∧ tag' = .w3 ∧ ∀ x, woken P g g' w' x = x.again w'))

/-- Bookkeeping: at most the group's block turns; behind its release. -/
theorem Cw.book (h : Cw P ty nty S B0 base bit j tag d0 T0 N0 gs w t D Ad q st sm) {i : Nat} (hi : i < j) {g g' : Goroutine} {w' : World} {es : Array Event} {s' m' dd' : Nat} {st' sm' : Int} {tag' : CTag} (hgo : stepG P false g w = .go g' w' es)
    (hA : Aside (B0 + 2) w w') (hwg : WgAt ty (B0 + 2) w' st' sm') (hbk : ∀ e ∈ es, Bk (B0 + 2) e) (hd : ∀ k e, es[k]? = some e → (MemAct.ofEvent e).touch? = none ∨ 0 < deafBehind (D i).deaf (es.extract 0 k)) (had : Ad i = true)
    (hs' : WSit P ty (B0 + 2) (B0 + 3 + i) 1 NoOwn (RdW S B0 base i) (B0 + 1) 1 (.int .i64 i) s' m' dd' g' w') (hdd : deafBehind (D i).deaf es = dd') (h6 : (D i).stage ≤ 6) (hmode : Go.ConcN.Mode j (upd D i ⟨s', m', dd'⟩) tag' st' sm')
    (hless : (s' < (D i).stage ∧ cnt ⟨s', m', dd'⟩ ≤ cnt (D i)) ∨ (s' = (D i).stage ∧ m' < (D i).fuel)) (htag : tag' = tag ∨ (tag = .blk ∧ tag' = .w3 ∧ ∀ x, woken P g g' w' x = x.again w')) : Onward P ty nty S B0 base bit j tag d0 T0 N0 gs w t D q i g := by
  have hroom := h.room
  refine ⟨g', w', es, upd D i ⟨s', m', dd'⟩, upd Ad i true, st', sm', tag', hgo, h.stepW hi (fun i' _ _ => wg_rwk hA hwg) (.go hs') (okW_bk hbk) (norel_of_Bk hbk) hdd (fun _ => ?_) ?_ ?_ hwg hmode hA.size (low_bk hbk (by omega)), ?_, ?_, ?_, htag⟩
  · obtain ⟨r, hr, hr'⟩ := h.rel i hi h6
    refine ⟨r, hr.book (h.deafW i hi) _ _ hbk hd, after_app hr' fun op hop _ b hb => ?_⟩
    obtain ⟨_, h2⟩ := okW_of_Bk (Own := NoOwn) (Rd := NoOwn) hbk op hop
    rcases h2 b hb with ⟨⟨x, h3, h4⟩, _⟩ | h3 | h3
    · exact ⟨x, h3, .inr (.inr h4)⟩
    · exact h3.elim
    · exact h3.1.elim
  · obtain ⟨cs, h1, h2⟩ := h.box i hi
    exact ⟨cs, (hA.block _ (by omega)).trans h1, h2⟩
  · rw [bitsIn_same had]
    exact noted_aside h.noted (hA.block _ (by omega))
  · rcases hless with ⟨h1, _⟩ | ⟨h1, h2⟩
    · exact less_stage hi h1
    · exact less_fuel hi h1 h2
  · rcases hless with ⟨_, h1⟩ | ⟨h1, _⟩
    · exact Vc_le_upd hi h1
    · exact Vc_le_upd hi (by simp only [cnt, h1]; exact Nat.le_refl _)
  · refine sim_cells hA.size hA.os hA.output (fun b hb => hA.block b fun e => hb (.inl (.inr (.inr e)))) (fun b _ => ?_)
    by_cases e : b = B0 + 2
    · subst e
      right
      intro c t f hc
      have h1 := h.wg
      unfold WgAt wgBlock at h1 hwg
      rw [h1] at hc
      cases hc
      exact ⟨_, hwg⟩
    · exact .inl (hA.block b e)

/-- A step of its own work: its own variable alone may turn. -/
theorem Cw.work (h : Cw P ty nty S B0 base bit j tag d0 T0 N0 gs w t D Ad q st sm) {i : Nat} (hi : i < j) {g g' : Goroutine} {w' : World} {es : Array Event} {m' : Nat} (hgo : stepG P false g w = .go g' w' es) (hD : DWk S B0 base i w w' es) (hst : (D i).stage = 7) (hde : (D i).deaf = 0)
    (hs' : WkS P ty nty S B0 base bit i (Ad i) 7 m' 0 g' w') (hm : m' < (D i).fuel) : Onward P ty nty S B0 base bit j tag d0 T0 N0 gs w t D q i g := by
  obtain ⟨hA, hev⟩ := hD
  simp only [Nat.sub_self] at hA
  have hroom := h.room
  refine ⟨g', w', es, upd D i ⟨7, m', 0⟩, upd Ad i (Ad i), st, sm, tag, hgo, h.stepW hi (fun i' _ e => aside_rwk hA e) hs' (okW_of hev) (fun e he => (hev e he).2.2.2) ?_ (fun h => by omega) (hA.pay (h.box i hi)) ?_ (h.wg.of_block (hA.block _ (by omega))) ?_ hA.size (low_evW hev (by omega)), less_fuel hi hst.symm hm, Vc_le_upd hi (by simp [cnt, hst]), aside_sim hA hi (h.box i hi), .inl rfl⟩
  · rw [hde]
    exact deafBehind_still (fun e he => ⟨(hev e he).2.1, (hev e he).2.2.1⟩) 0
  · rw [bitsIn_same rfl]
    exact noted_aside h.noted (hA.block _ (by omega))
  · have := h.mode.same (i := i) m' 0
    rwa [hst] at this

set_option maxHeartbeats 1000000 in
theorem Cw.worker (h : Cw P ty nty S B0 base bit j tag d0 T0 N0 gs w t D Ad q st sm) {i : Nat} (hi : i < j) {g : Goroutine} (hg : gs[base + i]? = some g) (hrun : g.status = .running) (hj : j + pend tag < 2147483648) (hbits : ∀ Ad', N0 + bitsIn bit j Ad' < 4294967296) :
    Onward P ty nty S B0 base bit j tag d0 T0 N0 gs w t D q i g := by
  have hroom := h.room
  obtain ⟨g₁, hg₁, hs⟩ := h.wk i hi
  obtain rfl : g = g₁ := by rw [hg] at hg₁; exact Option.some.inj hg₁
  generalize had : Ad i = ad at hs
  generalize hst : (D i).stage = s at hs
  generalize hfu : (D i).fuel = m at hs
  generalize hde : (D i).deaf = dd at hs
  have two : ∀ a : Addr, a.block = B0 + 2 → ∀ e ∈ #[rd a, wr a], Bk (B0 + 2) e := by
    intro a ha e he
    simp at he
    rcases he with rfl | rfl <;> exact bk_cell _ _ ha
  cases hs with
  | @pre M2 m0 _ _ hp =>
    rcases Goes.cases hp with hstop | ⟨m', rfl, hstep⟩
    · -- it adds its bit
      obtain ⟨_, hadd⟩ := hstop w (RWk.refl i w)
      have hb := bitsIn_upd (bit := bit) hi had
      have hlt := hbits (upd Ad i true)
      obtain ⟨g', hgo, hk⟩ := hadd _ (by omega) h.noted
      have hA : Aside (B0 + 1) w (w.setCell (nA B0) (.int .u32 ((N0 + bitsIn bit j Ad + bit i : Nat) : Int))) := aside_setCell w (nA B0) _
      have hev : ∀ e ∈ #[rd (nA B0), wr (nA B0)], e = rd (nA B0) ∨ e = wr (nA B0) := by intro e he; simpa using he
      have hops : ∀ op ∈ MemOp.ofEvents (base + i) g.frame.fn g.frame.place #[rd (nA B0), wr (nA B0)], ∀ x, op.act.touch? = some x → x.loc = .cell (nA B0) ∧ x.kind = .atomic := by
        intro op hop x hx
        obtain ⟨e, he, rfl⟩ := Go.Conc.mem_ofEvents hop
        rcases hev e he with rfl | rfl <;> simp [rd, wr, MemAct.ofEvent, MemAct.touch?] at hx <;> subst hx <;> exact ⟨rfl, rfl⟩
      refine ⟨g', _, _, upd D i ⟨7, M2, 0⟩, upd Ad i true, st, sm, tag, hgo, h.stepW hi (fun i' _ _ => ?_) (.go (.r0 hk)) (fun op hop => ?_) ?_ ?_ (fun h => by omega) ?_ ?_ (h.wg.of_block (hA.block _ (by omega))) ?_ hA.size (fun op hop x hx => ?_), less_fuel hi hst.symm (by rw [hfu]; dsimp only; omega), Vc_le_upd hi (by simp [cnt, hst]), sim_setCell (.inl (.inr (.inl rfl))) _, .inl rfl⟩
      · exact ⟨fun b hb _ _ => hA.block b (by omega), fun ⟨st, sm, hl⟩ => ⟨st, sm, hl.of_block (hA.block _ (by omega))⟩, fun ⟨cs, hc, hn⟩ => ⟨cs, (hA.block _ (by omega)).trans hc, hn⟩, cell_of_block (hA.block _ (by omega)) 0⟩
      · refine ⟨by obtain ⟨e, _, rfl⟩ := Go.Conc.mem_ofEvents hop; rfl, fun x hx => .inl ?_⟩
        obtain ⟨h1, h2⟩ := hops op hop x hx
        exact ⟨⟨nA B0, h1, .inr (.inl rfl)⟩, by rw [h2]; simp, by rw [h2]; simp⟩
      · intro e he
        rcases hev e he with rfl | rfl <;> simp [rd, wr]
      · rw [hde]; rfl
      · obtain ⟨cs, h1, h2⟩ := h.box i hi
        exact ⟨cs, (hA.block _ (by omega)).trans h1, h2⟩
      · rw [hb, ← Nat.add_assoc]
        have h1 := h.noted
        unfold NAt at h1 ⊢
        have hlt1 : B0 + 1 < w.heap.size := by omega
        simp only [World.setCell, nA, Array.getElem?_modify, if_true, h1, Option.map_some]
        rfl
      · have := h.mode.same (i := i) M2 0
        rwa [hst] at this
      · obtain ⟨h1, _⟩ := hops op hop x hx
        rw [h1]
        show B0 + 1 < _
        omega
    · obtain ⟨g', w', es, hgo, hD, hg'⟩ := hstep w (RWk.refl i w)
      exact h.work hi hgo hD hst hde (by rw [had]; exact .pre hg') (by rw [hfu]; omega)
  | go hs =>
    cases hs with
    | r0 hp =>
      rcases Goes.cases hp with hstop | ⟨m', rfl, hstep⟩
      · obtain ⟨_, hhas, g', hgo, m₂, hk⟩ := hstop w (RW.refl w)
        have hev : ∀ e ∈ #[Go.ConcR.mk (.releaseMerge (stA (B0 + 2)))], e = Go.ConcR.mk (.releaseMerge (stA (B0 + 2))) := by intro e he; simpa using he
        have hnt : ∀ op ∈ MemOp.ofEvents (base + i) g.frame.fn g.frame.place #[Go.ConcR.mk (.releaseMerge (stA (B0 + 2)))], op.act.touch? = none := by
          intro op hop
          obtain ⟨e, he, rfl⟩ := Go.Conc.mem_ofEvents hop
          rw [hev e he]; rfl
        refine ⟨g', w, _, upd D i ⟨6, m₂, 0⟩, upd Ad i true, st, sm, tag, hgo, h.stepW hi (fun i' _ _ => RWk.refl i' w) (.go (.k1 hk)) (fun op hop => ?_) ?_ ?_ (fun _ => ⟨t.size, RelBy.new (by rw [h.deafW i hi, hde]) _ _, fun x b hx _ hb => by
          obtain ⟨op, ho, _⟩ := touch_of hb
          have := lt_size_of_getElem? ho
          rw [ofEvents_eq] at this
          simp at this
          omega⟩) (h.box i hi) ?_ h.wg (h.mode.counted hi (by omega) (.inl rfl) _ _) rfl (fun op hop x hx => by rw [hnt op hop] at hx; cases hx), less_stage hi (by show 6 < _; omega), Vc_le_upd hi (by simp [cnt, hst]), Sim.refl _ w, .inl rfl⟩
        · exact ⟨by obtain ⟨e, _, rfl⟩ := Go.Conc.mem_ofEvents hop; rfl, fun x hx => by rw [hnt op hop] at hx; cases hx⟩
        · intro e he
          rw [hev e he]; simp [Go.ConcR.mk]
        · rw [hde]; rfl
        · rw [bitsIn_same had]; exact h.noted
      · obtain ⟨g', w', es, hgo, hD, hg'⟩ := hstep w (RW.refl w)
        exact h.work hi hgo hD hst hde (by rw [had]; exact .go (.r0 hg')) (by rw [hfu]; omega)
    | k1 hp =>
      rcases Goes.cases hp with hstop | ⟨m', rfl, hstep⟩
      · obtain ⟨_, g', hgo, m₂, hk⟩ := hstop w (RW.refl w)
        exact h.book hi hgo (.refl _ w) h.wg (by intro e he; simp at he; subst he; exact .inl rfl) (by intro k e he; exact .inl (by have := Array.mem_of_getElem? he; simp at this; subst this; rfl)) had (.d1 hk) (by rw [hde]; rfl) (by omega) (h.mode.counted hi (by omega) (.inr rfl) _ _) (.inl ⟨by omega, by simp [cnt, hst]⟩) (.inl rfl)
      · obtain ⟨g', w', es, hgo, ⟨rfl, rfl⟩, hg'⟩ := hstep w (RW.refl w)
        exact h.book hi hgo (.refl _ _) h.wg (by simp) (by simp) had (.k1 hg') (by rw [hde]; rfl) (by omega) (by have := h.mode.same (i := i) m' 0; rwa [hst] at this) (.inr ⟨hst.symm, by rw [hfu]; omega⟩) (.inl rfl)
    | d1 hp =>
      rcases Goes.cases hp with hstop | ⟨m', rfl, hstep⟩
      · obtain ⟨_, hall⟩ := hstop w (RW.refl w)
        obtain ⟨v, wt, hwt, hv, e1, e2, hl, hq⟩ := off_count h.mode hi hst hj
        have hwg := h.wg
        rw [e1, e2] at hwg
        obtain ⟨g', hgo, h1, h2⟩ := hall v wt hwt hv hwg
        have df : ∀ k e, (#[rd (stA (B0 + 2)), wr (stA (B0 + 2))] : Array Event)[k]? = some e → (MemAct.ofEvent e).touch? = none ∨ 0 < deafBehind (D i).deaf ((#[rd (stA (B0 + 2)), wr (stA (B0 + 2))] : Array Event).extract 0 k) := by
          intro k e he
          rw [hde]
          match k, he with
          | 0, _ => exact .inr (by simp [deafBehind])
          | 1, _ => exact .inr (by simp [deafBehind, rd])
          | k + 2, he => simp at he
        by_cases hc : v = 0 ∧ wt = 1
        · obtain ⟨m₂, hk⟩ := h1 hc
          exact h.book hi hgo (aside_setCell w (stA (B0 + 2)) _) (hwg.setSt _) (two _ rfl) df had (.d2 hk) (by rw [hde]; rfl) (by omega) (hl hc _) (.inl ⟨by omega, by simp [cnt]⟩) (.inl rfl)
        · obtain ⟨q', hk⟩ := h2 hc
          exact h.book hi hgo (aside_setCell w (stA (B0 + 2)) _) (hwg.setSt _) (two _ rfl) df had (.quit hk) (by rw [hde]; rfl) (by omega) (hq hc _) (.inl ⟨by omega, by simp [cnt]⟩) (.inl rfl)
      · obtain ⟨g', w', es, hgo, ⟨rfl, rfl⟩, hg'⟩ := hstep w (RW.refl w)
        exact h.book hi hgo (.refl _ _) h.wg (by simp) (by simp) had (.d1 hg') (by rw [hde]; rfl) (by omega) (by have := h.mode.same (i := i) m' 1; rwa [hst] at this) (.inr ⟨hst.symm, by rw [hfu]; omega⟩) (.inl rfl)
    | d2 hp =>
      rcases Goes.cases hp with hstop | ⟨m', rfl, hstep⟩
      · obtain ⟨_, hx⟩ := hstop w (RW.refl w)
        obtain ⟨e1, e2, _⟩ := last_on h.mode hi (by omega) (s' := 3) (.inl rfl) 0
        have hwg := h.wg
        rw [e1, e2] at hwg
        obtain ⟨g', hgo, m₂, hk⟩ := hx hwg
        obtain ⟨_, _, hm'⟩ := last_on h.mode hi (by omega) (s' := 3) (.inl rfl) m₂
        exact h.book hi hgo (.refl _ w) hwg (by intro e he; simp at he; subst he; exact bk_cell _ _ rfl) (by intro k e he; rw [hde]; match k, he with | 0, _ => exact .inr (by simp [deafBehind]) | k + 1, he => simp at he) had (.d3 hk) (by rw [hde]; rfl) (by omega) (by simpa using hm') (.inl ⟨by omega, by simp [cnt]⟩) (.inl rfl)
      · obtain ⟨g', w', es, hgo, ⟨rfl, rfl⟩, hg'⟩ := hstep w (RW.refl w)
        exact h.book hi hgo (.refl _ _) h.wg (by simp) (by simp) had (.d2 hg') (by rw [hde]; rfl) (by omega) (by have := h.mode.same (i := i) m' 1; rwa [hst] at this) (.inr ⟨hst.symm, by rw [hfu]; omega⟩) (.inl rfl)
    | d3 hp =>
      rcases Goes.cases hp with hstop | ⟨m', rfl, hstep⟩
      · obtain ⟨_, hx⟩ := hstop w (RW.refl w)
        obtain ⟨e1, e2, _⟩ := last_on h.mode hi (by omega) (s' := 2) (.inr rfl) 0
        have hwg := h.wg
        rw [e1, e2] at hwg
        obtain ⟨g', hgo, m₂, hk⟩ := hx hwg
        obtain ⟨_, _, hm'⟩ := last_on h.mode hi (by omega) (s' := 2) (.inr rfl) m₂
        exact h.book hi hgo (aside_setCell w (stA (B0 + 2)) _) (hwg.setSt 0) (by intro e he; simp at he; subst he; exact bk_cell _ _ rfl) (by intro k e he; rw [hde]; match k, he with | 0, _ => exact .inr (by simp [deafBehind]) | k + 1, he => simp at he) had (.d4 hk) (by rw [hde]; rfl) (by omega) (by simpa using hm') (.inl ⟨by omega, by simp [cnt]⟩) (.inl rfl)
      · obtain ⟨g', w', es, hgo, ⟨rfl, rfl⟩, hg'⟩ := hstep w (RW.refl w)
        exact h.book hi hgo (.refl _ _) h.wg (by simp) (by simp) had (.d3 hg') (by rw [hde]; rfl) (by omega) (by have := h.mode.same (i := i) m' 1; rwa [hst] at this) (.inr ⟨hst.symm, by rw [hfu]; omega⟩) (.inl rfl)
    | d4 hp =>
      rcases Goes.cases hp with hstop | ⟨m', rfl, hstep⟩
      · obtain ⟨_, hmw, hx⟩ := hstop w (RW.refl w)
        obtain ⟨e1, e2, _, _⟩ := last_up h.mode hi hst 0
        have hwg := h.wg
        rw [e1, e2] at hwg
        obtain ⟨g', hgo, q', hk⟩ := hx hwg
        obtain ⟨_, _, h3, hm'⟩ := last_up h.mode hi hst q'
        have hwake : ∀ x, woken P g g' (w.setCell (smA (B0 + 2)) (.int .u32 1)) x = x.again (w.setCell (smA (B0 + 2)) (.int .u32 1)) := fun x => by
          unfold Go.Conc.woken
          rcases hk.status with e | e <;> simp [hmw, e]
        refine h.book hi hgo (aside_setCell w (smA (B0 + 2)) _) (hwg.setSm 1) bk_sem ?_ had (.quit hk) (by rw [hde]; simp [deafBehind, semEvents]) (by omega) hm' (.inl ⟨by omega, by simp [cnt]⟩) ?_
        · intro k e he
          rw [hde]
          match k, he with
          | 0, he => simp [semEvents] at he; subst he; exact .inl rfl
          | 1, _ => exact .inr (by simp [deafBehind, semEvents])
          | 2, _ => exact .inr (by simp [deafBehind, semEvents])
          | 3, he => simp [semEvents] at he; subst he; exact .inl rfl
          | k + 4, he => simp [semEvents] at he
        · cases tag <;> first | exact h3.elim | exact .inl rfl | exact .inr ⟨rfl, rfl, hwake⟩
      · obtain ⟨g', w', es, hgo, ⟨rfl, rfl⟩, hg'⟩ := hstep w (RW.refl w)
        exact h.book hi hgo (.refl _ _) h.wg (by simp) (by simp) had (.d4 hg') (by rw [hde]; rfl) (by omega) (by have := h.mode.same (i := i) m' 1; rwa [hst] at this) (.inr ⟨hst.symm, by rw [hfu]; omega⟩) (.inl rfl)
    | quit hq =>
      cases m with
      | zero => rw [hq.1] at hrun; cases hrun
      | succ k =>
        rcases hq with ⟨hf, _⟩ | ⟨_, g', es, hmute, hstep, hq'⟩
        · rw [hf] at hrun; cases hrun
        · have hbk : ∀ e ∈ es, Bk (B0 + 2) e := fun e he => bk_of_mute (hmute e he)
          exact h.book hi (hstep w) (.refl _ w) h.wg hbk (fun k e he => .inl (touch_mute (hmute e (Array.mem_of_getElem? he)))) had (.quit hq') (by rw [hde]) (by omega) (by have := h.mode.same (i := i) k (deafBehind dd es); rwa [hst] at this) (.inr ⟨hst.symm, by rw [hfu]; omega⟩) (.inl rfl)
end
end Go.Proofs.Ytdafpnpfcmgfcab
namespace Go.Proofs.Ytdafpnpfcmgfcab
open Go Go.Conc Go.ConcN
open Go.ConcR (KK wgBlock WgAt stA smA rd wr Payload DC0 Bk g_of_ofEvents again_blocked)

/-- How far all are. -/
def MLt (j base : Nat) (D' : Nat → WD) (q' : Nat → Nat) (D : Nat → WD) (q : Nat → Nat) : Prop :=
  Ssum j D' < Ssum j D ∨ (Ssum j D' = Ssum j D ∧ Fsum j D' + sumTo base q' < Fsum j D + sumTo base q)
theorem MLt.trans {j base : Nat} {D D' D2 : Nat → WD} {q q' q2 : Nat → Nat} (h : MLt j base D2 q2 D' q') (h' : MLt j base D' q' D q) : MLt j base D2 q2 D q := by
  unfold MLt at *; omega
theorem MLt.induct {j base : Nat} {C : (Nat → WD) → (Nat → Nat) → Prop} (h : ∀ D q, (∀ D' q', MLt j base D' q' D q → C D' q') → C D q) : ∀ D q, C D q := by
  have key : ∀ A B D q, Ssum j D < A → Fsum j D + sumTo base q < B → C D q := by
    intro A
    induction A with
    | zero => exact fun B D q h => absurd h (Nat.not_lt_zero _)
    | succ A ihA =>
      intro B
      induction B with
      | zero => exact fun D q _ h => absurd h (Nat.not_lt_zero _)
      | succ B ihB =>
        intro D q hA hB
        refine h D q fun D' q' hlt => ?_
        rcases hlt with hlt | ⟨h1, h2⟩
        · exact ihA _ D' q' (by omega) (Nat.lt_succ_self _)
        · exact ihB D' q' (by omega) (by omega)
  exact fun D q => key _ _ D q (Nat.lt_succ_self _) (Nat.lt_succ_self _)

section
variable [Payload] {P : Program} {ty nty : TypeId} {S : Nat → Prop} {B0 base : Nat} {bit : Nat → Nat}
variable {j : Nat} {tag : CTag} {d0 T0 N0 : Nat} {gs : Array Goroutine} {w : World} {t : Trace} {D : Nat → WD} {Ad : Nat → Bool} {q : Nat → Nat} {st sm : Int}

theorem Cw.at (h : Cw P ty nty S B0 base bit j tag d0 T0 N0 gs w t D Ad q st sm) (d : Nat) : Cw P ty nty S B0 base bit j tag d0 T0 N0 gs (w.at d) t D Ad q st sm :=
  ⟨h.base1, h.size, h.old, fun i hi => let ⟨g, hg, hs⟩ := h.wk i hi; ⟨g, hg, hs.rely (RW.at w d)⟩, h.ct, h.norel, h.begun, h.deaf0, h.deafW, h.above, h.rel, h.early, h.box, h.noted, h.wg, h.mode, h.seen, h.kn, h.over, h.room⟩
theorem Cw.retag (h : Cw P ty nty S B0 base bit j .blk d0 T0 N0 gs w t D Ad q st sm) : Cw P ty nty S B0 base bit j .w3 d0 T0 N0 gs w t D Ad q st sm :=
  ⟨h.base1, h.size, h.old, h.wk, h.ct, h.norel, h.begun, h.deaf0, h.deafW, h.above, h.rel, h.early, h.box, h.noted, h.wg, h.mode.retag (.inr ⟨rfl, rfl⟩), h.seen, h.kn, h.over, h.room⟩

/-- One step of another's. -/
theorem Cw.other (h : Cw P ty nty S B0 base bit j tag d0 T0 N0 gs w t D Ad q st sm) {a : Goroutine} (h0 : gs[0]? = some a) (hj : j + pend tag < 2147483648) (hbits : ∀ Ad', N0 + bitsIn bit j Ad' < 4294967296) {x : Nat} {g : Goroutine} (hx : gs[x]? = some g) (hx0 : 0 < x) (hrun : g.status = .running) (sl : Option (Nat × Nat)) :
    ∃ gs' w' u D' Ad' q' st' sm' tag' a', runT P (crowd gs w sl) x = (.next (crowd gs' w' sl), u) ∧ gs'[0]? = some a' ∧ Cw P ty nty S B0 base bit j tag' d0 T0 N0 gs' w' (t ++ u) D' Ad' q' st' sm' ∧ MLt j base D' q' D q ∧ Vc j D' ≤ Vc j D ∧ Sim (SJ S B0 j) w w' ∧
      ((a' = a ∨ a' = a.again w') ∧ (tag' = tag ∨ (tag = .blk ∧ tag' = .w3 ∧ a' = a.again w'))) := by
  have hb := h.base1
  have hlt : x < gs.size := (Array.getElem?_eq_some_iff.1 hx).1
  have hx1 : (x == 0) = false := by simp; omega
  rcases Nat.lt_or_ge x base with hxb | hxb
  · -- one that is only leaving
    have hq := h.old x g hx0 hxb hx
    cases hqi : q x with
    | zero => rw [hqi] at hq; rw [hq.1] at hrun; cases hrun
    | succ k =>
      rw [hqi] at hq
      rcases hq with ⟨hf, _⟩ | ⟨_, g', es, hm, hstp, hq'⟩
      · rw [hf] at hrun; cases hrun
      have hrunT := runT_crowd_go (P := P) (sl := sl) (i := x) hx (by rw [hx1]; exact hstp w)
      refine ⟨_, w, _, D, Ad, upd q x k, st, sm, tag, _, hrunT, by rw [get_other (by omega), h0]; rfl, h.stepOld hx0 hxb hm hq', .inr ⟨rfl, ?_⟩, Nat.le_refl _, Sim.refl _ w, ?_, .inl rfl⟩
      · have hsum : sumTo base (upd q x k) + (k + 1) = sumTo base q + k := by
          have := sumTo_upd q k id hxb
          simpa [hqi] using this
        omega
      · unfold Go.Conc.woken
        split
        · exact .inr rfl
        · exact .inl rfl
  · obtain ⟨i, rfl⟩ : ∃ i, x = base + i := ⟨x - base, by omega⟩
    have hi : i < j := by have := h.size; omega
    obtain ⟨g', w', es, D', Ad', st', sm', tag', hgo, hcw, hl, hv, hs, ht⟩ := h.worker hi hx hrun hj hbits
    have hrunT := runT_crowd_go (P := P) (sl := sl) (i := base + i) hx (by rw [hx1]; exact hgo)
    refine ⟨_, w', _, D', Ad', q, st', sm', tag', _, hrunT, by rw [get_other (by omega), h0]; rfl, hcw, ?_, hv, hs, ?_, ?_⟩
    · rcases hl with hl | ⟨h1, h2⟩
      · exact .inl hl
      · exact .inr ⟨h1, by omega⟩
    · unfold Go.Conc.woken
      split
      · exact .inr rfl
      · exact .inl rfl
    · exact ht.imp id fun ⟨h1, h2, h3⟩ => ⟨h1, h2, h3 a⟩

theorem Cw.awake (h : Cw P ty nty S B0 base bit j tag d0 T0 N0 gs w t D Ad q st sm) {a : Goroutine} (h0 : gs[0]? = some a) (ha : a.status = .running ∨ a.status = .blocked) : ∀ x ∈ gs, awake x := by
  intro x hx
  obtain ⟨i, hi, rfl⟩ := Array.mem_iff_getElem.1 hx
  rcases Nat.eq_zero_or_pos i with rfl | hpos
  · have : gs[0] = a := by simpa [Array.getElem?_eq_getElem hi] using h0
    rw [this]; exact awake_of (ha.imp id .inl)
  · rcases Nat.lt_or_ge i base with hb | hb
    · exact awake_of ((h.old i _ hpos hb (Array.getElem?_eq_getElem hi)).status.elim .inl fun x => .inr (.inr x))
    · obtain ⟨k, rfl⟩ : ∃ k, i = base + k := ⟨i - base, by omega⟩
      obtain ⟨g, hg, hs⟩ := h.wk k (by have := h.size; omega)
      rw [Array.getElem?_eq_getElem hi] at hg
      cases hg
      exact awake_of (hs.status.elim .inl fun x => .inr (.inr x))

/-- ████ THE STARTER's TURN COMES. ████ -/
theorem Cw.turn {a : Goroutine} (hrun : a.status = .running) (hj : j + pend tag < 2147483648) (hbits : ∀ Ad', N0 + bitsIn bit j Ad' < 4294967296) (hne : tag ≠ .blk) : ∀ (D : Nat → WD) (q : Nat → Nat) (gs : Array Goroutine) (w : World) (t : Trace) (Ad : Nat → Bool) (st sm : Int) (sl : Option (Nat × Nat)),
    Cw P ty nty S B0 base bit j tag d0 T0 N0 gs w t D Ad q st sm → gs[0]? = some a →
    ∃ N gs' w' sl' t' D' Ad' q' st' sm' d sl2, runNT P N (crowd gs w sl) t = (.next (crowd gs' w' sl'), t') ∧ gs'[0]? = some a ∧ Cw P ty nty S B0 base bit j tag d0 T0 N0 gs' (w'.at d) t' D' Ad' q' st' sm' ∧ Sim (SJ S B0 j) w (w'.at d) ∧ Vc j D' ≤ Vc j D ∧
      (MLt j base D' q' D q ∨ (D' = D ∧ q' = q)) ∧ stepT P (crowd gs' w' sl') = runT P (crowd gs' (w'.at d) sl2) 0 := by
  refine MLt.induct (j := j) (base := base) fun D q ih => ?_
  intro gs w t Ad st sm sl h h0
  obtain ⟨x, g, d, sl', hx, hg, hst⟩ := crowd_pick (P := P) (w := w) (sl := sl) (h.awake h0 (.inl hrun)) ⟨0, a, h0, hrun⟩
  rcases Nat.eq_zero_or_pos x with rfl | hpos
  · exact ⟨0, gs, w, sl, t, D, Ad, q, st, sm, d, sl', rfl, h0, h.at d, Sim.at _ w d, Nat.le_refl _, .inr ⟨rfl, rfl⟩, hst⟩
  · obtain ⟨gs1, w1, u, D1, Ad1, q1, st1, sm1, tag1, a1, hr1, h01, h1, hlt, hv, hs1, ha1, ht1⟩ := (h.at d).other h0 hj hbits hx hpos hg sl'
    obtain rfl : a1 = a := by
      rcases ha1 with rfl | rfl
      · rfl
      · exact again_running _ (.inl hrun)
    obtain rfl : tag1 = tag := by
      rcases ht1 with h | ⟨h, _⟩
      · exact h
      · exact absurd h hne
    obtain ⟨N, gs2, w2, sl2, t2, D2, Ad2, q2, st2, sm2, d2, sl3, hr2, h02, h2, hs2, hv2, hlt2, hst2⟩ := ih D1 q1 hlt gs1 w1 _ Ad1 st1 sm1 sl' h1 h01
    refine ⟨N + 1, gs2, w2, sl2, t2, D2, Ad2, q2, st2, sm2, d2, sl3, by simp only [runNT, hst, hr1]; exact hr2, h02, h2, ((Sim.at _ w d).trans hs1).trans hs2, Nat.le_trans hv2 hv, ?_, hst2⟩
    rcases hlt2 with h | ⟨rfl, rfl⟩
    · exact .inl (h.trans hlt)
    · exact .inl hlt

theorem WkS.running {i : Nat} {ad : Bool} {s m d : Nat} {g : Goroutine} (h : WkS P ty nty S B0 base bit i ad s m d g w) (hs : s ≠ 1) : g.status = .running := by
  cases h with
  | pre h => exact Goes.running (fun _ _ x => x.1) w (RWk.refl i w) h
  | go h =>
    cases h with
    | r0 h => exact Goes.running (fun _ _ x => x.1) w (RW.refl w) h
    | k1 h => exact Goes.running (fun _ _ x => x.1) w (RW.refl w) h
    | d1 h => exact Goes.running (fun _ _ x => x.1) w (RW.refl w) h
    | d2 h => exact Goes.running (fun _ _ x => x.1) w (RW.refl w) h
    | d3 h => exact Goes.running (fun _ _ x => x.1) w (RW.refl w) h
    | d4 h => exact Goes.running (fun _ _ x => x.1) w (RW.refl w) h
    | quit _ => exact absurd rfl hs

/-- .. also if it sleeps at the semaphore: somebody wakes it. -/
theorem Cw.woke {a : Goroutine} (hrun : a.status = .running) (hof : a.offers = none) (hj : j < 2147483648) (hbits : ∀ Ad', N0 + bitsIn bit j Ad' < 4294967296) : ∀ (D : Nat → WD) (q : Nat → Nat) (gs : Array Goroutine) (w : World) (t : Trace) (Ad : Nat → Bool) (st sm : Int) (sl : Option (Nat × Nat)),
    Cw P ty nty S B0 base bit j .blk d0 T0 N0 gs w t D Ad q st sm → gs[0]? = some { a with status := .blocked } →
    ∃ N gs' w' sl' t' D' Ad' q' st' sm', runNT P N (crowd gs w sl) t = (.next (crowd gs' w' sl'), t') ∧ gs'[0]? = some a ∧ Cw P ty nty S B0 base bit j .w3 d0 T0 N0 gs' w' t' D' Ad' q' st' sm' ∧ Sim (SJ S B0 j) w w' ∧ Vc j D' ≤ Vc j D ∧ MLt j base D' q' D q := by
  refine MLt.induct (j := j) (base := base) fun D q ih => ?_
  intro gs w t Ad st sm sl h h0
  have hsome : ∃ i, i < j ∧ (D i).stage ≠ 1 := by
    have hm := h.mode
    cases hm with
    | opn h1 _ _ => exact h1.elim
    | reg _ _ h3 =>
      refine Classical.byContradiction fun hn => ?_
      have h0 : Vc j D = 0 := by
        have : Vc j D = sumTo j (fun _ => 0) := sumTo_congr fun i hi => by
          have : (D i).stage = 1 := Classical.byContradiction fun h => hn ⟨i, hi, h⟩
          simp [cnt, this]
        rw [this]
        have := sumTo_le (f := fun _ => 0) (c := 0) (j := j) fun _ _ => Nat.le_refl _
        omega
      omega
    | last L _ h2 h3 _ => exact ⟨L, h2, by omega⟩
    | fin h1 _ => exact h1.elim
  obtain ⟨i, hi, hs1⟩ := hsome
  obtain ⟨gi, hgi, hsi⟩ := h.wk i hi
  obtain ⟨x, g, d, sl', hx, hg, hst⟩ := crowd_pick (P := P) (w := w) (sl := sl) (h.awake h0 (.inr rfl)) ⟨base + i, gi, hgi, hsi.running hs1⟩
  have hpos : 0 < x := by
    rcases Nat.eq_zero_or_pos x with rfl | hp
    · rw [h0] at hx; cases hx; cases hg
    · exact hp
  obtain ⟨gs1, w1, u, D1, Ad1, q1, st1, sm1, tag1, a1, hr1, h01, h1, hlt, hv, hs1', ha1, ht1⟩ := (h.at d).other h0 (by simpa [pend] using hj) hbits hx hpos hg sl'
  have hag : ({ a with status := .blocked } : Goroutine).again w1 = a := again_blocked hrun hof w1
  have hsim := (Sim.at _ w d).trans hs1'
  by_cases hw : a1 = a
  · subst hw
    refine ⟨1, gs1, w1, sl', _, D1, Ad1, q1, st1, sm1, by simp only [runNT, hst, hr1]; rfl, h01, ?_, hsim, hv, hlt⟩
    rcases ht1 with rfl | ⟨_, rfl, _⟩
    · exact h1.retag
    · exact h1
  · have e1 : a1 = { a with status := .blocked } := by
      rcases ha1 with h | h
      · exact h
      · exact absurd (h.trans hag) hw
    subst e1
    have e2 : tag1 = .blk := by
      rcases ht1 with h | ⟨_, _, h⟩
      · exact h
      · exact absurd (h.trans hag) hw
    subst e2
    obtain ⟨N, gs2, w2, sl2, t2, D2, Ad2, q2, st2, sm2, hr2, h02, h2, hs2, hv2, hlt2⟩ := ih D1 q1 hlt gs1 w1 _ Ad1 st1 sm1 sl' h1 h01
    exact ⟨N + 1, gs2, w2, sl2, t2, D2, Ad2, q2, st2, sm2, by simp only [runNT, hst, hr1]; exact hr2, h02, h2, hsim.trans hs2, Nat.le_trans hv2 hv, hlt2.trans hlt⟩
end
end Go.Proofs.Ytdafpnpfcmgfcab
namespace Go.Proofs.Ytdafpnpfcmgfcab
open Go Go.Conc Go.ConcN
open Go.ConcR (KK wgBlock WgAt stA smA rd wr Payload DC0 Bk g_of_ofEvents)

section
variable [Payload] {P : Program} {ty nty : TypeId} {S : Nat → Prop} {B0 base : Nat} {bit : Nat → Nat}
variable {j : Nat} {tag : CTag} {d0 T0 N0 : Nat} {gs : Array Goroutine} {w : World} {t : Trace} {D : Nat → WD} {Ad : Nat → Bool} {q : Nat → Nat} {st sm : Int}

/-- What the workers lean on stands. -/
structure Leaves (B0 j : Nat) (w w' : World) : Prop where
  low : ∀ b, b ≤ B0 → w'.heap[b]? = w.heap[b]?
  box : ∀ i, i < j → w'.heap[B0 + 3 + i]? = w.heap[B0 + 3 + i]?
  num : w'.heap[B0 + 1]? = w.heap[B0 + 1]?
  size : w.heap.size ≤ w'.heap.size

theorem Cw.step0 (h : Cw P ty nty S B0 base bit j tag d0 T0 N0 gs w t D Ad q st sm) {a a' : Goroutine} (h0 : gs[0]? = some a) {w' : World} {es : Array Event} {tag' : CTag} {st' sm' : Int} (hgo : stepG P true a w = .go a' w' es)
    (hl : Leaves B0 j w w') (hok : ∀ op ∈ MemOp.ofEvents 0 a.frame.fn a.frame.place es, Ok0 (ShOf (S3 S B0)) NoOwn (RdP S B0 base) (base + j - 1) op ∧ TLow w'.heap.size op) (hnr : ∀ e ∈ es, e.loc ≠ .mark (.release (stA (B0 + 2))))
    (hwg : WgAt ty (B0 + 2) w' st' sm') (hmode : Go.ConcN.Mode j D tag' st' sm') (sl : Option (Nat × Nat)) :
    ∃ gs', runT P (crowd gs w sl) 0 = (.next (crowd gs' w' sl), MemOp.ofEvents 0 a.frame.fn a.frame.place es) ∧ gs'[0]? = some a' ∧ Cw P ty nty S B0 base bit j tag' (deafBehind d0 es) T0 N0 gs' w' (t ++ MemOp.ofEvents 0 a.frame.fn a.frame.place es) D Ad q st' sm' := by
  have hb := h.base1
  have hlt : 0 < gs.size := (Array.getElem?_eq_some_iff.1 h0).1
  have hrely : ∀ i, i < j → RWk ty B0 i w w' := fun i hi => ⟨fun b hb _ _ => hl.low b (by omega), fun _ => ⟨_, _, hwg⟩, fun ⟨cs, hc, hn⟩ => ⟨cs, (hl.box i hi).trans hc, hn⟩, cell_of_block (hl.box i hi) 0⟩
  refine ⟨_, runT_crowd_go (P := P) (sl := sl) (i := 0) h0 (show stepG P (0 == 0) a w = _ from hgo), by simp [hlt], ?_⟩
  refine ⟨hb, by simp [h.size], fun k x hk hkb hx => ?_, fun i hi => ?_, h.ct.app0 apart3 fun op hop => (hok op hop).1, norel_app h.norel (norel_of hnr), by have := h.begun; simp; omega, by rw [Deaf_own, h.deaf0], fun i hi => by rw [Deaf_other t (by omega) _ g_of_ofEvents, h.deafW i hi], fun k hk => by rw [Deaf_other t (by omega) _ g_of_ofEvents, h.above k hk], fun i hi hst => ?_, early_app h.begun h.early, fun i hi => (hrely i hi).pay (h.box i hi), noted_aside h.noted hl.num, hwg, hmode, fun op hop => ?_, known_app g_of_ofEvents h.kn (.inr (.inl rfl)), over_app g_of_ofEvents h.over (.inr (.inl rfl)), Nat.le_trans h.room hl.size⟩
  · rw [get_other (by omega)] at hx
    obtain ⟨y, hy, rfl⟩ := Option.map_eq_some_iff.1 hx
    have hq := h.old k y hk hkb hy
    rw [woken_quitsD hq, Deaf_other t (by omega) _ g_of_ofEvents]
    exact hq
  · obtain ⟨x, hx, hsx⟩ := h.wk i hi
    exact ⟨x, by rw [get_other (by omega), hx, Option.map_some, hsx.woken], hsx.rely (hrely i hi)⟩
  · obtain ⟨r, hr, hr'⟩ := h.rel i hi hst
    exact ⟨r, hr.appOther g_of_ofEvents (by omega), after_other g_of_ofEvents (by omega) hr'⟩
  · rcases Array.mem_append.1 hop with hop | hop
    · exact fun x hx => Loc.low_mono hl.size (h.seen op hop x hx)
    · exact (hok op hop).2

/-- A go statement. -/
theorem Cw.spawn (h : Cw P ty nty S B0 base bit j tag 0 T0 N0 gs w t D Ad q st sm) {a a' child : Goroutine} (h0 : gs[0]? = some a) (hgo : stepG P true a w = .spawn a' child w #[]) {ad : Bool} {m : Nat} (hc : WkS P ty nty S B0 base bit j ad 7 m 0 child w) (hbit : ad = true → bit j = 0)
    (hbox : PayAt (B0 + 3 + j) 1 w) {tag' : CTag} (hmode : Go.ConcN.Mode (j + 1) (upd D j ⟨7, m, 0⟩) tag' st sm) (hroom : B0 + 3 + (j + 1) ≤ w.heap.size) (sl : Option (Nat × Nat)) :
    ∃ gs' u, runT P (crowd gs w sl) 0 = (.next (crowd gs' w sl), u) ∧ gs'[0]? = some a' ∧ Cw P ty nty S B0 base bit (j + 1) tag' 0 T0 N0 gs' w (t ++ u) (upd D j ⟨7, m, 0⟩) (upd Ad j ad) q st sm := by
  have hb := h.base1
  have hlt : 0 < gs.size := (Array.getElem?_eq_some_iff.1 h0).1
  have hrun := runT_crowd_spawn (P := P) (sl := sl) (i := 0) h0 (show stepG P (0 == 0) a w = _ from hgo)
  have hu : ((MemOp.ofEvents 0 a.frame.fn a.frame.place #[]).push { g := 0, fn := a.frame.fn, pos := a.frame.place, act := .go gs.size } |>.push { g := gs.size, fn := child.frame.fn, pos := a.frame.place, act := .start }) =
      #[{ g := 0, fn := a.frame.fn, pos := a.frame.place, act := .go gs.size }, { g := gs.size, fn := child.frame.fn, pos := a.frame.place, act := .start }] := by
    rw [ofEvents_eq]; simp
  rw [hu, h.size] at hrun
  generalize hx : ({ g := 0, fn := a.frame.fn, pos := a.frame.place, act := .go (base + j) } : MemOp) = x at hrun
  generalize hy : ({ g := base + j, fn := child.frame.fn, pos := a.frame.place, act := .start } : MemOp) = y at hrun
  have hx1 : x.g = 0 ∧ x.act = .go (base + j) := by subst hx; exact ⟨rfl, rfl⟩
  have hy1 : y.g = base + j ∧ y.act = .start := by subst hy; exact ⟨rfl, rfl⟩
  have hm : ∀ op ∈ #[x, y], op = x ∨ op = y := by intro op hop; simpa using hop
  have hst : ∀ op ∈ #[x, y], op.act ≠ .mark .disable ∧ op.act ≠ .mark .enable := by
    intro op hop
    rcases hm op hop with rfl | rfl
    · rw [hx1.2]; exact ⟨by simp, by simp⟩
    · rw [hy1.2]; exact ⟨by simp, by simp⟩
  have hnt : ∀ op ∈ #[x, y], op.act.touch? = none := by
    intro op hop
    rcases hm op hop with rfl | rfl
    · rw [hx1.2]; rfl
    · rw [hy1.2]; rfl
  have hsz1 : (gs.setIfInBounds 0 a').size = base + j := by simp [h.size]
  have old : ∀ k x, k < base + j → k ≠ 0 → (((gs.setIfInBounds 0 a').push child)[k]? = some x ↔ gs[k]? = some x) := fun k x hk h0' => by
    rw [Array.getElem?_push_lt (by omega), ← Array.getElem?_eq_getElem, Array.getElem?_setIfInBounds_ne (by omega)]
  have hct : CT (ShOf (S3 S B0)) NoOwn (RdP S B0 base) (t ++ #[x, y]) (base + j - 1 + 1) := h.ct.fork apart3 ⟨hx1.1, by rw [hx1.2]; congr 1; omega⟩ ⟨by rw [hy1.1]; omega, hy1.2⟩ h.deaf0
  refine ⟨_, _, hrun, ?_, hb, by simp [h.size]; omega, fun k g hk hkb hg => ?_, fun i hi => ?_, by rw [show base + (j + 1) - 1 = base + j - 1 + 1 by omega]; exact hct, norel_app h.norel fun op hop => ?_, by have := h.begun; simp; omega, by rw [Deaf_still t 0 _ hst, h.deaf0], fun i hi => ?_, fun k hk => by rw [Deaf_still t k _ hst, h.above k (by omega)], fun i hi hs => ?_, early_app h.begun h.early, fun i hi => ?_, ?_, h.wg, hmode, fun op hop => ?_, fun i b hi hn => ?_, fun i g hg h1 h2 hcn => ?_, hroom⟩
  · rw [Array.getElem?_push_lt (by omega)]
    simp
  · rw [Deaf_still t k _ hst]
    exact h.old k g hk hkb ((old k g (by omega) (by omega)).1 hg)
  · rcases Nat.lt_or_ge i j with hij | hij
    · obtain ⟨g, hg, hs⟩ := h.wk i hij
      exact ⟨g, (old _ g (by omega) (by omega)).2 hg, by rw [upd_ne D _ (by omega), upd_ne Ad _ (by omega)]; exact hs⟩
    · obtain rfl : i = j := by omega
      refine ⟨child, ?_, by rw [upd_same, upd_same]; exact hc⟩
      rw [← hsz1, Array.getElem?_push_size]
  · rcases hm op hop with rfl | rfl
    · rw [hx1.2]; simp
    · rw [hy1.2]; simp
  · rw [Deaf_still t _ _ hst]
    rcases Nat.lt_or_ge i j with hij | hij
    · rw [h.deafW i hij, upd_ne D _ (by omega)]
    · obtain rfl : i = j := by omega
      rw [upd_same]
      exact h.above _ (Nat.le_refl _)
  · rcases Nat.lt_or_ge i j with hij | hij
    · rw [upd_ne D _ (by omega)] at hs
      obtain ⟨r, hr, hr'⟩ := h.rel i hij hs
      refine ⟨r, hr.appNot fun op hop => ?_, after_app hr' fun op hop _ b hb => by rw [hnt op hop] at hb; cases hb⟩
      rcases hm op hop with rfl | rfl
      · rw [hx1.1]; omega
      · rw [hy1.1]; omega
    · obtain rfl : i = j := by omega
      rw [upd_same] at hs
      simp at hs
  · rcases Nat.lt_or_ge i j with hij | hij
    · exact h.box i hij
    · obtain rfl : i = j := by omega
      exact hbox
  · have e : bitsIn bit (j + 1) (upd Ad j ad) = bitsIn bit j Ad := by
      unfold bitsIn
      simp only [sumTo, upd_same]
      rw [sumTo_congr (g := fun i => if Ad i = true then bit i else 0) fun i hi => by rw [upd_ne Ad _ (by omega)]]
      cases ad
      · simp
      · simp [hbit rfl]
    rw [e]
    exact h.noted
  · rcases Array.mem_append.1 hop with hop | hop
    · exact h.seen op hop
    · exact fun z hz => by rw [hnt op hop] at hz; cases hz
  · obtain ⟨z, hz, hza⟩ := touch_of hi
    rcases getElem?_append_cases hz with ⟨hlt', hz'⟩ | ⟨_, hzu⟩
    · rcases h.kn i b (by rw [touchAt_of hz']; exact hza) hn with ⟨k, h1, h3⟩ | h1
      · exact .inl ⟨k, h1, by rw [g?_old hlt']; exact h3⟩
      · exact .inr (h1.app _)
    · rw [hnt z hzu] at hza; cases hza
  · obtain ⟨b, hb', _⟩ := hcn
    obtain ⟨z, hz, hza⟩ := touch_of hb'
    rcases getElem?_append_cases hz with ⟨hlt', hz'⟩ | ⟨_, hzu⟩
    · obtain ⟨x', hx', hb2⟩ := h.over i g (by rw [← g?_old (u := #[x, y]) hlt']; exact hg) h1 h2 ((counts_old hlt').1 ⟨b, hb', by assumption⟩)
      have hxl : x' < t.size := by
        unfold Trace.g? at hx'
        obtain ⟨z2, hz2, _⟩ := Option.map_eq_some_iff.1 hx'
        exact lt_size_of_getElem? hz2
      exact ⟨x', by rw [g?_old hxl]; exact hx', hb_app _ hb2⟩
    · rw [hnt z hzu] at hza; cases hza
end
end Go.Proofs.Ytdafpnpfcmgfcab
