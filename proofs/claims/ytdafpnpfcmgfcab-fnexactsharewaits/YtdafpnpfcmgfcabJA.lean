/- Two runs in step: a lone one in a world whose shunned blocks are broken, and one in company. The law of Sem. Two runs in step: the law of Sem. Two runs in step: a goroutine's step. Two runs in step: a goroutine's step, whole. A goroutine that alone comes to a stop on every tape comes to it in company too, whatever the draws between its steps. A goroutine's step in company, whatever its mode; the way in company, put together. The words of the model's own notation are tame. The operations that yield values are tame: numbers, texts, addresses. Addresses that are looked at, comparisons, sums: tame. -/
import Derived.Conc.Beside
import Derived.Laws.Sem
namespace Go.Proofs.Ytdafpnpfcmgfcab
open Go

/-- What the lone world holds in an object's stead: of memory seen as another type a view that nobody can look through; of a variable that waits for its value something that is no row. No two are veiled alike. -/
def veil : Obj → Obj
  | .view a t => .view ⟨a.block, a.off, some (match a.spot with | none => 0 | some k => k + 1)⟩ t
  | .pending c t => .finalizers #[(t, { (default : Deferred) with args := c })] (some 0)
  | .finalizers fs r => .finalizers fs (match r with | none => none | some k => some (k + 1))
  | o => o
theorem veil_inj {a b : Obj} (h : veil a = veil b) : a = b := by
  cases a <;> cases b <;> simp only [veil, Obj.view.injEq, Obj.finalizers.injEq, Addr.mk.injEq, Option.some.injEq, reduceCtorEq] at h ⊢
  all_goals first | exact h | skip
  case pending.pending c t c' t' => simpa [and_comm] using h
  case pending.finalizers c t fs r => cases r <;> simp at h
  case finalizers.pending fs r c t => cases r <;> simp at h
  case finalizers.finalizers fs r fs' r' => cases r <;> cases r' <;> simp at h ⊢ <;> exact h
  case view.view a t a' t' =>
    obtain ⟨b1, o1, s1⟩ := a
    obtain ⟨b2, o2, s2⟩ := a'
    cases s1 <;> cases s2 <;> simp at h ⊢ <;> exact h

/-- A world in which no look goes through a view and no variable waits. -/
def Whole (v : World) : Prop := ∀ (b : Nat) o, v.heap[b]? = some o → (∀ c t, o ≠ .pending c t) ∧ ∀ a t, o = .view a t → a.spot.isSome = true

/-- The lone world 'v' is 'w', the shunned blocks broken (rows without a cell), the others veiled; its tape is another. -/
structure Cp (S : Nat → Prop) (v w : World) : Prop where
  size : v.heap.size = w.heap.size
  low : ∀ b, S b → b < v.heap.size
  out : ∀ b, ¬ S b → v.heap[b]? = (w.heap[b]?).map veil
  brk : ∀ b, S b → ∃ t c f, v.heap[b]? = some (.cells #[] t f) ∧ w.heap[b]? = some (.cells c t f)
  os : v.os = w.os
  output : v.output = w.output

theorem veil_cells {o : Obj} {c : Array Value} {t : TypeId} {f : Nat × Nat} : veil o = .cells c t f ↔ o = .cells c t f := by cases o <;> simp [veil]
theorem Cp.whole {S : Nat → Prop} {v w : World} (h : Cp S v w) : Whole v := by
  intro b o e
  by_cases hb : S b
  · obtain ⟨t, c, f, e1, _⟩ := h.brk b hb
    rw [e1] at e
    cases e
    exact ⟨fun _ _ => by simp, fun _ _ => by simp⟩
  · rw [h.out b hb] at e
    obtain ⟨o', _, rfl⟩ := Option.map_eq_some_iff.1 e
    constructor
    · intro c t; cases o' <;> simp [veil]
    · intro a t e
      cases o' <;> simp [veil] at e
      obtain ⟨rfl, _⟩ := e
      rfl

/-- A halt that ends the run. -/
def Ends : Halt → Prop
  | .stuck _ => True
  | .unsupported (.initOrder _) => False
  | .unsupported _ => True
  | _ => False

/-- Whatever it meets, it halts, and the run ends. -/
def Doomed {α : Type} (Q : Program) : Sem α → Prop
  | .pure _ | .store _ _ _ _ | .new _ _ | .freeze _ _ _ | .setObj _ _ _ | .sys _ _ => False
  | .load _ _ k => ∀ v, Doomed Q (k v)
  | .shape _ k => ∀ x, Doomed Q (k x)
  | .frozen _ k => ∀ b, Doomed Q (k b)
  | .getObj _ k => ∀ o, Doomed Q (k o)
  | .choose _ k => ∀ n, Doomed Q (k n)
  | .program k => Doomed Q (k Q)
  | .mark _ k => Doomed Q k
  | .halt h => Ends h

/-- A halt that an operation in use may come to. -/
def MayHalt : Halt → Prop
  | .panic _ => True
  | h => Ends h

/-- It does not ask how many cells a shunned block has (or is doomed there), says no word but 'noRoom', makes nothing odd; the program is asked for nothing in which the two differ (or the lone run yields at once what meets Z); what it yields meets A. -/
def Tame {α : Type} (Q P : Program) (S : Nat → Prop) (Z A : α → Prop) : Sem α → Prop
  | .pure a => A a
  | .load _ a k => ¬ S a.block → ∀ v, Tame Q P S Z A (k v)
  | .store _ a _ k => ¬ S a.block → Tame Q P S Z A k
  | .new o k => veil o = o ∧ ∀ r, ¬ S r → Tame Q P S Z A (k r)
  | .shape r k => (∀ x, Tame Q P S Z A (k x)) ∧ (¬ S r ∨ (∀ t, Doomed Q (k (some (t, 0)))) ∨ ∀ t n, k (some (t, 0)) = k (some (t, n)))
  | .freeze _ _ k => Tame Q P S Z A k
  | .frozen _ k => ∀ b, Tame Q P S Z A (k b)
  | .getObj r k => ¬ S r → (∀ o, Tame Q P S Z A (k o)) ∧ ∀ o, k (veil o) = k o
  | .setObj r o k => ¬ S r → (veil o = o ∧ o.isChan = false) ∧ Tame Q P S Z A k
  | .choose _ k => ∀ n, Tame Q P S Z A (k n)
  | .sys _ _ => False
  | .program k => (k Q = k P ∧ Tame Q P S Z A (k P)) ∨ ∃ a, k Q = .pure a ∧ Z a
  | .mark m k => m = .noRoom ∧ Tame Q P S Z A k
  | .halt h => MayHalt h

def Result.w {α : Type} : Result α → World
  | .ok _ w => w
  | .halt _ w => w

/-- What is listed: no shunned place; below B. -/
def OkE (S : Nat → Prop) (B : Nat) (e : Event) : Prop :=
  match e.loc with
  | .cell a => ¬ S a.block ∧ a.block < B
  | .obj r => ¬ S r ∧ r < B ∧ (e.write && e.sync) = false
  | .mark .noRoom => True
  | _ => False

section
variable {α : Type} {Q P : Program} {S : Nat → Prop} {Z A : α → Prop}

theorem OkE.mono {B B' : Nat} (h : B ≤ B') {e : Event} (he : OkE S B e) : OkE S B' e := by
  unfold OkE at *
  split at he
  · exact ⟨he.1, by omega⟩
  · exact ⟨he.1, by omega, he.2.2⟩
  · trivial
  · exact he

/-- Both runs have done the same. -/
def Both (S : Nat → Prop) (Q P : Program) (A : α → Prop) (s : Sem α) (v w : World) (es : Array Event) : Prop :=
  ∃ us v1 w1, Cp S v1 w1 ∧ v1.tape = v.tape ∧ w1.tape = w.tape ∧ w.heap.size ≤ w1.heap.size ∧ (∃ c, v1.drawn = v.drawn + c ∧ w1.drawn = w.drawn + c) ∧ (∀ e ∈ us, OkE S w1.heap.size e) ∧
    ((∃ a, A a ∧ s.runT Q v es = (.ok a v1, es ++ us) ∧ s.runT P w es = (.ok a w1, es ++ us)) ∨ (∃ h, MayHalt h ∧ s.runT Q v es = (.halt h v1, es ++ us) ∧ s.runT P w es = (.halt h w1, es ++ us)))
def Dead (Q : Program) (Z : α → Prop) (s : Sem α) (v : World) (es : Array Event) : Prop := (∃ h v', (s.runT Q v es).1 = .halt h v' ∧ Ends h) ∨ ∃ a v', (s.runT Q v es).1 = .ok a v' ∧ Z a

theorem noCell_ends (w : World) (a : Addr) (what : String) (h : Whole w) : Ends (w.noCell a what) := by
  unfold World.noCell
  split
  · rename_i e; exact absurd rfl ((h _ _ e).1 _ _)
  · trivial
  · trivial
theorem seen_no (p : Program) (w : World) {a : Addr} (h : a.spot.isSome = true) (u : TypeId) (k : Addr) (b : Bool) : ∃ e, w.seen p a u k b = .error e := by
  unfold World.seen
  simp only [h, Bool.or_true, if_true]
  exact ⟨_, rfl⟩
theorem farLoad_no (p : Program) {w : World} (h : Whole w) (a : Addr) (b : Bool) : ∃ e, w.farLoad p a b = .error e ∧ Ends e := by
  unfold World.farLoad
  split
  · rename_i at_ u e
    obtain ⟨x, hx⟩ := seen_no p w ((h _ _ e).2 _ _ rfl) u a b
    exact ⟨.unsupported (.unsafePointer x), by simp only [World.viewLoad, hx, bind, Except.bind], trivial⟩
  · exact ⟨_, rfl, noCell_ends w a _ h⟩
theorem farStore_no (p : Program) {w : World} (h : Whole w) (a : Addr) (v : Value) (b : Bool) : ∃ e, w.farStore p a v b = .error e ∧ Ends e := by
  unfold World.farStore
  split
  · rename_i at_ u e
    obtain ⟨x, hx⟩ := seen_no p w ((h _ _ e).2 _ _ rfl) u a b
    by_cases ht : tight p p.depth u = true
    · exact ⟨.unsupported (.unsafePointer x), by simp only [World.viewStore, hx, ht, bind, Except.bind, Bool.not_true, Bool.false_eq_true, if_false], trivial⟩
    · have hv : ∃ x, w.viewStore p at_ u a v b = .error x := by
        simp only [World.viewStore, ht, bind, Except.bind, Bool.not_false, if_true]; exact ⟨_, rfl⟩
      obtain ⟨x, hv⟩ := hv
      exact ⟨.unsupported (.unsafePointer x), by simp only [hv], trivial⟩
  · exact ⟨_, rfl, noCell_ends w a _ h⟩

theorem Cp.cell {v w : World} (h : Cp S v w) {a : Addr} (ha : ¬ S a.block) : v.cell? a = w.cell? a := by
  unfold World.cell?; rw [h.out _ ha]
  cases hw : w.heap[a.block]? with
  | none => rfl
  | some o => cases o <;> rfl
theorem Cp.cellS {v w : World} (h : Cp S v w) {a : Addr} (ha : S a.block) : v.cell? a = none := by
  obtain ⟨t, c, f, e, _⟩ := h.brk _ ha
  unfold World.cell?; rw [e]; simp
theorem cellA_lt {w : World} {a : Addr} {x : Value} (h : w.cell? a = some x) : a.block < w.heap.size := by
  unfold World.cell? at h
  split at h
  · rename_i e; exact (Array.getElem?_eq_some_iff.1 e).1
  · cases h
theorem Cp.shape {v w : World} (h : Cp S v w) {r : Nat} (hr : ¬ S r) : v.shape? r = w.shape? r := by
  unfold World.shape?; rw [h.out _ hr]
  cases hw : w.heap[r]? with
  | none => rfl
  | some o => cases o <;> rfl
theorem Cp.shapeS {v w : World} (h : Cp S v w) {r : Nat} (hr : S r) : ∃ t n, v.shape? r = some (t, 0) ∧ w.shape? r = some (t, n) := by
  obtain ⟨t, c, f, e1, e2⟩ := h.brk _ hr
  exact ⟨t, c.size, by unfold World.shape?; rw [e1]; rfl, by unfold World.shape?; rw [e2]⟩
theorem Cp.frozen {v w : World} (h : Cp S v w) (a : Addr) : v.frozen? a = w.frozen? a := by
  by_cases ha : S a.block
  · obtain ⟨t, c, f, e1, e2⟩ := h.brk _ ha
    unfold World.frozen?; rw [e1, e2]
  unfold World.frozen?; rw [h.out _ ha]
  cases hw : w.heap[a.block]? with
  | none => rfl
  | some o => cases o <;> rfl

/-- The rest of the two runs, behind a step of both. -/
theorem Both.behind {s : Sem α} {k : Sem α} {v w v2 w2 : World} {es us0 : Array Event} {c0 : Nat}
    (h1 : s.runT Q v es = k.runT Q v2 (es ++ us0)) (h2 : s.runT P w es = k.runT P w2 (es ++ us0))
    (ht1 : v2.tape = v.tape) (ht2 : w2.tape = w.tape) (hd1 : v2.drawn = v.drawn + c0) (hd2 : w2.drawn = w.drawn + c0) (hs : w.heap.size ≤ w2.heap.size)
    (hok : ∀ e ∈ us0, OkE S w2.heap.size e) (h : Dead Q Z k v2 (es ++ us0) ∨ Both S Q P A k v2 w2 (es ++ us0)) : Dead Q Z s v es ∨ Both S Q P A s v w es := by
  rcases h with (⟨h, v', hd, hE⟩ | ⟨a, v', hd, hE⟩) | ⟨us, v1, w1, c1, t1, t2, hs1, ⟨c, hc1, hc2⟩, hok1, hb⟩
  · exact .inl (.inl ⟨h, v', by rw [h1]; exact hd, hE⟩)
  · exact .inl (.inr ⟨a, v', by rw [h1]; exact hd, hE⟩)
  · refine .inr ⟨us0 ++ us, v1, w1, c1, t1.trans ht1, t2.trans ht2, Nat.le_trans hs hs1, ⟨c0 + c, by omega, by omega⟩, ?_, ?_⟩
    · intro e he
      rcases Array.mem_append.1 he with he | he
      · exact (hok e he).mono hs1
      · exact hok1 e he
    · rw [h1, h2, ← Array.append_assoc]
      exact hb

/-- One block is turned on both sides, by a function that leaves all but rows of cells alone and keeps a row a row. -/
theorem Cp.modify {v w : World} (h : Cp S v w) (b0 : Nat) (f : Obj → Obj) (hv : ∀ o, veil (f o) = f (veil o))
    (hS : S b0 → ∀ t fr, ∃ fr', f (.cells #[] t fr) = .cells #[] t fr' ∧ ∀ c, ∃ c', f (.cells c t fr) = .cells c' t fr') :
    Cp S { v with heap := v.heap.modify b0 f } { w with heap := w.heap.modify b0 f } := by
  have hm : ∀ (H : Array Obj) (b : Nat), (H.modify b0 f)[b]? = if b0 = b then H[b]?.map f else H[b]? := fun H b => by rw [Array.getElem?_modify]
  refine ⟨by simpa using h.size, fun b hb => by simpa using h.low b hb, fun b hb => ?_, fun b hb => ?_, h.os, h.output⟩
  · simp only [hm]
    split
    · rw [h.out b hb]
      cases w.heap[b]? with
      | none => rfl
      | some o => simp [hv]
    · exact h.out b hb
  · simp only [hm]
    obtain ⟨t, c, fr, e1, e2⟩ := h.brk b hb
    split
    · rename_i e0
      subst e0
      obtain ⟨fr', g1, g2⟩ := hS hb t fr
      obtain ⟨c', g3⟩ := g2 c
      exact ⟨t, c', fr', by rw [e1]; simp [g1], by rw [e2]; simp [g3]⟩
    · exact ⟨t, c, fr, e1, e2⟩
theorem Cp.setCell {v w : World} (h : Cp S v w) {a : Addr} (ha : ¬ S a.block) (x : Value) : Cp S (v.setCell a x) (w.setCell a x) :=
  h.modify a.block _ (fun o => by cases o <;> rfl) (fun hs => absurd hs ha)
theorem Cp.freeze {v w : World} (h : Cp S v w) (a : Addr) (n : Nat) : Cp S (v.freeze a n) (w.freeze a n) := by
  by_cases hn : n = 0
  · subst hn; simpa [World.freeze] using h
  · have e : ∀ u : World, u.freeze a n = { u with heap := u.heap.modify a.block fun
      | .cells c elem (lo, hi) => .cells c elem (if lo == hi then (a.off, a.off + n) else (min lo a.off, max hi (a.off + n)))
      | o => o } := fun u => by
      unfold World.freeze; rw [if_neg hn]; rfl
    rw [e v, e w]
    exact h.modify a.block _ (fun o => by cases o <;> rfl)
      (fun _ t fr => ⟨_, rfl, fun c => ⟨c, rfl⟩⟩)

theorem Cp.push {v w : World} (h : Cp S v w) {o : Obj} (ho : veil o = o) : Cp S { v with heap := v.heap.push o } { w with heap := w.heap.push o } := by
  have hlt : ∀ b, S b → b ≠ v.heap.size := fun b hb e => by have := h.low b hb; omega
  refine ⟨by simp [h.size], fun b hb => by have := h.low b hb; simp; omega, fun b hb => ?_, fun b hb => ?_, h.os, h.output⟩
  · simp only [Array.getElem?_push, h.size]
    split
    · simp [ho]
    · exact h.out b hb
  · have h1 := hlt b hb
    have h2 : b ≠ w.heap.size := by rw [← h.size]; exact h1
    simp only [Array.getElem?_push, h1, h2, if_false]; exact h.brk b hb

theorem Cp.setObj {v w : World} (h : Cp S v w) {r : Nat} (hr : ¬ S r) {o : Obj} (ho : veil o = o) : Cp S { v with heap := v.heap.setIfInBounds r o } { w with heap := w.heap.setIfInBounds r o } := by
  have hne : ∀ b, S b → r ≠ b := fun b hb e => hr (e ▸ hb)
  refine ⟨by simp [h.size], fun b hb => by simpa using h.low b hb, fun b hb => ?_, fun b hb => ?_, h.os, h.output⟩
  · simp only [Array.getElem?_setIfInBounds, h.size]
    split
    · split <;> simp [ho]
    · exact h.out b hb
  · simp only [Array.getElem?_setIfInBounds, hne b hb, if_false]; exact h.brk b hb

theorem Cp.drew {v w : World} (h : Cp S v w) (d d' : Nat) : Cp S { v with drawn := d } { w with drawn := d' } := ⟨h.size, h.low, h.out, h.brk, h.os, h.output⟩

theorem dead_of {s k : Sem α} {v v2 : World} {es es2 : Array Event} (h1 : s.runT Q v es = k.runT Q v2 es2) (h : Dead Q Z k v2 es2) : Dead Q Z s v es := by
  rcases h with ⟨h, v', hd, hE⟩ | ⟨a, v', hd, hE⟩
  · exact .inl ⟨h, v', by rw [h1]; exact hd, hE⟩
  · exact .inr ⟨a, v', by rw [h1]; exact hd, hE⟩

theorem getObj_no {v : World} {r : Nat} {k : Obj → Sem α} {es : Array Event} (h : v.heap[r]? = none ∨ ∃ c t f, v.heap[r]? = some (.cells c t f)) : Dead Q Z (.getObj r k) v es := by
  rcases h with h | ⟨c, t, f, h⟩
  · exact .inl ⟨.stuck "getObj: no such block", v, by simp only [Sem.runT, h], trivial⟩
  · exact .inl ⟨.stuck "getObj: a row of cells", v, by simp only [Sem.runT, h], trivial⟩
theorem setObj_no {v : World} {r : Nat} {o : Obj} {k : Sem α} {es : Array Event} (h : v.heap[r]? = none ∨ ∃ c t f, v.heap[r]? = some (.cells c t f)) : Dead Q Z (.setObj r o k) v es := by
  rcases h with h | ⟨c, t, f, h⟩
  · exact .inl ⟨.stuck "setObj: no such block", v, by simp only [Sem.runT, h], trivial⟩
  · exact .inl ⟨.stuck "setObj: a row of cells", v, by simp only [Sem.runT, h], trivial⟩
theorem obj_cases (v : World) (r : Nat) : (v.heap[r]? = none ∨ ∃ c t f, v.heap[r]? = some (.cells c t f)) ∨ ∃ o, v.heap[r]? = some o ∧ ∀ c t f, o ≠ .cells c t f := by
  cases h : v.heap[r]? with
  | none => exact .inl (.inl rfl)
  | some o =>
    cases o with
    | cells c t f => exact .inl (.inr ⟨c, t, f, rfl⟩)
    | _ => exact .inr ⟨_, rfl, fun _ _ _ => by simp⟩
theorem getObj_run {p : Program} {w : World} {r : Nat} {k : Obj → Sem α} {es : Array Event} {o : Obj} (h : w.heap[r]? = some o) (hc : ∀ c t f, o ≠ .cells c t f) :
    Sem.runT p (.getObj r k) w es = (k o).runT p w (es ++ #[⟨.obj r, false, o.isChan⟩]) := by
  cases o <;> first | exact absurd rfl (hc _ _ _) | simp only [Sem.runT, h, Array.push_eq_append]
theorem setObj_run {p : Program} {w : World} {r : Nat} {x : Obj} {k : Sem α} {es : Array Event} {o : Obj} (h : w.heap[r]? = some o) (hc : ∀ c t f, o ≠ .cells c t f) :
    Sem.runT p (.setObj r x k) w es = k.runT p { w with heap := w.heap.setIfInBounds r x } (es ++ #[⟨.obj r, true, x.isChan⟩]) := by
  cases o <;> first | exact absurd rfl (hc _ _ _) | simp only [Sem.runT, h, Array.push_eq_append]

end

end Go.Proofs.Ytdafpnpfcmgfcab
namespace Go.Proofs.Ytdafpnpfcmgfcab
open Go
section
variable {α : Type} {Q P : Program} {S : Nat → Prop} {Z A : α → Prop}

theorem viewStore_drawn {p : Program} {w w' : World} {a k : Addr} {u : TypeId} {x : Value} {b : Bool} {l : List Addr} (h : w.viewStore p a u k x b = .ok (w', l)) : w'.drawn = w.drawn := by
  unfold World.viewStore at h
  simp only [bind, Except.bind, pure, Except.pure] at h
  repeat' (split at h)
  all_goals first | (cases h; done) | (cases h; rfl)
theorem farStore_drawn {p : Program} {w w' : World} {a : Addr} {x : Value} {b : Bool} {l : List Addr} (h : w.farStore p a x b = .ok (w', l)) : w'.drawn = w.drawn := by
  unfold World.farStore at h
  split at h
  · split at h
    · rename_i r hr
      cases h
      exact viewStore_drawn hr
    · cases h
  · cases h

theorem ask_le {β : Type} (a : Ask β) : ∀ w : World, w.drawn ≤ (w.ask a).2.drawn := by
  induction a with
  | done a => intro w; exact Nat.le_refl _
  | ask what range k ih =>
    intro w
    unfold World.ask
    dsimp only
    split
    · exact ih _ w
    · exact Nat.le_trans (Nat.le_succ _) (ih _ { w with drawn := w.drawn + 1 })
theorem sys_le (w : World) (c : Sys) : w.drawn ≤ (w.sys c).2.drawn := by
  unfold World.sys
  have h := ask_le (Kernel.perform c w.os) w
  generalize w.ask (Kernel.perform c w.os) = z at h
  split
  · exact Nat.le_refl _
  · exact h
theorem drawn_le (s : Sem α) : ∀ (w : World) (es : Array Event), w.drawn ≤ (Result.w (s.runT P w es).1).drawn := by
  induction s with
  | pure a => intro w es; exact Nat.le_refl _
  | halt a => intro w es; exact Nat.le_refl _
  | load m a k ih =>
    intro w es
    simp only [Sem.runT]
    split
    · exact ih _ _ _
    · split
      · exact ih _ _ _
      · exact Nat.le_refl _
  | store m a x k ih =>
    intro w es
    by_cases h1 : ∃ c, x = .agg c
    · obtain ⟨c, rfl⟩ := h1
      simp only [Sem.runT]; exact Nat.le_refl _
    by_cases h2 : ∃ c, x = .tuple c
    · obtain ⟨c, rfl⟩ := h2
      simp only [Sem.runT]; exact Nat.le_refl _
    have h1 : ∀ c, x ≠ .agg c := fun c e => h1 ⟨c, e⟩
    have h2 : ∀ c, x ≠ .tuple c := fun c e => h2 ⟨c, e⟩
    rw [Sem.runT.eq_5 _ _ _ _ _ _ _ h1 h2]
    split
    · split
      · exact Nat.le_refl _
      · exact ih (w.setCell a x) _
    · split
      · rename_i w' l hw
        have := farStore_drawn hw
        exact this ▸ ih w' _
      · exact Nat.le_refl _
  | new o k ih => intro w es; exact ih _ { w with heap := w.heap.push o } _
  | shape r k ih => intro w es; exact ih _ _ _
  | freeze a n k ih =>
    intro w es
    have hz : (w.freeze a n).drawn = w.drawn := by unfold World.freeze; split <;> rfl
    simp only [Sem.runT]
    exact hz ▸ ih (w.freeze a n) _
  | frozen a k ih => intro w es; exact ih _ _ _
  | getObj r k ih =>
    intro w es
    simp only [Sem.runT]
    split
    · exact Nat.le_refl _
    · exact ih _ _ _
    · exact Nat.le_refl _
  | setObj r o k ih =>
    intro w es
    simp only [Sem.runT]
    split
    · exact Nat.le_refl _
    · exact ih { w with heap := w.heap.setIfInBounds r o } _
    · exact Nat.le_refl _
  | choose q k ih =>
    intro w es
    simp only [Sem.runT]
    split
    · exact ih _ _ _
    · exact Nat.le_trans (Nat.le_succ _) (ih _ { w with drawn := w.drawn + 1 } _)
  | sys c k ih => intro w es; exact Nat.le_trans (sys_le w c) (ih _ _ _)
  | program k ih => intro w es; exact ih _ _ _
  | mark m k ih => intro w es; exact ih _ _

/-- A doomed one comes to its end, whatever the world that has no views and no variables that wait for their value. -/
theorem Doomed.dead (s : Sem α) : ∀ (v : World) (es : Array Event), Doomed Q s → Whole v → Dead Q Z s v es := by
  induction s with
  | pure a => intro v es h; exact h.elim
  | halt h => intro v es hd _; exact .inl ⟨h, v, rfl, hd⟩
  | load m a k ih =>
    intro v es hd hw
    obtain ⟨e, he, hx'⟩ := farLoad_no Q hw a (m == .atomic)
    cases hx : v.cell? a with
    | none => exact .inl ⟨e, v, by simp only [Sem.runT, hx, he], hx'⟩
    | some x => exact dead_of (by simp only [Sem.runT, hx]; rfl) (ih x v _ (hd x) hw)
  | frozen a k ih => intro v es hd hw; exact dead_of (by simp only [Sem.runT]; rfl) (ih _ v _ (hd _) hw)
  | shape a k ih => intro v es hd hw; exact dead_of (by simp only [Sem.runT]; rfl) (ih _ v _ (hd _) hw)
  | mark m k ih => intro v es hd hw; exact dead_of (by simp only [Sem.runT]; rfl) (ih v _ hd hw)
  | program k ih => intro v es hd hw; exact dead_of (by simp only [Sem.runT]; rfl) (ih _ v _ hd hw)
  | getObj r k ih =>
    intro v es hd hw
    rcases obj_cases v r with h | ⟨o, h, hn⟩
    · exact getObj_no h
    · exact dead_of (getObj_run h hn) (ih o v _ (hd o) hw)
  | choose q k ih =>
    intro v es hd hw
    by_cases hq : q.forced = true
    · exact dead_of (by simp only [Sem.runT, hq, if_true]; rfl) (ih _ v _ (hd _) hw)
    · exact dead_of (by simp only [Sem.runT, hq]; rfl) (ih _ { v with drawn := v.drawn + 1 } _ (hd _) hw)
  | new o k ih => intro v es h; exact h.elim
  | store m a x k ih => intro v es h; exact h.elim
  | freeze a n k ih => intro v es h; exact h.elim
  | setObj r o k ih => intro v es h; exact h.elim
  | sys c k ih => intro v es h; exact h.elim

theorem store_run {p : Program} {w : World} {m : Mode} {a : Addr} {x : Value} {k : Sem α} {es : Array Event} {y : Value} (h1 : ∀ c, x ≠ .agg c) (h2 : ∀ c, x ≠ .tuple c) (h : w.cell? a = some y) (hf : w.frozen? a = false) :
    Sem.runT p (.store m a x k) w es = k.runT p (w.setCell a x) (es ++ #[⟨.cell a, true, m == .atomic⟩]) := by
  cases x <;> first | exact absurd rfl (h1 _) | exact absurd rfl (h2 _) | simp [Sem.runT, h, hf]
theorem store_frozen {p : Program} {w : World} {m : Mode} {a : Addr} {x : Value} {k : Sem α} {es : Array Event} {y : Value} (h1 : ∀ c, x ≠ .agg c) (h2 : ∀ c, x ≠ .tuple c) (h : w.cell? a = some y) (hf : w.frozen? a = true) :
    Sem.runT p (.store m a x k) w es = (.halt (.unsupported (.unsafePointer "a write to bytes that a string shares")) w, es) := by
  cases x <;> first | exact absurd rfl (h1 _) | exact absurd rfl (h2 _) | simp [Sem.runT, h, hf]
theorem store_far {p : Program} {w : World} {m : Mode} {a : Addr} {x : Value} {k : Sem α} {es : Array Event} {e : Halt} (h1 : ∀ c, x ≠ .agg c) (h2 : ∀ c, x ≠ .tuple c) (h : w.cell? a = none) (hf : w.farStore p a x (m == .atomic) = .error e) :
    Sem.runT p (.store m a x k) w es = (.halt e w, es) := by
  cases x <;> first | exact absurd rfl (h1 _) | exact absurd rfl (h2 _) | simp [Sem.runT, h, hf]

theorem run_couple (s : Sem α) : ∀ (v w : World) (es : Array Event), Tame Q P S Z A s → Cp S v w →
    (∀ i, w.drawn + i < (Result.w (s.runT P w es).1).drawn → v.tape (v.drawn + i) = w.tape (w.drawn + i)) →
    Dead Q Z s v es ∨ Both S Q P A s v w es := by
  induction s with
  | pure a =>
    intro v w es ht hc _
    exact .inr ⟨#[], v, w, hc, rfl, rfl, Nat.le_refl _, ⟨0, rfl, rfl⟩, by simp, .inl ⟨a, ht, by simp [Sem.runT], by simp [Sem.runT]⟩⟩
  | halt h =>
    intro v w es ht hc _
    exact .inr ⟨#[], v, w, hc, rfl, rfl, Nat.le_refl _, ⟨0, rfl, rfl⟩, by simp, .inr ⟨h, ht, by simp [Sem.runT], by simp [Sem.runT]⟩⟩
  | load m a k ih =>
    intro v w es ht hc htp
    obtain ⟨e, he, hx'⟩ := farLoad_no Q hc.whole a (m == .atomic)
    by_cases ha : S a.block
    · exact .inl (.inl ⟨e, v, by simp only [Sem.runT, hc.cellS ha, he], hx'⟩)
    · have hcl := hc.cell ha
      cases hx : w.cell? a with
      | none => exact .inl (.inl ⟨e, v, by simp only [Sem.runT, hcl, hx, he], hx'⟩)
      | some x =>
        have h1 : Sem.runT Q (.load m a k) v es = (k x).runT Q v (es ++ #[⟨.cell a, false, m == .atomic⟩]) := by simp only [Sem.runT, hcl, hx, Array.push_eq_append]
        have h2 : Sem.runT P (.load m a k) w es = (k x).runT P w (es ++ #[⟨.cell a, false, m == .atomic⟩]) := by simp only [Sem.runT, hx, Array.push_eq_append]
        rw [h2] at htp
        exact Both.behind (c0 := 0) h1 h2 rfl rfl rfl rfl (Nat.le_refl _) (fun e he => by
          obtain rfl : e = ⟨.cell a, false, m == .atomic⟩ := by simpa using he
          exact ⟨ha, cellA_lt hx⟩) (ih x v w _ (ht ha x) hc htp)
  | store m a x k ih =>
    intro v w es ht hc htp
    by_cases h1 : ∃ c, x = .agg c
    · obtain ⟨c, rfl⟩ := h1
      exact .inl (.inl ⟨.stuck "store: not the value of one cell", v, by simp [Sem.runT], trivial⟩)
    by_cases h2 : ∃ c, x = .tuple c
    · obtain ⟨c, rfl⟩ := h2
      exact .inl (.inl ⟨.stuck "store: not the value of one cell", v, by simp [Sem.runT], trivial⟩)
    have h1 : ∀ c, x ≠ .agg c := fun c e => h1 ⟨c, e⟩
    have h2 : ∀ c, x ≠ .tuple c := fun c e => h2 ⟨c, e⟩
    obtain ⟨e, he, hx'⟩ := farStore_no Q hc.whole a x (m == .atomic)
    by_cases ha : S a.block
    · exact .inl (.inl ⟨e, v, by rw [store_far h1 h2 (hc.cellS ha) he], hx'⟩)
    · have hcl := hc.cell ha
      cases hx : w.cell? a with
      | none => exact .inl (.inl ⟨e, v, by rw [store_far h1 h2 (hcl.trans hx) he], hx'⟩)
      | some y =>
        cases hf : w.frozen? a with
        | true => exact .inl (.inl ⟨.unsupported (.unsafePointer "a write to bytes that a string shares"), v, by rw [store_frozen h1 h2 (hcl.trans hx) ((hc.frozen a).trans hf)], trivial⟩)
        | false =>
          have e2 := store_run (p := P) (m := m) (k := k) (es := es) h1 h2 hx hf
          rw [e2] at htp
          refine Both.behind (c0 := 0) (store_run h1 h2 (hcl.trans hx) ((hc.frozen a).trans hf)) e2 rfl rfl rfl rfl (by simp [World.setCell]) (fun e he => ?_) (ih _ _ _ (ht ha) (hc.setCell ha x) htp)
          obtain rfl : e = ⟨.cell a, true, m == .atomic⟩ := by simpa using he
          exact ⟨ha, by simpa [World.setCell] using cellA_lt hx⟩
  | new o k ih =>
    intro v w es ht hc htp
    have hsz := hc.size
    have hS : ¬ S w.heap.size := fun h => by have := hc.low _ h; omega
    have e1 : Sem.runT Q (.new o k) v es = (k w.heap.size).runT Q { v with heap := v.heap.push o } (es ++ #[]) := by simp [Sem.runT, hsz]
    have e2 : Sem.runT P (.new o k) w es = (k w.heap.size).runT P { w with heap := w.heap.push o } (es ++ #[]) := by simp [Sem.runT]
    rw [e2] at htp
    exact Both.behind (c0 := 0) e1 e2 rfl rfl rfl rfl (by simp) (by simp) (ih _ _ _ _ (ht.2 _ hS) (hc.push ht.1) htp)
  | shape r k ih =>
    intro v w es ht hc htp
    have e2 : Sem.runT P (.shape r k) w es = (k (w.shape? r)).runT P w (es ++ #[]) := by simp [Sem.runT]
    rw [e2] at htp
    by_cases hr : S r
    · rcases ht.2 with h | h | h
      · exact absurd hr h
      · obtain ⟨t, n, g1, g2⟩ := hc.shapeS hr
        exact .inl (dead_of (k := k (some (t, 0))) (by simp [Sem.runT, g1]) (Doomed.dead _ v es (h t) hc.whole))
      · obtain ⟨t, n, g1, g2⟩ := hc.shapeS hr
        have e1 : Sem.runT Q (.shape r k) v es = (k (w.shape? r)).runT Q v (es ++ #[]) := by simp [Sem.runT, g1, g2, h t n]
        exact Both.behind (c0 := 0) e1 e2 rfl rfl rfl rfl (Nat.le_refl _) (by simp) (ih _ _ _ _ (ht.1 _) hc htp)
    · have e1 : Sem.runT Q (.shape r k) v es = (k (w.shape? r)).runT Q v (es ++ #[]) := by simp [Sem.runT, hc.shape hr]
      exact Both.behind (c0 := 0) e1 e2 rfl rfl rfl rfl (Nat.le_refl _) (by simp) (ih _ _ _ _ (ht.1 _) hc htp)
  | freeze a n k ih =>
    intro v w es ht hc htp
    have e1 : Sem.runT Q (.freeze a n k) v es = k.runT Q (v.freeze a n) (es ++ #[]) := by simp [Sem.runT]
    have e2 : Sem.runT P (.freeze a n k) w es = k.runT P (w.freeze a n) (es ++ #[]) := by simp [Sem.runT]
    rw [e2] at htp
    have hz : ∀ u : World, (u.freeze a n).tape = u.tape ∧ (u.freeze a n).drawn = u.drawn ∧ (u.freeze a n).heap.size = u.heap.size := fun u => by
      unfold World.freeze; split <;> simp
    refine Both.behind (c0 := 0) e1 e2 (hz v).1 (hz w).1 (hz v).2.1 (hz w).2.1 (by rw [(hz w).2.2]; exact Nat.le_refl _) (by simp) (ih _ _ _ ht (hc.freeze a n) ?_)
    rw [(hz v).1, (hz v).2.1, (hz w).1, (hz w).2.1]
    exact htp
  | frozen a k ih =>
    intro v w es ht hc htp
    have e1 : Sem.runT Q (.frozen a k) v es = (k (w.frozen? a)).runT Q v (es ++ #[]) := by simp [Sem.runT, hc.frozen a]
    have e2 : Sem.runT P (.frozen a k) w es = (k (w.frozen? a)).runT P w (es ++ #[]) := by simp [Sem.runT]
    rw [e2] at htp
    exact Both.behind (c0 := 0) e1 e2 rfl rfl rfl rfl (Nat.le_refl _) (by simp) (ih _ _ _ _ (ht _) hc htp)
  | getObj r k ih =>
    intro v w es ht hc htp
    by_cases hr : S r
    · obtain ⟨t, c, f, e, _⟩ := hc.brk r hr
      exact .inl (getObj_no (.inr ⟨_, _, _, e⟩))
    · obtain ⟨ht1, ht2⟩ := ht hr
      have hvw := hc.out r hr
      rcases obj_cases w r with h | ⟨o, h, hn⟩
      · refine .inl (getObj_no ?_)
        rw [hvw]
        rcases h with h | ⟨c, t, f, h⟩
        · exact .inl (by rw [h]; rfl)
        · exact .inr ⟨c, t, f, by rw [h]; rfl⟩
      · have hv : v.heap[r]? = some (veil o) := by rw [hvw, h]; rfl
        have hnv : ∀ c t f, veil o ≠ .cells c t f := fun c t f e => hn c t f (veil_cells.1 e)
        have hch : (veil o).isChan = o.isChan := by cases o <;> rfl
        have e1 := getObj_run (p := Q) (k := k) (es := es) hv hnv
        have e2 := getObj_run (p := P) (k := k) (es := es) h hn
        rw [ht2, hch] at e1
        rw [e2] at htp
        refine Both.behind (c0 := 0) e1 e2 rfl rfl rfl rfl (Nat.le_refl _) (fun e he => ?_) (ih _ _ _ _ (ht1 o) hc htp)
        obtain rfl : e = ⟨.obj r, false, o.isChan⟩ := by simpa using he
        exact ⟨hr, (Array.getElem?_eq_some_iff.1 h).1, rfl⟩
  | setObj r o k ih =>
    intro v w es ht hc htp
    by_cases hr : S r
    · obtain ⟨t, c, f, e, _⟩ := hc.brk r hr
      exact .inl (setObj_no (.inr ⟨_, _, _, e⟩))
    · have key : ∀ o1 o2, v.heap[r]? = some o1 → w.heap[r]? = some o2 → (∀ c t f, o1 ≠ .cells c t f) → (∀ c t f, o2 ≠ .cells c t f) → Dead Q Z (.setObj r o k) v es ∨ Both S Q P A (.setObj r o k) v w es := by
        intro o1 o2 h hw hn1 hn2
        have e2 := setObj_run (p := P) (x := o) (k := k) (es := es) hw hn2
        rw [e2] at htp
        refine Both.behind (c0 := 0) (setObj_run h hn1) e2 rfl rfl rfl rfl (by simp) (fun e he => ?_) (ih _ _ _ (ht hr).2 (hc.setObj hr (ht hr).1.1) htp)
        obtain rfl : e = ⟨.obj r, true, o.isChan⟩ := by simpa using he
        exact ⟨hr, by simpa using (Array.getElem?_eq_some_iff.1 hw).1, by simp [(ht hr).1.2]⟩
      have hvw := hc.out r hr
      rcases obj_cases w r with h | ⟨o', h, hn⟩
      · refine .inl (setObj_no ?_)
        rw [hvw]
        rcases h with h | ⟨c, t, f, h⟩
        · exact .inl (by rw [h]; rfl)
        · exact .inr ⟨c, t, f, by rw [h]; rfl⟩
      · exact key (veil o') o' (by rw [hvw, h]; rfl) h (fun c t f e => hn c t f (veil_cells.1 e)) hn
  | choose q k ih =>
    intro v w es ht hc htp
    by_cases hq : q.forced = true
    · have e1 : Sem.runT Q (.choose q k) v es = (k 0).runT Q v (es ++ #[]) := by simp [Sem.runT, hq]
      have e2 : Sem.runT P (.choose q k) w es = (k 0).runT P w (es ++ #[]) := by simp [Sem.runT, hq]
      rw [e2] at htp
      exact Both.behind (c0 := 0) e1 e2 rfl rfl rfl rfl (Nat.le_refl _) (by simp) (ih _ _ _ _ (ht _) hc htp)
    · have e2 : Sem.runT P (.choose q k) w es = (k (q.cut (w.tape w.drawn q))).runT P { w with drawn := w.drawn + 1 } (es ++ #[]) := by simp [Sem.runT, hq]
      rw [e2] at htp
      have h0 := htp 0 (by
        have := drawn_le (P := P) (k (q.cut (w.tape w.drawn q))) { w with drawn := w.drawn + 1 } (es ++ #[])
        exact Nat.lt_of_lt_of_le (Nat.lt_succ_self _) this)
      have e1 : Sem.runT Q (.choose q k) v es = (k (q.cut (w.tape w.drawn q))).runT Q { v with drawn := v.drawn + 1 } (es ++ #[]) := by
        have : v.tape v.drawn = w.tape w.drawn := h0
        simp [Sem.runT, hq, this]
      refine Both.behind (c0 := 1) e1 e2 rfl rfl rfl rfl (Nat.le_refl _) (by simp) (ih _ _ _ _ (ht _) (hc.drew _ _) fun i hi => ?_)
      have := htp (i + 1) (by show w.drawn + (i + 1) < _; have hi' : w.drawn + 1 + i < _ := hi; omega)
      show v.tape (v.drawn + 1 + i) = w.tape (w.drawn + 1 + i)
      rw [Nat.add_assoc, Nat.add_comm 1 i, Nat.add_assoc, Nat.add_comm 1 i]
      exact this
  | sys c k ih => intro v w es ht; exact ht.elim
  | program k ih =>
    intro v w es ht hc htp
    rcases ht with ht | ⟨a, ha, hz⟩
    case inr => exact .inl (.inr ⟨a, v, by simp [Sem.runT, ha], hz⟩)
    have e1 : Sem.runT Q (.program k) v es = (k P).runT Q v (es ++ #[]) := by simp [Sem.runT, ht.1]
    have e2 : Sem.runT P (.program k) w es = (k P).runT P w (es ++ #[]) := by simp [Sem.runT]
    rw [e2] at htp
    exact Both.behind (c0 := 0) e1 e2 rfl rfl rfl rfl (Nat.le_refl _) (by simp) (ih _ _ _ _ ht.2 hc htp)
  | mark m k ih =>
    intro v w es ht hc htp
    obtain ⟨rfl, ht⟩ := ht
    have e1 : Sem.runT Q (.mark .noRoom k) v es = k.runT Q v (es ++ #[⟨.mark .noRoom, false, true⟩]) := by simp only [Sem.runT, Array.push_eq_append]
    have e2 : Sem.runT P (.mark .noRoom k) w es = k.runT P w (es ++ #[⟨.mark .noRoom, false, true⟩]) := by simp only [Sem.runT, Array.push_eq_append]
    rw [e2] at htp
    refine Both.behind (c0 := 0) e1 e2 rfl rfl rfl rfl (Nat.le_refl _) (fun e he => ?_) (ih _ _ _ ht hc htp)
    obtain rfl : e = ⟨.mark .noRoom, false, true⟩ := by simpa using he
    trivial

/-! ### how it is shown: a law for each word of the model's own notation -/
theorem tame_mono' {Z Z' A B : α → Prop} (hZ : ∀ a, Z a → Z' a) (hAB : ∀ a, A a → B a) (s : Sem α) (h : Tame Q P S Z A s) : Tame Q P S Z' B s := by
  induction s with
  | pure a => exact hAB a h
  | halt _ => exact h
  | load _ _ _ ih => exact fun hs x => ih x (h hs x)
  | store _ _ _ _ ih => exact fun hs => ih (h hs)
  | new _ _ ih => exact ⟨h.1, fun r hr => ih r (h.2 r hr)⟩
  | shape _ _ ih => exact ⟨fun x => ih x (h.1 x), h.2⟩
  | freeze _ _ _ ih => exact ih h
  | frozen _ _ ih => exact fun x => ih x (h x)
  | getObj _ _ ih => exact fun hs => ⟨fun x => ih x ((h hs).1 x), (h hs).2⟩
  | setObj _ _ _ ih => exact fun hs => ⟨(h hs).1, ih (h hs).2⟩
  | choose _ _ ih => exact fun x => ih x (h x)
  | sys _ _ _ => exact h.elim
  | program _ ih => exact h.imp (fun h => ⟨h.1, ih _ h.2⟩) (fun ⟨a, h1, h2⟩ => ⟨a, h1, hZ _ h2⟩)
  | mark _ _ ih => exact ⟨h.1, ih h.2⟩
theorem tame_mono {A B : α → Prop} (hAB : ∀ a, A a → B a) (s : Sem α) (h : Tame Q P S Z A s) : Tame Q P S Z B s := tame_mono' (fun _ h => h) hAB s h
theorem doomed_bind {β : Type} (f : α → Sem β) (s : Sem α) (h : Doomed Q s) : Doomed Q (s.bind f) := by
  induction s with
  | halt _ => exact h
  | load _ _ _ ih => exact fun x => ih x (h x)
  | shape _ _ ih => exact fun x => ih x (h x)
  | frozen _ _ ih => exact fun x => ih x (h x)
  | getObj _ _ ih => exact fun x => ih x (h x)
  | choose _ _ ih => exact fun x => ih x (h x)
  | program _ ih => exact ih _ h
  | mark _ _ ih => exact ih h
  | _ => exact h.elim
theorem tame_bind {β : Type} {Z B : β → Prop} (f : α → Sem β) (s : Sem α) (h : Tame Q P S (fun _ => False) (fun a => Tame Q P S Z B (f a)) s) : Tame Q P S Z B (s.bind f) := by
  induction s with
  | pure a => exact h
  | halt _ => exact h
  | load _ _ _ ih => exact fun hs x => ih x (h hs x)
  | store _ _ _ _ ih => exact fun hs => ih (h hs)
  | new _ _ ih => exact ⟨h.1, fun r hr => ih r (h.2 r hr)⟩
  | shape _ _ ih => exact ⟨fun x => ih x (h.1 x), h.2.imp id (Or.imp (fun h x => doomed_bind f _ (h x)) (fun h t n => congrArg (fun s => Sem.bind s f) (h t n)))⟩
  | freeze _ _ _ ih => exact ih h
  | frozen _ _ ih => exact fun x => ih x (h x)
  | getObj _ _ ih => exact fun hs => ⟨fun x => ih x ((h hs).1 x), fun o => congrArg (fun s => Sem.bind s f) ((h hs).2 o)⟩
  | setObj _ _ _ ih => exact fun hs => ⟨(h hs).1, ih (h hs).2⟩
  | choose _ _ ih => exact fun x => ih x (h x)
  | sys _ _ _ => exact h.elim
  | program _ ih => exact h.elim (fun h => .inl ⟨by show (_ : Sem α).bind f = (_ : Sem α).bind f; rw [h.1], ih _ h.2⟩) (fun ⟨_, _, h⟩ => h.elim)
  | mark _ _ ih => exact ⟨h.1, ih h.2⟩
end

end Go.Proofs.Ytdafpnpfcmgfcab
namespace Go.Proofs.Ytdafpnpfcmgfcab
open Go

/-- 'Q' is 'P', the bodies of some functions refused. -/
structure Stubbed (Q P : Program) : Prop where
  eq : Q = { P with funcs := Q.funcs }
  size : Q.funcs.size = P.funcs.size
  fn : ∀ f : FuncId, Q.funcs[f]? = P.funcs[f]? ∨ ∃ (g : Func) (why : String), P.funcs[f]? = some g ∧ Q.funcs[f]? = some { g with body := some (.refuse why) }

/-- The frame that lies below all others in the lone run: whoever comes back to it stands still. -/
def bottom : Frame := { fn := 0, tmps := #[], todo := [.code (.refuse "")], defers := [{ target := .nil, args := #[] }], mode := .run, kind := .normal }
/-- A goroutine of the company, as it stands in the lone run. -/
def ext (g : Goroutine) : Goroutine := { g with callers := g.callers ++ [bottom] }
/-- It has just entered a function whose body is refused, or come back to the bottom. -/
def Stub (g : Goroutine) : Prop := g.dying = none ∧ g.status = .running ∧ ((∃ why, g.frame.todo = [.code (.refuse why)] ∧ g.frame.mode = .run) ∨ ∃ ch, g.frame.mode = .panicking ch ∧ g.frame.defers = [{ target := .nil, args := #[] }])

def Agree (c : Nat) (v w : World) : Prop := ∀ i, i < c → v.tape (v.drawn + i) = w.tape (w.drawn + i)

/-- The two steps have done the same. -/
def Went (S : Nat → Prop) (x : GStep) (c : Nat) (v w v1 : World) (g' : Goroutine) (es : Array Event) : Prop :=
  v1.drawn = v.drawn + c ∧ v1.tape = v.tape ∧ ∃ w1, x = .go g' w1 es ∧ w1.drawn = w.drawn + c ∧ w1.tape = w.tape ∧ Cp S v1 w1 ∧ w.heap.size ≤ w1.heap.size ∧ ∀ e ∈ es, OkE S w1.heap.size e

/-- The lone step ends the run, or leads to a stub, or the two do the same. -/
def Fin1 (S : Nat → Prop) (K : Goroutine → Prop) (x y : GStep) (c : Nat) (v w : World) : Prop :=
  (∃ o v' es, x = .ended o v' es) ∨ ∃ g' v1 es, x = .go g' v1 es ∧ (Stub g' ∨ ∃ gc, g' = ext gc ∧ K gc ∧ Went S y c v w v1 gc es)
/-- What is shown of a step: 'x' the lone one, 'y' the one in company. -/
def InStep (S : Nat → Prop) (K : Goroutine → Prop) (x : World → GStep) (y : GStep) (w : World) : Prop :=
  ∃ c, ∀ v, Cp S v w → Agree c v w → Fin1 S K (x v) y c v w

section
variable {Q P : Program} {S : Nat → Prop} {K : Goroutine → Prop}

theorem seen_same (h : Stubbed Q P) (fn : FuncId) (es : Array Event) : seen Q fn es = seen P fn es := by
  have hq : ∀ f : FuncId, (Q.funcs[f]?).any (·.norace) = (P.funcs[f]?).any (·.norace) := fun f => by
    rcases h.fn f with e | ⟨g, why, e1, e2⟩
    · rw [e]
    · rw [e1, e2]; rfl
  unfold seen
  simp only [hq]

theorem seen_mem {p : Program} {fn : FuncId} {es : Array Event} {e : Event} (h : e ∈ seen p fn es) : e ∈ es := by
  obtain ⟨l⟩ := es
  unfold seen at h
  simp only [List.foldl_toArray'] at h
  have key : ∀ (l : List Event) (z : Bool × Array Event), e ∈ (l.foldl (fun (x : Bool × Array Event) e => match e.loc with
      | .mark (.extern f) => ((p.funcs[f]?).any (·.norace), x.2)
      | _ => (x.1, if x.1 && !e.sync then x.2 else x.2.push e)) z).2 → e ∈ z.2 ∨ e ∈ l := by
    intro l
    induction l with
    | nil => intro z h; exact .inl h
    | cons a l ih =>
      intro z h
      rw [List.foldl_cons] at h
      rcases ih _ h with h | h
      · split at h
        · exact .inl h
        · dsimp only at h
          split at h
          · exact .inl h
          · rcases Array.mem_push.1 h with h | h
            · exact .inl h
            · subst h; exact .inr (by simp)
      · exact .inr (by simp [h])
  rcases key l _ h with h | h
  · simp at h
  · simpa using h

theorem enterF_same (h : Stubbed Q P) (f : FuncId) (args : Array Value) (k : CallKind) (cs : List Frame) :
    Stub { frame := Frame.enter Q f args k, callers := cs, status := .running, dying := none } ∨ Frame.enter Q f args k = Frame.enter P f args k := by
  rcases h.fn f with e | ⟨g, why, e1, e2⟩
  · right; unfold Frame.enter; rw [e]
  · left
    exact ⟨rfl, rfl, .inl ⟨why, by simp [Frame.enter, e2], rfl⟩⟩

theorem Stubbed.follows (h : Stubbed Q P) (d : Departure) : Q.follows d = P.follows d := congrArg (fun p => p.follows d) h.eq
theorem went (hst : Stubbed Q P) {fn : FuncId} {us : Array Event} {G G' : Goroutine} {v w v2 w2 : World} {c : Nat} (hG : Stub G ∨ (G = ext G' ∧ K G')) (c2 : Cp S v2 w2) (t1 : v2.tape = v.tape) (t2 : w2.tape = w.tape) (hsz : w.heap.size ≤ w2.heap.size)
    (d1 : v2.drawn = v.drawn + c) (d2 : w2.drawn = w.drawn + c) (hok : ∀ e ∈ us, OkE S w2.heap.size e) :
    Fin1 S K (GStep.after (seen Q fn us) (.go G v2)) (GStep.after (seen P fn us) (.go G' w2)) c v w := by
  refine .inr ⟨_, _, _, rfl, ?_⟩
  rcases hG with h | ⟨rfl, hK⟩
  · exact .inl h
  · refine .inr ⟨G', rfl, hK, d1, t1, w2, ?_, d2, t2, c2, hsz, fun e he => ?_⟩
    · simp only [GStep.after, seen_same hst]
    · rcases Array.mem_append.1 he with he | he
      · exact hok e (seen_mem he)
      · simp at he

/-- It enters a function whose body is refused. -/
def ZN (Q : Program) : Next → Prop
  | .enter f _ => ∃ (g : Func) (why : String), Q.funcs[f]? = some { g with body := some (.refuse why) }
  | _ => False
theorem stub_enter {f : FuncId} {args : Array Value} (h : ZN Q (.enter f args)) (k : CallKind) (cs : List Frame) : Stub { frame := Frame.enter Q f args k, callers := cs, status := .running, dying := none } := by
  obtain ⟨g, why, e⟩ := h
  exact ⟨rfl, rfl, .inl ⟨why, by simp [Frame.enter, e], rfl⟩⟩

/-- What an operation in use may yield. -/
def OkNext : Next → Prop
  | .value _ | .skip | .enter _ _ => True
  | _ => False

theorem apply_couple (hst : Stubbed Q P) {fr : Frame} {cs : List Frame} (hk : (fr.kind == .early) = false) {s : Sem Next} (hs : Tame Q P S (ZN Q) OkNext s)
    (k1 : ∀ v, K { frame := fr.finish v, callers := cs, status := .running, dying := none })
    (k2 : ∀ f args, Frame.enter Q f args (match fr.todo with | .call _ true _ _ :: _ => .wrapped | _ => .normal) = Frame.enter P f args (match fr.todo with | .call _ true _ _ :: _ => .wrapped | _ => .normal) →
      K { frame := Frame.enter P f args (match fr.todo with | .call _ true _ _ :: _ => .wrapped | _ => .normal), callers := fr :: cs, status := .running, dying := none })
    (k3 : ∀ ch, K { frame := fr.raise ch, callers := cs, status := .running, dying := none }) (w : World) :
    InStep S K (stepG.apply Q true fr (cs ++ [bottom]) none s) (stepG.apply P true fr cs none s w) w := by
  refine ⟨(Result.w (s.runT P w #[]).1).drawn - w.drawn, fun v hc ha => ?_⟩
  rcases run_couple s v w #[] hs hc (fun i hi => ha i (by omega)) with (⟨h, v', hd, hE⟩ | ⟨a, v', hd, hZ⟩) | ⟨us, v2, w2, c2, t1, t2, hsz, ⟨c, d1, d2⟩, hok, hb⟩
  case inl.inr =>
    obtain ⟨r, e⟩ : ∃ r, s.runT Q v #[] = r := ⟨_, rfl⟩
    obtain ⟨r1, r2⟩ := r
    rw [e] at hd
    obtain rfl : r1 = .ok a v' := hd
    simp only [stepG.apply, e, if_true]
    cases a with
    | enter f args => exact .inr ⟨_, _, _, rfl, .inl (stub_enter hZ _ _)⟩
    | _ => exact hZ.elim
  · obtain ⟨r, e⟩ : ∃ r, s.runT Q v #[] = r := ⟨_, rfl⟩
    obtain ⟨r1, r2⟩ := r
    rw [e] at hd
    obtain rfl : r1 = .halt h v' := hd
    simp only [stepG.apply, e, if_true]
    cases h with
    | stuck m => exact .inl ⟨_, _, _, rfl⟩
    | unsupported u => cases u <;> first | exact hE.elim | exact .inl ⟨_, _, _, rfl⟩
    | _ => exact hE.elim
  · rcases hb with ⟨a, hA, e1, e2⟩ | ⟨h, hn, e1, e2⟩
    · have hcd : (Result.w (s.runT P w #[]).1).drawn - w.drawn = c := by rw [e2]; show w2.drawn - w.drawn = c; omega
      rw [hcd]
      simp only [stepG.apply, e1, e2, if_true, hk, Bool.false_eq_true, if_false, Array.empty_append]
      cases a with
      | value x => exact went hst (.inr ⟨rfl, k1 _⟩) c2 t1 t2 hsz d1 d2 hok
      | skip => exact went hst (.inr ⟨rfl, k1 _⟩) c2 t1 t2 hsz d1 d2 hok
      | enter f args => exact went hst ((enterF_same hst f args _ _).imp id (fun e => ⟨congrArg (fun x => ({ frame := x, callers := fr :: (cs ++ [bottom]), status := .running, dying := none } : Goroutine)) e, k2 f args e⟩)) c2 t1 t2 hsz d1 d2 hok
      | _ => exact hA.elim
    · have hcd : (Result.w (s.runT P w #[]).1).drawn - w.drawn = c := by rw [e2]; show w2.drawn - w.drawn = c; omega
      rw [hcd]
      simp only [stepG.apply, e1, e2, if_true, hk, Bool.false_eq_true, if_false, Array.empty_append]
      cases h with
      | panic x => exact went hst (.inr ⟨rfl, k3 _⟩) c2 t1 t2 hsz d1 d2 hok
      | unsupported u => cases u <;> first | exact hn.elim | exact .inl ⟨_, _, _, rfl⟩
      | stuck x => exact .inl ⟨_, _, _, rfl⟩
      | _ => exact hn.elim
end
end Go.Proofs.Ytdafpnpfcmgfcab
namespace Go.Proofs.Ytdafpnpfcmgfcab
open Go
section
variable {Q P : Program} {S : Nat → Prop} {K : Goroutine → Prop}

/-- What is asked of the item on top (ranges over functions: not yet). -/
def TopOk (Q P : Program) (S : Nat → Prop) (fr : Frame) : List Item → Prop
  | .inRegion ops (i :: _) :: _ => ∀ o, ops[i]? = some o → Tame Q P S (ZN Q) OkNext (execOp fr.eval o)
  | .code (.rangeFunc _ _ _ _) :: _ | .inRangeFunc _ :: _ | .beginRound :: _ | .endRangeFunc _ :: _ | .call _ _ _ _ :: _ | .extern _ _ :: _ => False
  | _ => True

/-- Where a step of control leads. -/
inductive Leads (fr : Frame) : List Item → List Item → Prop
  | drop {x : Item} {k : List Item} : Leads fr (x :: k) k
  | seq {a b : Code} {k : List Item} : Leads fr (.code (.seq a b) :: k) (.code a :: .code b :: k)
  | cond {c : Operand} {a b : Code} {k : List Item} (t : Bool) : Leads fr (.code (.cond c a b) :: k) (.code (if t then a else b) :: k)
  | block {id : Nat} {a : Code} {k : List Item} : Leads fr (.code (.block id a) :: k) (.code a :: .inBlock id :: k)
  | loop {a : Code} {k : List Item} : Leads fr (.code (.loop a) :: k) (.code a :: .inLoop a :: k)
  | again {a : Code} {k : List Item} : Leads fr (.inLoop a :: k) (.code a :: .inLoop a :: k)
  | scope {a : Code} {k : List Item} : Leads fr (.code (.scope a) :: k) (.code a :: .inScope a :: k)
  | exit {id : Nat} {k k' : List Item} : exitTo id k = some k' → Leads fr (.code (.exit id) :: k) k'
  | goto {l : Nat} {k k' : List Item} : gotoIn l k = some k' → Leads fr (.code (.goto l) :: k) k'
  | region {id : Nat} {ops : Array Oper} {b : Bool} {k : List Item} (is : List Nat) : Leads fr (.code (.region id ops b) :: k) (.inRegion ops is :: k)

theorem still {G : Goroutine} {x : World → GStep} {y : GStep} {w : World} (hy : y = .go G w) (hx : ∀ v, x v = .go (ext G) v) (hK : K G) : InStep S K x y w := by
  refine ⟨0, fun v hc _ => ?_⟩
  rw [hx]
  exact .inr ⟨_, _, _, rfl, .inr ⟨G, rfl, hK, rfl, rfl, w, hy, rfl, rfl, hc, Nat.le_refl _, fun e he => by simp at he⟩⟩
theorem never {x : World → GStep} {y : GStep} {w : World} (hx : ∀ v, ∃ o v' es, x v = .ended o v' es) : InStep S K x y w := ⟨0, fun v _ _ => .inl (hx v)⟩

theorem inStep_ite {b : Bool} {x1 x2 : World → GStep} {y1 y2 : GStep} {w : World} (h1 : InStep S K x1 y1 w) (h2 : InStep S K x2 y2 w) : InStep S K (fun v => if b = true then x1 v else x2 v) (if b = true then y1 else y2) w := by
  cases b
  · exact h2
  · exact h1

/-- What is kept, step by step. -/
structure Steady (Q P : Program) (K : Goroutine → Prop) (fr : Frame) (cs : List Frame) : Prop where
  to : ∀ todo, Leads fr fr.todo todo → K { frame := { fr with todo }, callers := cs, status := .running, dying := none }
  finish : ∀ v, K { frame := fr.finish v, callers := cs, status := .running, dying := none }
  enter : ∀ f args, Frame.enter Q f args .normal = Frame.enter P f args .normal → K { frame := Frame.enter P f args .normal, callers := fr :: cs, status := .running, dying := none }
  raise : ∀ ch, K { frame := fr.raise ch, callers := cs, status := .running, dying := none }
  leave : K { frame := { fr with mode := .returning }, callers := cs, status := .running, dying := none }

theorem exec_couple (hst : Stubbed Q P) {fr : Frame} {cs : List Frame} (hk : (fr.kind == .early) = false) (hr : fr.roundOf = none) (ht : TopOk Q P S fr fr.todo) (hK : Steady Q P K fr cs) (w : World) :
    InStep S K (fun v => stepG.exec Q true true fr (cs ++ [bottom]) none v) (stepG.exec P true true fr cs none w) w := by
  obtain ⟨fn, tmps, todo, defers, mode, kind, ro⟩ := fr
  dsimp only at hr hk
  subst hr
  unfold stepG.exec
  cases todo with
  | nil => exact still rfl (fun v => rfl) hK.leave
  | cons x k =>
    cases x with
    | inBlock id => exact still rfl (fun v => rfl) (hK.to _ .drop)
    | inScope id => exact still rfl (fun v => rfl) (hK.to _ .drop)
    | inLoop id => exact still rfl (fun v => rfl) (hK.to _ .again)
    | inRangeFunc l => exact ht.elim
    | endRangeFunc l => exact ht.elim
    | beginRound => exact ht.elim
    | call _ _ _ _ => exact ht.elim
    | extern _ _ => exact ht.elim
    | inRegion ops is =>
      cases is with
      | nil => exact still rfl (fun v => rfl) (hK.to _ .drop)
      | cons i rest =>
        dsimp only
        split
        · unfold stepG.oper Frame.oper?
          dsimp only
          cases ho : ops[i]? with
          | none => exact never (fun v => ⟨_, _, _, rfl⟩)
          | some o => exact apply_couple hst hk (ht o ho) hK.finish hK.enter hK.raise w
        · exact still rfl (fun v => rfl) (hK.finish _)
    | code c =>
      cases c with
      | skip => exact still rfl (fun v => rfl) (hK.to _ .drop)
      | label _ => exact still rfl (fun v => rfl) (hK.to _ .drop)
      | seq _ _ => exact still rfl (fun v => rfl) (hK.to _ .seq)
      | block _ _ => exact still rfl (fun v => rfl) (hK.to _ .block)
      | loop _ => exact still rfl (fun v => rfl) (hK.to _ .loop)
      | scope _ => exact still rfl (fun v => rfl) (hK.to _ .scope)
      | ret => exact still rfl (fun v => rfl) hK.leave
      | refuse why => exact never (fun v => ⟨_, _, _, rfl⟩)
      | rangeFunc _ _ _ _ => exact ht.elim
      | cond c a b =>
        dsimp only
        split
        · exact still rfl (fun v => rfl) (hK.to _ (.cond _))
        · exact never (fun v => ⟨_, _, _, rfl⟩)
      | exit id =>
        dsimp only
        cases he : exitTo id k with
        | none => exact never (fun v => ⟨_, _, _, rfl⟩)
        | some k' => exact still rfl (fun v => rfl) (hK.to _ (.exit he))
      | goto id =>
        dsimp only
        cases he : gotoIn id k with
        | none => exact never (fun v => ⟨_, _, _, rfl⟩)
        | some k' => exact still rfl (fun v => rfl) (hK.to _ (.goto he))
      | region id ops draw =>
        cases draw with
        | false => exact still rfl (fun v => rfl) (hK.to _ (.region _))
        | true =>
          refine ⟨1, fun v hc ha => ?_⟩
          have h0 : v.tape v.drawn = w.tape w.drawn := ha 0 (Nat.lt_succ_self 0)
          simp only [choose, Sem.run, Question.forced, Bool.not_true, Bool.false_eq_true, if_false, h0, hst.follows]
          exact .inr ⟨_, _, _, rfl, .inr ⟨_, rfl, hK.to _ (.region _), rfl, rfl, _, rfl, rfl, rfl, hc.drew _ _, Nat.le_refl _, fun e he => by simp at he⟩⟩

/-- What is asked of a frame that is being left. -/
def LeaveOk (Q P : Program) (S : Nat → Prop) (fr : Frame) : Prop :=
  fr.defers = [] ∧ fr.kind = .normal ∧ ∀ fn, P.funcs[fr.fn]? = some fn → Tame Q P S (fun _ => False) (fun _ => True) (results fn fr.tmps)

theorem back_stub (y : Value) : Stub { frame := bottom.finish y, callers := [], status := .running, dying := none } := ⟨rfl, rfl, .inl ⟨ "", rfl, rfl⟩⟩
theorem raise_stub (ch : List PanicEntry) : Stub { frame := bottom.raise ch, callers := [], status := .running, dying := none } := ⟨rfl, rfl, .inr ⟨ch, rfl, rfl⟩⟩

theorem unwind_couple (hst : Stubbed Q P) {fr : Frame} {cs : List Frame} (ht : LeaveOk Q P S fr) (hr : fr.mode ≠ .run)
    (k1 : ∀ c rest y, cs = c :: rest → K { frame := c.finish y, callers := rest, status := .running, dying := none })
    (k2 : ∀ c rest ch, cs = c :: rest → K { frame := c.raise ch, callers := rest, status := .running, dying := none }) (w : World) :
    InStep S K (fun v => unwind Q true fr (cs ++ [bottom]) none v) (unwind P true fr cs none w) w := by
  obtain ⟨hd, hk, ht⟩ := ht
  cases cs with
  | nil =>
    -- whatever it is: it comes back to the bottom
    refine ⟨0, fun v hc ha => ?_⟩
    unfold unwind
    simp only [hd, List.nil_append]
    cases hm : fr.mode with
    | run => exact absurd hm hr
    | panicking chain =>
      dsimp only
      split
      · exact .inl ⟨_, _, _, rfl⟩
      · exact .inr ⟨_, _, _, rfl, .inl (raise_stub _)⟩
    | returning =>
      dsimp only
      split
      · unfold doReturn
        simp only [hk]
        exact .inr ⟨_, _, _, rfl, .inl (back_stub _)⟩
      · generalize Sem.runT Q _ v #[] = z
        obtain ⟨r, es'⟩ := z
        cases r with
        | ok y v2 =>
          unfold doReturn
          simp only [hk]
          exact .inr ⟨_, _, _, rfl, .inl (back_stub _)⟩
        | halt h v2 => cases h <;> exact .inl ⟨_, _, _, rfl⟩
  | cons c rest =>
    unfold unwind
    simp only [hd]
    cases hm : fr.mode with
    | run => exact absurd hm hr
    | panicking chain =>
      dsimp only
      have hcat : fr.catches Q = fr.catches P := by
        unfold Frame.catches
        rcases hst.fn fr.fn with e | ⟨g, why, e1, e2⟩
        · rw [e]
        · rw [e1, e2]
      rw [hcat]
      exact inStep_ite (never (fun v => ⟨_, _, _, rfl⟩)) (still rfl (fun v => rfl) (k2 _ _ _ rfl))
    | returning =>
      dsimp only
      have hret : ∀ (p : Program) (x : World) (y : Value), doReturn p true fr (c :: rest) none y x = .go { frame := c.finish y, callers := rest, status := .running, dying := none } x := fun p x y => by
        unfold doReturn
        simp only [hk]
      have hret' : ∀ (p : Program) (x : World) (y : Value), doReturn p true fr (c :: rest ++ [bottom]) none y x = .go (ext { frame := c.finish y, callers := rest, status := .running, dying := none }) x := fun p x y => by
        unfold doReturn
        simp only [hk]
        rfl
      have main : ∀ (fn : Func), Tame Q P S (fun _ => False) (fun _ => True) (results fn fr.tmps) → InStep S K
          (fun v => GStep.after (seen Q fr.fn ((results fn fr.tmps).runT Q v #[]).2) (match ((results fn fr.tmps).runT Q v #[]).1 with
            | .ok x w => doReturn Q true fr (c :: rest ++ [bottom]) none x w
            | .halt (.stuck s) w => .ended (.stuck s (fr.pos Q)) w
            | .halt _ w => .ended (.stuck "return: the result variables cannot be read" (fr.pos Q)) w))
          (GStep.after (seen P fr.fn ((results fn fr.tmps).runT P w #[]).2) (match ((results fn fr.tmps).runT P w #[]).1 with
            | .ok x w => doReturn P true fr (c :: rest) none x w
            | .halt (.stuck s) w => .ended (.stuck s (fr.pos P)) w
            | .halt _ w => .ended (.stuck "return: the result variables cannot be read" (fr.pos P)) w)) w := by
        intro fn hs
        generalize results fn fr.tmps = s at hs
        refine ⟨(Result.w (s.runT P w #[]).1).drawn - w.drawn, fun v hc ha => ?_⟩
        rcases run_couple s v w #[] hs hc (fun i hi => ha i (by omega)) with (⟨h, v', hd, hE⟩ | ⟨_, _, _, hz⟩) | ⟨us, v2, w2, c2, t1, t2, hsz, ⟨c, d1, d2⟩, hok, hb⟩
        · simp only [hd]
          cases h <;> exact .inl ⟨_, _, _, rfl⟩
        · exact hz.elim
        · rcases hb with ⟨a, _, e1, e2⟩ | ⟨h, _, e1, e2⟩
          · have hcd : (Result.w (s.runT P w #[]).1).drawn - w.drawn = c := by rw [e2]; show w2.drawn - w.drawn = c; omega
            rw [hcd]
            simp only [e1, e2, Array.empty_append]
            rw [hret', hret]
            exact went hst (.inr ⟨rfl, k1 _ _ _ rfl⟩) c2 t1 t2 hsz d1 d2 hok
          · simp only [e1]
            cases h <;> exact .inl ⟨_, _, _, rfl⟩
      rcases hst.fn fr.fn with e | ⟨g, why, e1, e2⟩
      · rw [e]
        cases hf : P.funcs[fr.fn]? with
        | none => exact still (hret _ _ _) (fun v => hret' _ _ _) (k1 _ _ _ rfl)
        | some fn => exact main fn (ht fn hf)
      · rw [e1, e2]
        exact main g (ht g e1)
end
end Go.Proofs.Ytdafpnpfcmgfcab
namespace Go.Proofs.Ytdafpnpfcmgfcab
open Go

/-- Alone: it comes to a stop within n of its steps. -/
def Rn (Q : Program) (Stop : Goroutine → World → Prop) : Nat → Goroutine → World → Prop
  | 0, g, v => Stop g v
  | n + 1, g, v => Stop g v ∨ ∃ g' v' es, stepG Q true g v = .go g' v' es ∧ Rn Q Stop n g' v'

/-- Whatever the lone run sees of 'w' it sees of 'w₁'. -/
def Sim (S : Nat → Prop) (w w₁ : World) : Prop := w₁.heap.size = w.heap.size ∧ ∀ v, Cp S v w → Cp S v w₁
theorem Sim.refl (S : Nat → Prop) (w : World) : Sim S w w := ⟨rfl, fun _ h => h⟩
theorem Sim.trans {S : Nat → Prop} {w w₁ w₂ : World} (h : Sim S w w₁) (h' : Sim S w₁ w₂) : Sim S w w₂ := ⟨h'.1.trans h.1, fun v hv => h'.2 v (h.2 v hv)⟩
theorem Sim.at (S : Nat → Prop) (w : World) (d : Nat) : Sim S w (w.at d) := ⟨rfl, fun _ h => ⟨h.size, h.low, h.out, h.brk, h.os, h.output⟩⟩

/-- In company of those that turn nothing that the lone run sees: it comes to a stop. -/
inductive Rb (P : Program) (S : Nat → Prop) (X : Goroutine → World → Prop) : Goroutine → World → Prop
  | stop {g : Goroutine} {w : World} : (∀ w₁, Sim S w w₁ → X g w₁) → Rb P S X g w
  | step {g : Goroutine} {w : World} (G : World → Goroutine) (W : World → World) (E : World → Array Event) : g.status = .running → (∀ w₁, Sim S w w₁ → stepG P true g w₁ = .go (G w₁) (W w₁) (E w₁)) →
      (∀ w₁, Sim S w w₁ → ∀ e ∈ E w₁, OkE S (W w₁).heap.size e) → (∀ w₁, Sim S w w₁ → w.heap.size ≤ (W w₁).heap.size) → (∀ w₁, Sim S w w₁ → Rb P S X (G w₁) (W w₁)) → Rb P S X g w

def World.re (v : World) (K : Nat) (T : Nat → Question → Nat) : World := { v with drawn := K, tape := T }

section
variable {Q P : Program} {S : Nat → Prop}

theorem Cp.re' {v w : World} (h : Cp S v w) (K : Nat) (T : Nat → Question → Nat) : Cp S (World.re v K T) w := ⟨h.size, h.low, h.out, h.brk, h.os, h.output⟩
theorem Cp.unique {v v' w : World} (h : Cp S v w) (h' : Cp S v' w) (hd : v.drawn = v'.drawn) (ht : v.tape = v'.tape) : v = v' := by
  have hh : v.heap = v'.heap := by
    refine Array.ext_getElem? fun b => ?_
    by_cases hb : S b
    · obtain ⟨t, c, f, e1, e2⟩ := h.brk b hb
      obtain ⟨t', c', f', e1', e2'⟩ := h'.brk b hb
      rw [e2] at e2'
      cases e2'
      rw [e1, e1']
    · rw [h.out b hb, h'.out b hb]
  have ho := h.os.trans h'.os.symm
  have hu := h.output.trans h'.output.symm
  cases v; cases v'
  simp_all

theorem stub_ends {g : Goroutine} (h : Stub g) (v : World) : ∃ o v' es, stepG Q true g v = .ended o v' es := by
  obtain ⟨h3, _, ⟨why, h1, h2⟩ | ⟨ch, h1, h2⟩⟩ := h
  · unfold stepG
    simp only [h2, h3]
    unfold stepG.exec
    simp only [h1]
    exact ⟨_, _, _, rfl⟩
  · unfold stepG
    simp only [h1, h3]
    unfold unwind
    simp only [h2]
    unfold callDeferred
    simp only [h1]
    exact ⟨_, _, _, rfl⟩
theorem stub_stays {g : Goroutine} (h : Stub g) (v : World) (g' : Goroutine) (v' : World) (es : Array Event) : stepG Q true g v ≠ .go g' v' es := by
  obtain ⟨o, v2, es2, e⟩ := stub_ends (Q := Q) h v
  rw [e]
  intro h; cases h
theorem ext_inj {g g' : Goroutine} (h : ext g = ext g') : g = g' := by
  obtain ⟨a, b, c, d, e⟩ := g
  obtain ⟨a', b', c', d', e'⟩ := g'
  simp only [ext, Goroutine.mk.injEq, List.append_cancel_right_eq] at h
  simp [h]

/-- What is asked of the goroutines on the way. -/
structure Kept (Q P : Program) (S : Nat → Prop) (Ok : Goroutine → Prop) : Prop where
  run : ∀ g, Ok g → g.status = .running
  step : ∀ g w, Ok g → InStep S Ok (fun v => stepG Q true (ext g) v) (stepG P true g w) w

/-- A state of the company from which it would never come to its stop, and all that is known of the way there. -/
structure Bad (Q P : Program) (S : Nat → Prop) (Ok : Goroutine → Prop) (Stop : Goroutine → World → Prop) where
  g : Goroutine
  w : World
  v : World
  K : Nat
  T : Nat → Question → Nat
  cp : Cp S v w
  ok : Ok g
  ends : ∀ T', (∀ i, i < K → T' i = T i) → ∃ n, Rn Q Stop n (ext g) (World.re v K T')
  bad : ¬ Rb P S (fun g w => ∃ v, Cp S v w ∧ Stop (ext g) v) g w

variable {Ok : Goroutine → Prop} {Stop : Goroutine → World → Prop}

theorem Bad.next (hk : Kept Q P S Ok) (hstub : ∀ g v, Stub g → ¬ Stop g v) (s : Bad Q P S Ok Stop) :
    ∃ s' : Bad Q P S Ok Stop, s.K ≤ s'.K ∧ (∀ i, i < s.K → s'.T i = s.T i) ∧ (∀ K T, ¬ Stop (ext s.g) (World.re s.v K T)) ∧
      ∀ T', (∀ i, i < s'.K → T' i = s'.T i) → ∃ es, stepG Q true (ext s.g) (World.re s.v s.K T') = .go (ext s'.g) (World.re s'.v s'.K T') es := by
  have hns : ∀ K T, ¬ Stop (ext s.g) (World.re s.v K T) := fun K T h => s.bad (.stop fun w₁ h₁ => ⟨_, (h₁.2 _ s.cp).re' K T, h⟩)
  -- in each world: the step
  have hst : ∀ w₁ : { w₁ // Sim S s.w w₁ }, ∃ c, ∃ g' w' es, stepG P true s.g w₁.1 = .go g' w' es ∧ (∀ e ∈ es, OkE S w'.heap.size e) ∧ s.w.heap.size ≤ w'.heap.size ∧ Ok g' ∧ ∃ v', Cp S v' w' ∧
      ∀ T', (∀ i, i < s.K → T' i = s.T i) → (∀ i, i < c → T' (s.K + i) = w₁.1.tape (w₁.1.drawn + i)) → ∃ es, stepG Q true (ext s.g) (World.re s.v s.K T') = .go (ext g') (World.re v' (s.K + c) T') es := by
    intro ⟨w₁, hw₁⟩
    obtain ⟨c, hc⟩ := hk.step s.g w₁ s.ok
    have one : ∀ T', (∀ i, i < s.K → T' i = s.T i) → (∀ i, i < c → T' (s.K + i) = w₁.tape (w₁.drawn + i)) →
        ∃ g' v1 es w1, stepG Q true (ext s.g) (World.re s.v s.K T') = .go (ext g') v1 es ∧ Ok g' ∧ v1.drawn = s.K + c ∧ v1.tape = T' ∧ stepG P true s.g w₁ = .go g' w1 es ∧ Cp S v1 w1 ∧ s.w.heap.size ≤ w1.heap.size ∧ ∀ e ∈ es, OkE S w1.heap.size e := by
      intro T' h1 h2
      obtain ⟨n, hn⟩ := s.ends T' h1
      cases n with
      | zero => exact absurd hn (hns _ _)
      | succ n =>
        rcases hn with hn | ⟨g', v1, es, hgo, hrest⟩
        · exact absurd hn (hns _ _)
        have nostub : ¬ Stub g' := fun hs => by
          cases n with
          | zero => exact hstub _ _ hs hrest
          | succ n =>
            rcases hrest with h | ⟨g2, v2, es2, h, _⟩
            · exact hstub _ _ hs h
            · exact stub_stays hs _ _ _ _ h
        rcases hc _ ((hw₁.2 _ s.cp).re' s.K T') (fun i hi => h2 i hi) with ⟨_, _, _, he⟩ | ⟨g2, v2, es2, he, hrest2⟩
        · have he' := hgo.symm.trans he; cases he'
        replace he := hgo.symm.trans he
        simp only [GStep.go.injEq] at he
        obtain ⟨rfl, rfl, rfl⟩ := he
        rcases hrest2 with h | ⟨gc, rfl, hok', d1, t1, w1, e1, _, _, c1, sz, oke⟩
        · exact absurd h nostub
        · exact ⟨gc, v1, es, w1, hgo, hok', d1, t1, e1, c1, hw₁.1 ▸ sz, oke⟩
    obtain ⟨g', v1, es, w1, hgo, hok, hd, ht, e1, c1, sz, oke⟩ := one (fun i => if i < s.K then s.T i else w₁.tape (w₁.drawn + (i - s.K))) (fun i hi => by simp [hi]) (fun i hi => by
      have : ¬ (s.K + i < s.K) := by omega
      simp [this])
    refine ⟨c, g', w1, es, e1, oke, sz, hok, v1, c1, fun T' h1 h2 => ?_⟩
    obtain ⟨g'', v2, es2, w2, hgo2, _, hd2, ht2, e2, c2, _, _⟩ := one T' h1 h2
    rw [e1] at e2
    simp only [GStep.go.injEq] at e2
    obtain ⟨rfl, rfl, rfl⟩ := e2
    have : v2 = World.re v1 (s.K + c) T' := c2.unique (c1.re' _ _) (by rw [hd2]; rfl) (by rw [ht2]; rfl)
    exact ⟨_, this ▸ hgo2⟩
  obtain ⟨f, hf⟩ := Classical.axiomOfChoice (r := fun (w₁ : { w₁ // Sim S s.w w₁ }) (z : Nat × Goroutine × World × Array Event × World) => stepG P true s.g w₁.1 = .go z.2.1 z.2.2.1 z.2.2.2.1 ∧ (∀ e ∈ z.2.2.2.1, OkE S z.2.2.1.heap.size e) ∧ s.w.heap.size ≤ z.2.2.1.heap.size ∧ Ok z.2.1 ∧ Cp S z.2.2.2.2 z.2.2.1 ∧
      ∀ T', (∀ i, i < s.K → T' i = s.T i) → (∀ i, i < z.1 → T' (s.K + i) = w₁.1.tape (w₁.1.drawn + i)) → ∃ es, stepG Q true (ext s.g) (World.re s.v s.K T') = .go (ext z.2.1) (World.re z.2.2.2.2 (s.K + z.1) T') es)
    (fun w₁ => by
      obtain ⟨c, g', w', es, a1, a2, a3, a4, v', a5, a6⟩ := hst w₁
      exact ⟨(c, g', w', es, v'), a1, a2, a3, a4, a5, a6⟩)
  by_cases hall : ∀ w₁ (h₁ : Sim S s.w w₁), Rb P S (fun g w => ∃ v, Cp S v w ∧ Stop (ext g) v) (f ⟨w₁, h₁⟩).2.1 (f ⟨w₁, h₁⟩).2.2.1
  · classical
    refine absurd (Rb.step (fun w₁ => if h : Sim S s.w w₁ then (f ⟨w₁, h⟩).2.1 else default) (fun w₁ => if h : Sim S s.w w₁ then (f ⟨w₁, h⟩).2.2.1 else default) (fun w₁ => if h : Sim S s.w w₁ then (f ⟨w₁, h⟩).2.2.2.1 else #[]) (hk.run _ s.ok) (fun w₁ h => ?_) (fun w₁ h => ?_) (fun w₁ h => ?_) (fun w₁ h => ?_)) s.bad
    · simp only [h, dif_pos]; exact (hf ⟨w₁, h⟩).1
    · simp only [h, dif_pos]; exact (hf ⟨w₁, h⟩).2.1
    · simp only [h, dif_pos]; exact (hf ⟨w₁, h⟩).2.2.1
    · simp only [h, dif_pos]; exact hall w₁ h
  obtain ⟨w₁, hd⟩ := Classical.not_forall.1 hall
  obtain ⟨hw₁, hd⟩ := Classical.not_forall.1 hd
  obtain ⟨h1, h2, h3, h4, h5, h6⟩ := hf ⟨w₁, hw₁⟩
  generalize f ⟨w₁, hw₁⟩ = z at h1 h2 h3 h4 h5 h6 hd
  obtain ⟨c, g1, w2, es1, v2⟩ := z
  dsimp only at h1 h2 h3 h4 h5 h6 hd
  have hT : ∀ T', (∀ i, i < s.K + c → T' i = if i < s.K then s.T i else w₁.tape (w₁.drawn + (i - s.K))) → ∃ es, stepG Q true (ext s.g) (World.re s.v s.K T') = .go (ext g1) (World.re v2 (s.K + c) T') es := fun T' h =>
    h6 T' (fun i hi => by rw [h i (by omega)]; simp [hi]) (fun i hi => by
      have hn : ¬ (s.K + i < s.K) := by omega
      rw [h (s.K + i) (by omega)]; simp [hn])
  refine ⟨⟨g1, w2, v2, s.K + c, fun i => if i < s.K then s.T i else w₁.tape (w₁.drawn + (i - s.K)), h5, h4, fun T' h => ?_, hd⟩, Nat.le_add_right _ _, fun i hi => by simp [hi], hns, hT⟩
  obtain ⟨es, he⟩ := hT T' h
  obtain ⟨n, hn⟩ := s.ends T' (fun i hi => by rw [h i (by omega)]; simp [hi])
  cases n with
  | zero => exact absurd hn (hns _ _)
  | succ n =>
    rcases hn with hn | ⟨g', v1, es', hgo, hrest⟩
    · exact absurd hn (hns _ _)
    · rw [he] at hgo
      simp only [GStep.go.injEq] at hgo
      obtain ⟨rfl, rfl, _⟩ := hgo
      exact ⟨n, hrest⟩

/-- ████ A goroutine that alone, on every tape, comes to a stop comes to it in company. ████ -/
theorem lift (hk : Kept Q P S Ok) (hstub : ∀ g v, Stub g → ¬ Stop g v) {g : Goroutine} {v w : World} (hc : Cp S v w) (hok : Ok g)
    (H : ∀ T, ∃ n, Rn Q Stop n (ext g) (World.re v 0 T)) : Rb P S (fun g w => ∃ v, Cp S v w ∧ Stop (ext g) v) g w := by
  refine Classical.byContradiction fun hbad => ?_
  classical
  let s0 : Bad Q P S Ok Stop := ⟨g, w, v, 0, v.tape, hc, hok, fun T' _ => H T', hbad⟩
  obtain ⟨nx, hnx⟩ := Classical.axiomOfChoice (fun s : Bad Q P S Ok Stop => Bad.next hk hstub s)
  have hK := fun s => (hnx s).1
  have hT := fun s => (hnx s).2.1
  have hN := fun s => (hnx s).2.2.1
  have hS := fun s => (hnx s).2.2.2
  let ch : Nat → Bad Q P S Ok Stop := fun j => Nat.rec s0 (fun _ s => nx s) j
  have hmono : ∀ j, (ch j).K ≤ (ch (j + 1)).K := fun j => hK (ch j)
  have hmono' : ∀ j k, j ≤ k → (ch j).K ≤ (ch k).K := fun j k h => by
    induction h with
    | refl => exact Nat.le_refl _
    | step _ ih => exact Nat.le_trans ih (hmono _)
  have hcoh : ∀ j k, j ≤ k → ∀ i, i < (ch j).K → (ch k).T i = (ch j).T i := fun j k h => by
    induction h with
    | refl => exact fun i _ => rfl
    | @step k h ih => exact fun i hi => (hT (ch k) i (Nat.lt_of_lt_of_le hi (hmono' j k h))).trans (ih i hi)
  -- the tape on which it would run for ever
  let T : Nat → Question → Nat := fun i => if h : ∃ j, i < (ch j).K then (ch h.choose).T i else fun _ => 0
  have hTT : ∀ j i, i < (ch j).K → T i = (ch j).T i := fun j i hi => by
    have h : ∃ j, i < (ch j).K := ⟨j, hi⟩
    show (if h : ∃ j, i < (ch j).K then (ch h.choose).T i else fun _ => 0) = _
    rw [dif_pos h]
    rcases Nat.le_total h.choose j with e | e
    · exact (hcoh _ _ e i h.choose_spec).symm
    · exact hcoh _ _ e i hi
  obtain ⟨n, hn⟩ := H T
  have key : ∀ n j, ¬ Rn Q Stop n (ext (ch j).g) (World.re (ch j).v (ch j).K T) := fun n => by
    induction n with
    | zero => exact fun j => hN (ch j) _ _
    | succ n ih =>
      intro j h
      rcases h with h | ⟨g', v', es, hgo, hrest⟩
      · exact hN (ch j) _ _ h
      · obtain ⟨es', he⟩ := hS (ch j) T (fun i hi => hTT (j + 1) i hi)
        rw [he] at hgo
        simp only [GStep.go.injEq] at hgo
        obtain ⟨rfl, rfl, _⟩ := hgo
        exact ih (j + 1) hrest
  exact key n 0 hn
end
end Go.Proofs.Ytdafpnpfcmgfcab
namespace Go.Proofs.Ytdafpnpfcmgfcab
open Go
section
variable {Q P : Program} {S : Nat → Prop} {K : Goroutine → Prop}

/-- What is asked of a goroutine ahead of its step. -/
structure StepOk (Q P : Program) (S : Nat → Prop) (g : Goroutine) : Prop where
  run : g.status = .running
  dying : g.dying = none
  kind : (g.frame.kind == .early) = false
  round : g.frame.roundOf = none
  top : g.frame.mode = .run → TopOk Q P S g.frame g.frame.todo
  leave : g.frame.mode ≠ .run → LeaveOk Q P S g.frame

theorem step_couple (hst : Stubbed Q P) {g : Goroutine} (h : StepOk Q P S g) (hK : g.frame.mode = .run → Steady Q P K g.frame g.callers)
    (k1 : ∀ c rest y, g.callers = c :: rest → K { frame := c.finish y, callers := rest, status := .running, dying := none })
    (k2 : ∀ c rest ch, g.callers = c :: rest → K { frame := c.raise ch, callers := rest, status := .running, dying := none }) (w : World) : InStep S K (fun v => stepG Q true (ext g) v) (stepG P true g w) w := by
  obtain ⟨fr, cs, st, dy, off⟩ := g
  obtain ⟨h1, h2, h3, h4, h5, h6⟩ := h
  dsimp only at h1 h2 h3 h4 h5 h6 hK k1 k2
  subst h2
  cases hm : fr.mode with
  | run =>
    unfold stepG ext
    simp only [hm]
    exact exec_couple hst h3 h4 (h5 hm) (hK hm) w
  | returning =>
    unfold stepG ext
    simp only [hm]
    exact unwind_couple hst (h6 (by rw [hm]; simp)) (by rw [hm]; simp) k1 k2 w
  | panicking ch =>
    unfold stepG ext
    simp only [hm]
    exact unwind_couple hst (h6 (by rw [hm]; simp)) (by rw [hm]; simp) k1 k2 w

theorem Rb.trans {X Y : Goroutine → World → Prop} {g : Goroutine} {w : World} (h : Rb P S X g w) (hXY : ∀ g w, (∀ w₁, Sim S w w₁ → X g w₁) → Rb P S Y g w) : Rb P S Y g w := by
  induction h with
  | stop h => exact hXY _ _ h
  | step G W E h1 h2 h3 h4 _ ih => exact .step G W E h1 h2 h3 h4 ih
end
end Go.Proofs.Ytdafpnpfcmgfcab
namespace Go.Proofs.Ytdafpnpfcmgfcab
open Go
section
variable {Q P : Program} {S : Nat → Prop} {α β : Type}

theorem tb {Z B : β → Prop} {f : α → Sem β} {s : Sem α} (h : Tame Q P S (fun _ => False) (fun a => Tame Q P S Z B (f a)) s) : Tame Q P S Z B (s >>= f) := tame_bind f s h
theorem tb' {Z B : β → Prop} {f : α → Sem β} {s : Sem α} {A : α → Prop} (h : Tame Q P S (fun _ => False) A s) (hA : ∀ a, A a → Tame Q P S Z B (f a)) : Tame Q P S Z B (s >>= f) := tame_bind f s (tame_mono hA s h)
theorem t_z {Z A : α → Prop} {s : Sem α} (h : Tame Q P S (fun _ => False) A s) : Tame Q P S Z A s := tame_mono' (fun _ h => h.elim) (fun _ h => h) s h
theorem t_any {Z A : α → Prop} {s : Sem α} (h : Tame Q P S (fun _ => False) (fun _ => True) s) (hA : ∀ a, A a) : Tame Q P S Z A s := tame_mono' (fun _ h => h.elim) (fun a _ => hA a) s h
theorem t_pure {Z A : α → Prop} {a : α} (h : A a) : Tame Q P S Z A (pure a) := h
theorem t_stuck {Z A : α → Prop} {m : String} : Tame Q P S Z A (stuck m) := trivial
theorem t_load {Z A : Value → Prop} {a : Addr} {m : Mode} (h : ∀ v, A v) : Tame Q P S Z A (load a m) := fun _ v => h v
theorem t_store {Z A : Unit → Prop} {a : Addr} {x : Value} {m : Mode} (h : A ()) : Tame Q P S Z A (store a x m) := fun _ => h
theorem t_new {Z A : Nat → Prop} {o : Obj} (ho : veil o = o) (h : ∀ r, A r) : Tame Q P S Z A (newObj o) := ⟨ho, fun r _ => h r⟩
theorem t_choose {Z A : Nat → Prop} {q : Question} (h : ∀ n, A n) : Tame Q P S Z A (choose q) := h
theorem t_frozen {Z A : Bool → Prop} {a : Addr} (h : ∀ n, A n) : Tame Q P S Z A (frozen a) := h
theorem t_prog {Z B : β → Prop} {f : Program → Sem β} (h1 : f Q = f P) (h2 : Tame Q P S Z B (f P)) : Tame Q P S Z B (program >>= f) := .inl ⟨h1, h2⟩
theorem t_getObj {Z B : β → Prop} {r : Nat} {f : Obj → Sem β} (h : ∀ o, Tame Q P S Z B (f o)) (hv : ∀ o, f (veil o) = f o) : Tame Q P S Z B (getObj r >>= f) := fun _ => ⟨h, hv⟩
theorem t_setObj {Z A : Unit → Prop} {r : Nat} {o : Obj} (ho : veil o = o) (hc : o.isChan = false) (h : A ()) : Tame Q P S Z A (setObj r o) := fun _ => ⟨⟨ho, hc⟩, h⟩
theorem t_shape {Z B : β → Prop} {r : Nat} {f : Option (TypeId × Nat) → Sem β} (h : ∀ x, Tame Q P S Z B (f x)) (h0 : (∀ t, Doomed Q (f (some (t, 0)))) ∨ ∀ t n, f (some (t, 0)) = f (some (t, n))) : Tame Q P S Z B (shape r >>= f) := ⟨h, .inr h0⟩
theorem t_mark {Z A : Unit → Prop} (h : A ()) : Tame Q P S Z A (mark .noRoom) := ⟨rfl, h⟩

theorem Stubbed.ex (h : Stubbed Q P) : ∃ F, Q = { P with funcs := F } := ⟨Q.funcs, h.eq⟩

theorem t_underlying (hst : Stubbed Q P) {t : TypeId} {Z A : TypeDesc → Prop} (h : ∀ d, P.underlying t = some d → A d) : Tame Q P S Z A (underlying t) := by
  obtain ⟨F, rfl⟩ := hst.ex
  refine t_prog rfl ?_
  split
  · exact h _ ‹_›
  · exact t_stuck
theorem t_typeInfo (hst : Stubbed Q P) {t : TypeId} {Z A : TypeInfo → Prop} (h : ∀ d, P.info? t = some d → A d) : Tame Q P S Z A (typeInfo t) := by
  obtain ⟨F, rfl⟩ := hst.ex
  refine t_prog rfl ?_
  split
  · exact h _ ‹_›
  · exact t_stuck
theorem t_zeroValue (hst : Stubbed Q P) {t : TypeId} {Z A : Value → Prop} (h : ∀ d, A d) : Tame Q P S Z A (zeroValue t) := by
  refine tb (t_typeInfo hst fun i _ => ?_)
  split
  · exact h _
  · exact trivial
theorem t_sizeOf (hst : Stubbed Q P) {t : TypeId} {Z A : Nat → Prop} (h : ∀ i, P.info? t = some i → A i.size) : Tame Q P S Z A (sizeOf t) :=
  tb (t_typeInfo hst fun i hi => h i hi)
theorem t_isAgg (hst : Stubbed Q P) {t : TypeId} {Z A : Bool → Prop} (h : ∀ d, A d) : Tame Q P S Z A (isAgg t) := by
  refine tb (t_underlying hst fun d _ => ?_)
  split <;> exact h _
theorem t_loadCellsFrom {a : Addr} {Z A : Array Value → Prop} (h : ∀ d, A d) : ∀ (n i : Nat) (acc : Array Value), Tame Q P S Z A (loadCellsFrom a i n acc)
  | 0, _, _ => h _
  | n + 1, i, acc => tb (t_load fun v => t_loadCellsFrom h n (i + 1) (acc.push v))
theorem t_loadCells {a : Addr} {n : Nat} {Z A : Array Value → Prop} (h : ∀ d, A d) : Tame Q P S Z A (loadCells a n) := t_loadCellsFrom h _ _ _
theorem t_storeCells {a : Addr} {Z A : Unit → Prop} (h : A ()) : ∀ (vs : List Value) (i : Nat), Tame Q P S Z A (storeCells a vs i)
  | [], _ => h
  | _ :: rest, i => tb (t_store (t_storeCells h rest (i + 1)))
theorem t_loadVar (hst : Stubbed Q P) {t : TypeId} {a : Addr} {Z A : Value → Prop} (h : ∀ d, A d) : Tame Q P S Z A (loadVar t a) := by
  refine tb (t_isAgg hst fun b => ?_)
  split
  · exact tb (t_sizeOf hst fun i _ => tb (t_loadCells fun _ => h _))
  · exact t_load h
theorem t_storeVar (hst : Stubbed Q P) {t : TypeId} {a : Addr} {x : Value} {Z A : Unit → Prop} (h : A ()) : Tame Q P S Z A (storeVar t a x) := by
  refine tb (t_sizeOf hst fun i _ => ?_)
  split
  · exact tb t_stuck
  · exact t_storeCells h _ _
theorem t_newRow {t : TypeId} {c : Array Value} {Z A : Addr → Prop} (h : ∀ d, A d) : Tame Q P S Z A (newRow t c) := tb (t_new rfl fun _ => h _)
theorem t_newVar {t : TypeId} {x : Value} {Z A : Addr → Prop} (h : ∀ d, A d) : Tame Q P S Z A (newVar t x) := t_newRow h
theorem t_elemOf (hst : Stubbed Q P) {t : TypeId} {Z A : TypeId → Prop} (h : ∀ d, A d) : Tame Q P S Z A (elemOf t) := by
  refine tb (t_underlying hst fun d _ => ?_)
  split
  · exact h _
  · exact t_stuck
theorem t_part (hst : Stubbed Q P) {t : TypeId} {cs : Array Value} {off : Nat} {Z A : Value → Prop} (h : ∀ d, A d) : Tame Q P S Z A (part t cs off) := by
  refine tb (t_isAgg hst fun b => ?_)
  split
  · exact tb (t_sizeOf hst fun i _ => h _)
  · split
    · exact h _
    · exact t_stuck
theorem t_goPanic {Z A : α → Prop} {x : Value} : Tame Q P S Z A (goPanic x) := trivial
theorem t_runtimePanic (hst : Stubbed Q P) {e : RuntimeError} {Z A : α → Prop} : Tame Q P S Z A (runtimePanic e) := by
  have hst' := hst
  obtain ⟨F, rfl⟩ := hst.ex
  refine t_prog rfl ?_
  cases e with
  | typeAssertion i c a m => exact tb (t_elemOf hst' fun _ => tb (t_newVar fun _ => t_goPanic))
  | panicNil => exact tb (t_elemOf hst' fun _ => tb (t_newVar fun _ => t_goPanic))
  | _ => exact t_goPanic
theorem t_boundsPanic (hst : Stubbed Q P) {k : IntKind} {x y : Int} {c : BoundsCode} {Z A : α → Prop} : Tame Q P S Z A (boundsPanic k x y c) := by
  unfold boundsPanic
  split
  · exact tb (tb (t_choose fun n => t_pure (t_runtimePanic hst)))
  · exact tb (t_pure (t_runtimePanic hst))
theorem t_asIntOf {x : Value} {Z A : IntKind × Int → Prop} (h : ∀ d, A d) : Tame Q P S Z A (asIntOf x) := by
  unfold asIntOf
  split
  · exact h _
  · exact trivial
  · exact t_stuck
theorem t_asInt {x : Value} {Z A : Int → Prop} (h : ∀ d, A d) : Tame Q P S Z A (asInt x) := tb (t_asIntOf fun _ => h _)
theorem t_asBool {x : Value} {Z A : Bool → Prop} (h : ∀ d, A d) : Tame Q P S Z A (asBool x) := by
  unfold asBool
  split
  · exact h _
  · exact t_stuck
theorem t_asAgg {x : Value} {Z A : Array Value → Prop} (h : ∀ d, A d) : Tame Q P S Z A (asAgg x) := by
  unfold asAgg
  split
  · exact h _
  · exact t_stuck
theorem t_asAddr (hst : Stubbed Q P) {x : Value} {Z A : Addr → Prop} (h : ∀ d, A d) : Tame Q P S Z A (asAddr x) := by
  unfold asAddr
  split
  · exact h _
  · exact t_runtimePanic hst
  · exact t_stuck
theorem t_sureAddr {x : Value} {Z A : Addr → Prop} (h : ∀ d, A d) : Tame Q P S Z A (Instr.sureAddr x) := by
  unfold Instr.sureAddr
  split
  · exact h _
  · exact t_stuck
theorem t_askRoom {n : Nat} {Z A : Unit → Prop} (h : A ()) : Tame Q P S Z A (askRoom n) := by
  unfold askRoom
  split
  · exact t_mark h
  · exact h

/-! ### addresses that are looked at -/
theorem t_noView {a : Addr} {Z A : Unit → Prop} (h : A ()) : Tame Q P S Z A (noView a) := by
  unfold noView viewAt
  simp only [bind_assoc]
  refine t_shape (fun x => ?_) (.inr fun _ _ => rfl)
  cases x with
  | some _ => exact h
  | none =>
    simp only [Option.isSome_none, Bool.false_eq_true, if_false, bind_assoc]
    refine t_getObj (fun o => ?_) (fun o => ?_)
    · cases o <;> first | exact h | exact trivial
    · cases o <;> rfl
end
end Go.Proofs.Ytdafpnpfcmgfcab
namespace Go.Proofs.Ytdafpnpfcmgfcab
open Go
section
variable {Q P : Program} {S : Nat → Prop}

/-- It is tame, whatever it yields. -/
def Tm {α : Type} (Q P : Program) (S : Nat → Prop) (s : Sem α) : Prop := Tame Q P S (fun _ => False) (fun _ => True) s

theorem tmb {α β : Type} {f : α → Sem β} {s : Sem α} (h : Tm Q P S s) (hf : ∀ a, Tm Q P S (f a)) : Tm Q P S (s >>= f) := tb' h fun a _ => hf a
theorem tm_pure {α : Type} {a : α} : Tm Q P S (pure a) := trivial
theorem tm_stuck {α : Type} {m : String} : Tm Q P S (stuck m : Sem α) := trivial
theorem tm_choose {q : Question} : Tm Q P S (choose q) := fun _ => trivial
theorem tm_asBool {x : Value} : Tm Q P S (asBool x) := t_asBool fun _ => trivial
theorem tm_panic {α : Type} (hst : Stubbed Q P) {e : RuntimeError} : Tm Q P S (runtimePanic e : Sem α) := t_runtimePanic hst

theorem tm_floatArith {op : BinOp} {k : FloatKind} {x y : Nat} : Tm Q P S (Op.floatArith op k x y) := by
  unfold Op.floatArith
  cases op
  all_goals refine tmb (by first | exact tm_pure | exact tm_stuck) fun r => ?_
  all_goals cases r with
    | some _ => exact tm_pure
    | none => exact tmb tm_choose fun _ => tm_pure
theorem tm_floatCmp {op : BinOp} {k : FloatKind} {x y : Nat} : Tm Q P S (Op.floatCmp op k x y) := by
  unfold Op.floatCmp
  cases op <;> first | exact tm_pure | exact tm_stuck
theorem tm_floatToFloat {s d : FloatKind} {b : Nat} : Tm Q P S (Conv.floatToFloat s b d) := by
  unfold Conv.floatToFloat
  repeat' (first | with_reducible exact tm_pure | with_reducible exact tm_stuck | with_reducible exact tm_choose | with_reducible refine tmb tm_choose fun _ => ?_ | dsimp only | split | trivial)
theorem tm_floatToInt {s : FloatKind} {d : IntKind} {b : Nat} : Tm Q P S (Conv.floatToInt s b d) := by
  unfold Conv.floatToInt
  repeat' (first | with_reducible exact tm_pure | with_reducible exact tm_stuck | with_reducible exact tm_choose | with_reducible refine tmb tm_choose fun _ => ?_ | dsimp only | split | trivial)
theorem tm_cArith {op : BinOp} {k : FloatKind} {x y : Nat} : Tm Q P S (Op.Complex.arith op k x y) := by
  unfold Op.Complex.arith
  refine tmb tm_floatArith fun r => ?_
  cases r <;> first | exact tm_pure | exact tm_stuck
theorem tm_cCmp {op : BinOp} {k : FloatKind} {x y : Nat} : Tm Q P S (Op.Complex.cmp op k x y) := tmb tm_floatCmp fun _ => tm_asBool
theorem tm_cConv {s d : FloatKind} {x : Nat} : Tm Q P S (Op.Complex.conv s x d) := by
  unfold Op.Complex.conv
  split
  · exact tm_pure
  · refine tmb tm_floatToFloat fun r => ?_
    cases r <;> first | exact tm_pure | exact tm_stuck
theorem tm_cAdd {x y : Nat} : Tm Q P S (Op.Complex.add x y) := tm_cArith
theorem tm_cSub {x y : Nat} : Tm Q P S (Op.Complex.sub x y) := tm_cArith
theorem tm_cMul {x y : Nat} : Tm Q P S (Op.Complex.mul x y) := tm_cArith
theorem tm_cQuo {x y : Nat} : Tm Q P S (Op.Complex.quo x y) := tm_cArith
theorem tm_product {a b c d : Nat} : Tm Q P S (Op.Complex.product a b c d) := by
  unfold Op.Complex.product
  repeat' (first | with_reducible exact tm_pure | with_reducible exact tm_cMul | with_reducible exact tm_cAdd | with_reducible exact tm_cSub | with_reducible refine tmb ?_ fun _ => ?_ | dsimp only)
theorem tm_corrected {s a b c d : Nat} : Tm Q P S (Op.Complex.corrected s a b c d) := by
  unfold Op.Complex.corrected
  repeat' (first | with_reducible exact tm_pure | with_reducible exact tm_cMul | with_reducible exact tm_cAdd | with_reducible exact tm_cSub | with_reducible refine tmb ?_ fun _ => ?_ | dsimp only)
theorem tm_quotient {a b c d : Nat} : Tm Q P S (Op.Complex.quotient a b c d) := by
  unfold Op.Complex.quotient
  repeat' (first | with_reducible exact tm_pure | with_reducible exact tm_cMul | with_reducible exact tm_cAdd | with_reducible exact tm_cSub | with_reducible exact tm_cQuo | with_reducible exact tm_cCmp | with_reducible exact tm_corrected | with_reducible refine tmb ?_ fun _ => ?_ | dsimp only | split)
theorem tm_complexOp {op : BinOp} {k : FloatKind} {a b c d : Nat} : Tm Q P S (Op.complexOp op k a b c d) := by
  unfold Op.complexOp
  cases op
  all_goals repeat' (first | with_reducible exact tm_pure | with_reducible exact tm_stuck | with_reducible exact tm_cArith | with_reducible exact tm_cCmp | with_reducible exact tm_cConv | with_reducible exact tm_product | with_reducible exact tm_quotient | with_reducible refine tmb ?_ fun _ => ?_ | dsimp only | split)
theorem tm_intArith {op : BinOp} {k : IntKind} {a b : Int} : Tm Q P S (Op.intArith op k a b) := by
  unfold Op.intArith
  cases op <;> first | exact tm_pure | exact tm_stuck
theorem tm_intDiv (hst : Stubbed Q P) {op : BinOp} {k : IntKind} {a b : Int} : Tm Q P S (Op.intDiv op k a b) := by
  unfold Op.intDiv
  split
  · exact tm_panic hst
  · cases op <;> first | exact tm_pure | exact tm_stuck
theorem tm_intBits {op : BinOp} {k : IntKind} {a b : Int} : Tm Q P S (Op.intBits op k a b) := by
  unfold Op.intBits
  cases op <;> first | exact tm_pure | exact tm_stuck
theorem tm_intCmp {op : BinOp} {a b : Int} : Tm Q P S (Op.intCmp op a b) := by
  unfold Op.intCmp
  cases op <;> first | exact tm_pure | exact tm_stuck
theorem tm_shift (hst : Stubbed Q P) {op : BinOp} {k k' : IntKind} {a b : Int} : Tm Q P S (Op.shift op k a k' b) := by
  unfold Op.shift
  split
  · exact tm_panic hst
  · cases op <;> first | exact tm_pure | exact tm_stuck
theorem tm_stringOp {op : BinOp} {a b : ByteArray} : Tm Q P S (Op.stringOp op a b) := by
  unfold Op.stringOp
  cases op
  all_goals first | exact tm_pure | exact tm_stuck | (dsimp only; split; (exact trivial); (exact tm_pure))
theorem tm_unary {op : UnOp} {x : Value} : Tm Q P S (Op.unary op x) := by
  unfold Op.unary
  split <;> first | exact tm_pure | exact tm_stuck | exact tm_intArith | exact tm_intBits | exact trivial
end
end Go.Proofs.Ytdafpnpfcmgfcab
namespace Go.Proofs.Ytdafpnpfcmgfcab
open Go
section
variable {Q P : Program} {S : Nat → Prop}

theorem tm_any {α : Type} {Z A : α → Prop} {s : Sem α} (h : Tm Q P S s) (hA : ∀ a, A a) : Tame Q P S Z A s := t_any h hA

theorem tm_numberAt {r : Nat} : Tm Q P S (numberAt r) := by
  unfold numberAt
  refine t_shape (fun x => ?_) (.inr fun _ _ => rfl)
  cases x with
  | some _ => exact trivial
  | none =>
    simp only [Option.isSome_none, Bool.false_eq_true, if_false]
    refine t_getObj (fun o => ?_) (fun o => ?_)
    · cases o <;> exact trivial
    · cases o <;> rfl
theorem t_viewAt {β : Type} {Z A : β → Prop} {r : Nat} {f : Option (Addr × TypeId) → Sem β} (h : ∀ o, Tame Q P S Z A (f o)) (hs : ∀ x y, f (some x) = f (some y)) : Tame Q P S Z A (viewAt r >>= f) := by
  unfold viewAt
  simp only [bind_assoc]
  refine t_shape (fun x => ?_) (.inr fun _ _ => rfl)
  cases x with
  | some _ => exact h none
  | none =>
    simp only [Option.isSome_none, Bool.false_eq_true, if_false, bind_assoc]
    refine t_getObj (fun o => ?_) (fun o => ?_)
    · cases o <;> exact h _
    · cases o <;> first | rfl | exact hs _ _
theorem tm_behindNumber {a : Addr} : Tm Q P S (behindNumber a) := tmb tm_numberAt fun _ => tm_pure
theorem tm_asNumber {a : Addr} {l : Bool} : Tm Q P S (asNumber a l) := tmb (t_new rfl fun _ => trivial) fun _ => tm_pure
theorem tm_asInt {x : Value} : Tm Q P S (asInt x) := t_asInt fun _ => trivial
theorem tm_underlying (hst : Stubbed Q P) {t : TypeId} : Tm Q P S (underlying t) := t_underlying hst fun _ _ => trivial
theorem tm_typeInfo (hst : Stubbed Q P) {t : TypeId} : Tm Q P S (typeInfo t) := t_typeInfo hst fun _ _ => trivial
theorem tm_unsupported {α : Type} {u : Unsupported} (h : ∀ g, u ≠ .initOrder g := by intro _ h; cases h) : Tm Q P S (unsupported u : Sem α) := by
  cases u <;> first | exact trivial | exact absurd rfl (h _)

theorem under_same {F : Array Func} (t : TypeId) : Program.underlying { P with funcs := F } t = P.underlying t := rfl
theorem cells_same {F : Array Func} (t : TypeId) : Program.cellsOf { P with funcs := F } t = P.cellsOf t := rfl
theorem bytes_same {F : Array Func} (t : TypeId) : Program.bytesOf { P with funcs := F } t = P.bytesOf t := rfl
theorem byteOfCell_same {F : Array Func} : ∀ (d : Nat) (t : TypeId) (o : Nat), byteOfCell { P with funcs := F } d t o = byteOfCell P d t o
  | 0, _, _ => rfl
  | d + 1, t, o => by
    simp only [byteOfCell, under_same, cells_same, bytes_same, byteOfCell_same d]
    rfl
theorem cellOfByte_same {F : Array Func} : ∀ (d : Nat) (t : TypeId) (o : Nat), cellOfByte { P with funcs := F } d t o = cellOfByte P d t o
  | 0, _, _ => rfl
  | d + 1, t, o => by
    simp only [cellOfByte, under_same, cells_same, bytes_same, cellOfByte_same d]
    rfl
theorem cellAtBytes_same {F : Array Func} (d : Nat) (e : TypeId) (c o : Nat) (b : Int) : cellAtBytes { P with funcs := F } d e c o b = cellAtBytes P d e c o b := by
  simp only [cellAtBytes, cells_same, bytes_same, byteOfCell_same, cellOfByte_same]
  rfl
theorem depth_same {F : Array Func} : Program.depth { P with funcs := F } = P.depth := rfl

theorem tm_byteOf (hst : Stubbed Q P) {a : Addr} : Tm Q P S (byteOf a) := by
  obtain ⟨F, rfl⟩ := hst.ex
  unfold byteOf
  split
  · exact tm_pure
  refine t_prog ?_ ?_
  · simp only [cells_same, bytes_same, byteOfCell_same, depth_same]
  refine tmb (t_noView trivial) fun _ => ?_
  refine t_shape (fun x => ?_) (.inr fun _ _ => rfl)
  cases x with
  | none => exact trivial
  | some x =>
    dsimp only
    split
    · exact tm_pure
    · split
      · exact tm_pure
      · exact tm_stuck
theorem cellAt_none (p : Program) (d : Nat) (e : TypeId) (o : Nat) (b : Int) (s : Nat) : cellAtBytes p d e (0 / s) o b = none := by
  unfold cellAtBytes
  simp only [Nat.zero_div, Nat.zero_mul]
  repeat' (first | rfl | split | (simp only [bind, Option.bind]))
  all_goals first | rfl | (simp_all; omega)
theorem tm_unsafeAdd (hst : Stubbed Q P) {ts : Array TypeId} {t : TypeId} {x y : Value} : Tm Q P S (Builtin.unsafeAdd_ ts t #[x, y]) := by
  obtain ⟨F, rfl⟩ := hst.ex
  unfold Builtin.unsafeAdd_
  cases x
  case pointer ptr =>
    refine tmb tm_asInt fun n => ?_
    dsimp only
    by_cases h0 : n = 0
    · simp only [h0, if_true]
      cases ptr with
      | none => exact trivial
      | some a =>
        refine t_viewAt (fun o => ?_) (fun _ _ => rfl)
        cases o <;> exact trivial
    · simp only [h0, if_false]
      by_cases h1 : n < 0
      · simp only [h1, if_true]
        exact trivial
      · simp only [h1, if_false]
        cases ptr with
        | none => exact trivial
        | some a =>
          refine t_shape (fun x => ?_) (.inl fun t => ?_)
          · cases x with
            | none => exact trivial
            | some x =>
              refine t_prog ?_ ?_
              · simp only [cells_same, cellAtBytes_same, depth_same]
              · split
                · exact tm_pure
                · exact trivial
          · show Doomed _ (program >>= _)
            simp only [cellAt_none]
            exact trivial
  all_goals exact tm_stuck
end
end Go.Proofs.Ytdafpnpfcmgfcab
