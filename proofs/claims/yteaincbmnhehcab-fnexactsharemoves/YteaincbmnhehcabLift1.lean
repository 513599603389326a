/- Two runs in step: a lone one in a world whose shunned blocks are broken, and one in company. The law of Sem. -/
import Derived.Conc.Beside
namespace Go.Proofs.Yteaincbmnhehcab
open Go

/-- What the lone world holds in an object's stead: of memory seen as another type a view that nobody can look through; of a variable that waits for its value something that is no row. No two are veiled alike. -/
def veil : Obj → Obj
  | .view a t => .view ⟨a.block, a.off, some (match a.spot with | none => 0 | some k => k + 1)⟩ t
  | .pending c t => .finalizers #[(t, { (default : Deferred) with args := c })] (some 0)
  | .finalizers fs r => .finalizers fs (match r with | none => none | some k => some (k + 1))
  | o => o
theorem veil_inj {a b : Obj} (h : veil a = veil b) : a = b := by
  cases a <;> cases b <;> simp only [veil, Obj.view.injEq, Obj.finalizers.injEq, Addr.mk.injEq, Option.some.injEq, reduceCtorEq] at h ⊢
  all_goals first | exact h | skip
  case pending.pending c t c' t' => simpa [and_comm] using h
  case pending.finalizers c t fs r => cases r <;> simp at h
  case finalizers.pending fs r c t => cases r <;> simp at h
  case finalizers.finalizers fs r fs' r' => cases r <;> cases r' <;> simp at h ⊢ <;> exact h
  case view.view a t a' t' =>
    obtain ⟨b1, o1, s1⟩ := a
    obtain ⟨b2, o2, s2⟩ := a'
    cases s1 <;> cases s2 <;> simp at h ⊢ <;> exact h

/-- A world in which no look goes through a view and no variable waits. -/
def Whole (v : World) : Prop := ∀ (b : Nat) o, v.heap[b]? = some o → (∀ c t, o ≠ .pending c t) ∧ ∀ a t, o = .view a t → a.spot.isSome = true

/-- The lone world 'v' is 'w', the shunned blocks broken (rows without a cell), the others veiled; its tape is another. -/
structure Cp (S : Nat → Prop) (v w : World) : Prop where
  size : v.heap.size = w.heap.size
  low : ∀ b, S b → b < v.heap.size
  out : ∀ b, ¬ S b → v.heap[b]? = (w.heap[b]?).map veil
  brk : ∀ b, S b → ∃ t c f, v.heap[b]? = some (.cells #[] t f) ∧ w.heap[b]? = some (.cells c t f)
  os : v.os = w.os
  output : v.output = w.output

theorem veil_cells {o : Obj} {c : Array Value} {t : TypeId} {f : Nat × Nat} : veil o = .cells c t f ↔ o = .cells c t f := by cases o <;> simp [veil]
theorem Cp.whole {S : Nat → Prop} {v w : World} (h : Cp S v w) : Whole v := by
  intro b o e
  by_cases hb : S b
  · obtain ⟨t, c, f, e1, _⟩ := h.brk b hb
    rw [e1] at e
    cases e
    exact ⟨fun _ _ => by simp, fun _ _ => by simp⟩
  · rw [h.out b hb] at e
    obtain ⟨o', _, rfl⟩ := Option.map_eq_some_iff.1 e
    constructor
    · intro c t; cases o' <;> simp [veil]
    · intro a t e
      cases o' <;> simp [veil] at e
      obtain ⟨rfl, _⟩ := e
      rfl

/-- A halt that ends the run. -/
def Ends : Halt → Prop
  | .stuck _ => True
  | .unsupported (.initOrder _) => False
  | .unsupported _ => True
  | _ => False

/-- Whatever it meets, it halts, and the run ends. -/
def Doomed {α : Type} (Q : Program) : Sem α → Prop
  | .pure _ | .store _ _ _ _ | .new _ _ | .freeze _ _ _ | .setObj _ _ _ | .sys _ _ => False
  | .load _ _ k => ∀ v, Doomed Q (k v)
  | .shape _ k => ∀ x, Doomed Q (k x)
  | .frozen _ k => ∀ b, Doomed Q (k b)
  | .getObj _ k => ∀ o, Doomed Q (k o)
  | .choose _ k => ∀ n, Doomed Q (k n)
  | .program k => Doomed Q (k Q)
  | .mark _ k => Doomed Q k
  | .halt h => Ends h

/-- A halt that an operation in use may come to. -/
def MayHalt : Halt → Prop
  | .panic _ => True
  | h => Ends h

/-- It does not ask how many cells a shunned block has (or is doomed there), says no word but 'noRoom', makes nothing odd; the program is asked for nothing in which the two differ (or the lone run yields at once what meets Z); what it yields meets A. -/
def Tame {α : Type} (Q P : Program) (S : Nat → Prop) (Z A : α → Prop) : Sem α → Prop
  | .pure a => A a
  | .load _ a k => ¬ S a.block → ∀ v, Tame Q P S Z A (k v)
  | .store _ a _ k => ¬ S a.block → Tame Q P S Z A k
  | .new o k => veil o = o ∧ ∀ r, ¬ S r → Tame Q P S Z A (k r)
  | .shape r k => (∀ x, Tame Q P S Z A (k x)) ∧ (¬ S r ∨ (∀ t, Doomed Q (k (some (t, 0)))) ∨ ∀ t n, k (some (t, 0)) = k (some (t, n)))
  | .freeze _ _ k => Tame Q P S Z A k
  | .frozen _ k => ∀ b, Tame Q P S Z A (k b)
  | .getObj r k => ¬ S r → (∀ o, Tame Q P S Z A (k o)) ∧ ∀ o, k (veil o) = k o
  | .setObj r o k => ¬ S r → (veil o = o ∧ o.isChan = false) ∧ Tame Q P S Z A k
  | .choose _ k => ∀ n, Tame Q P S Z A (k n)
  | .sys _ _ => False
  | .program k => (k Q = k P ∧ Tame Q P S Z A (k P)) ∨ ∃ a, k Q = .pure a ∧ Z a
  | .mark m k => m = .noRoom ∧ Tame Q P S Z A k
  | .halt h => MayHalt h

def Result.w {α : Type} : Result α → World
  | .ok _ w => w
  | .halt _ w => w

/-- What is listed: no shunned place; below B. -/
def OkE (S : Nat → Prop) (B : Nat) (e : Event) : Prop :=
  match e.loc with
  | .cell a => ¬ S a.block ∧ a.block < B
  | .obj r => ¬ S r ∧ r < B ∧ (e.write && e.sync) = false
  | .mark .noRoom => True
  | _ => False

section
variable {α : Type} {Q P : Program} {S : Nat → Prop} {Z A : α → Prop}

theorem OkE.mono {B B' : Nat} (h : B ≤ B') {e : Event} (he : OkE S B e) : OkE S B' e := by
  unfold OkE at *
  split at he
  · exact ⟨he.1, by omega⟩
  · exact ⟨he.1, by omega, he.2.2⟩
  · trivial
  · exact he

/-- Both runs have done the same. -/
def Both (S : Nat → Prop) (Q P : Program) (A : α → Prop) (s : Sem α) (v w : World) (es : Array Event) : Prop :=
  ∃ us v1 w1, Cp S v1 w1 ∧ v1.tape = v.tape ∧ w1.tape = w.tape ∧ w.heap.size ≤ w1.heap.size ∧ (∃ c, v1.drawn = v.drawn + c ∧ w1.drawn = w.drawn + c) ∧ (∀ e ∈ us, OkE S w1.heap.size e) ∧
    ((∃ a, A a ∧ s.runT Q v es = (.ok a v1, es ++ us) ∧ s.runT P w es = (.ok a w1, es ++ us)) ∨ (∃ h, MayHalt h ∧ s.runT Q v es = (.halt h v1, es ++ us) ∧ s.runT P w es = (.halt h w1, es ++ us)))
def Dead (Q : Program) (Z : α → Prop) (s : Sem α) (v : World) (es : Array Event) : Prop := (∃ h v', (s.runT Q v es).1 = .halt h v' ∧ Ends h) ∨ ∃ a v', (s.runT Q v es).1 = .ok a v' ∧ Z a

theorem noCell_ends (w : World) (a : Addr) (what : String) (h : Whole w) : Ends (w.noCell a what) := by
  unfold World.noCell
  split
  · rename_i e; exact absurd rfl ((h _ _ e).1 _ _)
  · trivial
  · trivial
theorem seen_no (p : Program) (w : World) {a : Addr} (h : a.spot.isSome = true) (u : TypeId) (k : Addr) (b : Bool) : ∃ e, w.seen p a u k b = .error e := by
  unfold World.seen
  simp only [h, Bool.or_true, if_true]
  exact ⟨_, rfl⟩
theorem farLoad_no (p : Program) {w : World} (h : Whole w) (a : Addr) (b : Bool) : ∃ e, w.farLoad p a b = .error e ∧ Ends e := by
  unfold World.farLoad
  split
  · rename_i at_ u e
    obtain ⟨x, hx⟩ := seen_no p w ((h _ _ e).2 _ _ rfl) u a b
    exact ⟨.unsupported (.unsafePointer x), by simp only [World.viewLoad, hx, bind, Except.bind], trivial⟩
  · exact ⟨_, rfl, noCell_ends w a _ h⟩
theorem farStore_no (p : Program) {w : World} (h : Whole w) (a : Addr) (v : Value) (b : Bool) : ∃ e, w.farStore p a v b = .error e ∧ Ends e := by
  unfold World.farStore
  split
  · rename_i at_ u e
    obtain ⟨x, hx⟩ := seen_no p w ((h _ _ e).2 _ _ rfl) u a b
    by_cases ht : tight p p.depth u = true
    · exact ⟨.unsupported (.unsafePointer x), by simp only [World.viewStore, hx, ht, bind, Except.bind, Bool.not_true, Bool.false_eq_true, if_false], trivial⟩
    · have hv : ∃ x, w.viewStore p at_ u a v b = .error x := by
        simp only [World.viewStore, ht, bind, Except.bind, Bool.not_false, if_true]; exact ⟨_, rfl⟩
      obtain ⟨x, hv⟩ := hv
      exact ⟨.unsupported (.unsafePointer x), by simp only [hv], trivial⟩
  · exact ⟨_, rfl, noCell_ends w a _ h⟩

theorem Cp.cell {v w : World} (h : Cp S v w) {a : Addr} (ha : ¬ S a.block) : v.cell? a = w.cell? a := by
  unfold World.cell?; rw [h.out _ ha]
  cases hw : w.heap[a.block]? with
  | none => rfl
  | some o => cases o <;> rfl
theorem Cp.cellS {v w : World} (h : Cp S v w) {a : Addr} (ha : S a.block) : v.cell? a = none := by
  obtain ⟨t, c, f, e, _⟩ := h.brk _ ha
  unfold World.cell?; rw [e]; simp
theorem cellA_lt {w : World} {a : Addr} {x : Value} (h : w.cell? a = some x) : a.block < w.heap.size := by
  unfold World.cell? at h
  split at h
  · rename_i e; exact (Array.getElem?_eq_some_iff.1 e).1
  · cases h
theorem Cp.shape {v w : World} (h : Cp S v w) {r : Nat} (hr : ¬ S r) : v.shape? r = w.shape? r := by
  unfold World.shape?; rw [h.out _ hr]
  cases hw : w.heap[r]? with
  | none => rfl
  | some o => cases o <;> rfl
theorem Cp.shapeS {v w : World} (h : Cp S v w) {r : Nat} (hr : S r) : ∃ t n, v.shape? r = some (t, 0) ∧ w.shape? r = some (t, n) := by
  obtain ⟨t, c, f, e1, e2⟩ := h.brk _ hr
  exact ⟨t, c.size, by unfold World.shape?; rw [e1]; rfl, by unfold World.shape?; rw [e2]⟩
theorem Cp.frozen {v w : World} (h : Cp S v w) (a : Addr) : v.frozen? a = w.frozen? a := by
  by_cases ha : S a.block
  · obtain ⟨t, c, f, e1, e2⟩ := h.brk _ ha
    unfold World.frozen?; rw [e1, e2]
  unfold World.frozen?; rw [h.out _ ha]
  cases hw : w.heap[a.block]? with
  | none => rfl
  | some o => cases o <;> rfl

/-- The rest of the two runs, behind a step of both. -/
theorem Both.behind {s : Sem α} {k : Sem α} {v w v2 w2 : World} {es us0 : Array Event} {c0 : Nat}
    (h1 : s.runT Q v es = k.runT Q v2 (es ++ us0)) (h2 : s.runT P w es = k.runT P w2 (es ++ us0))
    (ht1 : v2.tape = v.tape) (ht2 : w2.tape = w.tape) (hd1 : v2.drawn = v.drawn + c0) (hd2 : w2.drawn = w.drawn + c0) (hs : w.heap.size ≤ w2.heap.size)
    (hok : ∀ e ∈ us0, OkE S w2.heap.size e) (h : Dead Q Z k v2 (es ++ us0) ∨ Both S Q P A k v2 w2 (es ++ us0)) : Dead Q Z s v es ∨ Both S Q P A s v w es := by
  rcases h with (⟨h, v', hd, hE⟩ | ⟨a, v', hd, hE⟩) | ⟨us, v1, w1, c1, t1, t2, hs1, ⟨c, hc1, hc2⟩, hok1, hb⟩
  · exact .inl (.inl ⟨h, v', by rw [h1]; exact hd, hE⟩)
  · exact .inl (.inr ⟨a, v', by rw [h1]; exact hd, hE⟩)
  · refine .inr ⟨us0 ++ us, v1, w1, c1, t1.trans ht1, t2.trans ht2, Nat.le_trans hs hs1, ⟨c0 + c, by omega, by omega⟩, ?_, ?_⟩
    · intro e he
      rcases Array.mem_append.1 he with he | he
      · exact (hok e he).mono hs1
      · exact hok1 e he
    · rw [h1, h2, ← Array.append_assoc]
      exact hb

/-- One block is turned on both sides, by a function that leaves all but rows of cells alone and keeps a row a row. -/
theorem Cp.modify {v w : World} (h : Cp S v w) (b0 : Nat) (f : Obj → Obj) (hv : ∀ o, veil (f o) = f (veil o))
    (hS : S b0 → ∀ t fr, ∃ fr', f (.cells #[] t fr) = .cells #[] t fr' ∧ ∀ c, ∃ c', f (.cells c t fr) = .cells c' t fr') :
    Cp S { v with heap := v.heap.modify b0 f } { w with heap := w.heap.modify b0 f } := by
  have hm : ∀ (H : Array Obj) (b : Nat), (H.modify b0 f)[b]? = if b0 = b then H[b]?.map f else H[b]? := fun H b => by rw [Array.getElem?_modify]
  refine ⟨by simpa using h.size, fun b hb => by simpa using h.low b hb, fun b hb => ?_, fun b hb => ?_, h.os, h.output⟩
  · simp only [hm]
    split
    · rw [h.out b hb]
      cases w.heap[b]? with
      | none => rfl
      | some o => simp [hv]
    · exact h.out b hb
  · simp only [hm]
    obtain ⟨t, c, fr, e1, e2⟩ := h.brk b hb
    split
    · rename_i e0
      subst e0
      obtain ⟨fr', g1, g2⟩ := hS hb t fr
      obtain ⟨c', g3⟩ := g2 c
      exact ⟨t, c', fr', by rw [e1]; simp [g1], by rw [e2]; simp [g3]⟩
    · exact ⟨t, c, fr, e1, e2⟩
theorem Cp.setCell {v w : World} (h : Cp S v w) {a : Addr} (ha : ¬ S a.block) (x : Value) : Cp S (v.setCell a x) (w.setCell a x) :=
  h.modify a.block _ (fun o => by cases o <;> rfl) (fun hs => absurd hs ha)
theorem Cp.freeze {v w : World} (h : Cp S v w) (a : Addr) (n : Nat) : Cp S (v.freeze a n) (w.freeze a n) := by
  by_cases hn : n = 0
  · subst hn; simpa [World.freeze] using h
  · have e : ∀ u : World, u.freeze a n = { u with heap := u.heap.modify a.block fun
      | .cells c elem (lo, hi) => .cells c elem (if lo == hi then (a.off, a.off + n) else (min lo a.off, max hi (a.off + n)))
      | o => o } := fun u => by
      unfold World.freeze; rw [if_neg hn]; rfl
    rw [e v, e w]
    exact h.modify a.block _ (fun o => by cases o <;> rfl)
      (fun _ t fr => ⟨_, rfl, fun c => ⟨c, rfl⟩⟩)

theorem Cp.push {v w : World} (h : Cp S v w) {o : Obj} (ho : veil o = o) : Cp S { v with heap := v.heap.push o } { w with heap := w.heap.push o } := by
  have hlt : ∀ b, S b → b ≠ v.heap.size := fun b hb e => by have := h.low b hb; omega
  refine ⟨by simp [h.size], fun b hb => by have := h.low b hb; simp; omega, fun b hb => ?_, fun b hb => ?_, h.os, h.output⟩
  · simp only [Array.getElem?_push, h.size]
    split
    · simp [ho]
    · exact h.out b hb
  · have h1 := hlt b hb
    have h2 : b ≠ w.heap.size := by rw [← h.size]; exact h1
    simp only [Array.getElem?_push, h1, h2, if_false]; exact h.brk b hb

theorem Cp.setObj {v w : World} (h : Cp S v w) {r : Nat} (hr : ¬ S r) {o : Obj} (ho : veil o = o) : Cp S { v with heap := v.heap.setIfInBounds r o } { w with heap := w.heap.setIfInBounds r o } := by
  have hne : ∀ b, S b → r ≠ b := fun b hb e => hr (e ▸ hb)
  refine ⟨by simp [h.size], fun b hb => by simpa using h.low b hb, fun b hb => ?_, fun b hb => ?_, h.os, h.output⟩
  · simp only [Array.getElem?_setIfInBounds, h.size]
    split
    · split <;> simp [ho]
    · exact h.out b hb
  · simp only [Array.getElem?_setIfInBounds, hne b hb, if_false]; exact h.brk b hb

theorem Cp.drew {v w : World} (h : Cp S v w) (d d' : Nat) : Cp S { v with drawn := d } { w with drawn := d' } := ⟨h.size, h.low, h.out, h.brk, h.os, h.output⟩

theorem dead_of {s k : Sem α} {v v2 : World} {es es2 : Array Event} (h1 : s.runT Q v es = k.runT Q v2 es2) (h : Dead Q Z k v2 es2) : Dead Q Z s v es := by
  rcases h with ⟨h, v', hd, hE⟩ | ⟨a, v', hd, hE⟩
  · exact .inl ⟨h, v', by rw [h1]; exact hd, hE⟩
  · exact .inr ⟨a, v', by rw [h1]; exact hd, hE⟩

theorem getObj_no {v : World} {r : Nat} {k : Obj → Sem α} {es : Array Event} (h : v.heap[r]? = none ∨ ∃ c t f, v.heap[r]? = some (.cells c t f)) : Dead Q Z (.getObj r k) v es := by
  rcases h with h | ⟨c, t, f, h⟩
  · exact .inl ⟨.stuck "getObj: no such block", v, by simp only [Sem.runT, h], trivial⟩
  · exact .inl ⟨.stuck "getObj: a row of cells", v, by simp only [Sem.runT, h], trivial⟩
theorem setObj_no {v : World} {r : Nat} {o : Obj} {k : Sem α} {es : Array Event} (h : v.heap[r]? = none ∨ ∃ c t f, v.heap[r]? = some (.cells c t f)) : Dead Q Z (.setObj r o k) v es := by
  rcases h with h | ⟨c, t, f, h⟩
  · exact .inl ⟨.stuck "setObj: no such block", v, by simp only [Sem.runT, h], trivial⟩
  · exact .inl ⟨.stuck "setObj: a row of cells", v, by simp only [Sem.runT, h], trivial⟩
theorem obj_cases (v : World) (r : Nat) : (v.heap[r]? = none ∨ ∃ c t f, v.heap[r]? = some (.cells c t f)) ∨ ∃ o, v.heap[r]? = some o ∧ ∀ c t f, o ≠ .cells c t f := by
  cases h : v.heap[r]? with
  | none => exact .inl (.inl rfl)
  | some o =>
    cases o with
    | cells c t f => exact .inl (.inr ⟨c, t, f, rfl⟩)
    | _ => exact .inr ⟨_, rfl, fun _ _ _ => by simp⟩
theorem getObj_run {p : Program} {w : World} {r : Nat} {k : Obj → Sem α} {es : Array Event} {o : Obj} (h : w.heap[r]? = some o) (hc : ∀ c t f, o ≠ .cells c t f) :
    Sem.runT p (.getObj r k) w es = (k o).runT p w (es ++ #[⟨.obj r, false, o.isChan⟩]) := by
  cases o <;> first | exact absurd rfl (hc _ _ _) | simp only [Sem.runT, h, Array.push_eq_append]
theorem setObj_run {p : Program} {w : World} {r : Nat} {x : Obj} {k : Sem α} {es : Array Event} {o : Obj} (h : w.heap[r]? = some o) (hc : ∀ c t f, o ≠ .cells c t f) :
    Sem.runT p (.setObj r x k) w es = k.runT p { w with heap := w.heap.setIfInBounds r x } (es ++ #[⟨.obj r, true, x.isChan⟩]) := by
  cases o <;> first | exact absurd rfl (hc _ _ _) | simp only [Sem.runT, h, Array.push_eq_append]

end

end Go.Proofs.Yteaincbmnhehcab
