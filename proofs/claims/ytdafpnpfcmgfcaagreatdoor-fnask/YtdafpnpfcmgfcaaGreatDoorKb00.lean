/- Two runs in step: a lone one in a world whose shunned blocks are broken, and one in company. The law of Sem. -/
import Derived.Conc.Beside
namespace Go.Proofs.YtdafpnpfcmgfcaaGreatDoor
open Go
structure Sh where
 on : Nat → Prop
 start : Nat → Option Obj
instance : CoeFun Sh (fun _ => Nat → Prop) := ⟨Sh.on⟩
def synOp (o : Oper) : Bool := match o.op with
 | .move _ | .assign _ | .pick .. | .alloc _ | .box .. | .build .. | .buildSlice .. | .load .. | .store .. | .nilCheck _ | .unOp .. | .makeInterface .. | .makeFunc .. | .makeMap .. | .makeSlice .. | .fieldAddr .. | .indexAddr .. | .index .. | .range .. | .next .. | .extract .. => true
 | .binOp op t _ _ _ => (!(op matches .eql | .neq)) || t == 3 || t == 4 || t == 9
 | .call { callee := .builtin .len, .. } | .call { callee := .builtin .append, .. } | .call { callee := .value (.func _), .. } => true
 | _ => false
def synCode : Code → Bool
 | .seq a b => synCode a && synCode b
 | .cond _ a b => synCode a && synCode b
 | .block _ c => synCode c
 | .loop c => synCode c
 | .region _ ops _ => ops.all synOp
 | .skip | .label _ | .exit _ | .goto _ | .ret => true
 | _ => false
def jumpOk : Option Code → Bool
 | none | some .ret | some (.exit _) | some (.goto _) => true
 | _ => false
def odd : Obj → Bool
 | .view _ _ | .pending _ _ | .finalizers _ _ => true
 | .deferred (some (_ :: _)) => true
 | .loop l => !(synCode l.assign && synCode l.body && jumpOk l.pending)
 | _ => false
def oddX : Obj := .finalizers #[] none
def viewX : Obj := .view ⟨0, 0, some 0⟩ 0
def stand : Obj → Obj
 | .view _ _ => viewX
 | _ => oddX
def isX (o : Obj) : Prop := o = oddX ∨ o = viewX
def veil (o : Obj) : Obj := if odd o = true then stand o else o
theorem stand_isX (o : Obj) : isX (stand o) := by
 cases o <;> first | exact .inl rfl | exact .inr rfl
theorem veil_cases (o : Obj) : (veil o = o ∧ odd o = false) ∨ (veil o = stand o ∧ odd o = true) := by
 unfold veil
 cases h : odd o
 ·exact .inl ⟨by simp, rfl⟩
 ·exact .inr ⟨by simp, rfl⟩
theorem veil_of {o : Obj} (h : odd o = false) : veil o = o := by simp [veil, h]
theorem isX_odd {o : Obj} (h : isX o) : odd o = true := by
 rcases h with rfl | rfl <;> rfl
theorem veil_isX {o : Obj} (h : isX (veil o)) : odd o = true := by
 rcases veil_cases o with ⟨h1, h2⟩ | ⟨_, h2⟩
 ·rw [h1] at h; rw [isX_odd h] at h2; cases h2
 ·exact h2
theorem isX_row {c : Array Value} {t : TypeId} {f : Nat × Nat} : ¬ isX (.cells c t f) := fun h => by rcases h with h | h <;> cases h
theorem odd_row {c : Array Value} {t : TypeId} {f : Nat × Nat} : odd (.cells c t f) = false := rfl
def Whole (v : World) : Prop := ∀ (b : Nat) o, v.heap[b]? = some o → (∀ c t, o ≠ .pending c t) ∧ ∀ a t, o = .view a t → a.spot.isSome = true
structure Cp (S : Sh) (v w : World) : Prop where
 size : v.heap.size = w.heap.size
 low : ∀ b, S b → b < v.heap.size
 out : ∀ b, ¬ S b → v.heap[b]? = (w.heap[b]?).map veil
 brk : ∀ b, S b → ∃ t c f, v.heap[b]? = some (.cells #[] t f) ∧ w.heap[b]? = some (.cells c t f)
 os : v.os = w.os
 output : v.output = w.output
 mark : ∀ b o, isX o → v.heap[b]? = some o → w.heap[b]? = S.start b
 cold : ∀ a : Addr, S a.block → v.frozen? a = false
theorem veil_cells {o : Obj} {c : Array Value} {t : TypeId} {f : Nat × Nat} : veil o = .cells c t f ↔ o = .cells c t f := by
 rcases veil_cases o with ⟨h, _⟩ | ⟨h, h2⟩
 ·rw [h]
 ·rw [h]
  exact ⟨fun e => absurd (e ▸ stand_isX o) isX_row, fun e => (by rw [e] at h2; cases h2)⟩
theorem Cp.whole {S : Sh} {v w : World} (h : Cp S v w) : Whole v := by
 intro b o e
 by_cases hb : S b
 ·obtain ⟨t, c, f, e1, _⟩ := h.brk b hb
  rw [e1] at e
  cases e
  exact ⟨fun _ _ => by simp, fun _ _ => by simp⟩
 ·rw [h.out b hb] at e
  obtain ⟨o', _, rfl⟩ := Option.map_eq_some_iff.1 e
  rcases veil_cases o' with ⟨h1, h2⟩ | ⟨h1, h2⟩
  ·rw [h1]
   exact ⟨fun c t e => by (rw [e] at h2; cases h2), fun a t e => by (rw [e] at h2; cases h2)⟩
  ·rw [h1]
   rcases stand_isX o' with h3 | h3
   ·rw [h3]
    exact ⟨fun c t e => (by cases e), fun a t e => (by cases e)⟩
   ·rw [h3]
    exact ⟨fun c t e => (by cases e), fun a t e => (by cases e; rfl)⟩
def Ends : Halt → Prop
 | .stuck _ => True
 | .unsupported (.initOrder _) => False
 | .unsupported _ => True
 | _ => False
def Doomed {α : Type} (Q : Program) : Sem α → Prop
 | .pure _ | .store _ _ _ _ | .new _ _ | .freeze _ _ _ | .setObj _ _ _ | .sys _ _ => False
 | .load _ _ k => ∀ v, Doomed Q (k v)
 | .shape _ k => ∀ x, Doomed Q (k x)
 | .frozen _ k => ∀ b, Doomed Q (k b)
 | .getObj _ k => ∀ o, Doomed Q (k o)
 | .choose _ k => ∀ n, Doomed Q (k n)
 | .program k => Doomed Q (k Q)
 | .mark _ k => Doomed Q k
 | .halt h => Ends h
def MayHalt : Halt → Prop
 | .panic _ => True
 | h => Ends h
def Tame {α : Type} (Q P : Program) (S : Sh) (Z A : α → Prop) : Sem α → Prop
 | .pure a => A a
 | .load _ a k => ¬ S a.block → ∀ v, Tame Q P S Z A (k v)
 | .store _ a _ k => ¬ S a.block → Tame Q P S Z A k
 | .new o k => odd o = false ∧ ∀ r, ¬ S r → Tame Q P S Z A (k r)
 | .shape r k => (∀ x, Tame Q P S Z A (k x)) ∧ (¬ S r ∨ (∀ t, Doomed Q (k (some (t, 0)))) ∨ ∀ t n v es, (∀ a : Addr, S a.block → v.frozen? a = false) → (k (some (t, 0))).runT Q v es = (k (some (t, n))).runT Q v es)
 | .freeze _ _ _ => False
 | .frozen a k => ∀ b, (S a.block → b = false) → Tame Q P S Z A (k b)
 | .getObj r k => ¬ S r → ∀ o, (Tame Q P S Z A (k o) ∧ k (veil o) = k o) ∨ Doomed Q (k (veil o))
 | .setObj r o k => ¬ S r → (odd o = false ∧ o.isChan = false) ∧ Tame Q P S Z A k
 | .choose _ k => ∀ n, Tame Q P S Z A (k n)
 | .sys c k => c = .env ∧ ∀ r, Tame Q P S Z A (k r)
 | .program k => (k Q = k P ∧ Tame Q P S Z A (k P)) ∨ ∃ a, k Q = .pure a ∧ Z a
 | .mark m k => (m = .noRoom ∨ ∃ f, m = .extern f) ∧ Tame Q P S Z A k
 | .halt h => MayHalt h
def Result.w {α : Type} : Result α → World
 | .ok _ w => w
 | .halt _ w => w
def OkE (S : Sh) (B : Nat) (e : Event) : Prop :=
 match e.loc with
 | .cell a => ¬ S a.block ∧ a.block < B
 | .obj r => ¬ S r ∧ r < B ∧ (e.write && e.sync) = false
 | .mark .noRoom | .output => True
 | _ => False
def OkE0 (S : Sh) (B : Nat) (e : Event) : Prop := OkE S B e ∨ ∃ f, e.loc = .mark (.extern f)
section
variable {α : Type} {Q P : Program} {S : Sh} {Z A : α → Prop}
theorem OkE.mono {B B' : Nat} (h : B ≤ B') {e : Event} (he : OkE S B e) : OkE S B' e := by
 unfold OkE at *
 split at he
 ·exact ⟨he.1, by omega⟩
 ·exact ⟨he.1, by omega, he.2.2⟩
 ·trivial
 ·trivial
 ·exact he
theorem OkE0.mono {B B' : Nat} (h : B ≤ B') {e : Event} (he : OkE0 S B e) : OkE0 S B' e := he.imp (·.mono h) id
def Both (S : Sh) (Q P : Program) (A : α → Prop) (s : Sem α) (v w : World) (es : Array Event) : Prop :=
 ∃ us v1 w1, Cp S v1 w1 ∧ v1.tape = v.tape ∧ w1.tape = w.tape ∧ w.heap.size ≤ w1.heap.size ∧ (∃ c, v1.drawn = v.drawn + c ∧ w1.drawn = w.drawn + c) ∧ (∀ e ∈ us, OkE0 S w1.heap.size e) ∧
  ((∃ a, A a ∧ s.runT Q v es = (.ok a v1, es ++ us) ∧ s.runT P w es = (.ok a w1, es ++ us)) ∨ (∃ h, MayHalt h ∧ s.runT Q v es = (.halt h v1, es ++ us) ∧ s.runT P w es = (.halt h w1, es ++ us)))
def Dead (Q : Program) (Z : α → Prop) (s : Sem α) (v : World) (es : Array Event) : Prop := (∃ h v', (s.runT Q v es).1 = .halt h v' ∧ Ends h) ∨ ∃ a v', (s.runT Q v es).1 = .ok a v' ∧ Z a
theorem noCell_ends (w : World) (a : Addr) (what : String) (h : Whole w) : Ends (w.noCell a what) := by
 unfold World.noCell
 split
 ·rename_i e; exact absurd rfl ((h _ _ e).1 _ _)
 ·trivial
 ·trivial
theorem seen_no (p : Program) (w : World) {a : Addr} (h : a.spot.isSome = true) (u : TypeId) (k : Addr) (b : Bool) : ∃ e, w.seen p a u k b = .error e := by
 unfold World.seen
 simp only [h, Bool.or_true, if_true]
 exact ⟨_, rfl⟩
theorem farLoad_no (p : Program) {w : World} (h : Whole w) (a : Addr) (b : Bool) : ∃ e, w.farLoad p a b = .error e ∧ Ends e := by
 unfold World.farLoad
 split
 ·rename_i at_ u e
  obtain ⟨x, hx⟩ := seen_no p w ((h _ _ e).2 _ _ rfl) u a b
  exact ⟨.unsupported (.unsafePointer x), by simp only [World.viewLoad, hx, bind, Except.bind], trivial⟩
 ·exact ⟨_, rfl, noCell_ends w a _ h⟩
theorem farStore_no (p : Program) {w : World} (h : Whole w) (a : Addr) (v : Value) (b : Bool) : ∃ e, w.farStore p a v b = .error e ∧ Ends e := by
 unfold World.farStore
 split
 ·rename_i at_ u e
  obtain ⟨x, hx⟩ := seen_no p w ((h _ _ e).2 _ _ rfl) u a b
  by_cases ht : tight p p.depth u = true
  ·exact ⟨.unsupported (.unsafePointer x), by simp only [World.viewStore, hx, ht, bind, Except.bind, Bool.not_true, Bool.false_eq_true, if_false], trivial⟩
  ·have hv : ∃ x, w.viewStore p at_ u a v b = .error x := by
    simp only [World.viewStore, ht, bind, Except.bind, Bool.not_false, if_true]; exact ⟨_, rfl⟩
   obtain ⟨x, hv⟩ := hv
   exact ⟨.unsupported (.unsafePointer x), by simp only [hv], trivial⟩
 ·exact ⟨_, rfl, noCell_ends w a _ h⟩
theorem Cp.cell {v w : World} (h : Cp S v w) {a : Addr} (ha : ¬ S a.block) : v.cell? a = w.cell? a := by
 unfold World.cell?; rw [h.out _ ha]
 cases hw : w.heap[a.block]? with
 | none => rfl
 | some o =>
  rcases veil_cases o with ⟨h1, _⟩ | ⟨h1, h2⟩
  ·simp only [Option.map_some, h1]
  ·simp only [Option.map_some, h1]
   cases o <;> first | rfl | cases h2
theorem Cp.cellS {v w : World} (h : Cp S v w) {a : Addr} (ha : S a.block) : v.cell? a = none := by
 obtain ⟨t, c, f, e, _⟩ := h.brk _ ha
 unfold World.cell?; rw [e]; simp
theorem cellA_lt {w : World} {a : Addr} {x : Value} (h : w.cell? a = some x) : a.block < w.heap.size := by
 unfold World.cell? at h
 split at h
 ·rename_i e; exact (Array.getElem?_eq_some_iff.1 e).1
 ·cases h
theorem Cp.shape {v w : World} (h : Cp S v w) {r : Nat} (hr : ¬ S r) : v.shape? r = w.shape? r := by
 unfold World.shape?; rw [h.out _ hr]
 cases hw : w.heap[r]? with
 | none => rfl
 | some o =>
  rcases veil_cases o with ⟨h1, _⟩ | ⟨h1, h2⟩
  ·simp only [Option.map_some, h1]
  ·simp only [Option.map_some, h1]
   cases o <;> first | rfl | cases h2
theorem Cp.shapeS {v w : World} (h : Cp S v w) {r : Nat} (hr : S r) : ∃ t n, v.shape? r = some (t, 0) ∧ w.shape? r = some (t, n) := by
 obtain ⟨t, c, f, e1, e2⟩ := h.brk _ hr
 exact ⟨t, c.size, by unfold World.shape?; rw [e1]; rfl, by unfold World.shape?; rw [e2]⟩
theorem Cp.frozen {v w : World} (h : Cp S v w) (a : Addr) : v.frozen? a = w.frozen? a := by
 by_cases ha : S a.block
 ·obtain ⟨t, c, f, e1, e2⟩ := h.brk _ ha
  unfold World.frozen?; rw [e1, e2]
 unfold World.frozen?; rw [h.out _ ha]
 cases hw : w.heap[a.block]? with
 | none => rfl
 | some o =>
  rcases veil_cases o with ⟨h1, _⟩ | ⟨h1, h2⟩
  ·simp only [Option.map_some, h1]
  ·simp only [Option.map_some, h1]
   cases o <;> first | rfl | cases h2
theorem Both.behind {s : Sem α} {k : Sem α} {v w v2 w2 : World} {es us0 : Array Event} {c0 : Nat}
  (h1 : s.runT Q v es = k.runT Q v2 (es ++ us0)) (h2 : s.runT P w es = k.runT P w2 (es ++ us0))
  (ht1 : v2.tape = v.tape) (ht2 : w2.tape = w.tape) (hd1 : v2.drawn = v.drawn + c0) (hd2 : w2.drawn = w.drawn + c0) (hs : w.heap.size ≤ w2.heap.size)
  (hok : ∀ e ∈ us0, OkE0 S w2.heap.size e) (h : Dead Q Z k v2 (es ++ us0) ∨ Both S Q P A k v2 w2 (es ++ us0)) : Dead Q Z s v es ∨ Both S Q P A s v w es := by
 rcases h with (⟨h, v', hd, hE⟩ | ⟨a, v', hd, hE⟩) | ⟨us, v1, w1, c1, t1, t2, hs1, ⟨c, hc1, hc2⟩, hok1, hb⟩
 ·exact .inl (.inl ⟨h, v', by rw [h1]; exact hd, hE⟩)
 ·exact .inl (.inr ⟨a, v', by rw [h1]; exact hd, hE⟩)
 ·refine .inr ⟨us0 ++ us, v1, w1, c1, t1.trans ht1, t2.trans ht2, Nat.le_trans hs hs1, ⟨c0 + c, by omega, by omega⟩, ?_, ?_⟩
  ·intro e he
   rcases Array.mem_append.1 he with he | he
   ·exact (hok e he).mono hs1
   ·exact hok1 e he
  ·rw [h1, h2, ← Array.append_assoc]
   exact hb
theorem Cp.modify {v w : World} (h : Cp S v w) (b0 : Nat) (f : Obj → Obj) (hf : ∀ o, (∀ c t fr, o ≠ .cells c t fr) → f o = o) (hr : ∀ c t fr, ∃ c' fr', f (.cells c t fr) = .cells c' t fr')
  (hS : ¬ S b0) :
  Cp S { v with heap := v.heap.modify b0 f } { w with heap := w.heap.modify b0 f } := by
 have hm : ∀ (H : Array Obj) (b : Nat), (H.modify b0 f)[b]? = if b0 = b then H[b]?.map f else H[b]? := fun H b => by rw [Array.getElem?_modify]
 have hv : ∀ o, veil (f o) = f (veil o) := fun o => by
  by_cases hc : ∃ c t fr, o = .cells c t fr
  ·obtain ⟨c, t, fr, rfl⟩ := hc
   obtain ⟨c', fr', e⟩ := hr c t fr
   rw [e, veil_of odd_row, veil_of odd_row, e]
  ·have hn : ∀ c t fr, o ≠ .cells c t fr := fun c t fr e => hc ⟨c, t, fr, e⟩
   rw [hf o hn]
   refine (hf _ fun c t fr e => hn c t fr (veil_cells.1 e)).symm
 have hx : ∀ o, isX (f o) → f o = o := fun o e => by
  by_cases hc : ∃ c t fr, o = .cells c t fr
  ·obtain ⟨c, t, fr, rfl⟩ := hc
   obtain ⟨c', fr', e'⟩ := hr c t fr
   rw [e'] at e; exact absurd e isX_row
  ·exact hf o fun c t fr e => hc ⟨c, t, fr, e⟩
 refine ⟨by simpa using h.size, fun b hb => by simpa using h.low b hb, fun b hb => ?_, fun b hb => ?_, h.os, h.output, fun b o1 hX hb => ?_, fun a ha => ?_⟩
 ·simp only [hm]
  split
  ·rw [h.out b hb]
   cases w.heap[b]? with
   | none => rfl
   | some o => simp [hv]
  ·exact h.out b hb
 ·simp only [hm]
  have hne : ¬ b0 = b := fun e => hS (e ▸ hb)
  simp only [hne, if_false]
  exact h.brk b hb
 ·simp only [hm] at hb ⊢
  split at hb
  ·obtain ⟨o, ho, e⟩ := Option.map_eq_some_iff.1 hb
   have ho' : v.heap[b]? = some o1 := by rw [ho, ← e, hx o (by rw [e]; exact hX)]
   have hns : ¬ S b := fun hs => by
    obtain ⟨t, c, fr, e1, _⟩ := h.brk b hs
    rw [e1] at ho'; exact isX_row (Option.some.inj ho' ▸ hX)
   have h1 := h.mark b o1 hX ho'
   rw [if_pos ‹_›]
   rw [← h1]
   have h2 := h.out b hns
   rw [ho'] at h2
   obtain ⟨o2, hw, hv2⟩ := Option.map_eq_some_iff.1 h2.symm
   rw [hw, Option.map_some, hf o2 fun c t fr e => by (have := veil_isX (hv2 ▸ hX); rw [e] at this; cases this)]
  ·rw [if_neg ‹_›]
   exact h.mark b o1 hX hb
 ·have hne : b0 ≠ a.block := fun e => hS (e ▸ ha)
  have := h.cold a ha
  unfold World.frozen? at this ⊢
  rw [hm, if_neg hne]
  exact this
theorem Cp.setCell {v w : World} (h : Cp S v w) {a : Addr} (ha : ¬ S a.block) (x : Value) : Cp S (v.setCell a x) (w.setCell a x) :=
 h.modify a.block _ (fun o hn => by cases o <;> first | rfl | exact absurd rfl (hn _ _ _)) (fun c t fr => ⟨_, _, rfl⟩) ha
theorem Cp.push {v w : World} (h : Cp S v w) {o : Obj} (ho : odd o = false) : Cp S { v with heap := v.heap.push o } { w with heap := w.heap.push o } := by
 have hlt : ∀ b, S b → b ≠ v.heap.size := fun b hb e => by have := h.low b hb; omega
 refine ⟨by simp [h.size], fun b hb => by have := h.low b hb; simp; omega, fun b hb => ?_, fun b hb => ?_, h.os, h.output, fun b o1 hX hb => ?_, fun a ha => ?_⟩
 ·simp only [Array.getElem?_push, h.size]
  split
  ·simp [veil_of ho]
  ·exact h.out b hb
 ·have h1 := hlt b hb
  have h2 : b ≠ w.heap.size := by rw [← h.size]; exact h1
  simp only [Array.getElem?_push, h1, h2, if_false]; exact h.brk b hb
 ·simp only [Array.getElem?_push, h.size] at hb ⊢
  split at hb
  ·rw [Option.some.inj hb, isX_odd hX] at ho
   cases ho
  ·rw [if_neg ‹_›]; exact h.mark b o1 hX hb
 ·have := h.cold a ha
  unfold World.frozen? at this ⊢
  simp only [Array.getElem?_push, hlt _ ha, if_false]
  exact this
theorem Cp.setObj {v w : World} (h : Cp S v w) {r : Nat} (hr : ¬ S r) {o : Obj} (ho : odd o = false) : Cp S { v with heap := v.heap.setIfInBounds r o } { w with heap := w.heap.setIfInBounds r o } := by
 have hne : ∀ b, S b → r ≠ b := fun b hb e => hr (e ▸ hb)
 refine ⟨by simp [h.size], fun b hb => by simpa using h.low b hb, fun b hb => ?_, fun b hb => ?_, h.os, h.output, fun b o1 hX hb => ?_, fun a ha => ?_⟩
 ·simp only [Array.getElem?_setIfInBounds, h.size]
  split
  ·split <;> simp [veil_of ho]
  ·exact h.out b hb
 ·simp only [Array.getElem?_setIfInBounds, hne b hb, if_false]; exact h.brk b hb
 ·simp only [Array.getElem?_setIfInBounds, h.size] at hb ⊢
  split at hb
  ·split at hb
   ·rw [Option.some.inj hb, isX_odd hX] at ho
    cases ho
   ·cases hb
  ·rw [if_neg ‹_›]; exact h.mark b o1 hX hb
 ·have := h.cold a ha
  unfold World.frozen? at this ⊢
  simp only [Array.getElem?_setIfInBounds, hne _ ha, if_false]
  exact this
theorem Cp.drew {v w : World} (h : Cp S v w) (d d' : Nat) : Cp S { v with drawn := d } { w with drawn := d' } := ⟨h.size, h.low, h.out, h.brk, h.os, h.output, h.mark, h.cold⟩
theorem dead_of {s k : Sem α} {v v2 : World} {es es2 : Array Event} (h1 : s.runT Q v es = k.runT Q v2 es2) (h : Dead Q Z k v2 es2) : Dead Q Z s v es := by
 rcases h with ⟨h, v', hd, hE⟩ | ⟨a, v', hd, hE⟩
 ·exact .inl ⟨h, v', by rw [h1]; exact hd, hE⟩
 ·exact .inr ⟨a, v', by rw [h1]; exact hd, hE⟩
theorem getObj_no {v : World} {r : Nat} {k : Obj → Sem α} {es : Array Event} (h : v.heap[r]? = none ∨ ∃ c t f, v.heap[r]? = some (.cells c t f)) : Dead Q Z (.getObj r k) v es := by
 rcases h with h | ⟨c, t, f, h⟩
 ·exact .inl ⟨.stuck "getObj: no such block", v, by simp only [Sem.runT, h], trivial⟩
 ·exact .inl ⟨.stuck "getObj: a row of cells", v, by simp only [Sem.runT, h], trivial⟩
theorem setObj_no {v : World} {r : Nat} {o : Obj} {k : Sem α} {es : Array Event} (h : v.heap[r]? = none ∨ ∃ c t f, v.heap[r]? = some (.cells c t f)) : Dead Q Z (.setObj r o k) v es := by
 rcases h with h | ⟨c, t, f, h⟩
 ·exact .inl ⟨.stuck "setObj: no such block", v, by simp only [Sem.runT, h], trivial⟩
 ·exact .inl ⟨.stuck "setObj: a row of cells", v, by simp only [Sem.runT, h], trivial⟩
theorem obj_cases (v : World) (r : Nat) : (v.heap[r]? = none ∨ ∃ c t f, v.heap[r]? = some (.cells c t f)) ∨ ∃ o, v.heap[r]? = some o ∧ ∀ c t f, o ≠ .cells c t f := by
 cases h : v.heap[r]? with
 | none => exact .inl (.inl rfl)
 | some o =>
  cases o with
  | cells c t f => exact .inl (.inr ⟨c, t, f, rfl⟩)
  | _ => exact .inr ⟨_, rfl, fun _ _ _ => by simp⟩
theorem getObj_run {p : Program} {w : World} {r : Nat} {k : Obj → Sem α} {es : Array Event} {o : Obj} (h : w.heap[r]? = some o) (hc : ∀ c t f, o ≠ .cells c t f) :
  Sem.runT p (.getObj r k) w es = (k o).runT p w (es ++ #[⟨.obj r, false, o.isChan⟩]) := by
 cases o <;> first | exact absurd rfl (hc _ _ _) | simp only [Sem.runT, h, Array.push_eq_append]
theorem setObj_run {p : Program} {w : World} {r : Nat} {x : Obj} {k : Sem α} {es : Array Event} {o : Obj} (h : w.heap[r]? = some o) (hc : ∀ c t f, o ≠ .cells c t f) :
  Sem.runT p (.setObj r x k) w es = k.runT p { w with heap := w.heap.setIfInBounds r x } (es ++ #[⟨.obj r, true, x.isChan⟩]) := by
 cases o <;> first | exact absurd rfl (hc _ _ _) | simp only [Sem.runT, h, Array.push_eq_append]
end
end Go.Proofs.YtdafpnpfcmgfcaaGreatDoor
