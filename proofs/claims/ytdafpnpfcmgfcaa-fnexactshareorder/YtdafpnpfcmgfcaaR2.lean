/- A range over a function whose iterator keeps its state in cells of its own: one law for the statement. -/
import Derived.RangeFuncBox
import Derived.RangeFuncLeaves
import Derived.Shelf.Abstract
import Derived.OwnWalkIn
import Derived.TacticsInMore
import Derived.LoopNIn
import Derived.LoopIn
import Derived.Test.YtdafpnpfcmgfcaaR1
namespace Go.Proofs.Ytdafpnpfcmgfcaa
open Go.RowKit Go.Shelf

/-- The types of the cells that hold the iterator's state. -/
def stateT (t : TypeId) : Bool := t == 99 || t == 4 || t == 95
def isState : Obj → Bool
  | .cells _ t _ => stateT t
  | _ => false
/-- What the iterator does between two rounds: only its own state turns, and new memory comes. -/
structure Ab (n : Nat) (A B : World) : Prop where
  below : Below n A B
  same : ∀ (k : Nat) (o : Obj), A.heap[k]? = some o → isState o = false → B.heap[k]? = some o
/-- What the caller's invariant abides. -/
structure Quieter (n : Nat) (A B : World) : Prop where
  below : Below n A B
  same : ∀ (k : Nat) (o : Obj), A.heap[k]? = some o → o.isCells = true → isState o = false → B.heap[k]? = some o
/-- What a round keeps: the iterator's state. -/
def Kp (A B : World) : Prop := ∀ (k : Nat) (o : Obj), A.heap[k]? = some o → isState o = true → B.heap[k]? = some o

theorem not_state {o : Obj} (h : o.isCells = false) : isState o = false := by
  cases o <;> first | rfl | (simp [Obj.isCells] at h)
theorem Ab.calm {n : Nat} {A B : World} (h : Ab n A B) : Quieter n A B := ⟨h.below, fun k o hk _ hs => h.same k o hk hs⟩
theorem Ab.of_ext {n : Nat} {A B : World} (h : Ext A B) (hn : n ≤ A.heap.size) : Ab n A B :=
  ⟨Below.mono h hn, fun k _ hk _ => (h.block k (Array.getElem?_eq_some_iff.1 hk).1).trans hk⟩
theorem Ab.tr {n : Nat} {A B C : World} (h : Ab n A B) (k : Ab n B C) : Ab n A C :=
  ⟨h.below.trans k.below, fun i o hi ho => k.same i o (h.same i o hi ho) ho⟩
theorem Quieter.put {n : Nat} {W : World} {l : Nat} {o : Obj} (o' : Obj) (hn : n ≤ l) (h : W.heap[l]? = some o) (ho : o.isCells = false) : Quieter n W (W.putObj l o') := by
  have hlt := (Array.getElem?_eq_some_iff.1 h).1
  refine ⟨(Below.refl n W).grown (grownBy_putObj' W l o') (by omega) (fun k e => by cases e; exact hn), fun k o1 hk hc _ => ?_⟩
  have hne : k ≠ l := fun e => by subst e; rw [h] at hk; cases hk; rw [ho] at hc; cases hc
  exact (World.putObj_heap_other hne).trans hk
theorem Quieter.new {n : Nat} (W : World) (o : Obj) (hn : n ≤ W.heap.size) : Quieter n W (W.alloc o) :=
  ⟨(Below.refl n W).alloc hn o, fun _ _ hk _ _ => (Below.heap_alloc _ _ _ (Array.getElem?_eq_some_iff.1 hk).1).trans hk⟩
theorem Kp.put {W : World} {l : Nat} {o : Obj} (o' : Obj) (h : W.heap[l]? = some o) (ho : o.isCells = false) : Kp W (W.putObj l o') := by
  intro k o1 hk hs
  have hne : k ≠ l := fun e => by subst e; rw [h] at hk; cases hk; rw [not_state ho] at hs; cases hs
  exact (World.putObj_heap_other hne).trans hk
theorem Kp.tr {A B C : World} (h : Kp A B) (k : Kp B C) : Kp A C := fun i o hi ho => k i o (h i o hi ho) ho
theorem Kp.grown {A B : World} {row : Option Nat} (hg : A.grownBy B row) (hr : ∀ (j : Nat) (o : Obj), row = some j → A.heap[j]? = some o → isState o = false) : Kp A B := by
  intro k o hk hs
  refine (hg.block k (Array.getElem?_eq_some_iff.1 hk).1 (fun e => ?_)).trans hk
  rw [hr k o e.symm hk] at hs; cases hs
theorem Kp.new (W : World) (o : Obj) : Kp W (W.alloc o) := fun _ _ hk _ => (Below.heap_alloc _ _ _ (Array.getElem?_eq_some_iff.1 hk).1).trans hk

/-- How a round may be left: on to the next, or by the one break. -/
def roundOut {α : Type} (I Ix : List α → World → Prop) (ex : Nat) (xs : List α) (W : World) : Exit → Act → World → Prop
  | .normal, _, W' => KeepsOthers W W' ∧ Kp W W' ∧ I xs W'
  | .exit id, _, W' => KeepsOthers W W' ∧ id = ex ∧ Ix xs W'
  | _, _, _ => False

/-- The contract of an iterator with state of its own. -/
def SeqState {α : Type} (P : Program) (gf : FuncId) (lb : Array Value) (enc : α → Value) (S Sp : List α → Prop) (w : World) : Prop :=
  ∀ (l : Nat) (J Jx : List α → World → Prop) (W : World), Below w.heap.size w W → (∀ s A B, J s A → Ab w.heap.size A B → J s B) → (∀ s A B, Jx s A → Ab w.heap.size A B → Jx s B) →
    (∀ pre x W1, J pre W1 → YieldAt Fence.wide 0 P l #[enc x] W1 fun e W' => (e = .returned (.bool true) ∧ J (pre ++ [x]) W' ∧ Kp W1 W') ∨ (e = .returned (.bool false) ∧ Jx (pre ++ [x]) W')) →
    J [] W →
    CallsIn Fence.wide 0 P gf (#[.func (.yield l) #[] #[]] ++ lb) W fun e W' => (∃ v, e = .returned v) ∧ ((∃ xs, S xs ∧ J xs W') ∨ (∃ pre, Sp pre ∧ Jx pre W'))

theorem wp_range_state {α : Type} {P : Program} {g : Operand} {ps : Array Tmp} {assign body : Code} {Q : Exit → Act → World → Prop} {a : Act} {w : World} {gf : FuncId} {lb : Array Value}
    (hg : a.eval g = .func (.func gf) #[] lb) (eg : ∀ args w, (callFunc gf args).run P w = .ok (.enter gf args) w) (enc : α → Value) (hps : ps.size = 1) {S Sp : List α → Prop}
    (hseq : SeqState P gf lb enc S Sp w) (I Ix : List α → World → Prop) (hI : ∀ s A B, I s A → Quieter w.heap.size A B → I s B) (hIx : ∀ s A B, Ix s A → Quieter w.heap.size A B → Ix s B) (h0 : I [] w) (a₁ : α → Act) (ex : Nat)
    (hassign : ∀ (l : Nat) (x : α) (W : World) (K : Act → World → Prop), K (a₁ x) W →
      assign.wpIn (Fence.wide.inRound l) 0 P (Exit.then K (fun _ _ _ => False)) { tmps := (ps.zip #[enc x]).foldl (fun t (p, v) => t.setIfInBounds p v) a.tmps, defers := [] } W)
    (hbody : ∀ (l : Nat) (pre : List α) (x : α) (W : World), I pre W → body.wpIn (Fence.wide.inRound l) 0 P (roundOut I Ix ex (pre ++ [x]) W) (a₁ x) W)
    (hdone : ∀ (D : Nat) (xs : List α) (W : World), w.heap.size ≤ D → S xs → I xs W → W.heap[D]? = some (.deferred (some [])) → Q .normal { a with defers := { target := .collected D, args := #[] } :: a.defers } W)
    (hstop : ∀ (D : Nat) (pre : List α) (W : World), w.heap.size ≤ D → Sp pre → Ix pre W → W.heap[D]? = some (.deferred (some [])) → (Code.exit ex).wp P Q { a with defers := { target := .collected D, args := #[] } :: a.defers } W) :
    (Code.rangeFunc g ps assign body).wp P Q a w := by
  refine wpIn_wide.1 (wpIn_rangeFunc (F := Fence.wide) (n := 0) (fun fn hfn => ?_))
  generalize hst : (fun (st : LoopState) (pe : Option Code) => ({ state := st, pending := pe, fn, tmps := a.tmps, params := ps, assign, body, defers := w.heap.size } : Loop)) = st
  have st_eq : ∀ s p, ({ state := s, pending := p, fn, tmps := a.tmps, params := ps, assign, body, defers := w.heap.size } : Loop) = st s p := fun s p => by rw [← hst]
  have st_state : ∀ s p, (st s p).state = s := fun s p => by rw [← hst]
  have st_pend : ∀ s p, (st s p).pending = p := fun s p => by rw [← hst]
  have st_busy : ∀ s p s', { st s p with state := s' } = st s' p := fun s p s' => by rw [← hst]
  have st_end : ∀ s p s' p', { st s p with state := s', pending := p' } = st s' p' := fun s p s' p' => by rw [← hst]
  have e1 := run_enterLoop_outer (P := P) (w := w) fn a.tmps ps assign body
  rw [st_eq] at e1
  generalize hW1 : (w.alloc (.deferred (some []))).alloc (.loop (st .ready none)) = W1 at e1
  have hL : W1.heap[w.heap.size + 1]? = some (.loop (st .ready none)) := by
    rw [← hW1]
    have := World.alloc_heap_new (w.alloc (.deferred (some []))) (.loop (st .ready none))
    rwa [World.size_alloc] at this
  have hD : W1.heap[w.heap.size]? = some (.deferred (some [])) := by
    rw [← hW1]; exact (Below.heap_alloc _ _ _ (by simp)).trans (World.alloc_heap_new w _)
  have hI1 : I [] W1 := by rw [← hW1]; exact hI _ _ _ (hI _ _ _ h0 (Quieter.new _ _ (Nat.le_refl _))) (Quieter.new _ _ (by simp))
  have hB1 : Below w.heap.size w W1 := by rw [← hW1]; exact ((Below.refl _ w).alloc (Nat.le_refl _) _).alloc (by simp) _
  refine ⟨w.heap.size + 1, [{ target := .collected w.heap.size, args := #[] }], W1, { target := .fn (.func gf) lb, args := #[.func (.yield (w.heap.size + 1)) #[] #[]] }, W1, gf,
    #[.func (.yield (w.heap.size + 1)) #[] #[]] ++ lb, W1, e1, ?_, fun _ _ => trivial, ?_, ?_, ?_⟩
  · simp only [resolve, hg]; simp [go_sem]
  · simp [invoke, go_sem, eg]
  · intro h; simp [Fence.wide] at h
  · refine (hseq (w.heap.size + 1)
      (fun s W => I s W ∧ W.heap[w.heap.size + 1]? = some (.loop (st .ready none)) ∧ W.heap[w.heap.size]? = some (.deferred (some [])))
      (fun s W => Ix s W ∧ W.heap[w.heap.size + 1]? = some (.loop (st .done (some (.exit ex)))) ∧ W.heap[w.heap.size]? = some (.deferred (some [])))
      W1 hB1 (fun s A B h hab => ⟨hI _ _ _ h.1 hab.calm, hab.same _ _ h.2.1 rfl, hab.same _ _ h.2.2 rfl⟩)
      (fun s A B h hab => ⟨hIx _ _ _ h.1 hab.calm, hab.same _ _ h.2.1 rfl, hab.same _ _ h.2.2 rfl⟩) ?_ ⟨hI1, hL, hD⟩).mono ?_
    · rintro pre x W ⟨hi, hl, hd⟩
      have hlt : w.heap.size + 1 < W.heap.size := (Array.getElem?_eq_some_iff.1 hl).1
      have hy := run_yield (P := P) (args := #[enc x]) hl (by rw [← hst]; simp [hps])
      have hb := run_beginRound (P := P) hl (st_state _ _)
      rw [st_busy] at hb
      rw [← hst] at hy
      refine ⟨fn, _, assign, body, hy, roundIn_of_wpIn hfn (hassign _ x W _ ⟨_, hb, ?_⟩)⟩
      have hl2 : (W.putObj (w.heap.size + 1) (.loop (st .busy none))).heap[w.heap.size + 1]? = some (.loop (st .busy none)) := World.putObj_heap_same hlt
      have hd2 : (W.putObj (w.heap.size + 1) (.loop (st .busy none))).heap[w.heap.size]? = some (.deferred (some [])) := (World.putObj_heap_other (by omega)).trans hd
      refine wpIn_mono (hbody _ pre x _ (hI _ _ _ hi (Quieter.put _ (by omega) hl rfl))) ?_
      rintro e a3 W3 hp
      cases e with
      | normal =>
        obtain ⟨hk, hkp, hi3⟩ := hp
        have hl3 := hk.same _ _ hl2 rfl
        have he := run_endRound (P := P) none hl3
        simp only [Option.isNone_none, if_true, st_end] at he
        exact ⟨_, _, he, .inl ⟨rfl, ⟨hI _ _ _ hi3 (Quieter.put _ (by omega) hl3 rfl), World.putObj_heap_same (Array.getElem?_eq_some_iff.1 hl3).1, (World.putObj_heap_other (by omega)).trans (hk.same _ _ hd2 rfl)⟩,
          ((Kp.put _ hl rfl).tr hkp).tr (Kp.put _ hl3 rfl)⟩⟩
      | exit id =>
        obtain ⟨hk, rfl, hi3⟩ := hp
        have hl3 := hk.same _ _ hl2 rfl
        have he := run_endRound (P := P) (some (.exit id)) hl3
        simp only [Option.isNone_some, st_end] at he
        exact ⟨_, _, he, .inr ⟨rfl, hIx _ _ _ hi3 (Quieter.put _ (by omega) hl3 rfl), World.putObj_heap_same (Array.getElem?_eq_some_iff.1 hl3).1, (World.putObj_heap_other (by omega)).trans (hk.same _ _ hd2 rfl)⟩⟩
      | ret => exact hp.elim
      | goto t => exact hp.elim
      | panic ch => exact hp.elim
      | outgrown => exact hp.elim
    · rintro e W2 ⟨⟨v, rfl⟩, (⟨xs, hS, hi, hl, hd⟩ | ⟨pre, hSp, hi, hl, hd⟩)⟩
      · have he := run_endLoop (P := P) hl (by rw [st_state]; simp)
        rw [st_busy, st_pend] at he
        exact ⟨none, _, he, hdone _ xs _ (Nat.le_refl _) hS (hI _ _ _ hi (Quieter.put _ (by omega) hl rfl)) ((World.putObj_heap_other (by omega)).trans hd)⟩
      · have he := run_endLoop (P := P) hl (by rw [st_state]; simp)
        rw [st_busy, st_pend] at he
        exact ⟨some (.exit ex), _, he, wpIn_wide.2 (hstop _ pre _ (Nat.le_refl _) hSp (hIx _ _ _ hi (Quieter.put _ (by omega) hl rfl)) ((World.putObj_heap_other (by omega)).trans hd))⟩
end Go.Proofs.Ytdafpnpfcmgfcaa
