/- The walk over the program's first: the first who can go. A range over a function whose iterator keeps its state in cells of its own: one law for the statement. The program's goers: an iterator with state of its own. A region that draws its order, in a round: out of the plain walk. The walk over the program's ShareOrder and ShareSafe. -/
import Derived.Test.YtdafpnpfcmgfcabGreatDoorBA
import Derived.Test.YtdafpnpfcmgfcabGreatDoorWC
import Derived.RangeFuncBox
import Derived.RangeFuncLeaves
import Derived.Shelf.Abstract
import Derived.OwnWalkIn
import Derived.TacticsInMore
import Derived.LoopNIn
import Derived.LoopIn
import Derived.Deep.RegionLaw
import Derived.Maps.AppendAt
import Derived.RangeFuncCalls
namespace Go.Proofs.YtdafpnpfcmgfcabGreatDoor
open Go.RowKit

theorem place_self {b : Book} (h : bookOk b = true) {p : Nat} (hp : p < b.batches.length) : place (namesOf b.batches) (b.at p).name = p := by
  have hm : (b.at p).name ∈ namesOf b.batches := by
    have e : nth (namesOf b.batches) p = (b.at p).name := nth_namesOf hp
    rw [← e, nth_get (by rw [namesOf_length]; exact hp)]
    exact List.getElem_mem _
  have hlt : place (namesOf b.batches) (b.at p).name < b.batches.length := by
    have := place_lt.2 hm
    rwa [namesOf_length] at this
  exact name_inj h hlt hp (name_at rfl hlt)

theorem canGo_p {w : World} {base g bg : Nat} {vh vn : Value} {b : Book} {gone : List Str} {p : Nat} (v : Bool) (hst : GoneAt w base g bg vh vn b gone) (hok : bookOk b = true) (hlt : p < b.batches.length)
    (hv : goodN b gone p = v) :
    Calls Tryz.prog 115 #[.pointer (some ⟨g, 0, none⟩), .int .i64 (p : Int)] w fun e w' => e = .returned (.bool v) ∧ ∃ n, w' = w.drewN n :=
  canGo_v v hst hok (place_self hok hlt) hlt hv

theorem GoneAt.goneCell {w : World} {base g bg : Nat} {vh vn : Value} {b : Book} {gone : List Str} (h : GoneAt w base g bg vh vn b gone) : w.cell? ⟨g, 2, none⟩ = some (.slice (some ⟨bg, 0, none⟩) b.batches.length b.batches.length) := by
  obtain ⟨gl, h1, h2, h3⟩ := h
  have c := h3.cells.cell (i := 2) (by omega)
  simp only [goingCells] at c
  rw [h1] at c
  exact c

set_option maxHeartbeats 1000000 in
theorem first_v {w : World} {base g bg : Nat} {vh vn : Value} {b : Book} {gone : List Str} (hst : GoneAt w base g bg vh vn b gone) (hok : bookOk b = true) :
    Calls Tryz.prog 112 #[.pointer (some ⟨g, 0, none⟩)] w fun e w' =>
      ((∃ p : Nat, e = .returned (.tuple #[.int .i64 p, .bool true]) ∧ nextOf b gone = some p) ∨ (e = .returned (.tuple #[.int .i64 0, .bool false]) ∧ nextOf b gone = none)) ∧ Ext w w' := by
  have hc := hst.goneCell
  have h5 := ok_five hok
  have HOK := hid hok
  go_enter Tryz.func112, Tryz.ntmps112
  go_wp2
  go_loopw [10] (fun i wr => ∃ k : Nat, k ≤ b.batches.length ∧ i = .int .i64 k ∧ Ext w wr ∧ ∀ j, j < k → goodN b gone j = false) (fun i _ => b.batches.length - (intOf i).toNat)
  case atStart => exact ⟨0, Nat.zero_le _, rfl, Ext.rfl' _, fun j hj => by omega⟩
  case round =>
    obtain ⟨k, hk, rfl, hext, hx⟩ := hrel
    have hst' := hst.ext hext
    have HX := hid hx
    have HE := hid hext
    clear hx hext
    by_cases hlt : k < b.batches.length
    · cases hv : goodN b gone k
      · have HV := hid hv
        go_wp2_with fail
        refine (canGo_p false hst' HOK.out hlt HV.out).mono ?_
        rintro e w1 ⟨rfl, n1, rfl⟩
        go_wp2_with fail
        go_roundw
        case rel => exact ⟨k + 1, by omega, by go_num, Ext.tr HE.out (ext_drewN _ _), fun j hj => by
          by_cases e : j = k
          · rw [e]; exact HV.out
          · exact HX.out j (by omega)⟩
        case measure => simp [intOf]; omega
      · have HF := hid (nextOf_some hlt hv HX.out)
        have HV := hid hv
        clear hv
        go_wp2_with fail
        refine (canGo_p true hst' HOK.out hlt HV.out).mono ?_
        rintro e w1 ⟨rfl, n1, rfl⟩
        go_wp2_with fail
        go_ret2
        exact ⟨Or.inl ⟨k, rfl, HF.out⟩, Ext.tr HE.out (ext_drewN _ _)⟩
    · have HF := hid (nextOf_none (fun j hj => HX.out j (by omega)))
      go_wp2_with fail
      go_ret2
      exact ⟨Or.inr ⟨rfl, HF.out⟩, HE.out⟩
end Go.Proofs.YtdafpnpfcmgfcabGreatDoor
namespace Go.Proofs.YtdafpnpfcmgfcabGreatDoor
open Go.RowKit Go.Shelf

/-- The types of the cells that hold the iterator's state. -/
def stateT (t : TypeId) : Bool := t == 170 || t == 4 || t == 166
def isState : Obj → Bool
  | .cells _ t _ => stateT t
  | _ => false
/-- What the iterator does between two rounds: only its own state turns, and new memory comes. -/
structure Ab (n : Nat) (A B : World) : Prop where
  below : Below n A B
  same : ∀ (k : Nat) (o : Obj), A.heap[k]? = some o → isState o = false → B.heap[k]? = some o
/-- What the caller's invariant abides. -/
structure Quieter (n : Nat) (A B : World) : Prop where
  below : Below n A B
  same : ∀ (k : Nat) (o : Obj), A.heap[k]? = some o → o.isCells = true → isState o = false → B.heap[k]? = some o
/-- What a round keeps: the iterator's state. -/
def Kp (A B : World) : Prop := ∀ (k : Nat) (o : Obj), A.heap[k]? = some o → isState o = true → B.heap[k]? = some o

theorem not_state {o : Obj} (h : o.isCells = false) : isState o = false := by
  cases o <;> first | rfl | (simp [Obj.isCells] at h)
theorem Ab.calm {n : Nat} {A B : World} (h : Ab n A B) : Quieter n A B := ⟨h.below, fun k o hk _ hs => h.same k o hk hs⟩
theorem Ab.of_ext {n : Nat} {A B : World} (h : Ext A B) (hn : n ≤ A.heap.size) : Ab n A B :=
  ⟨Below.mono h hn, fun k _ hk _ => (h.block k (Array.getElem?_eq_some_iff.1 hk).1).trans hk⟩
theorem Ab.tr {n : Nat} {A B C : World} (h : Ab n A B) (k : Ab n B C) : Ab n A C :=
  ⟨h.below.trans k.below, fun i o hi ho => k.same i o (h.same i o hi ho) ho⟩
theorem Quieter.put {n : Nat} {W : World} {l : Nat} {o : Obj} (o' : Obj) (hn : n ≤ l) (h : W.heap[l]? = some o) (ho : o.isCells = false) : Quieter n W (W.putObj l o') := by
  have hlt := (Array.getElem?_eq_some_iff.1 h).1
  refine ⟨(Below.refl n W).grown (grownBy_putObj' W l o') (by omega) (fun k e => by cases e; exact hn), fun k o1 hk hc _ => ?_⟩
  have hne : k ≠ l := fun e => by subst e; rw [h] at hk; cases hk; rw [ho] at hc; cases hc
  exact (World.putObj_heap_other hne).trans hk
theorem Quieter.new {n : Nat} (W : World) (o : Obj) (hn : n ≤ W.heap.size) : Quieter n W (W.alloc o) :=
  ⟨(Below.refl n W).alloc hn o, fun _ _ hk _ _ => (Below.heap_alloc _ _ _ (Array.getElem?_eq_some_iff.1 hk).1).trans hk⟩
theorem Kp.put {W : World} {l : Nat} {o : Obj} (o' : Obj) (h : W.heap[l]? = some o) (ho : o.isCells = false) : Kp W (W.putObj l o') := by
  intro k o1 hk hs
  have hne : k ≠ l := fun e => by subst e; rw [h] at hk; cases hk; rw [not_state ho] at hs; cases hs
  exact (World.putObj_heap_other hne).trans hk
theorem Kp.tr {A B C : World} (h : Kp A B) (k : Kp B C) : Kp A C := fun i o hi ho => k i o (h i o hi ho) ho
theorem Kp.grown {A B : World} {row : Option Nat} (hg : A.grownBy B row) (hr : ∀ (j : Nat) (o : Obj), row = some j → A.heap[j]? = some o → isState o = false) : Kp A B := by
  intro k o hk hs
  refine (hg.block k (Array.getElem?_eq_some_iff.1 hk).1 (fun e => ?_)).trans hk
  rw [hr k o e.symm hk] at hs; cases hs
theorem Kp.new (W : World) (o : Obj) : Kp W (W.alloc o) := fun _ _ hk _ => (Below.heap_alloc _ _ _ (Array.getElem?_eq_some_iff.1 hk).1).trans hk

/-- How a round may be left: on to the next, or by the one break. -/
def roundOut {α : Type} (I Ix : List α → World → Prop) (ex : Nat) (xs : List α) (W : World) : Exit → Act → World → Prop
  | .normal, _, W' => KeepsOthers W W' ∧ Kp W W' ∧ I xs W'
  | .exit id, _, W' => KeepsOthers W W' ∧ id = ex ∧ Ix xs W'
  | _, _, _ => False

/-- The contract of an iterator with state of its own. -/
def SeqState {α : Type} (P : Program) (gf : FuncId) (lb : Array Value) (enc : α → Value) (S Sp : List α → Prop) (w : World) : Prop :=
  ∀ (l : Nat) (J Jx : List α → World → Prop) (W : World), Below w.heap.size w W → (∀ s A B, J s A → Ab w.heap.size A B → J s B) → (∀ s A B, Jx s A → Ab w.heap.size A B → Jx s B) →
    (∀ pre x W1, J pre W1 → YieldAt Fence.wide 0 P l #[enc x] W1 fun e W' => (e = .returned (.bool true) ∧ J (pre ++ [x]) W' ∧ Kp W1 W') ∨ (e = .returned (.bool false) ∧ Jx (pre ++ [x]) W')) →
    J [] W →
    CallsIn Fence.wide 0 P gf (#[.func (.yield l) #[] #[]] ++ lb) W fun e W' => (∃ v, e = .returned v) ∧ ((∃ xs, S xs ∧ J xs W') ∨ (∃ pre, Sp pre ∧ Jx pre W'))

theorem wp_range_state {α : Type} {P : Program} {g : Operand} {ps : Array Tmp} {assign body : Code} {Q : Exit → Act → World → Prop} {a : Act} {w : World} {gf : FuncId} {lb : Array Value}
    (hg : a.eval g = .func (.func gf) #[] lb) (eg : ∀ args w, (callFunc gf args).run P w = .ok (.enter gf args) w) (enc : α → Value) (hps : ps.size = 1) {S Sp : List α → Prop}
    (hseq : SeqState P gf lb enc S Sp w) (I Ix : List α → World → Prop) (hI : ∀ s A B, I s A → Quieter w.heap.size A B → I s B) (hIx : ∀ s A B, Ix s A → Quieter w.heap.size A B → Ix s B) (h0 : I [] w) (a₁ : α → Act) (ex : Nat)
    (hassign : ∀ (l : Nat) (x : α) (W : World) (K : Act → World → Prop), K (a₁ x) W →
      assign.wpIn (Fence.wide.inRound l) 0 P (Exit.then K (fun _ _ _ => False)) { tmps := (ps.zip #[enc x]).foldl (fun t (p, v) => t.setIfInBounds p v) a.tmps, defers := [] } W)
    (hbody : ∀ (l : Nat) (pre : List α) (x : α) (W : World), I pre W → body.wpIn (Fence.wide.inRound l) 0 P (roundOut I Ix ex (pre ++ [x]) W) (a₁ x) W)
    (hdone : ∀ (D : Nat) (xs : List α) (W : World), w.heap.size ≤ D → S xs → I xs W → W.heap[D]? = some (.deferred (some [])) → Q .normal { a with defers := { target := .collected D, args := #[] } :: a.defers } W)
    (hstop : ∀ (D : Nat) (pre : List α) (W : World), w.heap.size ≤ D → Sp pre → Ix pre W → W.heap[D]? = some (.deferred (some [])) → (Code.exit ex).wp P Q { a with defers := { target := .collected D, args := #[] } :: a.defers } W) :
    (Code.rangeFunc g ps assign body).wp P Q a w := by
  refine wpIn_wide.1 (wpIn_rangeFunc (F := Fence.wide) (n := 0) (fun fn hfn => ?_))
  generalize hst : (fun (st : LoopState) (pe : Option Code) => ({ state := st, pending := pe, fn, tmps := a.tmps, params := ps, assign, body, defers := w.heap.size } : Loop)) = st
  have st_eq : ∀ s p, ({ state := s, pending := p, fn, tmps := a.tmps, params := ps, assign, body, defers := w.heap.size } : Loop) = st s p := fun s p => by rw [← hst]
  have st_state : ∀ s p, (st s p).state = s := fun s p => by rw [← hst]
  have st_pend : ∀ s p, (st s p).pending = p := fun s p => by rw [← hst]
  have st_busy : ∀ s p s', { st s p with state := s' } = st s' p := fun s p s' => by rw [← hst]
  have st_end : ∀ s p s' p', { st s p with state := s', pending := p' } = st s' p' := fun s p s' p' => by rw [← hst]
  have e1 := run_enterLoop_outer (P := P) (w := w) fn a.tmps ps assign body
  rw [st_eq] at e1
  generalize hW1 : (w.alloc (.deferred (some []))).alloc (.loop (st .ready none)) = W1 at e1
  have hL : W1.heap[w.heap.size + 1]? = some (.loop (st .ready none)) := by
    rw [← hW1]
    have := World.alloc_heap_new (w.alloc (.deferred (some []))) (.loop (st .ready none))
    rwa [World.size_alloc] at this
  have hD : W1.heap[w.heap.size]? = some (.deferred (some [])) := by
    rw [← hW1]; exact (Below.heap_alloc _ _ _ (by simp)).trans (World.alloc_heap_new w _)
  have hI1 : I [] W1 := by rw [← hW1]; exact hI _ _ _ (hI _ _ _ h0 (Quieter.new _ _ (Nat.le_refl _))) (Quieter.new _ _ (by simp))
  have hB1 : Below w.heap.size w W1 := by rw [← hW1]; exact ((Below.refl _ w).alloc (Nat.le_refl _) _).alloc (by simp) _
  refine ⟨w.heap.size + 1, [{ target := .collected w.heap.size, args := #[] }], W1, { target := .fn (.func gf) lb, args := #[.func (.yield (w.heap.size + 1)) #[] #[]] }, W1, gf,
    #[.func (.yield (w.heap.size + 1)) #[] #[]] ++ lb, W1, e1, ?_, fun _ _ => trivial, ?_, ?_, ?_⟩
  · simp only [resolve, hg]; simp [go_sem]
  · simp [invoke, go_sem, eg]
  · intro h; simp [Fence.wide] at h
  · refine (hseq (w.heap.size + 1)
      (fun s W => I s W ∧ W.heap[w.heap.size + 1]? = some (.loop (st .ready none)) ∧ W.heap[w.heap.size]? = some (.deferred (some [])))
      (fun s W => Ix s W ∧ W.heap[w.heap.size + 1]? = some (.loop (st .done (some (.exit ex)))) ∧ W.heap[w.heap.size]? = some (.deferred (some [])))
      W1 hB1 (fun s A B h hab => ⟨hI _ _ _ h.1 hab.calm, hab.same _ _ h.2.1 rfl, hab.same _ _ h.2.2 rfl⟩)
      (fun s A B h hab => ⟨hIx _ _ _ h.1 hab.calm, hab.same _ _ h.2.1 rfl, hab.same _ _ h.2.2 rfl⟩) ?_ ⟨hI1, hL, hD⟩).mono ?_
    · rintro pre x W ⟨hi, hl, hd⟩
      have hlt : w.heap.size + 1 < W.heap.size := (Array.getElem?_eq_some_iff.1 hl).1
      have hy := run_yield (P := P) (args := #[enc x]) hl (by rw [← hst]; simp [hps])
      have hb := run_beginRound (P := P) hl (st_state _ _)
      rw [st_busy] at hb
      rw [← hst] at hy
      refine ⟨fn, _, assign, body, hy, roundIn_of_wpIn hfn (hassign _ x W _ ⟨_, hb, ?_⟩)⟩
      have hl2 : (W.putObj (w.heap.size + 1) (.loop (st .busy none))).heap[w.heap.size + 1]? = some (.loop (st .busy none)) := World.putObj_heap_same hlt
      have hd2 : (W.putObj (w.heap.size + 1) (.loop (st .busy none))).heap[w.heap.size]? = some (.deferred (some [])) := (World.putObj_heap_other (by omega)).trans hd
      refine wpIn_mono (hbody _ pre x _ (hI _ _ _ hi (Quieter.put _ (by omega) hl rfl))) ?_
      rintro e a3 W3 hp
      cases e with
      | normal =>
        obtain ⟨hk, hkp, hi3⟩ := hp
        have hl3 := hk.same _ _ hl2 rfl
        have he := run_endRound (P := P) none hl3
        simp only [Option.isNone_none, if_true, st_end] at he
        exact ⟨_, _, he, .inl ⟨rfl, ⟨hI _ _ _ hi3 (Quieter.put _ (by omega) hl3 rfl), World.putObj_heap_same (Array.getElem?_eq_some_iff.1 hl3).1, (World.putObj_heap_other (by omega)).trans (hk.same _ _ hd2 rfl)⟩,
          ((Kp.put _ hl rfl).tr hkp).tr (Kp.put _ hl3 rfl)⟩⟩
      | exit id =>
        obtain ⟨hk, rfl, hi3⟩ := hp
        have hl3 := hk.same _ _ hl2 rfl
        have he := run_endRound (P := P) (some (.exit id)) hl3
        simp only [Option.isNone_some, st_end] at he
        exact ⟨_, _, he, .inr ⟨rfl, hIx _ _ _ hi3 (Quieter.put _ (by omega) hl3 rfl), World.putObj_heap_same (Array.getElem?_eq_some_iff.1 hl3).1, (World.putObj_heap_other (by omega)).trans (hk.same _ _ hd2 rfl)⟩⟩
      | ret => exact hp.elim
      | goto t => exact hp.elim
      | panic ch => exact hp.elim
      | outgrown => exact hp.elim
    · rintro e W2 ⟨⟨v, rfl⟩, (⟨xs, hS, hi, hl, hd⟩ | ⟨pre, hSp, hi, hl, hd⟩)⟩
      · have he := run_endLoop (P := P) hl (by rw [st_state]; simp)
        rw [st_busy, st_pend] at he
        exact ⟨none, _, he, hdone _ xs _ (Nat.le_refl _) hS (hI _ _ _ hi (Quieter.put _ (by omega) hl rfl)) ((World.putObj_heap_other (by omega)).trans hd)⟩
      · have he := run_endLoop (P := P) hl (by rw [st_state]; simp)
        rw [st_busy, st_pend] at he
        exact ⟨some (.exit ex), _, he, wpIn_wide.2 (hstop _ pre _ (Nat.le_refl _) hSp (hIx _ _ _ hi (Quieter.put _ (by omega) hl rfl)) ((World.putObj_heap_other (by omega)).trans hd))⟩
end Go.Proofs.YtdafpnpfcmgfcabGreatDoor
namespace Go.Proofs.YtdafpnpfcmgfcabGreatDoor
open Go.RowKit Go.Shelf
attribute [local go_sem] Oper.semAt_some

abbrev At (b : Book) : Type := Fin b.batches.length
def namesAt (b : Book) (xs : List (At b)) : List Str := xs.map fun x => (b.at x.val).name
/-- These have come, always the first who could. -/
def Gr (b : Book) (xs : List (At b)) : Prop := ∀ m, greedy b (m + xs.length) [] = greedy b m (namesAt b xs)
theorem Gr.nil (b : Book) : Gr b [] := fun _ => rfl
theorem namesAt_snoc (b : Book) (xs : List (At b)) (x : At b) : namesAt b (xs ++ [x]) = namesAt b xs ++ [(b.at x.val).name] := by simp [namesAt]
theorem Gr.snoc {b : Book} {xs : List (At b)} {x : At b} (h : Gr b xs) (hx : nextOf b (namesAt b xs) = some x.val) : Gr b (xs ++ [x]) := by
  intro m
  have e : m + (xs ++ [x]).length = (m + 1) + xs.length := by rw [List.length_append, List.length_singleton]; omega
  rw [e, h (m + 1), namesAt_snoc, greedy_some hx]

theorem ownsRow_block {w w' : World} {base : Nat} {e : TypeId} {size : Nat} {v : Value} {n : Nat} {xs : List Value} (h : w.ownsRow base e size v n xs) (k : ∀ (g : Nat) c, w.heap[g]? = some (.cells c e (0, 0)) → w'.heap[g]? = some (.cells c e (0, 0))) : w'.ownsRow base e size v n xs := by
  refine ⟨h.1, ?_⟩
  rcases h.2 with h2 | ⟨g, cap, cur, hv, hb, hg, r⟩
  · exact Or.inl h2
  · exact Or.inr ⟨g, cap, cur, hv, hb, k _ _ hg, r⟩
theorem rowIs_kp {w w' : World} {b : Nat} {t : TypeId} {n : Nat} {f : Nat → Value} (h : w.rowIs b t n f) (k : Kp w w') (ht : stateT t = true) : w'.rowIs b t n f := by
  obtain ⟨c, hc, r⟩ := h
  exact ⟨c, k _ _ hc ht, r⟩
theorem GoneAt.kp {w w' : World} {base g bg : Nat} {vh vn : Value} {b : Book} {gone : List Str} (h : GoneAt w base g bg vh vn b gone) (k : Kp w w') : GoneAt w' base g bg vh vn b gone := by
  obtain ⟨gl, h1, h2, h3⟩ := h
  exact ⟨gl, h1, h2, ⟨rowIs_kp h3.cells k rfl, rowIs_kp h3.row k rfl, ownsRow_block h3.hrow (fun g c hg => k _ _ hg rfl), ownsRow_block h3.nrow (fun g c hg => k _ _ hg rfl), h3.hg, h3.hbg, h3.ne⟩⟩

theorem leave_ab {w : World} {base g bg n : Nat} {vh vn : Value} {b : Book} {gone : List Str} {p : Nat} (hst : GoneAt w base g bg vh vn b gone) (hok : bookOk b = true) (hlt : p < b.batches.length)
    (hx : hasB gone (b.at p).name = false) (hg : n ≤ g) (hbg : n ≤ bg) :
    Calls Tryz.prog 113 #[.pointer (some ⟨g, 0, none⟩), .int .i64 (p : Int)] w fun e w' => e = .returned (.tuple #[]) ∧ Ab n w w' ∧ GoneAt w' base g bg vh vn b (gone ++ [(b.at p).name]) := by
  have hp := place_self hok hlt
  obtain ⟨gl, h1, h2, h3⟩ := hst
  have h8 := ok_things hok
  refine (leave_any w base g bg vh vn (hasBits b) (needsBits b) gl (freeN b (outOf b gone)) p h3 (by rw [hasBits_len]; exact hlt) (by rw [h1]; exact hlt) (freeN_small b _ h8) (by rw [bnth_has hlt]; exact bitsN_small _ _ h8)).mono ?_
  rintro e w' ⟨he, hal, htape⟩
  refine ⟨he, ⟨?_, ?_⟩, gl.set p true, by simp [h1], fun i hi => ?_, ?_⟩
  · have hb := ((Below.refl n w).setCell (p := ⟨bg, p, none⟩) hbg (.bool true)).setCell (p := ⟨g, 3, none⟩) hg (.int .u64 ((freeN b (outOf b gone) : Int) + (bnth (hasBits b) p : Int)))
    exact ⟨hal.2.1.trans hb.os, htape, hal.2.2.trans hb.output, by rw [hal.1]; exact hb.size, fun k hk => by rw [hal.1]; exact hb.block k hk⟩
  · intro k o hk ho
    rw [hal.1]
    have n1 : k ≠ g := fun e => by
      obtain ⟨c, hc, _⟩ := h3.cells
      rw [e, hc] at hk; cases hk; cases ho
    have n2 : k ≠ bg := fun e => by
      obtain ⟨c, hc, _⟩ := h3.row
      rw [e, hc] at hk; cases hk; cases ho
    exact ((Below.heap_setCell _ _ _ k n1).trans (Below.heap_setCell _ _ _ k n2)).trans hk
  · rw [gnth_set _ _ _ (by rw [h1]; exact hlt), out_step hok hp hlt hi, h2 i hi]; rfl
  · rw [free_go hok hp hlt hx]
    exact h3.left (by rw [h1]; exact hlt) hal

/-- How many are not gone, read off the world. -/
def cntN (f : Nat → Bool) : Nat → Nat
  | 0 => 0
  | n + 1 => cntN f n + (if f n then 1 else 0)
theorem cntN_congr {f g : Nat → Bool} : ∀ {n : Nat}, (∀ i, i < n → f i = g i) → cntN f n = cntN g n
  | 0, _ => rfl
  | n + 1, h => by rw [cntN, cntN, cntN_congr (fun i hi => h i (by omega)), h n (by omega)]
theorem cntN_le {f g : Nat → Bool} : ∀ {n : Nat}, (∀ i, i < n → g i = true → f i = true) → cntN g n ≤ cntN f n
  | 0, _ => Nat.le_refl _
  | n + 1, h => by
    have h1 := cntN_le (n := n) (fun i hi => h i (by omega))
    have h2 := h n (by omega)
    rw [cntN, cntN]
    cases hg : g n
    · simp; omega
    · rw [h2 hg]; simp; exact h1
theorem cntN_lt {f g : Nat → Bool} {p : Nat} (hf : f p = true) (hg : g p = false) : ∀ {n : Nat}, (∀ i, i < n → g i = true → f i = true) → p < n → cntN g n < cntN f n
  | 0, _, hp => absurd hp (by omega)
  | n + 1, h, hp => by
    rw [cntN, cntN]
    by_cases e : p = n
    · subst e
      rw [hf, hg]
      have := cntN_le (n := p) (fun i hi => h i (by omega))
      simp; omega
    · have h1 := cntN_lt hf hg (n := n) (fun i hi => h i (by omega)) (by omega)
      have h2 := h n (by omega)
      cases hgn : g n
      · simp; omega
      · rw [h2 hgn]; simp; exact h1
def isGone : Option Value → Bool
  | some (.bool x) => x
  | _ => false
def leftAt (bg n : Nat) (w : World) : Nat := cntN (fun i => !isGone (w.cell? ⟨bg, i, none⟩)) n
theorem left_eq {w : World} {base g bg : Nat} {vh vn : Value} {b : Book} {gone : List Str} (h : GoneAt w base g bg vh vn b gone) : leftAt bg b.batches.length w = cntN (fun i => !outOf b gone i) b.batches.length := by
  obtain ⟨gl, h1, h2, h3⟩ := h
  refine cntN_congr (fun i hi => ?_)
  rw [h3.row.cell (by rw [h1]; exact hi), ← h2 i hi]
  rfl
theorem left_lt {w w' : World} {base g bg : Nat} {vh vn : Value} {b : Book} {gone : List Str} {p : Nat} (hok : bookOk b = true) (hlt : p < b.batches.length) (hx : hasB gone (b.at p).name = false) (h : GoneAt w base g bg vh vn b gone) (h' : GoneAt w' base g bg vh vn b (gone ++ [(b.at p).name])) :
    leftAt bg b.batches.length w' < leftAt bg b.batches.length w := by
  rw [left_eq h, left_eq h']
  have hp := place_self hok hlt
  refine cntN_lt (p := p) (by simp [outOf, hx]) (by rw [out_step hok hp hlt hlt]; simp [putOut]) (fun i hi hh => ?_) hlt
  rw [out_step hok hp hlt hi] at hh
  simp only [putOut] at hh
  split at hh
  · simp at hh
  · exact hh

def StSeq (b : Book) (xs : List (At b)) : Prop := Gr b xs ∧ nextOf b (namesAt b xs) = none

set_option maxRecDepth 100000 in
set_option maxHeartbeats 1000000 in
theorem goers_state (b : Book) (Bn : Nat) (a1 a2 : Option Addr) (c1 c2 : Nat) (w : World) (h0 : w.cell? ⟨Bn, 0, none⟩ = some (.slice a1 b.things.length c1)) (h1 : w.cell? ⟨Bn, 1, none⟩ = some (.slice a2 b.batches.length c2))
    (hb : BookAt w a1 a2 b) (hok : bookOk b = true) :
    SeqState Tryz.prog 110 #[.pointer (some ⟨Bn, 0, none⟩)] (fun x : At b => .int .i64 ((x.val : Nat) : Int)) (StSeq b) (Gr b) w := by
  intro l J Jx W hW hJ hJx hY hJ0
  have HOK := hid hok
  have h0' := Ext.keep hW h0
  have h1' := Ext.keep hW h1
  have hb' := hb.ext hW
  refine callsIn_of_wp Tryz.func110 rfl trivial ?_ rfl
  simp only [Tryz.ntmps110, List.size_toArray, List.length_cons, List.length_nil, Nat.reduceAdd, Nat.reduceSub, Array.replicate_succ, Array.replicate_zero, List.push_toArray, List.append_toArray, List.nil_append, List.cons_append]
  gi_wp2_with fail
  refine ⟨trivial, rfl, (callsIn_wide.2 (startGoing_any b _ _ _ _ _ hb' HOK.out (ok_things HOK.out) (ok_five HOK.out))).mono ?_⟩
  rintro e w1 ⟨base, g, bg, vh, vn, rfl, hext1, hg, hbg, hgo⟩
  have hzw := hW.size
  have HG := hid (Nat.le_trans hzw hg)
  have HBG := hid (Nat.le_trans hzw hbg)
  have HJ1 := hid (hJ _ _ _ hJ0 (Ab.of_ext hext1 hzw))
  have HGO : Hid (GoneAt w1 base g bg vh vn b []) := ⟨List.replicate b.batches.length false, by simp, fun i hi => by simp [gnth, outOf, hasB, List.getD_eq_getElem?_getD, hi], by
    have e : freeN b (fun _ => false) = freeN b (outOf b []) := freeN_congr (fun i _ => by simp [outOf, hasB])
    rw [← e]; exact hgo⟩
  have HJ := hid hJ
  have HJX := hid hJx
  have HY := hid hY
  clear h0' h1' hext1 hgo hg hbg hJ0 hW hJ hJx hY hb' hb h0 h1 hok
  gi_wp2_with fail
  gi_loopw [4] (fun _ wr => ∃ pre : List (At b), J pre wr ∧ GoneAt wr base g bg vh vn b (namesAt b pre) ∧ Gr b pre) (fun _ wr => leftAt bg b.batches.length wr)
  case atStart => exact ⟨[], HJ1.out, HGO.out, Gr.nil b⟩
  case round =>
    obtain ⟨pre, hJp, hgn, hgr⟩ := hrel
    have HJP := hid hJp
    have HGN := hid hgn
    have HGR := hid hgr
    clear hJp hgn hgr
    have hsz : w.heap.size ≤ wr.heap.size := by
      obtain ⟨gl, _, _, h3⟩ := HGN.out
      have := h3.cells.lt
      have := HG.out
      omega
    gi_wp2_with fail
    refine ⟨trivial, rfl, (callsIn_wide.2 (first_v HGN.out HOK.out)).mono ?_⟩
    rintro e w2 ⟨(⟨p, rfl, hnx⟩ | ⟨rfl, hnx⟩), hext2⟩
    · have hlt := nextOf_lt hnx
      have HNX := hid hnx
      have HJ2 := hid (HJ.out _ _ _ HJP.out (Ab.of_ext hext2 hsz))
      have HG2 := hid (HGN.out.ext hext2)
      have HX : Hid (hasB (namesAt b pre) (b.at p).name = false) := by
        have h := List.find?_some hnx
        simp only [goodN, Bool.and_eq_true, Bool.not_eq_true'] at h
        exact h.1
      clear hnx hext2
      gi_wp2_with fail
      refine ⟨trivial, rfl, (callsIn_wide.2 (leave_ab HG2.out HOK.out hlt HX.out HG.out HBG.out)).mono ?_⟩
      rintro e w3 ⟨rfl, hab3, hgo3⟩
      have HJ3 := hid (HJ.out _ _ _ HJ2.out hab3)
      have HG3 := hid hgo3
      clear hab3 hgo3
      obtain ⟨fn, tmps, assign, body, hy, hR⟩ := HY.out pre ⟨p, hlt⟩ w3 HJ3.out
      dsimp only at hy
      gi_wp2_with fail
      refine ⟨rfl, hR.mono ?_⟩
      clear hy hR
      rintro e w4 (⟨rfl, hJ4, hk4⟩ | ⟨rfl, hJx4⟩)
      · have HJ4 := hid hJ4
        have HG4 := hid (HG3.out.kp hk4)
        clear hJ4 hk4
        gi_wp2_with fail
        go_roundw
        case rel => exact ⟨pre ++ [⟨p, hlt⟩], HJ4.out, by rw [namesAt_snoc]; exact HG4.out, HGR.out.snoc HNX.out⟩
        case measure => exact left_lt HOK.out hlt HX.out HGN.out HG4.out
      · have HJX4 := hid hJx4
        clear hJx4
        gi_wp2_with fail
        refine bodyPost_ret (results_none rfl _ _ _) rfl ?_
        exact ⟨⟨_, rfl⟩, .inr ⟨_, HGR.out.snoc HNX.out, HJX4.out⟩⟩
    · have HNX := hid hnx
      have HJ2 := hid (HJ.out _ _ _ HJP.out (Ab.of_ext hext2 hsz))
      clear hnx hext2
      gi_wp2_with fail
      refine bodyPost_ret (results_none rfl _ _ _) rfl ?_
      exact ⟨⟨_, rfl⟩, .inl ⟨pre, ⟨HGR.out, HNX.out⟩, HJ2.out⟩⟩
end Go.Proofs.YtdafpnpfcmgfcabGreatDoor
namespace Go.Proofs.YtdafpnpfcmgfcabGreatDoor
open Go.RowKit Go.Shelf

theorem oper_lift {P : Program} {o : Oper} {a : Act} {w : World} {K : Act → World → Prop} {Q : Exit → Act → World → Prop} (l : Nat) (hd : ∀ c, o.op ≠ .defer c) (h : o.wp P a w K Q) : o.wpIn (Fence.wide.inRound l) 0 P a w K Q := by
  refine ⟨fun _ _ => trivial, ?_⟩
  have e : o.semAt (Fence.wide.inRound l).round a.eval = execOp a.eval o := Oper.semAt_eq _ _ _ hd
  rw [e]
  unfold Oper.wp at h
  generalize (execOp a.eval o).run P w = r at *
  have hdep : (Fence.wide.inRound l).depth.isSome = true → 1 ≤ 0 := fun hh => by simp [Fence.wide] at hh
  cases r with
  | ok n w' =>
    cases n <;> simp only [Oper.upon, Oper.uponIn] at h ⊢ <;>
      first
        | exact h
        | exact ⟨hdep, CallsIn.mono (CallsIn.inRound l (callsIn_wide.2 h)) (fun e w'' he => by cases e <;> exact he)⟩
        | exact ⟨hdep, fun c cs _ => let ⟨v, w', r, s⟩ := h c cs; ⟨v, w', r, stepsIn_wide.2 s⟩⟩
  | halt x w' => cases x <;> simp only [Oper.upon, Oper.uponIn] at h ⊢ <;> exact h

theorem any_lift {P : Program} {md : Region.Mode} {ops : Array Oper} {Q : Exit → Act → World → Prop} (l : Nat) (hd : ∀ (j : Nat) o c, ops[j]? = some o → o.op ≠ .defer c) (hQ : ¬ LetsOut Q) :
    ∀ (fuel : Nat) (listed : Array Bool) (a : Act) (w : World), wpAny P md ops Q fuel listed a w → wpAnyIn (Fence.wide.inRound l) 0 P md ops Q fuel listed a w
  | 0, _, _, _, h => h
  | fuel + 1, listed, a, w, h => by
    refine ⟨h.1, fun i hi => ?_⟩
    have h1 := h.2 i hi
    unfold wpOp at h1
    unfold wpOpIn
    cases ho : ops[i]? with
    | none => rw [ho] at h1; exact any_lift l hd hQ fuel _ a w h1
    | some o =>
      rw [ho] at h1
      simp only at h1 ⊢
      split
      · rename_i hw
        simp only [hw, if_true] at h1
        rcases h1 with h1 | h1
        · exact Oper.wpIn_mono (fun a w => any_lift l hd hQ fuel _ a w) (oper_lift l (fun c => hd i o c ho) h1)
        · exact absurd h1.2 hQ
      · rename_i hw
        simp only [hw] at h1
        exact ⟨fun _ _ => trivial, any_lift l hd hQ fuel _ _ w h1⟩

def noDefer (ops : Array Oper) : Bool := ops.toList.all fun o => match o.op with
  | .defer _ => false
  | _ => true
theorem noDefer_spec {ops : Array Oper} (h : noDefer ops = true) (j : Nat) (o : Oper) (c : Call) (hj : ops[j]? = some o) : o.op ≠ .defer c := by
  intro e
  rw [← Array.getElem?_toList] at hj
  have h1 := List.all_eq_true.1 h o (List.mem_of_getElem? hj)
  rw [e] at h1
  cases h1
theorem wpIn_region_round {P : Program} {id : Nat} {ops : Array Oper} {Q : Exit → Act → World → Prop} {a : Act} {w : World} (l : Nat) (hm : P.follows .mixedOrders = true) (hd : noDefer ops = true) (hQ : ¬ LetsOut Q)
    (h : wpAny P .any ops Q ops.size (Array.replicate ops.size false) a w.drew) : (Code.region id ops true).wpIn (Fence.wide.inRound l) 0 P Q a w :=
  wpIn_region_any hm (any_lift l (noDefer_spec hd) hQ _ _ _ _ h)

theorem Kp.setBox {W : World} {B : Nat} {t : TypeId} {v : Value} (v' : Value) (h : Boxed W B t v) (ht : stateT t = false) : Kp W (W.setCell ⟨B, 0, none⟩ v') := by
  intro k o hk hs
  have hne : k ≠ B := fun e => by
    subst e
    have h1 : W.heap[k]? = some (.cells #[v] t (0, 0)) := h
    rw [h1] at hk; cases hk
    simp only [isState] at hs
    rw [ht] at hs; cases hs
  exact (Below.heap_setCell _ _ _ k hne).trans hk
theorem kp_appended {W w2 : World} {n₀ B : Nat} {t e : TypeId} {size : Nat} {v v' : Value} {k : Nat} {xs : List Value} {tmp : Obj} (he : stateT e = false) (ht : stateT t = false) (hrow : W.ownsRow n₀ e size v k xs) (hv1 : Boxed w2 B t v)
    (hgrow : (W.alloc tmp).grownBy w2 v.ownBlock) : Kp W (w2.setCell ⟨B, 0, none⟩ v') := by
  refine ((Kp.new W tmp).tr (Kp.grown hgrow fun j o ej hj => ?_)).tr (Kp.setBox v' hv1 ht)
  rcases (hrow.alloc tmp).2 with ⟨rfl, _⟩ | ⟨g, cap, cur, rfl, _, hgb, _⟩
  · simp [Value.ownBlock] at ej
  · obtain rfl : g = j := by simpa [Value.ownBlock] using ej
    rw [hgb] at hj; cases hj; exact he

/-- What is left of a region: i, then j, then nothing. -/
def Two (md : Region.Mode) (ops : Array Oper) (i j : Nat) (L : Array Bool) : Prop :=
  Region.ready md ops L = [i] ∧ Region.ready md ops (L.setIfInBounds i true) = [j] ∧ Region.ready md ops ((L.setIfInBounds i true).setIfInBounds j true) = []
theorem with_tail {P : Program} {md : Region.Mode} {ops : Array Oper} {Q : Exit → Act → World → Prop} {n : Nat} {L : Array Bool} {a : Act} {w : World} {A : Act} {W' : World} {m i j : Nat}
    (main : (∀ L', Two md ops i j L' → wpAny P md ops Q m L' A W') → wpAny P md ops Q n L a w) (tail : ∀ L', Two md ops i j L' → wpAny P md ops Q m L' A W') : wpAny P md ops Q n L a w := main tail
end Go.Proofs.YtdafpnpfcmgfcabGreatDoor
namespace Go.Proofs.YtdafpnpfcmgfcabGreatDoor
open Go.RowKit Go.Shelf
attribute [local go_sem] Oper.semAt_some
attribute [local go_sem] S_toList S_size S_get

set_option maxHeartbeats 400000 in
theorem goers_any (b : Book) (a1 a2 : Option Addr) (c1 c2 : Nat) (w : World) :
    Calls Tryz.prog 109 #[.agg #[.slice a1 b.things.length c1, .slice a2 b.batches.length c2]] w fun e w' =>
      e = .returned (.func (.func 110) #[] #[.pointer (some ⟨w.heap.size, 0, none⟩)]) ∧ w' = w.alloc (.cells #[.slice a1 b.things.length c1, .slice a2 b.batches.length c2] 30) := by
  go_enter Tryz.func109, Tryz.ntmps109
  go_wp2
  go_ret
  exact ⟨rfl, rfl⟩

/-- The box of the order holds the names of those who have come. -/
def OrdX (b : Book) (w1 : World) (xs : List (At b)) (W : World) : Prop :=
  xs.length = b.batches.length ∧ (∃ v, Boxed W w1.heap.size 22 v ∧ OwnL W w1.heap.size v (namesAt b xs)) ∧ Below w1.heap.size w1 W
def OrdI (b : Book) (w1 : World) (xs : List (At b)) (W : World) : Prop :=
  (xs.length < b.batches.length ∨ b.batches.length = 0) ∧ (∃ v, Boxed W w1.heap.size 22 v ∧ OwnL W w1.heap.size v (namesAt b xs)) ∧ Below w1.heap.size w1 W
theorem ord_quiet {b : Book} {w1 A B : World} {n : Nat} {xs : List (At b)} (hn : w1.heap.size ≤ n) (q : Quieter n A B) (h : (∃ v, Boxed A w1.heap.size 22 v ∧ OwnL A w1.heap.size v (namesAt b xs)) ∧ Below w1.heap.size w1 A) :
    (∃ v, Boxed B w1.heap.size 22 v ∧ OwnL B w1.heap.size v (namesAt b xs)) ∧ Below w1.heap.size w1 B := by
  obtain ⟨⟨v, h1, h2⟩, h3⟩ := h
  exact ⟨⟨v, q.same _ _ h1 rfl rfl, ownsRow_block h2 (fun g c hg => q.same _ _ hg rfl rfl)⟩, h3.trans (q.below.mono hn)⟩
theorem OrdI.quiet {b : Book} {w1 : World} {n : Nat} (hn : w1.heap.size ≤ n) : ∀ s A B, OrdI b w1 s A → Quieter n A B → OrdI b w1 s B := fun _ _ _ h q => ⟨h.1, ord_quiet hn q h.2⟩
theorem OrdX.quiet {b : Book} {w1 : World} {n : Nat} (hn : w1.heap.size ≤ n) : ∀ s A B, OrdX b w1 s A → Quieter n A B → OrdX b w1 s B := fun _ _ _ h q => ⟨h.1, ord_quiet hn q h.2⟩

theorem own_len {w : World} {base : Nat} {v : Value} {ss : List Str} (h : OwnL w base v ss) : ∃ a cap, v = .slice a ss.length cap := by
  rcases h.2 with ⟨rfl, h0⟩ | ⟨g, cap, cur, rfl, _⟩
  · exact ⟨none, 0, by rw [h0]⟩
  · exact ⟨_, cap, rfl⟩
theorem Gr.none {b : Book} {xs : List (At b)} (hok : bookOk b = true) (h : Gr b xs) (hn : nextOf b (namesAt b xs) = none) (hlt : xs.length < b.batches.length) : orderL b = [] ∧ safeB b = false := by
  have e : orderOf b = Option.none := by
    have e1 : b.batches.length = (b.batches.length - xs.length - 1 + 1) + xs.length := by omega
    unfold orderOf
    rw [if_pos hok, e1, h, greedy_none hn]
  constructor
  · simp [orderL, e]
  · simp [safeB, e]
theorem Gr.all {b : Book} {xs : List (At b)} (hok : bookOk b = true) (h : Gr b xs) (hlen : xs.length = b.batches.length) : orderL b = namesAt b xs ∧ safeB b = true := by
  have e : orderOf b = some (namesAt b xs) := by
    have e1 : b.batches.length = 0 + xs.length := by omega
    unfold orderOf
    rw [if_pos hok, e1, h]; rfl
  constructor
  · simp [orderL, e]
  · simp [safeB, e]
theorem at_none {b : Book} (h : b.batches.length = 0) (xs : List (At b)) : xs.length = b.batches.length := by
  cases xs with
  | nil => simp [h]
  | cons x _ => exact absurd x.2 (by omega)
theorem own_base {w : World} {base base' : Nat} {v : Value} {ss : List Str} (h : OwnL w base v ss) (hb : base' ≤ base) : OwnL w base' v ss := by
  refine ⟨h.1, ?_⟩
  rcases h.2 with h2 | ⟨g, cap, cur, hv, hg, r⟩
  · exact Or.inl h2
  · exact Or.inr ⟨g, cap, cur, hv, by omega, r⟩

set_option maxHeartbeats 1000000 in
set_option maxRecDepth 100000 in
theorem implOrder_any (b : Book) (a1 a2 : Option Addr) (c1 c2 : Nat) (w : World) (hb : BookAt w a1 a2 b) :
    Calls Tryz.prog 108 #[.agg #[.slice a1 b.things.length c1, .slice a2 b.batches.length c2]] w fun e w' =>
      ∃ v, e = .returned (.tuple #[v, .bool (safeB b)]) ∧ Ext w w' ∧ OwnL w' w.heap.size v (orderL b) := by
  have hal : ∀ o, Ext w (w.alloc o) := fun o => (Below.refl _ _).alloc (Nat.le_refl _) _
  have hn := hb.2.1
  obtain ⟨i0, hi, hz0, hz1, hz2⟩ := info_str
  cases hok : bookOk b
  · have HF : Hid (orderL b = [] ∧ safeB b = false) := by constructor <;> simp [orderL, safeB, orderOf, hok]
    go_enter Tryz.func108, Tryz.ntmps108
    go_wp2_with fail
    refine (implBookOk_any b _ _ _ _ _ (hb.ext (hal _))).mono ?_
    rintro e w1 ⟨rfl, hext1⟩
    have HE1 := hid (Ext.tr (hal _) hext1)
    clear hext1
    go_wp2_with fail
    go_ret2
    refine ⟨.slice none 0 0, by rw [HF.out.2]; rfl, HE1.out, ?_⟩
    rw [HF.out.1]; exact World.ownsRow_nil _ _ _ _
  · have HOK := hid hok
    clear hok
    refine callsIn_wide.1 (callsIn_of_wp_marks (n := 0) Tryz.func108 rfl trivial (wpIn_wide.2 ?_) rfl)
    simp only [Tryz.ntmps108, List.size_toArray, List.length_cons, List.length_nil, Nat.reduceAdd, Nat.reduceSub, Array.replicate_succ, Array.replicate_zero, List.push_toArray, List.append_toArray, List.nil_append, List.cons_append]
    go_wp2_with fail
    refine (implBookOk_any b _ _ _ _ _ (hb.ext (hal _))).mono ?_
    rintro e w1 ⟨rfl, hext1⟩
    have HE1 := hid hext1
    clear hext1
    have hx0 := box_cell HE1.out (i := 0) rfl
    have hx1 := box_cell HE1.out (i := 1) rfl
    have hok := HOK.out
    have hzz := HE1.out.size
    simp at hzz
    have hzz' : w.heap.size < w1.heap.size := hzz
    go_wp2_with fail
    refine (goers_any b _ _ _ _ _).mono ?_
    rintro e w2 ⟨rfl, rfl⟩
    go_wp2_with fail
    have HE0 := hid (Ext.tr (hal _) HE1.out)
    have hbox := Boxed.new w1 22 (.slice none 0 0)
    have hB0 : Below w1.heap.size w1 ((w1.alloc (.cells #[.slice none 0 0] 22)).alloc (.cells #[.slice a1 b.things.length c1, .slice a2 b.batches.length c2] 30)) := ((Below.refl _ w1).alloc (Nat.le_refl _) _).alloc (by simp) _
    have hs0 : (w1.alloc (.cells #[.slice none 0 0] 22)).heap.size = w1.heap.size + 1 := by simp
    have g0 : ((w1.alloc (.cells #[.slice none 0 0] 22)).alloc (.cells #[.slice a1 b.things.length c1, .slice a2 b.batches.length c2] 30)).cell? ⟨w1.heap.size + 1, 0, none⟩ = some (.slice a1 b.things.length c1) := by
      rw [← hs0]; simp
    have g1 : ((w1.alloc (.cells #[.slice none 0 0] 22)).alloc (.cells #[.slice a1 b.things.length c1, .slice a2 b.batches.length c2] 30)).cell? ⟨w1.heap.size + 1, 1, none⟩ = some (.slice a2 b.batches.length c2) := by
      rw [← hs0]; simp
    refine wp_range_state (gf := 110) (lb := #[.pointer (some ⟨w1.heap.size + 1, 0, none⟩)]) rfl (enters_of Tryz.func110 (by kernel_rfl) rfl) (fun x : At b => .int .i64 ((x.val : Nat) : Int)) rfl
      (goers_state b (w1.heap.size + 1) a1 a2 c1 c2 _ g0 g1 (hb.ext (Ext.tr HE0.out hB0)) HOK.out)
      (OrdI b w1) (OrdX b w1) (OrdI.quiet (by simp; omega)) (OrdX.quiet (by simp; omega)) ?start
      (fun x => { tmps := #[.agg #[.slice a1 b.things.length c1, .slice a2 b.batches.length c2], .pointer (some ⟨w.heap.size, 0, none⟩), .slice none 0 0, .bool false, .pointer (some ⟨w1.heap.size, 0, none⟩), .int .i64 ((x.val : Nat) : Int), .agg #[.slice a1 b.things.length c1, .slice a2 b.batches.length c2], .bool true, .bool false, .agg #[.slice a1 b.things.length c1, .slice a2 b.batches.length c2], .func (.func 110) #[] #[.pointer (some ⟨w1.heap.size + 1, 0, none⟩)], .int .i64 ((x.val : Nat) : Int), undef, undef, undef, undef, undef, undef, undef, undef, undef, undef, undef, undef, undef, undef, undef, undef, undef, undef, undef, undef, undef, undef], defers := [] }) 0 ?assign ?body ?done ?stop
    case start =>
      refine ⟨by simp only [List.length_nil]; omega, ⟨.slice none 0 0, hbox.alloc _, World.ownsRow_nil _ _ _ _⟩, hB0⟩
    case assign =>
      intro l x W K hK
      gi_wp2
      exact hK
    case body =>
      rintro l pre x W ⟨hlen, ⟨v, hv, hrow⟩, hB⟩
      have hlt : pre.length < b.batches.length := by have := x.2; omega
      have hN : pre.length ≤ 5 := by have := ok_five HOK.out; omega
      have hb' := hb.ext (Ext.tr HE0.out hB)
      have p0 := (hB.cell (p := ⟨w.heap.size, 0, none⟩) hzz').trans hx0
      have p1 := (hB.cell (p := ⟨w.heap.size, 1, none⟩) hzz').trans hx1
      have hc := hv.cell
      have hxl := x.2
      have hlm : (namesAt b pre).length = pre.length := by simp [namesAt]
      obtain ⟨ba, oa, rfl, hl, d1, q1, d2, q2, n0, n1, n2, s1, s2⟩ := hb'.2.2 x.val x.2
      have hvl := hv.lt
      have HROW := hid hrow
      have HV := hid hv
      have HB := hid hB
      have HSM := hid s1
      clear hrow hv hB hb' s1 s2 n1 n2 hx0 hx1 g0 g1 hbox hB0 hs0
      gi_wp2_with fail
      refine wpIn_region_round l (by kernel_rfl) (by kernel_rfl) (by rintro ⟨_, _, h⟩; exact h) ?_
      refine with_tail (m := 2) (i := 8) (j := 9) (A := { tmps := #[.agg #[.slice a1 b.things.length c1, .slice (some ⟨ba, oa, none⟩) b.batches.length c2], .pointer (some ⟨w.heap.size, 0, none⟩), .slice none 0 0, .bool false, .pointer (some ⟨w1.heap.size, 0, none⟩), .int .i64 ((x.val : Nat) : Int), .agg #[.slice a1 b.things.length c1, .slice (some ⟨ba, oa, none⟩) b.batches.length c2], .bool true, .bool false, .agg #[.slice a1 b.things.length c1, .slice (some ⟨ba, oa, none⟩) b.batches.length c2], .func (.func 110) #[] #[.pointer (some ⟨w1.heap.size + 1, 0, none⟩)], .int .i64 ((x.val : Nat) : Int), v, .pointer (some ⟨w.heap.size, 1, none⟩), .slice (some ⟨ba, oa, none⟩) b.batches.length c2, .int .i64 ((x.val : Nat) : Int), .pointer (some ⟨ba, oa + x.val * 3, none⟩), .pointer (some ⟨ba, oa + x.val * 3, none⟩), .string (S (nthB b.batches x.val).name), .slice (some ⟨W.heap.size, 0, none⟩) 1 1, undef, undef, undef, undef, undef, undef, undef, undef, undef, undef, undef, undef, undef, undef], defers := [] }) (W' := W.drew.alloc (.cells #[.string (S (nthB b.batches x.val).name)] 9)) (fun ht => ?main) ?tail
      case main =>
        refine wpAny_take (i := 1) (v := ?_) rfl (by kernel_rfl) (by kernel_rfl) (by kernel_rfl) (fun _ _ _ h => h) (Or.inl ⟨by rfl, by intro w; go_simp; rfl⟩) ?_
        refine wpAny_take (i := 3) (v := ?_) rfl (by kernel_rfl) (by kernel_rfl) (by kernel_rfl) (fun _ _ _ h => h) (Or.inl ⟨by rfl, by intro w; go_simp; rfl⟩) ?_
        refine wpAny_ready (rs := [0, 2]) (by kernel_rfl) (by simp) (AllReady.cons rfl (fun K hK => ?_) (AllReady.cons rfl (fun K hK => ?_) AllReady.nil))
        · go_simp
          refine hK _ _ ?_
          clear hK K
          refine wpAny_ready (rs := [2]) (by kernel_rfl) (by simp) (AllReady.cons rfl (fun K hK => ?_) AllReady.nil)
          go_simp
          refine hK _ _ ?_
          clear hK K
          refine wpAny_ready (rs := [4]) (by kernel_rfl) (by simp) (AllReady.cons rfl (fun K hK => ?_) AllReady.nil)
          go_simp
          refine hK _ _ ?_
          clear hK K
          refine wpAny_ready (rs := [5]) (by kernel_rfl) (by simp) (AllReady.cons rfl (fun K hK => ?_) AllReady.nil)
          go_simp
          refine hK _ _ ?_
          clear hK K
          refine wpAny_ready (rs := [6]) (by kernel_rfl) (by simp) (AllReady.cons rfl (fun K hK => ?_) AllReady.nil)
          go_simp
          refine hK _ _ ?_
          clear hK K
          refine wpAny_ready (rs := [7]) (by kernel_rfl) (by simp) (AllReady.cons rfl (fun K hK => ?_) AllReady.nil)
          go_simp
          refine hK _ _ ?_
          clear hK K
          exact ht _ ⟨by kernel_rfl, by kernel_rfl, by kernel_rfl⟩
        · go_simp
          refine hK _ _ ?_
          clear hK K
          refine wpAny_take (i := 4) (v := ?_) rfl (by kernel_rfl) (by kernel_rfl) (by kernel_rfl) (fun _ _ _ h => h) (Or.inl ⟨by rfl, by intro w; go_simp; rfl⟩) ?_
          refine wpAny_take (i := 5) (v := ?_) rfl (by kernel_rfl) (by kernel_rfl) (by kernel_rfl) (fun _ _ _ h => h) (Or.inl ⟨by rfl, by intro w; go_simp; rfl⟩) ?_
          refine wpAny_ready (rs := [0, 6]) (by kernel_rfl) (by simp) (AllReady.cons rfl (fun K hK => ?_) (AllReady.cons rfl (fun K hK => ?_) AllReady.nil))
          · go_simp
            refine hK _ _ ?_
            clear hK K
            refine wpAny_ready (rs := [6]) (by kernel_rfl) (by simp) (AllReady.cons rfl (fun K hK => ?_) AllReady.nil)
            go_simp
            refine hK _ _ ?_
            clear hK K
            refine wpAny_ready (rs := [7]) (by kernel_rfl) (by simp) (AllReady.cons rfl (fun K hK => ?_) AllReady.nil)
            go_simp
            refine hK _ _ ?_
            clear hK K
            exact ht _ ⟨by kernel_rfl, by kernel_rfl, by kernel_rfl⟩
          · go_simp
            refine hK _ _ ?_
            clear hK K
            refine wpAny_ready (rs := [0, 7]) (by kernel_rfl) (by simp) (AllReady.cons rfl (fun K hK => ?_) (AllReady.cons rfl (fun K hK => ?_) AllReady.nil))
            · go_simp
              refine hK _ _ ?_
              clear hK K
              refine wpAny_ready (rs := [7]) (by kernel_rfl) (by simp) (AllReady.cons rfl (fun K hK => ?_) AllReady.nil)
              go_simp
              refine hK _ _ ?_
              clear hK K
              exact ht _ ⟨by kernel_rfl, by kernel_rfl, by kernel_rfl⟩
            · go_simp
              refine hK _ _ ?_
              clear hK K
              refine wpAny_ready (rs := [0]) (by kernel_rfl) (by simp) (AllReady.cons rfl (fun K hK => ?_) AllReady.nil)
              go_simp
              refine hK _ _ ?_
              clear hK K
              exact ht _ ⟨by kernel_rfl, by kernel_rfl, by kernel_rfl⟩
      case tail =>
        rintro L' ⟨r1, r2, r3⟩
        have hvd : Boxed W.drew w1.heap.size 22 v := HV.out
        have hrowd : W.drew.ownsRow w1.heap.size 9 1 v (namesAt b pre).length ((namesAt b pre).map fun s => .string (S s)) := HROW.out.drew
        have hsz : w1.heap.size ≤ W.drew.heap.size := HB.out.size
        refine wpAny_ready (rs := [8]) r1 (by simp) (AllReady.cons rfl (fun K hK => ?_) AllReady.nil)
        refine step_append_own_at rfl (.tmp 12) (.tmp 19) 22 rfl w1.heap.size 9 i0 (.string (S [])) 1 16 Tryz.underlying22 hi hz0 hz1 hz2 rfl (by decide) v _ _ rfl (hrowd.alloc _) ⟨W.heap.size, 0, none⟩ 1 1 [.string (S (nthB b.batches x.val).name)] rfl rfl (cell_one_new _ _ _) (by simp [Value.oneCell']) (by unfold maxLen; omega) (by omega) (by simp; omega) ?_
        intro v' w2 hown' hgrow _
        obtain ⟨g', cap', rfl⟩ := ownsRow_succ hown'
        obtain ⟨hv1, hv2, hr2, hk2, hb2⟩ := hvd.appended (by decide) hrowd hsz (Nat.le_refl _) hown' hgrow
        have hkp := kp_appended (v' := .slice (some ⟨g', 0, none⟩) ((namesAt b pre).length + 1) cap') rfl rfl hrowd hv1 hgrow
        have hown3 : OwnL (w2.setCell ⟨w1.heap.size, 0, none⟩ (.slice (some ⟨g', 0, none⟩) ((namesAt b pre).length + 1) cap')) w1.heap.size (.slice (some ⟨g', 0, none⟩) ((namesAt b pre).length + 1) cap') (namesAt b (pre ++ [x])) := by
          rw [namesAt_snoc]; exact OwnL.step hr2
        rw [hlm] at hv2 hk2 hb2 hkp hown3
        clear hr2 hown' hgrow
        have hc1 := hv1.cell
        have hf1 := hv1.frozen
        refine hK _ _ ?_
        clear hK K
        refine wpAny_ready (rs := [9]) r2 (by simp) (AllReady.cons rfl (fun K hK => ?_) AllReady.nil)
        go_simp
        refine hK _ _ ?_
        clear hK K
        refine wpAny_done r3 ?_ _
        generalize w2.setCell ⟨w1.heap.size, 0, none⟩ (.slice (some ⟨g', 0, none⟩) (pre.length + 1) cap') = W3 at hv2 hk2 hb2 hkp hown3 ⊢
        have HV3 := hid hv2
        have HO3 := hid hown3
        have HK3 : Hid (KeepsOthers W W3) := ⟨hk2.size, hk2.same⟩
        have HP3 : Hid (Kp W W3) := hkp
        have HB3 : Hid (Below w1.heap.size w1 W3) := Below.trans HB.out.drew hb2
        have hc3 := hv2.cell
        have t0 : W3.cell? ⟨w.heap.size, 0, none⟩ = some (.slice a1 b.things.length c1) := (hb2.cell (p := ⟨w.heap.size, 0, none⟩) hzz').trans p0
        have t1 : W3.cell? ⟨w.heap.size, 1, none⟩ = some (.slice (some ⟨ba, oa, none⟩) b.batches.length c2) := (hb2.cell (p := ⟨w.heap.size, 1, none⟩) hzz').trans p1
        have hls : (pre ++ [x]).length = pre.length + 1 := by simp
        clear hv2 hk2 hb2 hkp hown3 hv1 hc1 hf1 r1 r2 r3 hvd hrowd p0 p1 hc n0
        by_cases hlast : pre.length + 1 = b.batches.length
        · gi_wp2
          exact ⟨HK3.out, rfl, by rw [hls]; exact hlast, ⟨_, HV3.out, HO3.out⟩, HB3.out⟩
        · gi_wp2
          exact ⟨HK3.out, HP3.out, by rw [hls]; omega, ⟨_, HV3.out, HO3.out⟩, HB3.out⟩
    case done =>
      rintro D xs W hD ⟨hgr, hnone⟩ ⟨hlen, ⟨v, hv, hrow⟩, hB⟩ hK
      have p0 := (hB.cell (p := ⟨w.heap.size, 0, none⟩) hzz').trans hx0
      have p1 := (hB.cell (p := ⟨w.heap.size, 1, none⟩) hzz').trans hx1
      have hlm : (namesAt b xs).length = xs.length := by simp [namesAt]
      obtain ⟨av, cv, rfl⟩ := own_len hrow
      rw [hlm] at hv
      have hc := hv.cell
      have HROW := hid hrow
      have HB : Hid (Ext w (W.putObj D (.deferred none))) := Ext.tr HE0.out (hB.trans (belowK_b (w := w1) (Nat.le_refl _) W D _ _ (by simp at hD; omega) hK rfl rfl))
      have HN := hid hnone
      have HGR := hid hgr
      clear hnone hgr hrow hB hx0 hx1 g0 g1 hbox hB0 hs0 hv
      rcases hlen with hlt | hz
      · have HF := hid (Gr.none HOK.out HGR.out HN.out hlt)
        go_wp2
        refine ⟨by simp, .inl ⟨_, _, rfl, run_takeDeferred hK, ?_⟩⟩
        refine ⟨_, results_tmp2 rfl _ _ _, .slice none 0 0, by rw [HF.out.2]; rfl, HB.out, ?_⟩
        rw [HF.out.1]; exact World.ownsRow_nil _ _ _ _
      · have hall := at_none hz xs
        have HF := hid (Gr.all HOK.out HGR.out hall)
        have HR : Hid (OwnL (W.putObj D (.deferred none)) w.heap.size (.slice av (namesAt b xs).length cv) (namesAt b xs)) := own_base (ownsRow_putObj HROW.out _ hK rfl) (by omega)
        go_wp2
        refine ⟨by simp, .inl ⟨_, _, rfl, run_takeDeferred hK, ?_⟩⟩
        refine ⟨_, results_tmp2 rfl _ _ _, .slice av (namesAt b xs).length cv, by rw [HF.out.2, hlm, hall, hz]; rfl, HB.out, ?_⟩
        rw [HF.out.1]; exact HR.out
    case stop =>
      rintro D xs W hD hgr ⟨hlen, ⟨v, hv, hrow⟩, hB⟩ hK
      have p0 := (hB.cell (p := ⟨w.heap.size, 0, none⟩) hzz').trans hx0
      have p1 := (hB.cell (p := ⟨w.heap.size, 1, none⟩) hzz').trans hx1
      have hlm : (namesAt b xs).length = xs.length := by simp [namesAt]
      obtain ⟨av, cv, rfl⟩ := own_len hrow
      rw [hlm] at hv
      have hc := hv.cell
      have HROW := hid hrow
      have HB : Hid (Ext w (W.putObj D (.deferred none))) := Ext.tr HE0.out (hB.trans (belowK_b (w := w1) (Nat.le_refl _) W D _ _ (by simp at hD; omega) hK rfl rfl))
      have HF := hid (Gr.all HOK.out hgr hlen)
      have HR : Hid (OwnL (W.putObj D (.deferred none)) w.heap.size (.slice av (namesAt b xs).length cv) (namesAt b xs)) := own_base (ownsRow_putObj HROW.out _ hK rfl) (by omega)
      clear hgr hrow hB hx0 hx1 g0 g1 hbox hB0 hs0 hv
      go_wp2
      refine ⟨by simp, .inl ⟨_, _, rfl, run_takeDeferred hK, ?_⟩⟩
      refine ⟨_, results_tmp2 rfl _ _ _, .slice av (namesAt b xs).length cv, by rw [HF.out.2, hlm, hlen]; rfl, HB.out, ?_⟩
      rw [HF.out.1]; exact HR.out

set_option maxHeartbeats 400000 in
theorem implSafe_any (b : Book) (a1 a2 : Option Addr) (c1 c2 : Nat) (w : World) (hb : BookAt w a1 a2 b) :
    Calls Tryz.prog 107 #[.agg #[.slice a1 b.things.length c1, .slice a2 b.batches.length c2]] w fun e w' => e = .returned (.bool (safeB b)) ∧ Ext w w' := by
  go_enter Tryz.func107, Tryz.ntmps107
  go_wp2_with fail
  refine (implOrder_any b _ _ _ _ _ (hb.ext (ext_alloc _ _))).mono ?_
  rintro e w1 ⟨v, rfl, hext, _⟩
  have HE := hid (Ext.tr (ext_alloc _ _) hext)
  clear hext
  go_wp2_with fail
  go_ret
  exact ⟨rfl, HE.out⟩
end Go.Proofs.YtdafpnpfcmgfcabGreatDoor
